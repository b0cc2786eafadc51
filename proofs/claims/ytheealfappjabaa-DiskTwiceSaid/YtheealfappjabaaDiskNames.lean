/-
  The names that a disk tells (Names); two lists of the same names are the same (Same). Condition: at most 4096 names.
-/
import Derived.Test.YtheealfappjabaaDiskSure3
import Derived.Laws.OwnMore
import Derived.Handy
namespace Go.Proofs.Ytheealfappjabaa
open Go.RowKit Go.Maps
attribute [local go_sem] eq_file ne_file ne_disk ne_map
theorem NamesAt.below {B : Nat} {v : Value} {d : Dir} {w w' : World} (h : NamesAt B v d w) (hk : Below w.heap.size w w') : NamesAt B v d w' := by
  obtain ⟨h1, h2⟩ := h
  refine ⟨h1, ?_⟩
  rcases h2 with hn | ⟨g, cap, cur, rfl, a, b, c⟩
  · exact .inl hn
  · exact .inr ⟨g, cap, cur, rfl, a, by rw [hk.block g (Array.getElem?_eq_some_iff.1 b).1]; exact b, c⟩
theorem NamesAt.mono {B B' : Nat} {v : Value} {d : Dir} {w : World} (h : NamesAt B v d w) (hb : B' ≤ B) : NamesAt B' v d w := by
  obtain ⟨h1, h2⟩ := h
  refine ⟨h1, ?_⟩
  rcases h2 with hn | ⟨g, cap, cur, rfl, a, b, c⟩
  · exact .inl hn
  · exact .inr ⟨g, cap, cur, rfl, Nat.le_trans hb a, b, c⟩
theorem set_here {α : Type} {l : List α} {j : Nat} {u : α} (h : l[j]? = some u) : l.set j u = l := by
  apply List.ext_getElem?
  intro k
  rw [List.getElem?_set]
  split
  · rename_i e
    subst e
    have := (List.getElem?_eq_some_iff.1 h).1
    rw [if_pos this, h]
  · rfl
theorem NamesAt.slice {B : Nat} {v : Value} {d : Dir} {w : World} (h : NamesAt B v d w) : ∃ va vc, v = .slice va d.length vc := by
  rcases h.2 with ⟨rfl, hz⟩ | ⟨g, cap, cur, rfl, _⟩
  · exact ⟨none, 0, by rw [hz]⟩
  · exact ⟨_, _, rfl⟩
theorem NamesAt.at {B : Nat} {va : Option Addr} {vc : Nat} {d : Dir} {w : World} (h : NamesAt B (.slice va d.length vc) d w) {j : Nat} {x : NameS × Nat} (hj : d[j]? = some x) : ∃ g, va = some ⟨g, 0, none⟩ ∧ B ≤ g ∧ w.cell? ⟨g, j, none⟩ = some (.string ⟨x.1.toArray⟩) ∧ w.frozen? ⟨g, j, none⟩ = false ∧ NamesAt B (.slice va d.length vc) d (w.setCell ⟨g, j, none⟩ (.string ⟨x.1.toArray⟩)) := by
  have hjl := (List.getElem?_eq_some_iff.1 hj).1
  rcases h.2 with ⟨hn, hz⟩ | ⟨g, cap, cur, hv, hb, _⟩
  · omega
  · simp only [Value.slice.injEq, true_and] at hv
    obtain ⟨rfl, rfl⟩ := hv
    have hx : (d.map fun x => encStr x.1)[j]? = some (.string ⟨x.1.toArray⟩) := by rw [List.getElem?_map, hj]; rfl
    refine ⟨g, rfl, hb, ?_, World.ownsRow.frozenAt h j, ?_⟩
    · rw [World.ownsRow.cellAt h j (by omega), hx]
    · have := (World.ownsRow.stored h j (.string ⟨x.1.toArray⟩)).1
      rwa [set_here hx] at this
def namesS (st : St) : Dir := if st.down = true then [] else st.dir
set_option maxRecDepth 100000 in
set_option maxHeartbeats 2000000 in
theorem names_any {base p : Nat} {own : Own} {st : St} {w : World} (h : DiskAt base own p st w) {m : Nat} (hG : Good m st.dir) :
    Calls Try.prog 50 #[at0 p] w fun e w' => ∃ v, e = .returned v ∧ NamesAt w.heap.size v (namesS st) w' ∧ Below w.heap.size w w' := by
  have M := ready_any h
  obtain ⟨nb, kb, pv, _, _, _, hp, hm, _⟩ := h.disk
  obtain ⟨_, _, c2, _⟩ := disk_cells hp
  have hnm : ∀ (j : Nat) (x : NameS × Nat), st.dir[j]? = some x → (⟨x.1.toArray⟩ : ByteArray).size ≤ 281474976710656 := fun j x hx => by
    have := (hG.ok x (List.mem_of_getElem? hx)).2
    unfold validN at this
    simp only [Bool.and_eq_true, decide_eq_true_eq] at this
    have := this.2.2
    show x.1.toArray.size ≤ _
    rw [List.size_toArray]; omega
  have hd := hG.few
  have S := Lib.hid (sorted_any hm (by omega))
  have hnm := Lib.hid hnm
  clear hp hm
  cases hdn : st.down with
  | true =>
    have E : namesS st = [] := by unfold namesS; rw [if_pos hdn]
    rw [E]
    rw [if_pos hdn] at M
    go_enter Try.func50, Try.ntmps50
    go_wp2_with (go_at_call 53; ((with_reducible refine M.mono ?_); rintro e w' ⟨rfl, rfl⟩))
    go_ret
    exact ⟨_, rfl, ⟨rfl, .inl ⟨rfl, rfl⟩⟩, Below.refl _ _⟩
  | false =>
    have E : namesS st = st.dir := by unfold namesS; rw [if_neg (by rw [hdn]; decide)]
    rw [E]
    rw [if_neg (by rw [hdn]; decide)] at M
    clear E hdn h
    obtain ⟨d, hde⟩ := named st.dir
    rw [← hde.out] at S hnm hd
    rw [← hde.out]
    clear hde
    go_enter Try.func50, Try.ntmps50
    go_wp2_with (go_at_call 53; ((with_reducible refine M.mono ?_); rintro e w' ⟨rfl, rfl⟩))
    refine S.out.mono ?_
    rintro e w1 ⟨v, rfl, hN, hb1⟩
    obtain ⟨va, vc, rfl⟩ := hN.slice
    have hN := Lib.hid hN
    have hb1 := Lib.hid hb1
    clear S M
    go_wp2_with fail
    go_loopw [16] (fun i wr => ∃ j : Nat, j ≤ d.length ∧ i = .int .i64 (j : Int) ∧ NamesAt w.heap.size (.slice va d.length vc) d wr ∧ Below w.heap.size w wr) (fun i _ => d.length - (intOf i).toNat)
    case atStart => exact ⟨0, Nat.zero_le _, rfl, hN.out, hb1.out⟩
    case round =>
      clear hN hb1
      obtain ⟨j, hj, rfl, hN, hb⟩ := hrel
      have hb := Lib.hid hb
      by_cases hlt : j < d.length
      · obtain ⟨⟨nm, i⟩, hx⟩ : ∃ x, d[j]? = some x := ⟨_, List.getElem?_eq_getElem hlt⟩
        obtain ⟨g, rfl, hg, e0, _, _⟩ := hN.at hx
        have C := Lib.hid (fun u => clone_any ⟨nm.toArray⟩ (hnm.out j _ hx) u)
        have hN := Lib.hid hN
        have hx := Lib.hid hx
        simp only at e0
        go_wp2_with fail
        refine (C.out _).mono ?_
        rintro e w2 ⟨rfl, hb2⟩
        obtain ⟨g', hg', _, _, f0, hN2⟩ := (hN.out.below hb2).at hx.out
        obtain rfl : g' = g := by simpa using hg'.symm
        have q0 : ∃ v, w2.cell? ⟨g', j, none⟩ = some v := by
          obtain ⟨g2, h2, _, h3, _⟩ := (hN.out.below hb2).at hx.out
          obtain rfl : g2 = g' := by simpa using h2.symm
          exact ⟨_, h3⟩
        obtain ⟨q, q0⟩ := q0
        have hN2 := Lib.hid hN2
        have hb3 := Lib.hid ((hb.out.trans (hb2.mono hb.out.size)).setCell (p := ⟨g', j, none⟩) hg (.string ⟨nm.toArray⟩))
        clear hb2 C hN hx e0
        go_wp2_with fail
        go_roundw
        case rel => exact ⟨j + 1, by omega, by go_num, hN2.out, hb3.out⟩
        case measure => simp [intOf]; omega
      · go_wp2_with fail
        go_ret
        exact ⟨_, rfl, hN, hb.out⟩
end Go.Proofs.Ytheealfappjabaa
