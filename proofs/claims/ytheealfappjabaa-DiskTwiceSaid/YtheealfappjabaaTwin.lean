/-
  A file's twin (twins$1): found, or made and put. Condition: files of at most 2^28 bytes.
-/
import Derived.Test.YtheealfappjabaaTwinMap
import Derived.Test.YtheealfappjabaaShelf
namespace Go.Proofs.Ytheealfappjabaa
open Go Go.RowKit Go.Maps
attribute [local go_sem] eq_file ne_file ne_disk ne_map
theorem wpList_lookup_want {P : Program} {w : World} {ops : Array Oper} {rest : List Oper} {o : Oper} {a : Act} {Q : Exit → Act → World → Prop}
    (hw : Region.wanted o (yielded ops a.tmps) = true) (m x : Operand) (t : TypeId) (hop : o.op = Op.lookup t m x false) (mv xv v : Value) (hm : a.eval m = mv) (hx : a.eval x = xv)
    (hrun : (Instr.lookup t mv xv false).run P w = .ok v w) (hK : wpList P ops Q rest (a.put o.dst v) w) : wpList P ops Q (o :: rest) a w := by
  rw [wpList, if_pos hw]
  refine .inl ?_
  unfold Oper.wp
  simp [execOp, hop, hm, hx, hrun, Result.andThen]
  exact hK
theorem rowB_length (l : List UInt8) : (rowB l).length = l.length := by simp [rowB]
/-- A copy of bytes that a file holds. -/
theorem clone_bytes {v : Value} {l : List UInt8} {w : World} (h : w.ownsRow 0 5 1 v l.length (rowB l)) (hl : l.length ≤ 268435456) :
    Calls Try.prog 63 #[v] w fun e w' => ∃ v', e = .returned v' ∧ w'.ownsRow w.heap.size 5 1 v' l.length (rowB l) ∧ Below w.heap.size w w' := by
  rcases h.2 with ⟨rfl, hz⟩ | ⟨g, cap, cur, rfl, _⟩
  · refine (AnyE.slices_Clone_nil Try.sclonebyte 0 0 w).mono fun e w' ⟨he, hw⟩ => ?_
    subst hw
    exact ⟨_, he, ⟨h.1, .inl ⟨rfl, hz⟩⟩, Below.refl _ _⟩
  · obtain ⟨i0, hi, hz0, hz1, hz2⟩ := info_parts (show (Try.prog.info? 5).map (fun i => (i.zero, i.size, i.bytes)) = some (some (.int .u8 0), 1, 1) by kernel_rfl)
    refine (AnyE.slices_Clone Try.sclonebyte i0 (.int .u8 0) 1 1 hi hz0 hz1 hz2 rfl (by decide) (fun w => by kernel_rfl) g 0 l.length cap (rowB l) w (by rw [rowB_length]; omega) (by unfold maxLen; omega) (by omega) (fun j u hu => ?_) (fun u hu => ?_)).mono fun e w' ⟨v', he, ho, _, hb⟩ => ⟨v', he, ho, hb⟩
    · have hj : j < l.length := by have := (List.getElem?_eq_some_iff.1 hu).1; rwa [rowB_length] at this
      rw [Nat.zero_add, World.ownsRow.cellAt h j (by omega), hu]
    · unfold rowB at hu
      obtain ⟨b, _, rfl⟩ := List.mem_map.1 hu
      rfl
/-- The twins that are made so far: o2 says which block is what to the copy. -/
structure Twins (base : Nat) (own o2 : Own) (st : St) (B mb : Nat) (L : List (Nat × Nat)) (w : World) : Prop where
  box : w.heap[B]? = some (.cells #[.map (some mb)] 81 (0, 0))
  map : TwinMap mb L w
  pairs : ∀ x ∈ L, ∃ i, own x.1 = some (.file i) ∧ o2 x.2 = some (.file i)
  all : ∀ c i, o2 c = some (.file i) → ∃ b, (b, c) ∈ L
  lo : ∀ c, o2 c ≠ none → base ≤ c ∧ c < w.heap.size
  inj : ∀ a b r, o2 a = some r → o2 b = some r → a = b
  apart : Apart own o2
  files : ∀ c i, o2 c = some (.file i) → FileAt o2 c i (fileOf st.files i) w
  data : ∀ c i, o2 c = some (.data i) → ∃ b, o2 b = some (.file i)
  free : own B = none ∧ own mb = none ∧ o2 B = none ∧ o2 mb = none ∧ base ≤ B ∧ base ≤ mb
/-- What a call of the function leaves: the twin c of the file i, or nil. -/
def Twinned (base : Nat) (own o2 : Own) (st : St) (B mb : Nat) (f : Option Nat) (w : World) (e : Ending) (w' : World) : Prop :=
  ∃ v o2' L', e = .returned v ∧ PtrH o2' v f ∧ Twins base own o2' st B mb L' w' ∧ (∀ k r, o2 k = some r → o2' k = some r) ∧ (∀ k, k < w.heap.size → o2 k = none → o2' k = none) ∧ But mb w w'
theorem fileblk {base p : Nat} {own : Own} {st : St} {w : World} (h : DiskAt base own p st w) {b i : Nat} (hb : own b = some (.file i)) : FileBlk b w := by
  obtain ⟨v, h1, _⟩ := h.files b i hb
  exact ⟨_, h1⟩
theorem Twins.look {base p : Nat} {own o2 : Own} {st : St} {B mb : Nat} {L : List (Nat × Nat)} {w : World} (h : Twins base own o2 st B mb L w) (hd : DiskAt base own p st w) {b i : Nat} (hb : own b = some (.file i)) :
    (Instr.lookup 81 (.map (some mb)) (at0 b) false).run Try.prog w = .ok (twinV (twinOf L b)) w :=
  twin_look h.map (fileblk hd hb) fun x hx => (by obtain ⟨j, hj, _⟩ := h.pairs x hx; exact fileblk hd hj)
theorem twinOf_mem {L : List (Nat × Nat)} {b c : Nat} (h : twinOf L b = some c) : (b, c) ∈ L := by
  unfold twinOf at h
  obtain ⟨x, hx, rfl⟩ := Option.map_eq_some_iff.1 h
  have h1 := List.find?_some hx
  have h2 := List.mem_of_find?_eq_some hx
  have : b = x.1 := by simpa using h1
  rw [this]; exact h2
set_option maxRecDepth 100000 in
set_option maxHeartbeats 1000000 in
theorem twin_found {base p : Nat} {own o2 : Own} {st : St} {B mb : Nat} {L : List (Nat × Nat)} {w : World} (h : Twins base own o2 st B mb L w) (hd : DiskAt base own p st w) {b i c : Nat} (hb : own b = some (.file i)) (hc : twinOf L b = some c) :
    Calls Try.prog 62 #[at0 b, at0 B] w (Twinned base own o2 st B mb (some i) w) := by
  have K := h.look hd hb
  rw [hc] at K
  have K : Hid ((Instr.lookup 81 (.map (some mb)) (at0 b) false).run Try.prog w = .ok (at0 c) w) := Lib.hid K
  have c0 : w.cell? ⟨B, 0, none⟩ = some (.map (some mb)) := cell_of h.box rfl
  obtain ⟨j, hj, hj2⟩ := h.pairs _ (twinOf_mem hc)
  have hij : j = i := by
    simp only at hj
    rw [hb] at hj
    simpa using hj.symm
  subst hij
  have R : Hid (Twinned base own o2 st B mb (some j) w (.returned (at0 c)) w) := Lib.hid ⟨_, o2, L, rfl, ⟨c, rfl, hj2⟩, h, fun _ _ h => h, fun _ _ h => h, But.refl _ _⟩
  clear h hd hb hc hj hj2
  go_enter Try.func62, Try.ntmps62
  go_wp2_with (at_lookup; refine wpList_lookup_want (by rfl) _ _ _ rfl _ _ _ rfl rfl K.out ?_)
  go_returns
  exact R.out
end Go.Proofs.Ytheealfappjabaa
