/-
  A file's twin that is made. Condition: files of at most 2^28 bytes.
-/
import Derived.Test.YtheealfappjabaaTwinPut
namespace Go.Proofs.Ytheealfappjabaa
open Go Go.RowKit Go.Maps
attribute [local go_sem] eq_file ne_file ne_disk ne_map
/-- The world behind the update of the map in block mb. -/
def putAt (mb b c : Nat) (u : World) : World :=
  match u.heap[mb]? with
  | some (.map es clock) => { u with heap := u.heap.setIfInBounds mb (.map (es.push { key := at0 b, val := at0 c, born := clock }) (clock + 1)) }
  | _ => u
theorem putAt_run {mb b c : Nat} {L : List (Nat × Nat)} {w : World} (h : TwinMap mb L w) (hb : FileBlk b w) (hL : ∀ x ∈ L, FileBlk x.1 w) (hn : twinOf L b = none) :
    (Instr.mapUpdate 81 (.map (some mb)) (at0 b) (at0 c)).run Try.prog w = .ok () (putAt mb b c w) ∧ TwinMap mb (L ++ [(b, c)]) (putAt mb b c w) ∧ But mb w (putAt mb b c w) ∧ (putAt mb b c w).heap.size = w.heap.size := by
  have hm : Try.prog.underlying 81 = some (.map 55 55) := Try.underlying81
  obtain ⟨es, clock, hh, he⟩ := h
  have hlt := (Array.getElem?_eq_some_iff.1 hh).1
  have e : putAt mb b c w = { w with heap := w.heap.setIfInBounds mb (.map (es.push { key := at0 b, val := at0 c, born := clock }) (clock + 1)) } := by unfold putAt; rw [hh]
  have hf := find_asks (b := b) (w := w) es.toList (keys_at0 he)
  rcases asking hb L es.toList 0 hL he with ⟨h1, h2⟩ | ⟨j, c', h1, h2⟩
  · rw [h1] at hf
    rw [e]
    refine ⟨?_, ⟨es.push { key := at0 b, val := at0 c, born := clock }, clock + 1, ?_, ?_⟩, ⟨rfl, rfl, rfl, by simp, fun k hk hne => ?_⟩, by simp⟩
    · simp [Instr.mapUpdate, run_underlying hm, run_getObj_map w mb es clock hh, Go.MapKept.run_setObj_map _ hh, check_ptr, hf, Result.andThen]
    · simp [hlt]
    · simp [he]
    · simp only [Array.getElem?_setIfInBounds]
      rw [if_neg (fun e => hne e.symm)]
  · rw [hn] at h2; cases h2
set_option maxRecDepth 100000 in
set_option maxHeartbeats 4000000 in
theorem twin_makes {base p : Nat} {own o2 : Own} {st : St} {B mb : Nat} {L : List (Nat × Nat)} {w : World} (h : Twins base own o2 st B mb L w) (hd : DiskAt base own p st w) {b i : Nat} (hb : own b = some (.file i)) (hc : twinOf L b = none) (hsz : (fileOf st.files i).data.length ≤ 268435456) :
    Calls Try.prog 62 #[at0 b, at0 B] w (Twinned base own o2 st B mb (some i) w) := by
  have K := h.look hd hb
  rw [hc] at K
  have K : Hid ((Instr.lookup 81 (.map (some mb)) (at0 b) false).run Try.prog w = .ok (.pointer none) w) := Lib.hid K
  have c0 : w.cell? ⟨B, 0, none⟩ = some (.map (some mb)) := cell_of h.box rfl
  obtain ⟨fp, fl, fc, b0, rfl, b1, hrow, hown, hblk⟩ := file_cells (hd.files b i hb)
  have hblk := Lib.hid hblk
  have hrow := Lib.hid hrow
  have h := Lib.hid h
  have hd := Lib.hid hd
  have hb := Lib.hid hb
  have hc := Lib.hid hc
  have hown := Lib.hid hown
  go_enter Try.func62, Try.ntmps62
  go_wp2_with (at_lookup; refine wpList_lookup_want (by rfl) _ _ _ rfl _ _ _ rfl rfl K.out ?_)
  have CB : Hid (∀ u : World, u.heap = w.heap → Calls Try.prog 63 #[.slice fp (fileOf st.files i).data.length fc] u fun e w' => ∃ va vc, e = .returned (.slice va (fileOf st.files i).data.length vc) ∧ w'.ownsRow u.heap.size 5 1 (.slice va (fileOf st.files i).data.length vc) (fileOf st.files i).data.length (rowB (fileOf st.files i).data) ∧ Below u.heap.size u w') := Lib.hid fun u hu => (clone_bytes (row_keep hrow.out (fun g _ => by rw [hu])) hsz).mono fun e w' ⟨v', he, ho, hb⟩ => by
    rcases ho.2 with ⟨rfl, hz⟩ | ⟨g, cap, cur, rfl, _⟩
    · exact ⟨none, 0, by rw [hz]; exact he, by rw [hz] at ho ⊢; exact ho, hb⟩
    · exact ⟨_, _, he, ho, hb⟩
  have PK : Hid (∀ (u : World) (c : Nat), (∀ k, k < w.heap.size → u.heap[k]? = w.heap[k]?) → (Instr.mapUpdate 81 (.map (some mb)) (at0 b) (at0 c)).run Try.prog u = .ok () (putAt mb b c u) ∧ TwinMap mb (L ++ [(b, c)]) (putAt mb b c u) ∧ But mb u (putAt mb b c u) ∧ (putAt mb b c u).heap.size = u.heap.size) := Lib.hid fun u c hu => by
    obtain ⟨es, clock, hh, he⟩ := h.out.map
    have fk : ∀ {k : Nat}, FileBlk k w → FileBlk k u := fun {k} hk => by
      obtain ⟨cs, hcs⟩ := hk
      exact ⟨cs, (hu k (Array.getElem?_eq_some_iff.1 hcs).1).trans hcs⟩
    refine putAt_run (L := L) ⟨es, clock, (hu mb (Array.getElem?_eq_some_iff.1 hh).1).trans hh, he⟩ (fk (fileblk hd.out hb.out)) (fun x hx => ?_) hc.out
    obtain ⟨j, hj, _⟩ := h.out.pairs x hx
    exact fk (fileblk hd.out hj)
  have hsz := Lib.hid hsz
  go_region_with (first
    | (go_at_call 63; refine (CB.out w.drew rfl).mono ?_; rintro e w1 ⟨va, vc, rfl, ho, hb1⟩
       have ho := Lib.hid ho
       have hb1 := Lib.hid hb1
       have fb1 : w1.cell? ⟨b, 1, none⟩ = some (.int .i64 ((fileOf st.files i).sure : Int)) := (hb1.out.cell (p := ⟨b, 1, none⟩) (World.block_lt_of_cell? _ _ b1)).trans b1
       have fB1 : w1.cell? ⟨B, 0, none⟩ = some (.map (some mb)) := (hb1.out.cell (p := ⟨B, 0, none⟩) (World.block_lt_of_cell? _ _ c0)).trans c0
       have fB2 : (w1.alloc (.cells #[.slice va (fileOf st.files i).data.length vc, .int .i64 ((fileOf st.files i).sure : Int)] 59)).cell? ⟨B, 0, none⟩ = some (.map (some mb)) := (World.cell?_alloc_lt _ _ _ (World.block_lt_of_cell? _ _ fB1)).trans fB1
       have hput := (PK.out (w1.alloc (.cells #[.slice va (fileOf st.files i).data.length vc, .int .i64 ((fileOf st.files i).sure : Int)] 59)) w1.heap.size (fun k hk => (Below.heap_alloc _ _ _ (Nat.lt_of_lt_of_le hk hb1.out.size)).trans (hb1.out.block k hk))).1))
  all_goals
    obtain ⟨_, hT, hBut, hsize⟩ := PK.out (w1.alloc (.cells #[.slice va (fileOf st.files i).data.length vc, .int .i64 ((fileOf st.files i).sure : Int)] 59)) w1.heap.size (fun k hk => (Below.heap_alloc _ _ _ (Nat.lt_of_lt_of_le hk hb1.out.size)).trans (hb1.out.block k hk))
    have hbw : Below w.heap.size w w1 := ⟨hb1.out.os, hb1.out.tape, hb1.out.output, hb1.out.size, hb1.out.block⟩
    have R := Lib.hid (twins_put h.out hd.out hb.out hc.out hbw ho.out hBut hT)
    have fkW : ∀ k, FileBlk k w → k ≠ mb → FileBlk k (putAt mb b w1.heap.size (w1.alloc (.cells #[.slice va (fileOf st.files i).data.length vc, .int .i64 ((fileOf st.files i).sure : Int)] 59))) := fun k hk hne => by
      obtain ⟨cs, hcs⟩ := hk
      have hlt := (Array.getElem?_eq_some_iff.1 hcs).1
      exact ⟨cs, (hBut.block k (by have := hbw.size; simp; omega) hne).trans ((Below.heap_alloc _ _ _ (Nat.lt_of_lt_of_le hlt hbw.size)).trans ((hbw.block k hlt).trans hcs))⟩
    have nmb : ∀ k j, own k = some (.file j) → k ≠ mb := fun k j hk e => by
      have := h.out.free.2.1
      rw [← e, hk] at this
      cases this
    have tw : twinOf (L ++ [(b, w1.heap.size)]) b = some w1.heap.size := by
      have hn := hc.out
      unfold twinOf at hn ⊢
      rw [List.find?_append]
      cases hf : List.find? (fun x : Nat × Nat => b == x.1) L with
      | none => simp
      | some x => rw [hf] at hn; simp at hn
    have K2 := twin_look hT (fkW b (fileblk hd.out hb.out) (nmb b i hb.out)) (fun x hx => by
      rcases List.mem_append.1 hx with hx | hx
      · obtain ⟨j, hj, _⟩ := h.out.pairs x hx
        exact fkW _ (fileblk hd.out hj) (nmb _ _ hj)
      · obtain rfl : x = (b, w1.heap.size) := by simpa using hx
        exact fkW _ (fileblk hd.out hb.out) (nmb b i hb.out))
    rw [tw] at K2
    have K2 := Lib.hid K2
    have hBm : B ≠ mb := fun e => by
      obtain ⟨es, clock, hmap, _⟩ := h.out.map
      have := h.out.box; rw [e, hmap] at this; cases this
    have cB : (putAt mb b w1.heap.size (w1.alloc (.cells #[.slice va (fileOf st.files i).data.length vc, .int .i64 ((fileOf st.files i).sure : Int)] 59))).cell? ⟨B, 0, none⟩ = some (.map (some mb)) := (hBut.cell (p := ⟨B, 0, none⟩) (World.block_lt_of_cell? _ _ fB2) hBm).trans fB2
    clear hput hT hBut hsize fkW nmb tw fB2 fB1 fb1 b0 b1 c0 K PK CB
    generalize putAt mb b w1.heap.size (w1.alloc (.cells #[.slice va (fileOf st.files i).data.length vc, .int .i64 ((fileOf st.files i).sure : Int)] 59)) = W at *
    change Exit.then _ _ Exit.normal _ W
    go_wp2_with (at_lookup; refine wpList_lookup_want (by rfl) _ _ _ rfl _ _ _ rfl rfl K2.out ?_)
    go_returns
    exact R.out
end Go.Proofs.Ytheealfappjabaa
