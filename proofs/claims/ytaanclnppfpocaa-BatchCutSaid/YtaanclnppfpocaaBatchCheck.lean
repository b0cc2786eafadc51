/-
  The contracts of checkWrite and Check. No condition.
-/
import Derived.Test.YtaanclnppfpocaaBatchRep
import Derived.Handy
namespace Go.Proofs.Ytaanclnppfpocaa
open Go.RowKit
theorem toList_size (s : ByteArray) : s.toList = [] ↔ s.size = 0 := by
  have e : s.toList.length = s.size := by rw [ByteArray.toList_eq, Array.length_toList]; rfl
  rw [← List.length_eq_zero_iff, e]
theorem isEmpty_size (s : ByteArray) : s.toList.isEmpty = (s.size == 0) := by
  rw [Bool.eq_iff_iff, List.isEmpty_iff, toList_size]; simp
set_option maxRecDepth 100000 in
set_option maxHeartbeats 2000000 in
theorem checkWrite_any (x : Wr) (w : World) :
    Calls Try.prog 31 #[.agg #[.int .i64 x.kind, .string x.key, .string x.val]] w fun e w' => e = .returned (.int .i64 x.chk) ∧ Below w.heap.size w w' := by
  obtain ⟨k, key, val⟩ := x
  obtain ⟨R, hR⟩ := named (Wr.chk ⟨k, key, val⟩)
  simp only
  rw [← hR.out]
  go_enter Try.func31, Try.ntmps31
  go_wp2
  all_goals
    go_returns
    refine ⟨congrArg (fun z => Ending.returned (Value.int .i64 z)) ?_, below_alloc _ _⟩
    rw [hR.out]
    clear hR
    try simp only [toList_size, isEmpty_size, beq_iff_eq, beq_eq_false_iff_ne, bne_eq_false_iff_eq, bne_iff_ne, Bool.not_eq_eq_eq_not, Bool.not_true, Bool.not_false, ne_eq] at *
    unfold Wr.chk Wr.bad Wr.long
    simp only [Bool.and_eq_true, Bool.or_eq_true, bne_iff_ne, beq_iff_eq, decide_eq_true_eq, ne_eq]
    first
      | (rw [if_pos (by omega)]; done)
      | (rw [if_neg (by omega), if_pos (by omega)]; done)
      | (rw [if_neg (by omega), if_neg (by omega)]; done)
theorem addr_at (b o k : Nat) : (⟨b, o, none⟩ : Addr).add k = ⟨b, o + k, none⟩ := by
  unfold Addr.add
  split
  · rename_i h; rw [h]; rfl
  · rfl
set_option maxRecDepth 100000 in
set_option maxHeartbeats 2000000 in
theorem check_arg {seq : Nat} {a : Option Addr} {n c : Nat} (w : World) (hE : n = 0 ∨ seq < 1 ∨ 72057594037927872 < seq) :
    Calls Try.prog 12 #[batchV seq a n c] w fun e w' => e = .returned (.int .i64 2) ∧ Below w.heap.size w w' := by
  obtain ⟨c0, c1⟩ := box_batch w seq (.slice a n c)
  go_enter Try.func12, Try.ntmps12
  go_wp2
  all_goals first
    | (exfalso; omega)
    | (go_returns; exact ⟨rfl, below_alloc _ _⟩)
theorem Ws.at3 {a : Option Addr} {n c b o : Nat} {l : List Wr} {w : World} (h : Ws a n c b o l w) {j : Nat} (hj : j < n) : ∃ x, l[j]? = some x ∧ a = some ⟨b, o, none⟩ ∧ w.cell? ⟨b, o + j * 3, none⟩ = some (.int .i64 x.kind) ∧ w.cell? ⟨b, o + j * 3 + 1, none⟩ = some (.string x.key) ∧ w.cell? ⟨b, o + j * 3 + 2, none⟩ = some (.string x.val) := by
  obtain ⟨x, hx⟩ : ∃ x, l[j]? = some x := ⟨_, List.getElem?_eq_getElem (by rw [h.len]; exact hj)⟩
  exact ⟨x, hx, (h.addr (by omega)).1, h.at' j x hx⟩
set_option maxRecDepth 100000 in
set_option maxHeartbeats 2000000 in
theorem check_main {seq : Nat} {a : Option Addr} {n c b o : Nat} {l : List Wr} {w : World} (h : Ws a n c b o l w) (h0 : n ≠ 0) (h1 : 1 ≤ seq) (h2 : seq ≤ 72057594037927872) :
    Calls Try.prog 12 #[batchV seq a n c] w fun e w' => e = .returned (.int .i64 (chkB seq l)) ∧ Below w.heap.size w w' := by
  obtain ⟨c0, c1⟩ := box_batch w seq (.slice a n c)
  have K := Lib.hid (below_alloc w (.cells #[.int .u64 (seq : Int), .slice a n c] 25))
  have hcap := h.cap
  have hmost := h.most
  have hE := Lib.hid (chkB_end (seq := seq) (l := l) (by rw [h.len]; omega))
  have hbad := Lib.hid (fun hb : l.any Wr.bad = true => chkB_bad (seq := seq) hb)
  have hlen := Lib.hid h.len
  obtain ⟨R, hR⟩ := named (chkB seq l)
  rw [← hR.out] at hE hbad ⊢
  rw [hlen.out] at hE
  have h := Lib.hid h
  clear hR
  have q0 : ((n : Int) == 0) = false := by simp; omega
  have q1 : decide ((seq : Int) < 1) = false := by rw [decide_eq_false_iff_not]; omega
  have q2 : decide ((72057594037927872 : Int) < (seq : Int)) = false := by rw [decide_eq_false_iff_not]; omega
  obtain ⟨B64, q3⟩ : ∃ B, decide ((64 : Int) < (n : Int)) = B := ⟨_, rfl⟩
  have h64 : Hid (decide (64 < n) = B64) := Lib.hid (by rw [← q3]; congr 1; apply propext; omega)
  cases B64
  all_goals (
    go_enter Try.func12, Try.ntmps12
    go_wp2_with fail
    have hst := Lib.hid (h.out.below K.out (Nat.le_refl _))
    have st0 : Hid (sofar (decide (64 < n)) [] = if 64 < n then 3 else 0) := Lib.hid (by rw [sofar_nil]; simp)
    generalize w.alloc (.cells #[.int .u64 (seq : Int), .slice a n c] 25) = W at K hst c0 c1
    go_loopw [27, 3] (fun i e wr => ∃ j : Nat, j ≤ n ∧ i = .int .i64 (j : Int) ∧ e = .int .i64 (sofar (decide (64 < n)) (l.take j)) ∧ (l.take j).any Wr.bad = false ∧ Below w.heap.size w wr) (fun i _ _ => n - (intOf i).toNat)
    case atStart => exact ⟨0, Nat.zero_le _, rfl, (by rw [List.take_zero, st0.out]; have := h64.out; simp only [decide_eq_true_eq, decide_eq_false_iff_not] at this; first | rw [if_pos (by omega)] | rw [if_neg (by omega)]), by simp, K.out⟩
    case round =>
      obtain ⟨j, hj, rfl, rfl, hany, hb⟩ := hrel
      have hb := Lib.hid hb
      have hany := Lib.hid hany
      obtain ⟨S, hS⟩ := named (sofar (decide (64 < n)) (l.take j))
      rw [← hS.out]
      by_cases hlt : j < n
      · obtain ⟨x, hx, rfl, e0, e1, e2⟩ := (h.out.keep (w' := wr) (fun h0 => hb.out.block b (h.out.addr h0).2) hb.out.size).at3 hlt
        have hx := Lib.hid hx
        obtain ⟨xk, xs, xv⟩ := x
        obtain ⟨r, hr⟩ := named (Wr.chk ⟨xk, xs, xv⟩)
        have C : Hid (∀ u, Calls Try.prog 31 #[.agg #[.int .i64 xk, .string xs, .string xv]] u fun e w' => e = .returned (.int .i64 r) ∧ Below u.heap.size u w') := Lib.hid fun u => by rw [hr.out]; exact checkWrite_any ⟨xk, xs, xv⟩ u
        simp only at e0 e1 e2
        have take1 : Hid (l.take (j + 1) = l.take j ++ [⟨xk, xs, xv⟩]) := Lib.hid (by rw [List.take_add_one, hx.out]; rfl)
        by_cases hxb : Wr.bad ⟨xk, xs, xv⟩ = true
        · have r2 : r = 2 := by rw [hr.out]; exact chk_bad.2 hxb
          have hR2 := Lib.hid (hbad.out (List.any_eq_true.2 ⟨_, List.mem_of_getElem? hx.out, hxb⟩))
          subst r2
          clear hxb hr
          go_wp2_with fail
          refine (C.out _).mono ?_
          rintro e w1 ⟨rfl, hb1⟩
          go_wp2_with fail
          go_returns
          exact ⟨by rw [hR2.out]; rfl, (hb.out.trans ((below_alloc _ _).mono hb.out.size)).trans (hb1.mono (by have := hb.out.size; simp; omega))⟩
        · have hxf : Wr.bad ⟨xk, xs, xv⟩ = false := by simpa using hxb
          have any1 : Hid ((l.take (j + 1)).any Wr.bad = false) := Lib.hid (by rw [take1.out, List.any_append, hany.out]; simp [hxf])
          have so1 : Hid (sofar (decide (64 < n)) (l.take (j + 1)) = if r = 3 then 3 else S) := Lib.hid (by rw [take1.out, sofar_snoc hxf, ← hr.out, ← hS.out])
          have r30 : r = 3 ∨ r = 0 := by rw [hr.out]; exact chk_zero _ hxf
          clear hxb hr hxf hS hany take1
          rcases r30 with rfl | rfl
          all_goals (
            go_wp2_with fail
            refine (C.out _).mono ?_
            rintro e w1 ⟨rfl, hb1⟩
            have hb2 := Lib.hid ((hb.out.trans ((below_alloc _ _).mono hb.out.size)).trans (hb1.mono (by have := hb.out.size; simp; omega)))
            clear hb1
            go_wp2_with fail
            go_roundw
            case rel => exact ⟨j + 1, by omega, by go_num, by rw [so1.out]; rfl, any1.out, hb2.out⟩
            case measure => simp [intOf]; omega)
      · have hjn : j = n := by omega
        subst hjn
        have hR0 : R = S := by
          have ht : l.take j = l := by rw [← hlen.out, List.take_length]
          have := hany.out
          rw [ht] at this
          rw [hE.out this, hS.out, ht]
        go_wp2_with fail
        go_returns
        exact ⟨by rw [hR0]; rfl, hb.out⟩)
theorem check_any {seq : Nat} {a : Option Addr} {n c b o : Nat} {l : List Wr} {w : World} (h : Ws a n c b o l w) :
    Calls Try.prog 12 #[batchV seq a n c] w fun e w' => e = .returned (.int .i64 (chkB seq l)) ∧ Below w.heap.size w w' := by
  by_cases hE : n = 0 ∨ seq < 1 ∨ 72057594037927872 < seq
  · rw [chkB_arg (by rw [h.len]; exact hE)]
    exact check_arg w hE
  · exact check_main h (by omega) (by omega) (by omega)
end Go.Proofs.Ytaanclnppfpocaa
