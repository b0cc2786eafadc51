/-
  The contracts of isBefore and Check. No condition.
-/
import Derived.Test.YtnmlifagchdphaaBlockMath
import Derived.Test.YtnmlifagchdphaaRowAt
import Derived.Handy
namespace Go.Proofs.Ytnmlifagchdphaa
set_option maxRecDepth 100000
open Go.RowKit
set_option maxRecDepth 100000 in
set_option maxHeartbeats 2000000 in
theorem before_any (x : Rw) (k : ByteArray) (q : Nat) (w : World) : Calls Try.prog 18 #[rowV x, .string k, .int .u64 (q : Int)] w fun e w' => e = .returned (.bool (ahd x k q)) ∧ Below w.heap.size w w' := by
  have R0 := (RowAt.new x w).cells
  have W0 := Lib.hid (below_alloc w (.cells #[.string x.key, .int .u64 (x.seq : Int), .int .i64 x.kind, .string x.val] 33))
  have p1 : (x.key.toList == k.toList) = decide (x.key.toList = k.toList) := by rw [Bool.eq_iff_iff]; simp
  have p2 : ahd x k q = if x.key.toList = k.toList then decide (q < x.seq) else Op.bytesLess x.key.toList k.toList := by
    unfold ahd
    rw [less_before]
  obtain ⟨xk, xs, xi, xv⟩ := x
  simp only at R0 W0 p1 p2
  obtain ⟨⟨c0, c1, c2, c3⟩, _⟩ := R0
  rw [p2]
  clear p2
  by_cases e : xk.toList = k.toList
  · rw [if_pos e]
    rw [decide_eq_true e] at p1
    clear e
    go_enter Try.func18, Try.ntmps18
    go_wp2_with fail
    go_returns
    exact ⟨rfl, W0.out⟩
  · rw [if_neg e]
    rw [decide_eq_false e] at p1
    clear e
    go_enter Try.func18, Try.ntmps18
    go_wp2_with fail
    go_returns
    exact ⟨rfl, W0.out⟩
theorem toList_sizeB (s : ByteArray) : s.toList = [] ↔ s.size = 0 := by rw [← List.length_eq_zero_iff, toL_len]
theorem isEmpty_sizeB (s : ByteArray) : s.toList.isEmpty = (s.size == 0) := by rw [Bool.eq_iff_iff, List.isEmpty_iff, toList_sizeB]; simp
set_option maxRecDepth 100000 in
set_option maxHeartbeats 4000000 in
theorem chk_any (x : Rw) (w : World) : Calls Try.prog 39 #[rowV x] w fun e w' => e = .returned (.int .i64 (chkR x : Nat)) ∧ Below w.heap.size w w' := by
  have R0 := (RowAt.new x w).cells
  obtain ⟨R, hR⟩ := named (chkR x)
  rw [← hR.out]
  obtain ⟨xk, xs, xi, xv⟩ := x
  simp only at R0
  obtain ⟨⟨c0, c1, c2, c3⟩, _⟩ := R0
  go_enter Try.func39, Try.ntmps39
  go_wp2
  all_goals
    go_returns
    refine ⟨?_, below_alloc _ _⟩
    rw [hR.out]
    clear hR
    try simp only [toList_sizeB, isEmpty_sizeB, beq_iff_eq, beq_eq_false_iff_ne, bne_eq_false_iff_eq, bne_iff_ne, Bool.not_eq_eq_eq_not, Bool.not_true, Bool.not_false, ne_eq, decide_eq_true_eq, decide_eq_false_iff_not] at *
    unfold chkR badR longR
    simp only [decide_eq_true_eq]
    first
      | (rw [if_pos (by omega)]; rfl)
      | (rw [if_neg (by omega), if_pos (by omega)]; rfl)
      | (rw [if_neg (by omega), if_neg (by omega)]; rfl)
end Go.Proofs.Ytnmlifagchdphaa
