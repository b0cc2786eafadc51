/-
  The contracts of isBefore and Check. No condition.
-/
import Derived.Test.YtkkegdhnkefogaaBlockMath
import Derived.Test.YtkkegdhnkefogaaRowAt
import Derived.Handy
namespace Go.Proofs.Ytkkegdhnkefogaa
set_option maxRecDepth 100000
open Go.RowKit
set_option maxRecDepth 100000 in
set_option maxHeartbeats 2000000 in
theorem before_any (x : Rw) (k : ByteArray) (q : Nat) (w : World) : Calls Try.prog 40 #[rowV x, .string k, .int .u64 (q : Int)] w fun e w' => e = .returned (.bool (ahd x k q)) ∧ Below w.heap.size w w' := by
  have R0 := (RowAt.new x w).cells
  have W0 := Lib.hid (below_alloc w (.cells #[.string x.key, .int .u64 (x.seq : Int), .int .i64 x.kind, .string x.val] 42))
  have p1 : (x.key.toList == k.toList) = decide (x.key.toList = k.toList) := by rw [Bool.eq_iff_iff]; simp
  have p2 : ahd x k q = if x.key.toList = k.toList then decide (q < x.seq) else Op.bytesLess x.key.toList k.toList := by
    unfold ahd
    rw [less_before]
  obtain ⟨xk, xs, xi, xv⟩ := x
  simp only at R0 W0 p1 p2
  obtain ⟨⟨c0, c1, c2, c3⟩, _⟩ := R0
  rw [p2]
  clear p2
  by_cases e : xk.toList = k.toList
  · rw [if_pos e]
    rw [decide_eq_true e] at p1
    clear e
    go_enter Try.func40, Try.ntmps40
    go_wp2_with fail
    go_returns
    exact ⟨rfl, W0.out⟩
  · rw [if_neg e]
    rw [decide_eq_false e] at p1
    clear e
    go_enter Try.func40, Try.ntmps40
    go_wp2_with fail
    go_returns
    exact ⟨rfl, W0.out⟩
theorem toList_sizeB (s : ByteArray) : s.toList = [] ↔ s.size = 0 := by rw [← List.length_eq_zero_iff, toL_len]
theorem isEmpty_sizeB (s : ByteArray) : s.toList.isEmpty = (s.size == 0) := by rw [Bool.eq_iff_iff, List.isEmpty_iff, toList_sizeB]; simp
end Go.Proofs.Ytkkegdhnkefogaa
