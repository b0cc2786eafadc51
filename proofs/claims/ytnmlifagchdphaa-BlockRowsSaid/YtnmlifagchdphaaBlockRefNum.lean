/-
  The document's Four. Condition: at least four bytes.
-/
import Derived.Test.YtnmlifagchdphaaBlockNum
import Derived.Test.YtnmlifagchdphaaBlockParts
namespace Go.Proofs.Ytnmlifagchdphaa
set_option maxRecDepth 100000
open Go.RowKit
set_option maxRecDepth 100000 in
set_option maxHeartbeats 2000000 in
theorem fourref_any (s : ByteArray) (b0 b1 b2 b3 : UInt8) (h0 : s.toList[0]? = some b0) (h1 : s.toList[1]? = some b1) (h2 : s.toList[2]? = some b2) (h3 : s.toList[3]? = some b3) (w : World) : Calls Try.prog 14 #[.string s] w fun e w' => e = .returned (.int .i64 ((b0.toNat + 256 * b1.toNat + 65536 * b2.toNat + 16777216 * b3.toNat : Nat) : Int)) ∧ Below w.heap.size w w' := by
  have I0 := idx_text s 0 b0 h0 0 rfl
  have I1 := idx_text s 1 b1 h1 1 rfl
  have I2 := idx_text s 2 b2 h2 2 rfl
  have I3 := idx_text s 3 b3 h3 3 rfl
  have l0 := UInt8.toNat_lt b0
  have l1 := UInt8.toNat_lt b1
  have l2 := UInt8.toNat_lt b2
  have l3 := UInt8.toNat_lt b3
  clear h0 h1 h2 h3
  go_enter Try.func14, Try.ntmps14
  go_wp2_with fail
  go_quiet (fail)
  go_wp2_with fail
  go_returns
  refine ⟨?_, below_drewN (Below.refl _ _)⟩
  show Ending.returned (.int .i64 ((b0.toNat : Int) + 256 * (b1.toNat : Int) + 65536 * (b2.toNat : Int) + 16777216 * (b3.toNat : Int))) = _
  congr 2
theorem fourL_any (L : List UInt8) (h : 4 ≤ L.length) (w : World) : Calls Try.prog 14 #[.string ⟨L.toArray⟩] w fun e w' => e = .returned (.int .i64 (u4 L : Nat)) ∧ Below w.heap.size w w' := by
  have g : ∀ k, k < 4 → (⟨L.toArray⟩ : ByteArray).toList[k]? = some (L.getD k 0) := fun k hk => by
    rw [ofList_toList, List.getD_eq_getElem?_getD, List.getElem?_eq_getElem (by omega)]; rfl
  exact fourref_any ⟨L.toArray⟩ _ _ _ _ (g 0 (by omega)) (g 1 (by omega)) (g 2 (by omega)) (g 3 (by omega)) w
end Go.Proofs.Ytnmlifagchdphaa
