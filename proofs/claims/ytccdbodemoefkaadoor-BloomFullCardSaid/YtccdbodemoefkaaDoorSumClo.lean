/-
  The contract of the step that is done for each byte, a closure over the register.
-/
import Derived.Test.YtccdbodemoefkaaDoorSumSpell
import Derived.WalkKit
import Derived.IntWalk
import Derived.WalkMore
import Derived.Deep.LoopGhost
namespace Go.Proofs.YtccdbodemoefkaaDoor
set_option maxRecDepth 100000
open Go.RowKit
/-- The loop over the bytes: whatever closure over one register of 32 bits is handed in, it is done for each byte in its place. -/
theorem each_any (G : FuncId) (hE : ∀ (args : Array Value) (w : World), (callFunc G args).run Tryd.prog w = .ok (.enter G args) w) (f : BitVec 32 → UInt8 → BitVec 32) (B : World)
    (hG : ∀ (r : BitVec 32) (c : UInt8), Calls Tryd.prog G #[.int .u8 (c.toNat : Int), .pointer (some ⟨B.heap.size, 0, none⟩)] (B.alloc (.cells #[.int .u32 (r.toNat : Int)] 34)) fun e w' => e = .returned (.tuple #[]) ∧ w' = B.alloc (.cells #[.int .u32 ((f r c).toNat : Int)] 34))
    (r : BitVec 32) (s : ByteArray) (hs : s.size ≤ maxLen) :
    Calls Tryd.prog 21 #[.string s, .func (.func G) #[] #[.pointer (some ⟨B.heap.size, 0, none⟩)]] (B.alloc (.cells #[.int .u32 (r.toNat : Int)] 34)) fun e w' => e = .returned (.tuple #[]) ∧ w' = B.alloc (.cells #[.int .u32 ((Crc.fold f r s.data.toList).toNat : Int)] 34) := by
  unfold maxLen at hs
  go_enter Tryd.func21, Tryd.ntmps21
  go_wp2
  go_loopw [7] (fun d wr => ∃ k : Nat, k ≤ s.size ∧ d = .int .i64 k ∧ wr = B.alloc (.cells #[.int .u32 ((Crc.fold f r (s.data.toList.take k)).toNat : Int)] 34)) (fun d _ => s.size - (intOf d).toNat)
  case atStart => exact ⟨0, by omega, rfl, rfl⟩
  case round =>
    obtain ⟨k, hk, rfl, rfl⟩ := hrel
    by_cases hlt : k < s.size
    · have hts : s.data.toList.take (k + 1) = s.data.toList.take k ++ [s[k]] := by
        rw [List.take_succ_eq_append_getElem (by simpa using hlt)]; rfl
      have HS : Hid (Crc.fold f r (s.data.toList.take (k + 1)) = f (Crc.fold f r (s.data.toList.take k)) s[k]) := by
        rw [hts]; exact Crc.fold_snoc _ _ _ _
      clear hts
      go_wp2_with fail
      refine (hG _ _).mono ?_
      rintro e w' ⟨rfl, rfl⟩
      go_wp2
      go_roundw
      case rel => exact ⟨k + 1, by omega, by go_num, by rw [HS.out]⟩
      case measure => simp [intOf]; omega
    · go_wp2
      go_end0
      have : k = s.size := by omega
      subst this
      exact ⟨rfl, by rw [List.take_of_length_le (by simp)]⟩
end Go.Proofs.YtccdbodemoefkaaDoor
