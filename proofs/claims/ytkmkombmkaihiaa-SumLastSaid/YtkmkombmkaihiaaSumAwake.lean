/-
  The answers that each statement of the layer holds at its end are as they are fixed. No condition.
-/
import Derived.Test.YtkmkombmkaihiaaSumHash
import Derived.OpenShut
import Derived.ProofKit
namespace Go.Proofs.Ytkmkombmkaihiaa
open Go.RowKit
theorem of_digits (w : World) : Calls Try.prog 11 #[.string ⟨#[49, 50, 51, 52, 53, 54, 55, 56, 57]⟩] w fun e w' => e = .returned (.int .u32 3808858755) ∧ ∃ x, w' = w.alloc (.cells #[.int .u32 x] 22) := by
  refine (of_any ⟨#[49, 50, 51, 52, 53, 54, 55, 56, 57]⟩ w (by decide)).mono fun e w' ⟨he, hw⟩ => ⟨?_, _, hw⟩
  have : (Crc.more 0#32 [49, 50, 51, 52, 53, 54, 55, 56, 57]).toNat = 3808858755 := by decide +kernel
  rw [he]; show Ending.returned (.int .u32 (((Crc.more 0#32 [49, 50, 51, 52, 53, 54, 55, 56, 57]).toNat : Nat) : Int)) = _
  rw [this]; rfl
theorem of_letter (w : World) : Calls Try.prog 11 #[.string ⟨#[97]⟩] w fun e w' => e = .returned (.int .u32 3251651376) ∧ ∃ x, w' = w.alloc (.cells #[.int .u32 x] 22) := by
  refine (of_any ⟨#[97]⟩ w (by decide)).mono fun e w' ⟨he, hw⟩ => ⟨?_, _, hw⟩
  have : (Crc.more 0#32 [97]).toNat = 3251651376 := by decide +kernel
  rw [he]; show Ending.returned (.int .u32 (((Crc.more 0#32 [97]).toNat : Nat) : Int)) = _
  rw [this]; rfl
theorem of_none (w : World) : Calls Try.prog 11 #[.string ⟨#[]⟩] w fun e w' => e = .returned (.int .u32 0) ∧ ∃ x, w' = w.alloc (.cells #[.int .u32 x] 22) := by
  refine (of_any ⟨#[]⟩ w (by decide)).mono fun e w' ⟨he, hw⟩ => ⟨?_, _, hw⟩
  have : (Crc.more 0#32 []).toNat = 0 := by decide +kernel
  rw [he]; show Ending.returned (.int .u32 (((Crc.more 0#32 []).toNat : Nat) : Int)) = _
  rw [this]; rfl
set_option maxHeartbeats 1000000 in
theorem awake_any (w : World) : Calls Try.prog 15 #[] w fun e w' => e = .returned (.bool true) ∧ Below w.heap.size w w' := by
  go_enter Try.func15, Try.ntmps15
  go_wp2_with (first
    | (go_at_call 11; refine (of_digits _).mono ?_; rintro e w' ⟨rfl, o1, rfl⟩)
    | (go_at_call 11; refine (of_letter _).mono ?_; rintro e w' ⟨rfl, o2, rfl⟩)
    | (go_at_call 11; refine (of_none _).mono ?_; rintro e w' ⟨rfl, o3, rfl⟩)
    | (go_at_call 16; refine (hash_any 0#32 ⟨#[]⟩ _ (by decide)).mono ?_; rintro e w' ⟨rfl, rfl⟩)
    | (go_at_call 17; refine (refhash_any 0#32 ⟨#[]⟩ _ (by decide)).mono ?_; rintro e w' ⟨rfl, rfl⟩))
  go_ret
  exact ⟨rfl, by repeat (first | exact Below.refl _ _ | refine Below.alloc ?_ (by simp; try omega) _)⟩
end Go.Proofs.Ytkmkombmkaihiaa
