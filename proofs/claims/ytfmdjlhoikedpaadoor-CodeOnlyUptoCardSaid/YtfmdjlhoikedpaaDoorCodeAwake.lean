/-
  The answers that each statement of the layer holds at its end are as they are fixed. Condition: the library's one variable holds some number.
-/
import Derived.Test.YtfmdjlhoikedpaaDoorCodeField
import Derived.OpenShut
import Derived.ProofKit
namespace Go.Proofs.YtfmdjlhoikedpaaDoor
open Go.RowKit
/-- The library's variable holds m. -/
abbrev Max (w : World) (m : Int) : Prop := w.cell? ⟨0, 0, none⟩ = some (.int .i64 m)
theorem carry {u w' : World} {m : Int} (hb : Below u.heap.size u w') (h : Max u m) : Max w' m := (hb.cell (p := ⟨0, 0, none⟩) (World.block_lt_of_cell? _ _ h)).trans h
theorem uvar_300 : Code.uvar 300 = [172, 2] := by rw [Code.uvar_great (by decide), Code.uvar_small (by decide)]; rfl
theorem uint_fixed (w : World) : Calls Tryd.prog 13 #[.string ⟨#[128, 0]⟩] w fun e w' => e = .returned (.tuple #[.int .u64 0, .int .i64 0, .int .i64 7]) ∧ Below w.heap.size w w' :=
  (uint_any ⟨#[128, 0]⟩ (by decide) w).mono fun e w' ⟨he, hb⟩ => ⟨by rw [he]; rfl, hb⟩
theorem field_fixed (w : World) : Calls Tryd.prog 26 #[.string ⟨#[3, 97]⟩, .int .i64 2] w fun e w' => e = .returned (.tuple #[.string ⟨#[]⟩, .int .i64 0, .int .i64 3]) ∧ Below w.heap.size w w' :=
  (field_any ⟨#[3, 97]⟩ (by decide) 2 (by decide) w).mono fun e w' ⟨he, hb⟩ => ⟨by rw [he]; rfl, hb⟩
theorem putuint_fixed (w : World) : Calls Tryd.prog 15 #[.int .u64 300] w fun e w' => e = .returned (.string ⟨#[172, 2]⟩) ∧ Below w.heap.size w w' :=
  (putuint_any 300 (by decide) w).mono fun e w' ⟨he, hb⟩ => ⟨by rw [he, uvar_300], hb⟩
theorem putord_fixed (w : World) : Calls Tryd.prog 20 #[.int .i64 (-1)] w fun e w' => e = .returned (.string ⟨#[127, 255, 255, 255, 255, 255, 255, 255]⟩) ∧ Below w.heap.size w w' :=
  (putord_any 9223372036854775807 (by decide) w).mono fun e w' ⟨he, hb⟩ => ⟨by rw [he]; rfl, hb⟩
theorem puttext_fixed (m : Int) (w : World) (hm : Max w m) : Calls Tryd.prog 24 #[.string ⟨#[97, 0, 98]⟩] w fun e w' => e = .returned (.string ⟨#[97, 0, 255, 98, 0, 1]⟩) ∧ Below w.heap.size w w' :=
  (puttext_any ⟨#[97, 0, 98]⟩ (by decide) m w hm).mono fun e w' ⟨he, hb⟩ => ⟨by rw [he]; rfl, hb⟩
set_option maxHeartbeats 1000000 in
theorem awake_any (m : Int) (w : World) (hm : Max w m) : Calls Tryd.prog 17 #[] w fun e w' => e = .returned (.bool true) ∧ Below w.heap.size w w' := by
  have hB0 := Below.refl w.heap.size w
  go_enter Tryd.func17, Tryd.ntmps17
  go_wp2_with (first
    | (go_at_call 13; refine (uint_fixed _).mono ?_; rintro e w' ⟨rfl, hb⟩; have hB' := below_of (by assumption) hb; have hm' := carry hb (by assumption))
    | (go_at_call 26; refine (field_fixed _).mono ?_; rintro e w' ⟨rfl, hb⟩; have hB' := below_of (by assumption) hb; have hm' := carry hb (by assumption))
    | (go_at_call 15; refine (putuint_fixed _).mono ?_; rintro e w' ⟨rfl, hb⟩; have hB' := below_of (by assumption) hb; have hm' := carry hb (by assumption))
    | (go_at_call 20; refine (putord_fixed _).mono ?_; rintro e w' ⟨rfl, hb⟩; have hB' := below_of (by assumption) hb; have hm' := carry hb (by assumption))
    | (go_at_call 24; refine (puttext_fixed m _ (by assumption)).mono ?_; rintro e w' ⟨rfl, hb⟩; have hB' := below_of (by assumption) hb; have hm' := carry hb (by assumption)))
  go_ret
  exact ⟨rfl, by assumption⟩
end Go.Proofs.YtfmdjlhoikedpaaDoor
