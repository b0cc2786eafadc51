/-
  The law's own check of some answers that the document fixes: true. No condition.
-/
import Derived.Test.YtccdbodemoefkaaDoorBloomMake
namespace Go.Proofs.YtccdbodemoefkaaDoor
set_option maxRecDepth 100000
open Go.RowKit
theorem text_none : Blm.text ([].map fun x : ByteArray => x.data.toList) 10 = [7, 0, 0, 0, 0, 0, 0, 0, 0] := by decide +kernel
theorem has_dark : Blm.hasB (ByteArray.mk #[7, 0, 0, 0, 0, 0, 0, 0, 0]).data.toList (ByteArray.mk #[97]).data.toList = false := by
  have h := Blm.has_none 7 8 (by omega) [97]
  exact h
theorem has_full : Blm.hasB (ByteArray.mk #[1, 255, 255, 255, 255, 255, 255, 255, 255]).data.toList (ByteArray.mk #[97]).data.toList = true := by
  have h := Blm.has_all 1 8 (by omega) [97]
  exact h
theorem awake_any (w : World) : Calls Tryd.prog 6 #[] w fun e w' => e = .returned (.bool true) ∧ Below w.heap.size w w' := by
  have M1 : Hid (∀ u, Calls Tryd.prog 13 #[.slice none 0 0, .int .i64 10] u fun e w' => e = .returned (.tuple #[.string ⟨#[7, 0, 0, 0, 0, 0, 0, 0, 0]⟩, .int .i64 0]) ∧ Below u.heap.size u w') := Lib.hid fun u => by
    have h := make_good 10 (by omega) (by omega) none 0 0 0 0 [] u (textsAt_none u) (fun x hx => by cases hx) (by omega)
    rw [text_none] at h
    exact h
  have M2 : Hid (∀ u, Calls Tryd.prog 13 #[.slice none 0 0, .int .i64 33] u fun e w' => e = .returned (.tuple #[.string ⟨#[]⟩, .int .i64 2]) ∧ w' = u) := Lib.hid fun u => make_arg 33 (.inr (by omega)) _ u
  have H1 : Hid (∀ u, Calls Tryd.prog 9 #[.string ⟨#[7, 0, 0, 0, 0, 0, 0, 0, 0]⟩, .string ⟨#[97]⟩] u fun e w' => e = .returned (.bool false) ∧ Below u.heap.size u w') := Lib.hid fun u => by
    have h := has_any ⟨#[7, 0, 0, 0, 0, 0, 0, 0, 0]⟩ ⟨#[97]⟩ (by decide) (by decide) u
    rw [has_dark] at h
    exact h
  have H2 : Hid (∀ u, Calls Tryd.prog 9 #[.string ⟨#[1, 255, 255, 255, 255, 255, 255, 255, 255]⟩, .string ⟨#[97]⟩] u fun e w' => e = .returned (.bool true) ∧ Below u.heap.size u w') := Lib.hid fun u => by
    have h := has_any ⟨#[1, 255, 255, 255, 255, 255, 255, 255, 255]⟩ ⟨#[97]⟩ (by decide) (by decide) u
    rw [has_full] at h
    exact h
  have H3 : Hid (∀ u, Calls Tryd.prog 9 #[.string ⟨#[]⟩, .string ⟨#[97]⟩] u fun e w' => e = .returned (.bool true) ∧ Below u.heap.size u w') := Lib.hid fun u => has_any ⟨#[]⟩ ⟨#[97]⟩ (by decide) (by decide) u
  have C1 : Hid (∀ u, Calls Tryd.prog 7 #[.string ⟨#[7]⟩] u fun e w' => e = .returned (.int .i64 7) ∧ w' = u) := Lib.hid fun u => check_any ⟨#[7]⟩ (by decide) u
  go_enter Tryd.func6, Tryd.ntmps6
  go_wp2_with (first
    | (go_at_call 13; (with_reducible refine (M1.out _).mono ?_); rintro e w1 ⟨rfl, b1⟩)
    | (go_at_call 13; (with_reducible refine (M2.out _).mono ?_); rintro e w2 ⟨rfl, rfl⟩)
    | (go_at_call 9; (with_reducible refine (H1.out _).mono ?_); rintro e w3 ⟨rfl, b3⟩)
    | (go_at_call 9; (with_reducible refine (H2.out _).mono ?_); rintro e w4 ⟨rfl, b4⟩)
    | (go_at_call 9; (with_reducible refine (H3.out _).mono ?_); rintro e w5 ⟨rfl, b5⟩)
    | (go_at_call 7; (with_reducible refine (C1.out _).mono ?_); rintro e w6 ⟨rfl, rfl⟩)
    | fail "no arm")
  go_returns
  exact ⟨rfl, below_of (below_of (below_of b1 b3) b4) b5⟩
end Go.Proofs.YtccdbodemoefkaaDoor
