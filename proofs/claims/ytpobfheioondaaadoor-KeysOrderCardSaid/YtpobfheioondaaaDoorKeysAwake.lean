/-
  The answers that each statement of the layer holds at its end are as they are fixed. Condition: the library's one variable holds some number.
-/
import Derived.Test.YtpobfheioondaaaDoorKeysEncode
import Derived.Test.YtpobfheioondaaaDoorKeysDecode
import Derived.OpenShut
import Derived.ProofKit
namespace Go.Proofs.YtpobfheioondaaaDoor
open Go.RowKit
theorem encode_fixed (m : Int) (w : World) (hm : Max w m) : Calls Tryd.prog 14 #[keyVal 1 2 ⟨#[97]⟩ noText ⟨#[120]⟩] w fun e w' => e = .returned (.tuple #[.string ⟨#[1, 2, 97, 0, 1, 0, 1, 120]⟩, .int .i64 0]) ∧ Below w.heap.size w w' :=
  (encode_any 1 2 ⟨#[97]⟩ noText ⟨#[120]⟩ m w hm).mono fun e w' ⟨he, hb⟩ => ⟨by rw [he]; rfl, hb⟩
theorem decode_fixed (w : World) : Calls Tryd.prog 19 #[.string ⟨#[64, 0, 0, 1, 0, 1]⟩] w fun e w' => e = .returned (.tuple #[keyVal 0 0 noText noText noText, .int .i64 7]) ∧ Below w.heap.size w w' :=
  (decode_any ⟨#[64, 0, 0, 1, 0, 1]⟩ (by decide) w).mono fun e w' ⟨he, hb⟩ => ⟨by rw [he]; rfl, hb⟩
theorem range_fixed (m : Int) (w : World) (hm : Max w m) : Calls Tryd.prog 23 #[keyVal 1 2 ⟨#[97]⟩ noText noText, .int .i64 3] w fun e w' => e = .returned (.tuple #[.string ⟨#[1, 2, 97, 0, 1]⟩, .string ⟨#[1, 2, 97, 0, 2]⟩, .int .i64 0]) ∧ Below w.heap.size w w' :=
  (range_any 1 2 ⟨#[97]⟩ noText noText 3 m w hm).mono fun e w' ⟨he, hb⟩ => ⟨by rw [he]; rfl, hb⟩
/-- What a boxed state's key holds. -/
abbrev Box (v : World) (N : Nat) (st gr : Int) (k p u : ByteArray) : Prop :=
  v.cell? ⟨N, 0, none⟩ = some (.int .i64 st) ∧ v.cell? ⟨N, 1, none⟩ = some (.int .i64 gr) ∧ v.cell? ⟨N, 2, none⟩ = some (.string k) ∧ v.cell? ⟨N, 3, none⟩ = some (.string p) ∧ v.cell? ⟨N, 4, none⟩ = some (.string u)
theorem box_below {v v' : World} {N : Nat} {st gr : Int} {k p u : ByteArray} (h : Box v N st gr k p u) (hb : Below v.heap.size v v') : Box v' N st gr k p u := by
  have hl := World.block_lt_of_cell? _ _ h.1
  have e : ∀ i, v'.cell? ⟨N, i, none⟩ = v.cell? ⟨N, i, none⟩ := fun i => hb.cell (p := ⟨N, i, none⟩) hl
  unfold Box
  rw [e, e, e, e, e]; exact h
theorem box_new (w : World) (st gr : Int) (k p u : ByteArray) : Box (w.alloc (.cells #[.int .i64 st, .int .i64 gr, .string k, .string p, .string u] 23)) w.heap.size st gr k p u := by
  have h : ∀ i : Nat, _ = _ := fun i => World.cell?_alloc_new w #[.int .i64 st, .int .i64 gr, .string k, .string p, .string u] 23 i
  exact ⟨h 0, h 1, h 2, h 3, h 4⟩
set_option maxHeartbeats 2000000 in
theorem awake_any (m : Int) (w : World) (hm : Max w m) : Calls Tryd.prog 18 #[] w fun e w' => e = .returned (.bool true) ∧ Below w.heap.size w w' := by
  go_enter Tryd.func18, Tryd.ntmps18
  go_wp2_with (first
    | (go_at_call 14; refine (encode_fixed m _ hm).mono ?_; rintro e w1 ⟨rfl, hb1⟩; have hm1 := carry hb1 hm)
    | (go_at_call 19; refine (decode_fixed _).mono ?_; rintro e w2 ⟨rfl, hb2⟩; have hm2 := carry hb2 hm1; have hB2 := below_of hb1 hb2)
    | (go_at_call 23; refine (range_fixed m _ (hm2.alloc _)).mono ?_; rintro e w3 ⟨rfl, hb3⟩; have hB3 := below_of (hB2.alloc hB2.size _) hb3))
  go_ret
  exact ⟨rfl, by assumption⟩
end Go.Proofs.YtpobfheioondaaaDoor
