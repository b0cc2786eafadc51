/-
  The contract of Rows, and the law's own answer that the document fixes: true. No condition.
-/
import Derived.Test.YtnmlifagchdphaaBlockDecode
namespace Go.Proofs.Ytnmlifagchdphaa
set_option maxRecDepth 100000
open Go.RowKit
/-- What Rows answers. -/
def RowsD (L : List UInt8) (w : World) (e : Ending) (w' : World) : Prop :=
  (∃ l d a c b, IsB L l d ∧ e = .returned (.tuple #[.slice a l.length c, .int .i64 0]) ∧ Rs a l.length c b 0 l w' ∧ (0 < l.length → w.heap.size ≤ b) ∧ Below w.heap.size w w') ∨
  ((∀ l d, ¬ IsB L l d) ∧ e = .returned (.tuple #[.slice none 0 0, .int .i64 7]) ∧ Below w.heap.size w w')
set_option maxRecDepth 100000 in
set_option maxHeartbeats 2000000 in
theorem rows_any (L : List UInt8) (hL : L.length ≤ 1048576) (w : World) :
    Calls Try.prog 6 #[.string ⟨L.toArray⟩] w (RowsD L w) := by
  have D := Lib.hid (decode_any L hL w)
  go_enter Try.func6, Try.ntmps6
  go_wp2_with fail
  refine D.out.mono ?_
  rintro e w1 (⟨l, d, a, c, b, hB, rfl, hRs, hb, hw⟩ | ⟨hno, rfl, hw⟩)
  · have K := Lib.hid (show RowsD L w (.returned (.tuple #[.slice a l.length c, .int .i64 0])) w1 from .inl ⟨l, d, a, c, b, hB, rfl, hRs, hb, hw⟩)
    clear hB hRs hb hw
    go_wp2_with fail
    go_returns
    exact K.out
  · have K := Lib.hid (show RowsD L w (.returned (.tuple #[.slice none 0 0, .int .i64 7])) w1 from .inr ⟨hno, rfl, hw⟩)
    clear hno hw
    go_wp2_with fail
    go_returns
    exact K.out
def aw1 : Rw := ⟨⟨#[97, 98]⟩, 2, 1, ⟨#[120]⟩⟩
def aw2 : Rw := ⟨⟨#[97, 98]⟩, 1, 2, ⟨#[]⟩⟩
def aw3 : Rw := ⟨⟨#[98]⟩, 1, 1, ⟨#[]⟩⟩
theorem aw_ord : ordR [aw1, aw2, aw3] = true := by
  have e1 : ahd aw1 aw2.key aw2.seq = true := by unfold ahd aw1 aw2; simp [toL]
  have e2 : ahd aw2 aw3.key aw3.seq = true := by
    unfold ahd aw2 aw3
    rw [if_neg (by rw [toL, toL]; decide), toL, toL]
    decide
  simp [ordR, e1, e2]
theorem aw_chk : chkA [aw1, aw2, aw3] 16 = 0 := chkA_zero (d := 16) (by decide) (by decide) aw_ord (by
  intro x hx
  simp only [List.mem_cons, List.not_mem_nil, or_false] at hx
  rcases hx with rfl | rfl | rfl <;> decide) (by decide)
theorem aw_blk : blkB 16 [aw1, aw2, aw3] = [0, 2, 97, 98, 2, 1, 1, 120, 2, 0, 1, 2, 0, 1, 98, 1, 1, 0, 0, 0, 0, 0, 1, 0, 0, 0, 16, 0, 0, 0] := by
  have k1 : aw1.key.toList = [97, 98] := toL [97, 98]
  have k2 : aw2.key.toList = [97, 98] := toL [97, 98]
  have k3 : aw3.key.toList = [98] := toL [98]
  have v1 : aw1.val.toList = [120] := toL [120]
  have v3 : aw3.val.toList = [] := toL []
  have i0 : encI 16 [aw1, aw2, aw3] 0 = [0, 2, 97, 98, 2, 1, 1, 120] := by
    unfold encI prvB
    rw [if_pos (by decide)]
    show encX [] aw1 = _
    unfold encX valB
    rw [k1, v1, com_nil, if_pos (by decide)]
    rw [show aw1.seq = 2 by rfl, show aw1.val.size = 1 by rfl, show aw1.kind = 1 by rfl]
    rw [show ([97, 98] : List UInt8).drop 0 = [97, 98] by rfl, Code.uvar_small (n := 0) (by decide), Code.uvar_small (n := 2) (by decide), Code.uvar_small (n := 1) (by decide), show ([97, 98] : List UInt8).length = 2 by rfl, Code.uvar_small (n := 2) (by decide)]
    rfl
  have i1 : encI 16 [aw1, aw2, aw3] 1 = [2, 0, 1, 2] := by
    unfold encI prvB
    rw [if_neg (by decide)]
    show encX aw1.key.toList aw2 = _
    unfold encX valB
    rw [k1, k2, show com [97, 98] [97, 98] = 2 by decide, if_neg (by decide)]
    rw [show aw2.seq = 1 by rfl, show aw2.kind = 2 by rfl]
    rw [show ([97, 98] : List UInt8).drop 2 = [] by rfl, Code.uvar_small (n := 2) (by decide), Code.uvar_small (n := 1) (by decide), show ([] : List UInt8).length = 0 by rfl, Code.uvar_small (n := 0) (by decide)]
    rfl
  have i2 : encI 16 [aw1, aw2, aw3] 2 = [0, 1, 98, 1, 1, 0] := by
    unfold encI prvB
    rw [if_neg (by decide)]
    show encX aw2.key.toList aw3 = _
    unfold encX valB
    rw [k2, k3, v3, show com [97, 98] [98] = 0 by decide, if_pos (by decide)]
    rw [show aw3.seq = 1 by rfl, show aw3.val.size = 0 by rfl, show aw3.kind = 1 by rfl]
    rw [show ([98] : List UInt8).drop 0 = [98] by rfl, Code.uvar_small (n := 0) (by decide), Code.uvar_small (n := 1) (by decide), show ([98] : List UInt8).length = 1 by rfl, Code.uvar_small (n := 1) (by decide)]
    rfl
  have b0 : bodB 16 [aw1, aw2, aw3] 0 = [] := rfl
  have b3 : bodB 16 [aw1, aw2, aw3] 3 = [0, 2, 97, 98, 2, 1, 1, 120, 2, 0, 1, 2, 0, 1, 98, 1, 1, 0] := by
    rw [bodB_snoc, bodB_snoc, bodB_snoc, b0, i0, i1, i2]; rfl
  have r3 : rstB 16 [aw1, aw2, aw3] 3 = [0, 0, 0, 0] := by
    rw [rstB_snoc, rstB_snoc, rstB_snoc, b0]
    rw [if_pos (by decide), if_neg (by decide), if_neg (by decide)]
    rfl
  show bodB 16 [aw1, aw2, aw3] 3 ++ tailB (rstB 16 [aw1, aw2, aw3] 3) 16 = _
  rw [b3, r3]
  rfl
theorem aw_build : buildB [aw1, aw2, aw3] 16 = ([0, 2, 97, 98, 2, 1, 1, 120, 2, 0, 1, 2, 0, 1, 98, 1, 1, 0, 0, 0, 0, 0, 1, 0, 0, 0, 16, 0, 0, 0], 0) := by
  unfold buildB
  rw [aw_chk, if_neg (by simp), show (16 : Int).toNat = 16 from rfl, aw_blk, if_neg (by decide)]
theorem aw_none : ∀ l d, ¬ IsB [0, 0, 0, 0, 0, 0, 0, 0] l d := fun l d h => by
  have := ptB_isB h
  rw [show ptB [0, 0, 0, 0, 0, 0, 0, 0] = none by decide] at this
  cases this
theorem aw_rs (w : World) : Rs (some ⟨w.heap.size, 0, none⟩) 3 3 w.heap.size 0 [aw1, aw2, aw3] (w.alloc (.cells #[.string ⟨#[97, 98]⟩, .int .u64 2, .int .i64 1, .string ⟨#[120]⟩, .string ⟨#[97, 98]⟩, .int .u64 1, .int .i64 2, .string ⟨#[]⟩, .string ⟨#[98]⟩, .int .u64 1, .int .i64 1, .string ⟨#[]⟩] 33)) := by
  refine ⟨rfl, Nat.le_refl _, by omega, fun _ => ⟨rfl, by simp⟩, fun j x hx => ?_⟩
  have hj : j < 3 := (List.getElem?_eq_some_iff.1 hx).1
  rcases (show j = 0 ∨ j = 1 ∨ j = 2 by omega) with rfl | rfl | rfl
  all_goals (
    simp only [List.getElem?_cons_zero, List.getElem?_cons_succ, Option.some.injEq] at hx
    subst hx
    refine ⟨?_, ?_, ?_, ?_⟩ <;> (rw [World.cell?_alloc_new]; rfl))
set_option maxRecDepth 100000 in
set_option maxHeartbeats 4000000 in
theorem awake_any (w : World) : Calls Try.prog 5 #[] w fun e w' => e = .returned (.bool true) ∧ Below w.heap.size w w' := by
  have RS := Lib.hid (aw_rs w)
  have W0 := Lib.hid (below_alloc w (.cells #[.string ⟨#[97, 98]⟩, .int .u64 2, .int .i64 1, .string ⟨#[120]⟩, .string ⟨#[97, 98]⟩, .int .u64 1, .int .i64 2, .string ⟨#[]⟩, .string ⟨#[98]⟩, .int .u64 1, .int .i64 1, .string ⟨#[]⟩] 33))
  have BC := Lib.hid (build_any 16 RS.out)
  rw [aw_build] at BC
  go_enter Try.func5, Try.ntmps5
  go_wp2_with (first
    | (go_at_call 11; ((with_reducible refine BC.out.mono ?_); rintro e w1 ⟨rfl, hb1⟩; have R1 := Lib.hid (RS.out.below hb1 (Nat.le_refl _)); have W1 := Lib.hid (below_of W0.out hb1); clear hb1))
    | (go_at_call 6; ((with_reducible refine (rows_any [0, 0, 0, 0, 0, 0, 0, 0] (by decide) _).mono ?_); rintro e w2 (⟨l, d, _, _, _, hB, _⟩ | ⟨_, rfl, hb2⟩); (try exact absurd hB (aw_none l d)); have R2 := Lib.hid (R1.out.below hb2 (Nat.le_refl _)); have W2 := Lib.hid (below_of W1.out hb2); clear hb2))
    | (go_at_call 12; ((with_reducible refine (order_any R2.out).mono ?_); rw [aw_ord]; rintro e w3 ⟨rfl, hb3⟩; have W3 := Lib.hid (below_of W2.out hb3); clear hb3)))
  go_returns
  exact ⟨rfl, W3.out⟩
end Go.Proofs.Ytnmlifagchdphaa
