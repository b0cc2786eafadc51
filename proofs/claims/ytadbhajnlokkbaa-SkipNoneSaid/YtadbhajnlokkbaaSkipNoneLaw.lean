/-
  SkipNone: a list that is not there has no rows, and takes none. No condition.
-/
import Derived.Test.YtadbhajnlokkbaaSkipAwake
import Derived.Test.YtadbhajnlokkbaaSliceArg
import Derived.Test.YtadbhajnlokkbaaLaidOut
namespace Go.Proofs.Ytadbhajnlokkbaa
open Go.RowKit
attribute [local go_sem] eq_node ne_node eq_list
/-- The law's two boxes: the row that came in, the row that Seek told. -/
structure NoneSt (w : World) (g : Nat) (xk xv : ByteArray) (xs : Nat) (xi : Int) (v : World) : Prop where
  arg : RowAt w.heap.size ⟨xk, xs, xi, xv⟩ v
  res : RowAt g zeroR v
  blw : Below w.heap.size w v
theorem NoneSt.below {w : World} {g : Nat} {xk xv : ByteArray} {xs : Nat} {xi : Int} {v v' : World} (h : NoneSt w g xk xv xs xi v) (hb : Below v.heap.size v v') : NoneSt w g xk xv xs xi v' := ⟨h.arg.below hb, h.res.below hb, below_of h.blw hb⟩
theorem NoneSt.cells {w : World} {g : Nat} {xk xv : ByteArray} {xs : Nat} {xi : Int} {v : World} (h : NoneSt w g xk xv xs xi v) : (v.cell? ⟨w.heap.size, 0, none⟩ = some (.string xk) ∧ v.cell? ⟨w.heap.size, 1, none⟩ = some (.int .u64 (xs : Int)) ∧ v.cell? ⟨w.heap.size, 2, none⟩ = some (.int .i64 xi) ∧ v.cell? ⟨w.heap.size, 3, none⟩ = some (.string xv)) ∧
    v.cell? ⟨g, 0, none⟩ = some (.string ⟨#[]⟩) ∧ v.cell? ⟨g, 1, none⟩ = some (.int .u64 0) ∧ v.cell? ⟨g, 2, none⟩ = some (.int .i64 0) ∧ v.cell? ⟨g, 3, none⟩ = some (.string ⟨#[]⟩) := by
  obtain ⟨h1, _⟩ := h.arg.cells
  obtain ⟨h2, _⟩ := h.res.cells
  exact ⟨h1, h2⟩
theorem gave_none {l : List Rw} (hl : l = []) {u : World} {e : Ending} {w' : World} (h : GaveR l u e w') : ∃ p c, e = .returned (.slice p 0 c) ∧ Below u.heap.size u w' := by
  obtain ⟨v, rfl, hrow, hb⟩ := h
  subst hl
  obtain ⟨p, c, rfl⟩ := ownsRow_slice hrow
  exact ⟨p, c, rfl, hb⟩
set_option maxRecDepth 100000 in
set_option maxHeartbeats 8000000 in
theorem none_walk (x : Rw) (hx : RwIn x) (hgt : Int) (_m : (Lit.int .i64 hgt).wf = true) (w : World) :
    Calls Try.prog 4 #[.agg #[.string x.key, .int .u64 (x.seq : Int), .int .i64 x.kind, .string x.val], .int .i64 hgt] w fun e w' => e = .returned (.bool true) ∧ Below w.heap.size w w' := by
  have SK := fun u => Lib.hid (seek_l (ls_none u) (by simp) x.key x.seq)
  have PN := Lib.hid (fun u => put_none x hgt u)
  have WH := Lib.hid (fun u => (whole_l (ls_none u) (by simp)).mono fun e w' h => gave_none rfl h)
  have AL := Lib.hid (fun u => (all_l (ls_none u) (by simp) x.key hx.1 x.seq 9).mono fun e w' h => gave_none (by simp [rowsL, upTo]) h)
  have LN := Lib.hid (fun u => len_l (ls_none u))
  have HG := Lib.hid (fun u => height_l (ls_none u))
  have ST := Lib.hid (fun u => steps_l (ls_none u) (by simp) x.key x.seq)
  have AW := Lib.hid (fun u => awake_any u)
  rw [show seekR ((rowsL []).drop (plL [] x.key x.seq)) = .tuple #[.agg #[.string ⟨#[]⟩, .int .u64 0, .int .i64 0, .string ⟨#[]⟩], .bool false] by simp [rowsL, seekR, zeroR]] at SK
  rw [show ((([] : SL).length : Nat) : Int) = 0 from rfl] at LN
  rw [show ((topH (hgtsL []) : Nat) : Int) = 0 from rfl] at HG
  rw [show ((stepsL [] x.key x.seq : Nat) : Int) = 0 by simp [stepsL, hgtsL]; rfl] at ST
  obtain ⟨xk, xs, xi, xv⟩ := x
  simp only at SK PN WH AL LN HG ST AW
  clear hx
  have W0 := below_alloc w (.cells #[.string xk, .int .u64 (xs : Int), .int .i64 xi, .string xv] 36)
  have R0 := RowAt.new ⟨xk, xs, xi, xv⟩ w
  have c0 := R0.cells
  obtain ⟨⟨c0, c1, c2, c3⟩, _⟩ := c0
  go_enter Try.func4, Try.ntmps4
  go_upto_region 3 with (go_at_call 12; ((with_reducible refine (SK _).out.mono ?_); rintro e w1 ⟨rfl, hb1⟩))
  have D0 : NoneSt w w1.heap.size xk xv xs xi (w1.alloc (.cells #[.string ⟨#[]⟩, .int .u64 0, .int .i64 0, .string ⟨#[]⟩] 36)) := ⟨(R0.below hb1).below (below_alloc _ _), RowAt.new zeroR w1, below_of (below_of W0 hb1) (below_alloc _ _)⟩
  obtain ⟨g, hg⟩ := named w1.heap.size
  rw [← hg.out] at D0 ⊢
  generalize w1.alloc (.cells #[.string ⟨#[]⟩, .int .u64 0, .int .i64 0, .string ⟨#[]⟩] 36) = W2 at *
  clear hb1 W0 R0 c0 c1 c2 c3 SK hg
  obtain ⟨⟨c0, c1, c2, c3⟩, c4, c5, c6, c7⟩ := D0.cells
  go_wp2_with (first
    | (go_at_call 10; ((with_reducible refine (PN.out _).mono ?_); rintro e w1 ⟨rfl, hb⟩; have d := NoneSt.below (by assumption) hb; obtain ⟨⟨d0, d1, d2, d3⟩, d4, d5, d6, d7⟩ := d.cells))
    | (go_at_call 20; ((with_reducible refine (WH.out _).mono ?_); rintro e w1 ⟨p1, q1, rfl, hb⟩; have d := NoneSt.below (by assumption) hb; obtain ⟨⟨d0, d1, d2, d3⟩, d4, d5, d6, d7⟩ := d.cells))
    | (go_at_call 14; ((with_reducible refine (AL.out _).mono ?_); rintro e w1 ⟨p1, q1, rfl, hb⟩; have d := NoneSt.below (by assumption) hb; obtain ⟨⟨d0, d1, d2, d3⟩, d4, d5, d6, d7⟩ := d.cells))
    | (go_at_call 17; ((with_reducible refine (LN.out _).mono ?_); rintro e w1 ⟨rfl, rfl⟩))
    | (go_at_call 18; ((with_reducible refine (HG.out _).mono ?_); rintro e w1 ⟨rfl, rfl⟩))
    | (go_at_call 15; ((with_reducible refine (ST.out _).mono ?_); rintro e w1 ⟨rfl, hb⟩; have d := NoneSt.below (by assumption) hb; obtain ⟨⟨d0, d1, d2, d3⟩, d4, d5, d6, d7⟩ := d.cells))
    | (go_at_call 8; ((with_reducible refine (AW.out _).mono ?_); rintro e w1 ⟨rfl, hb⟩; have d := NoneSt.below (by assumption) hb))
    | fail "no arm")
  go_returns
  exact ⟨rfl, d.blw⟩
--LAW freshetlaw08.SkipNone none_walk row:x int:hgt
--BEGIN
namespace SkipNoneProof
open Go.ChangeShapes Go.WideShapes Go.ChangeAt Go.RowKit
open Go.ChangeMaps (open_string shut_string)
theorem own : ownKnob Try.prog.godebug = none := by kernel_rfl
set_option maxRecDepth 100000 in
theorem lifted (os : Os) (started : os.Started) (H : Type) (enc : TypeId × Value → H) :
    ReturnsInHanded {} Try.checked os 4 .any (Rows.skipNoneSpec.pre6 enc Try.prog Try.f4 Rows.skipNoneRow.domain false) (Rows.skipNoneSpec.post enc Try.prog Try.f4 false true false false) := by
  refine returnsInHanded_of_change_sized (C := Try.checked) own started (by kernel_rfl) Try.func4
    (ChangeSpec.witness6 (enc := enc) (C := Try.checked) false ⟨#[], #[.agg #[.string .empty, .int .u64 0, .int .i64 0, .string .empty], .int .i64 0], []⟩ 8 (by kernel_rfl) (by kernel_rfl) (by kernel_rfl) (by kernel_rfl)) ?_
  intro W base args ds gs before hval0 hW _ hsz _
  have hval : ∀ (j : Nat) t v, Try.f4.params[j]? = some t → args[j]? = some v → Value.okWide Try.prog W .any base t v := hval0
  have hW' := hW
  obtain ⟨p, q, hA0, hV, rfl, hfz, hnd⟩ := hW
  have hA : DataW.TrodAll enc Try.prog W 0 (fun _ => true) true Try.f4.params.toList args.toList ds p := hA0
  rw [Try.params4] at hA hval hsz
  obtain ⟨v0, vs0, d0, ds0, p0, q0, hargs, rfl, rfl, h0, r0⟩ := trodAll_cons hA
  obtain ⟨v1, vs1, d1, ds1, p1, q1, rfl, rfl, rfl, h1, r1⟩ := trodAll_cons r0
  obtain ⟨rfl, rfl, rfl⟩ := trodAll_nil r1
  obtain rfl : args = #[v0, v1] := by cases args; simp_all
  obtain ⟨rfl, rfl⟩ := trodVars_none hV
  have k0 := h0
  obtain ⟨x, rfl, m0⟩ := open_row (hval 0 36 v0 rfl rfl) h0 hsz (j := 0) rfl rfl
  have lt0 : ∀ x ∈ p0, x.block < W.heap.size := fun x hx => hW'.lt x (by simp only [List.mem_append]; simp [hx])
  obtain ⟨hgt, rfl, rfl, rfl, m1⟩ := open_int Try.underlying3 (hval 1 3 v1 rfl rfl) h1
  clear hA0 hval0
  simp only [List.append_nil] at hW'
  refine (none_walk x m0 hgt m1 W).mono fun e W' ⟨he, hg⟩ => ?_
  subst he
  exact ⟨_, rfl, _, _, _, [], _, [], hW', (trodAll_cons_mk (shut_bool Try.underlying4 _) trodAll_mk0), (trodAll_cons_mk (Below.trod laid_out (by kernel_rfl) (of_decide_eq_true (by kernel_rfl)) k0 hg lt0) (trodAll_cons_mk (shut_int Try.underlying3 m1) trodAll_mk0)), rfl, hg.frame _, fun h => by cases h⟩
theorem holds : Rows.SkipNoneSaid :=
  OpenClaim.holds_of_wide 4 Try.f4 rfl rfl rfl rfl rfl rfl rfl ⟨rfl, rfl, rfl, rfl, rfl⟩ rfl rfl rfl rfl rfl (by kernel_rfl) Try.func4 (by kernel_rfl)
    (of_decide_eq_true (by kernel_rfl)) (by unfold Func.isWrapper; first | (rw [if_pos (by decide +kernel)]; kernel_rfl) | (rw [if_neg (by decide +kernel)]; exact ⟨rfl, rfl⟩))
    (fun os started H enc _ => lifted os started H enc)
end SkipNoneProof
--END
end Go.Proofs.Ytadbhajnlokkbaa
