/-
  Any two state's keys are held against each other part by part (KeysCmp). No condition.
-/
import Derived.Test.YtpobfheioondaaaDoorKeysAwake
import Derived.Test.YtpobfheioondaaaDoorKeysCmp2
import Derived.Deep.RegionHeld
import Derived.Test.YtpobfheioondaaaDoorCard
namespace Go.Proofs.YtpobfheioondaaaDoor
open Go.RowKit
set_option maxHeartbeats 8000000 in
theorem keysCmp_walk (st gr : Int) (k p u : ByteArray) (st' gr' : Int) (k' p' u' : ByteArray) (m : Int) (w : World) (hm : Max w m) :
    Calls Tryd.prog 5 #[keyVal st gr k p u, keyVal st' gr' k' p' u'] w fun e w' => e = .returned (.bool true) ∧ Below w.heap.size w w' := by
  have c1 := fun v => cmp_any st gr k p u st' gr' k' p' u' v
  have c2 := fun v => refcmp_any st gr k p u st' gr' k' p' u' v
  have c3 := fun v => cmp_any st' gr' k' p' u' st gr k p u v
  have c4 := fun v => refcmp_any st' gr' k' p' u' st gr k p u v
  obtain ⟨X, hX⟩ := named (Keys.cmp (skOf st gr k p u) (skOf st' gr' k' p' u'))
  obtain ⟨Y, hY⟩ := named (Keys.cmp (skOf st' gr' k' p' u') (skOf st gr k p u))
  rw [← hX.out] at c1 c2
  rw [← hY.out] at c3 c4
  have C1 := Lib.hid c1
  have C2 := Lib.hid c2
  have C3 := Lib.hid c3
  have C4 := Lib.hid c4
  clear c1 c2 c3 c4
  have hl : w.heap.size < (w.alloc (.cells #[.int .i64 st, .int .i64 gr, .string k, .string p, .string u] 23)).heap.size := by simp
  have x0 := box_below (box_new w st gr k p u) (below_alloc (w.alloc (.cells #[.int .i64 st, .int .i64 gr, .string k, .string p, .string u] 23)) (.cells #[.int .i64 st', .int .i64 gr', .string k', .string p', .string u'] 23))
  have y0 := box_new (w.alloc (.cells #[.int .i64 st, .int .i64 gr, .string k, .string p, .string u] 23)) st' gr' k' p' u'
  rw [World.size_alloc] at y0
  have z0 : Below w.heap.size w _ := key_block w (.cells #[.int .i64 st, .int .i64 gr, .string k, .string p, .string u] 23) (.cells #[.int .i64 st', .int .i64 gr', .string k', .string p', .string u'] 23)
  have hm0 := (hm.alloc (.cells #[.int .i64 st, .int .i64 gr, .string k, .string p, .string u] 23)).alloc (.cells #[.int .i64 st', .int .i64 gr', .string k', .string p', .string u'] 23)
  go_enter Tryd.func5, Tryd.ntmps5
  go_wp2
  go_region_held (fun v => (v.cell? ⟨w.heap.size, 0, none⟩ = some (.int .i64 st) ∧ v.cell? ⟨w.heap.size, 1, none⟩ = some (.int .i64 gr) ∧ v.cell? ⟨w.heap.size, 2, none⟩ = some (.string k) ∧ v.cell? ⟨w.heap.size, 3, none⟩ = some (.string p) ∧ v.cell? ⟨w.heap.size, 4, none⟩ = some (.string u)) ∧
      v.cell? ⟨w.heap.size + 1, 0, none⟩ = some (.int .i64 st') ∧ v.cell? ⟨w.heap.size + 1, 1, none⟩ = some (.int .i64 gr') ∧ v.cell? ⟨w.heap.size + 1, 2, none⟩ = some (.string k') ∧ v.cell? ⟨w.heap.size + 1, 3, none⟩ = some (.string p') ∧ v.cell? ⟨w.heap.size + 1, 4, none⟩ = some (.string u'))
    (first
      | exact ⟨x5, y5⟩
      | exact ⟨x4, y4⟩
      | exact ⟨x3, y3⟩
      | exact ⟨x2, y2⟩
      | exact ⟨x1, y1⟩
      | exact ⟨x0, y0⟩)
    (first
      | (go_at_call 21; ((with_reducible refine (C1.out _).mono ?_); rintro e w1 ⟨rfl, hb1⟩; have z1 := below_of (w := w) (by first | exact z2 | exact z0.drew) hb1; have hm1 : Max w1 m := carry hb1 (by first | exact hm2 | exact hm0); have x1 := box_below (by first | exact x2 | exact x0) hb1; have y1 := box_below (by first | exact y2 | exact y0) hb1))
      | (go_at_call 22; ((with_reducible refine (C2.out _).mono ?_); rintro e w2 ⟨rfl, hb2⟩; have z2 := below_of (w := w) (by first | exact z1 | exact z0.drew) hb2; have hm2 : Max w2 m := carry hb2 (by first | exact hm1 | exact hm0); have x2 := box_below (by first | exact x1 | exact x0) hb2; have y2 := box_below (by first | exact y1 | exact y0) hb2))
      | (go_at_call 21; ((with_reducible refine (C3.out _).mono ?_); rintro e w3 ⟨rfl, hb3⟩; have z3 := below_of (w := w) (by first | exact z4 | exact z2 | exact z1) hb3; have hm3 : Max w3 m := carry hb3 (by first | exact hm4 | exact hm2 | exact hm1); have x3 := box_below (by first | exact x4 | exact x2 | exact x1) hb3; have y3 := box_below (by first | exact y4 | exact y2 | exact y1) hb3))
      | (go_at_call 22; ((with_reducible refine (C4.out _).mono ?_); rintro e w4 ⟨rfl, hb4⟩; have z4 := below_of (w := w) (by first | exact z3 | exact z2 | exact z1) hb4; have hm4 : Max w4 m := carry hb4 (by first | exact hm3 | exact hm2 | exact hm1); have x4 := box_below (by first | exact x3 | exact x2 | exact x1) hb4; have y4 := box_below (by first | exact y3 | exact y2 | exact y1) hb4))
      | (go_at_call 18; refine (awake_any m _ (by first | exact hm4 | exact hm3)).mono ?_; rintro e w5 ⟨rfl, hb5⟩; have z5 := below_of (w := w) (by first | exact z4 | exact z3) hb5; have x5 := box_below (by first | exact x4 | exact x3) hb5; have y5 := box_below (by first | exact y4 | exact y3) hb5))
  all_goals go_wp2
  all_goals go_ret
  all_goals exact ⟨rfl, by assumption⟩
--CARD freshetlaw03.KeysCmp keysCmp_walk key:a key:b
--BEGIN
namespace KeysCmpProof
open Go.ChangeShapes Go.WideShapes Go.ChangeAt Go.RowKit
open Go.ChangeMaps (open_string shut_string)
theorem own : ownKnob Tryd.prog.godebug = none := by kernel_rfl
theorem reads (os : Os) {H : Type} (enc : TypeId × Value → H) : ∃ places, DataW.whole enc Tryd.prog ((World.laidAll Tryd.prog os Rows.keysCmpRow.laid).forCall (fun _ _ => 0) ⟨#[], #[.agg #[.int .i64 0, .int .i64 0, .string .empty, .string .empty, .string .empty], .agg #[.int .i64 0, .int .i64 0, .string .empty, .string .empty, .string .empty]], []⟩).memory Tryd.f5.params.toList Rows.keysCmpSpec.vars false (#[.agg #[.int .i64 0, .int .i64 0, .string .empty, .string .empty, .string .empty], .agg #[.int .i64 0, .int .i64 0, .string .empty, .string .empty, .string .empty]] : Array Value).toList 8 = some ([.agg [.lit (.int .i64 0), .lit (.int .i64 0), .lit (.string []), .lit (.string []), .lit (.string [])], .agg [.lit (.int .i64 0), .lit (.int .i64 0), .lit (.string []), .lit (.string []), .lit (.string [])]], [], places) :=
  ⟨[], by kernel_rfl⟩
theorem laid_met (os : Os) (args : Array Value) : laidMetH Tryd.prog Rows.keysCmpRow.laid ((World.laidAll Tryd.prog os Rows.keysCmpRow.laid).forCall (fun _ _ => 0) ⟨#[], args, []⟩).memory := by
  rw [MakeChecks.laidMetH_plain _ _ _ (by kernel_rfl)]; exact laidMet_laidAll _ (by kernel_rfl) (by kernel_rfl)
set_option maxRecDepth 100000 in
theorem lifted (os : Os) (started : os.Started) (H : Type) (enc : TypeId × Value → H) (F : Stop.Interp) :
    ReturnsInHanded {} Tryd.checked os 5 .any ((OpenSpec.ofChange Rows.keysCmpSpec).preRow enc Tryd.prog Tryd.f5 Rows.keysCmpRow.domain false Rows.keysCmpRow.laid) (((OpenSpec.ofChange Rows.keysCmpSpec).at F).post enc Tryd.prog Tryd.f5 false true false false) := by
  obtain ⟨places, hx⟩ := reads os enc
  refine returnsInHanded_of_row (C := Tryd.checked) (s := OpenSpec.ofChange Rows.keysCmpSpec) own started (by kernel_rfl) Tryd.func5
    (witness_row_shaped (enc := enc) (C := Tryd.checked) false (World.laidAll Tryd.prog os Rows.keysCmpRow.laid) #[.agg #[.int .i64 0, .int .i64 0, .string .empty, .string .empty, .string .empty], .agg #[.int .i64 0, .int .i64 0, .string .empty, .string .empty, .string .empty]] (World.laidAll_os _ _ _) (World.shaped_of_ZipB (by kernel_rfl) (by kernel_rfl)) (by kernel_rfl)
      (OpenSpec.preRow_of_cond 8 hx (by kernel_rfl) (fun k hk => by cases hk) (by kernel_rfl) (laid_met os _))) ?_
  intro W base args ds gs before hval0 hW _ hcond hsz _ hsh _
  have hval : ∀ (j : Nat) t v, Tryd.f5.params[j]? = some t → args[j]? = some v → Value.okWide Tryd.prog W .any base t v := hval0
  have hW' := hW
  obtain ⟨p, q, hA0, hV, rfl, hfz, hnd⟩ := hW
  have hA : DataW.TrodAll enc Tryd.prog W 0 (fun _ => true) true Tryd.f5.params.toList args.toList ds p := hA0
  rw [Tryd.params5] at hA hval hsz
  obtain ⟨v0, vs0, d0, ds0, p0, q0, hargs, rfl, rfl, h0, r0⟩ := trodAll_cons hA
  obtain ⟨v1, vs1, d1, ds1, p1, q1, rfl, rfl, rfl, h1, r1⟩ := trodAll_cons r0
  obtain ⟨rfl, rfl, rfl⟩ := trodAll_nil r1
  obtain rfl : args = #[v0, v1] := by cases args; simp_all
  obtain ⟨rfl, rfl⟩ := trodVars_none hV
  obtain ⟨ast, agr, ak, ap, au, rfl, rfl, rfl, m0, q0a, q0b, q0c⟩ := open_key (hval 0 23 v0 rfl rfl) h0
  obtain ⟨bst, bgr, bk, bp, bu, rfl, rfl, rfl, m1, q1a, q1b, q1c⟩ := open_key (hval 1 23 v1 rfl rfl) h1
  have z0 := sized_key hsz (j := 0) (st := ast) (gr := agr) (k := ak) (p := ap) (u := au) rfl rfl
  have z1 := sized_key hsz (j := 1) (st := bst) (gr := bgr) (k := bk) (p := bp) (u := bu) rfl rfl
  clear hA0 hval0
  simp only [List.append_nil] at hW'
  obtain ⟨mx, hmx⟩ := Tryd.laysM155.s1_3 W hsh
  refine (keysCmp_walk ast agr ak ap au bst bgr bk bp bu mx W hmx).mono fun e W' ⟨he, hg⟩ => ?_
  subst he
  exact ⟨_, rfl, _, _, _, [], [], [], hW', (trodAll_cons_mk (shut_bool Tryd.underlying4 _) trodAll_mk0), (trodAll_cons_mk (shut_key m0.1 m0.2 q0a q0b q0c) (trodAll_cons_mk (shut_key m1.1 m1.2 q1a q1b q1c) trodAll_mk0)), rfl, hg.frame _, fun h => by cases h⟩
theorem said : Rows.KeysCmpSaid :=
  OpenClaim.holds_of_cond 5 Tryd.f5 rfl rfl rfl rfl rfl rfl rfl ⟨rfl, rfl, rfl, rfl, rfl⟩ rfl rfl rfl rfl rfl (by kernel_rfl) Tryd.func5 (by kernel_rfl)
    (of_decide_eq_true (by kernel_rfl)) (by unfold Func.isWrapper; first | (rw [if_pos (by decide +kernel)]; kernel_rfl) | (rw [if_neg (by decide +kernel)]; exact ⟨rfl, rfl⟩))
    (fun os started H enc _ F => by rw [OpenClaim.pre_eq_preRow]; exact lifted os started H enc F)
theorem plain (f : FuncId) (fn : Func) (hf : Tryd.pinned.checked.prog.funcNamed "freshet/freshetlaw03.KeysCmp" = some f) (hfn : Tryd.pinned.checked.prog.funcs[f]? = some fn) :
    false = Tryd.pinned.checked.prog.looks [] ∧ ∀ (j : Nat) t, fn.params[j]? = some t → Tryd.pinned.checked.prog.wantsStandIn t = false := by
  obtain rfl : f = 5 := Option.some.inj ((show Tryd.prog.funcNamed "freshet/freshetlaw03.KeysCmp" = some 5 by kernel_rfl).symm.trans hf) |>.symm
  obtain rfl : fn = Tryd.f5 := (Option.some.inj (Tryd.func5.symm.trans hfn)).symm
  refine ⟨by kernel_rfl, fun j t ht => ?_⟩
  rw [Tryd.params5] at ht
  have hm : t ∈ ([23, 23] : List Nat) := by simpa using Array.mem_of_getElem? ht
  have hall : (([23, 23] : List Nat).all fun u => !Tryd.prog.wantsStandIn u) = true := by kernel_rfl
  exact (show Tryd.prog.wantsStandIn t = false by simpa using List.all_eq_true.1 hall t hm)
theorem holds : Rows.KeysCmpCardSaid :=
  Claim7.holds_tied_plain_at .later [] _ _ _ _ said (fun _ h => by cases h) (by kernel_rfl) (fun _ h => by cases h) keysCmp_row_tie rfl ⟨rfl, rfl⟩ (by kernel_rfl) rfl plain (by kernel_rfl)
end KeysCmpProof
--END
end Go.Proofs.YtpobfheioondaaaDoor
