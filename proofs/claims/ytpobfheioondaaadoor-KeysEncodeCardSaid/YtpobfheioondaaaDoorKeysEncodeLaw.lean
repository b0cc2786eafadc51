/-
  Every state's key is written as the document says, or refused with the right error (KeysEncode). No condition.
-/
import Derived.Test.YtpobfheioondaaaDoorKeysAwake
import Derived.Test.YtpobfheioondaaaDoorKeysEncodeRef
import Derived.Test.YtpobfheioondaaaDoorCard
import Derived.Deep.RegionHeld
namespace Go.Proofs.YtpobfheioondaaaDoor
open Go.RowKit
theorem keysEncode_walk (st gr : Int) (k p u : ByteArray) (m : Int) (w : World) (hm : Max w m) :
    Calls Tryd.prog 3 #[keyVal st gr k p u] w fun e w' => e = .returned (.bool true) ∧ Below w.heap.size w w' := by
  have hB0 := Below.refl w.heap.size w
  have c1 := fun v h => encode_any st gr k p u m v h
  have c2 := fun v => refencode_any st gr k p u v
  have c3 := fun v => check_any st gr k p u v
  have c4 := fun v => refcheck_any st gr k p u v
  obtain ⟨S, hS⟩ := named (⟨(Keys.encode (skOf st gr k p u)).1.toArray⟩ : ByteArray)
  obtain ⟨E, hE⟩ := named (Keys.encode (skOf st gr k p u)).2
  obtain ⟨F, hF⟩ := named (Keys.check (skOf st gr k p u))
  rw [← hF.out] at c3 c4
  rw [← hS.out, ← hE.out] at c1 c2
  have C1 := Lib.hid c1
  have C2 := Lib.hid c2
  have C3 := Lib.hid c3
  have C4 := Lib.hid c4
  clear c1 c2 c3 c4
  go_enter Tryd.func3, Tryd.ntmps3
  go_wp2_with (first
    | (go_at_call 14; ((with_reducible refine (C1.out _ (hm.alloc _)).mono ?_); rintro e w1 ⟨rfl, hb1⟩; have hB1 := below_after hb1; have hm1 := carry' hb1 hm; have x1 := box_below (box_new w st gr k p u) hb1; obtain ⟨b0, b1, b2, b3, b4⟩ := id x1))
    | (go_at_call 15; ((with_reducible refine (C2.out _).mono ?_); rintro e w2 ⟨rfl, hb2⟩; have hB2 := below_of hB1 hb2; have hm2 := carry hb2 hm1; have x2 := box_below x1 hb2; obtain ⟨b0, b1, b2, b3, b4⟩ := id x2)))
  go_region_held (fun v => v.cell? ⟨w.heap.size, 0, none⟩ = some (.int .i64 st) ∧ v.cell? ⟨w.heap.size, 1, none⟩ = some (.int .i64 gr) ∧ v.cell? ⟨w.heap.size, 2, none⟩ = some (.string k) ∧ v.cell? ⟨w.heap.size, 3, none⟩ = some (.string p) ∧ v.cell? ⟨w.heap.size, 4, none⟩ = some (.string u))
    (first
      | exact x3
      | exact x4
      | exact x5
      | exact x2)
    (first
      | (go_at_call 16; ((with_reducible refine (C3.out _).mono ?_); rintro e w3 ⟨rfl, hb3⟩; have hB3 := below_of (w := w) (by first | exact hB4 | exact hB2 | exact hB2.drew) hb3; have hm3 : Max w3 m := carry hb3 (by first | exact hm4 | exact hm2); have x3 := box_below (by first | exact x4 | exact x2) hb3))
      | (go_at_call 17; ((with_reducible refine (C4.out _).mono ?_); rintro e w4 ⟨rfl, hb4⟩; have hB4 := below_of (w := w) (by first | exact hB3 | exact hB2 | exact hB2.drew) hb4; have hm4 : Max w4 m := carry hb4 (by first | exact hm3 | exact hm2); have x4 := box_below (by first | exact x3 | exact x2) hb4))
      | (go_at_call 18; refine (awake_any m _ (by first | exact hm4 | exact hm3 | exact hm2)).mono ?_; rintro e w5 ⟨rfl, hb5⟩; have hB5 := below_of (w := w) (by first | exact hB4 | exact hB3 | exact hB2 | exact hB2.drew) hb5; have x5 := box_below (by first | exact x4 | exact x3 | exact x2) hb5))
  all_goals go_wp2
  all_goals go_ret
  all_goals trace_state
  all_goals exact ⟨rfl, by first | assumption | (refine Below.drew ?_; assumption)⟩
--CARD freshetlaw03.KeysEncode keysEncode_walk key:a
--BEGIN
namespace KeysEncodeProof
open Go.ChangeShapes Go.WideShapes Go.ChangeAt Go.RowKit
open Go.ChangeMaps (open_string shut_string)
theorem own : ownKnob Tryd.prog.godebug = none := by kernel_rfl
theorem reads (os : Os) {H : Type} (enc : TypeId × Value → H) : ∃ places, DataW.whole enc Tryd.prog ((World.laidAll Tryd.prog os Rows.keysEncodeRow.laid).forCall (fun _ _ => 0) ⟨#[], #[.agg #[.int .i64 0, .int .i64 0, .string .empty, .string .empty, .string .empty]], []⟩).memory Tryd.f3.params.toList Rows.keysEncodeSpec.vars false (#[.agg #[.int .i64 0, .int .i64 0, .string .empty, .string .empty, .string .empty]] : Array Value).toList 8 = some ([.agg [.lit (.int .i64 0), .lit (.int .i64 0), .lit (.string []), .lit (.string []), .lit (.string [])]], [], places) :=
  ⟨[], by kernel_rfl⟩
theorem laid_met (os : Os) (args : Array Value) : laidMetH Tryd.prog Rows.keysEncodeRow.laid ((World.laidAll Tryd.prog os Rows.keysEncodeRow.laid).forCall (fun _ _ => 0) ⟨#[], args, []⟩).memory := by
  rw [MakeChecks.laidMetH_plain _ _ _ (by kernel_rfl)]; exact laidMet_laidAll _ (by kernel_rfl) (by kernel_rfl)
set_option maxRecDepth 100000 in
theorem lifted (os : Os) (started : os.Started) (H : Type) (enc : TypeId × Value → H) (F : Stop.Interp) :
    ReturnsInHanded {} Tryd.checked os 3 .any ((OpenSpec.ofChange Rows.keysEncodeSpec).preRow enc Tryd.prog Tryd.f3 Rows.keysEncodeRow.domain false Rows.keysEncodeRow.laid) (((OpenSpec.ofChange Rows.keysEncodeSpec).at F).post enc Tryd.prog Tryd.f3 false true false false) := by
  obtain ⟨places, hx⟩ := reads os enc
  refine returnsInHanded_of_row (C := Tryd.checked) (s := OpenSpec.ofChange Rows.keysEncodeSpec) own started (by kernel_rfl) Tryd.func3
    (witness_row_shaped (enc := enc) (C := Tryd.checked) false (World.laidAll Tryd.prog os Rows.keysEncodeRow.laid) #[.agg #[.int .i64 0, .int .i64 0, .string .empty, .string .empty, .string .empty]] (World.laidAll_os _ _ _) (World.shaped_of_ZipB (by kernel_rfl) (by kernel_rfl)) (by kernel_rfl)
      (OpenSpec.preRow_of_cond 8 hx (by kernel_rfl) (fun k hk => by cases hk) (by kernel_rfl) (laid_met os _))) ?_
  intro W base args ds gs before hval0 hW _ hcond hsz _ hsh _
  have hval : ∀ (j : Nat) t v, Tryd.f3.params[j]? = some t → args[j]? = some v → Value.okWide Tryd.prog W .any base t v := hval0
  have hW' := hW
  obtain ⟨p, q, hA0, hV, rfl, hfz, hnd⟩ := hW
  have hA : DataW.TrodAll enc Tryd.prog W 0 (fun _ => true) true Tryd.f3.params.toList args.toList ds p := hA0
  rw [Tryd.params3] at hA hval hsz
  obtain ⟨v0, vs0, d0, ds0, p0, q0, hargs, rfl, rfl, h0, r0⟩ := trodAll_cons hA
  obtain ⟨rfl, rfl, rfl⟩ := trodAll_nil r0
  obtain rfl : args = #[v0] := by cases args; simp_all
  obtain ⟨rfl, rfl⟩ := trodVars_none hV
  obtain ⟨ast, agr, ak, ap, au, rfl, rfl, rfl, m0, q0a, q0b, q0c⟩ := open_key (hval 0 23 v0 rfl rfl) h0
  have z0 := sized_key hsz (j := 0) (st := ast) (gr := agr) (k := ak) (p := ap) (u := au) rfl rfl
  clear hA0 hval0
  simp only [List.append_nil] at hW'
  obtain ⟨mx, hmx⟩ := Tryd.laysM155.s1_3 W hsh
  refine (keysEncode_walk ast agr ak ap au mx W hmx).mono fun e W' ⟨he, hg⟩ => ?_
  subst he
  exact ⟨_, rfl, _, _, _, [], [], [], hW', (trodAll_cons_mk (shut_bool Tryd.underlying4 _) trodAll_mk0), (trodAll_cons_mk (shut_key m0.1 m0.2 q0a q0b q0c) trodAll_mk0), rfl, hg.frame _, fun h => by cases h⟩
theorem said : Rows.KeysEncodeSaid :=
  OpenClaim.holds_of_cond 3 Tryd.f3 rfl rfl rfl rfl rfl rfl rfl ⟨rfl, rfl, rfl, rfl, rfl⟩ rfl rfl rfl rfl rfl (by kernel_rfl) Tryd.func3 (by kernel_rfl)
    (of_decide_eq_true (by kernel_rfl)) (by unfold Func.isWrapper; first | (rw [if_pos (by decide +kernel)]; kernel_rfl) | (rw [if_neg (by decide +kernel)]; exact ⟨rfl, rfl⟩))
    (fun os started H enc _ F => by rw [OpenClaim.pre_eq_preRow]; exact lifted os started H enc F)
theorem plain (f : FuncId) (fn : Func) (hf : Tryd.pinned.checked.prog.funcNamed "freshet/freshetlaw03.KeysEncode" = some f) (hfn : Tryd.pinned.checked.prog.funcs[f]? = some fn) :
    false = Tryd.pinned.checked.prog.looks [] ∧ ∀ (j : Nat) t, fn.params[j]? = some t → Tryd.pinned.checked.prog.wantsStandIn t = false := by
  obtain rfl : f = 3 := Option.some.inj ((show Tryd.prog.funcNamed "freshet/freshetlaw03.KeysEncode" = some 3 by kernel_rfl).symm.trans hf) |>.symm
  obtain rfl : fn = Tryd.f3 := (Option.some.inj (Tryd.func3.symm.trans hfn)).symm
  refine ⟨by kernel_rfl, fun j t ht => ?_⟩
  rw [Tryd.params3] at ht
  have hm : t ∈ ([23] : List Nat) := by simpa using Array.mem_of_getElem? ht
  have hall : (([23] : List Nat).all fun u => !Tryd.prog.wantsStandIn u) = true := by kernel_rfl
  exact (show Tryd.prog.wantsStandIn t = false by simpa using List.all_eq_true.1 hall t hm)
theorem holds : Rows.KeysEncodeCardSaid :=
  Claim7.holds_tied_plain_at .later [] _ _ _ _ said (fun _ h => by cases h) (by kernel_rfl) (fun _ h => by cases h) keysEncode_row_tie rfl ⟨rfl, rfl⟩ (by kernel_rfl) rfl plain (by kernel_rfl)
end KeysEncodeProof
--END
end Go.Proofs.YtpobfheioondaaaDoor
