/-
  The range of the first parts of any state's key is the document's, or refused with the right error (KeysRange). No condition.
-/
import Derived.Test.YtpobfheioondaaaDoorKeysAwake
import Derived.Test.YtpobfheioondaaaDoorKeysRangeRef
import Derived.Test.YtpobfheioondaaaDoorCard
namespace Go.Proofs.YtpobfheioondaaaDoor
open Go.RowKit
set_option maxHeartbeats 4000000 in
theorem keysRange_walk (st gr : Int) (k p u : ByteArray) (n : Int) (_hn : (Lit.int .i64 n).wf = true) (m : Int) (w : World) (hm : Max w m) :
    Calls Tryd.prog 6 #[keyVal st gr k p u, .int .i64 n] w fun e w' => e = .returned (.bool true) ∧ Below w.heap.size w w' := by
  have c1 := fun v h => range_any st gr k p u n m v h
  have c2 := fun v => refrange_any st gr k p u n v
  obtain ⟨A, hA⟩ := named (⟨(Keys.rng (skOf st gr k p u) n).1.toArray⟩ : ByteArray)
  obtain ⟨B, hB⟩ := named (⟨(Keys.rng (skOf st gr k p u) n).2.1.toArray⟩ : ByteArray)
  obtain ⟨E, hE⟩ := named (Keys.rng (skOf st gr k p u) n).2.2
  rw [← hA.out, ← hB.out, ← hE.out] at c1 c2
  have C1 := Lib.hid c1
  have C2 := Lib.hid c2
  clear c1 c2
  go_enter Tryd.func6, Tryd.ntmps6
  go_wp2_with (first
    | (go_at_call 23; ((with_reducible refine (C1.out _ (hm.alloc _)).mono ?_); rintro e w1 ⟨rfl, hb1⟩; have hB1 := below_after hb1; have hm1 := carry' hb1 hm; have x1 := box_below (box_new w st gr k p u) hb1; obtain ⟨b0, b1, b2, b3, b4⟩ := id x1))
    | (go_at_call 24; ((with_reducible refine (C2.out _).mono ?_); rintro e w2 ⟨rfl, hb2⟩; have hB2 := below_of hB1 hb2; have hm2 := carry hb2 hm1))
    | (go_at_call 18; refine (awake_any m _ hm2).mono ?_; rintro e w3 ⟨rfl, hb3⟩; have hB3 := below_of (w := w) hB2 hb3))
  go_ret
  exact ⟨rfl, by assumption⟩
--CARD freshetlaw03.KeysRange keysRange_walk key:a int:n
--BEGIN
namespace KeysRangeProof
open Go.ChangeShapes Go.WideShapes Go.ChangeAt Go.RowKit
open Go.ChangeMaps (open_string shut_string)
theorem own : ownKnob Tryd.prog.godebug = none := by kernel_rfl
theorem reads (os : Os) {H : Type} (enc : TypeId × Value → H) : ∃ places, DataW.whole enc Tryd.prog ((World.laidAll Tryd.prog os Rows.keysRangeRow.laid).forCall (fun _ _ => 0) ⟨#[], #[.agg #[.int .i64 0, .int .i64 0, .string .empty, .string .empty, .string .empty], .int .i64 0], []⟩).memory Tryd.f6.params.toList Rows.keysRangeSpec.vars false (#[.agg #[.int .i64 0, .int .i64 0, .string .empty, .string .empty, .string .empty], .int .i64 0] : Array Value).toList 8 = some ([.agg [.lit (.int .i64 0), .lit (.int .i64 0), .lit (.string []), .lit (.string []), .lit (.string [])], .lit (.int .i64 0)], [], places) :=
  ⟨[], by kernel_rfl⟩
theorem laid_met (os : Os) (args : Array Value) : laidMetH Tryd.prog Rows.keysRangeRow.laid ((World.laidAll Tryd.prog os Rows.keysRangeRow.laid).forCall (fun _ _ => 0) ⟨#[], args, []⟩).memory := by
  rw [MakeChecks.laidMetH_plain _ _ _ (by kernel_rfl)]; exact laidMet_laidAll _ (by kernel_rfl) (by kernel_rfl)
set_option maxRecDepth 100000 in
theorem lifted (os : Os) (started : os.Started) (H : Type) (enc : TypeId × Value → H) (F : Stop.Interp) :
    ReturnsInHanded {} Tryd.checked os 6 .any ((OpenSpec.ofChange Rows.keysRangeSpec).preRow enc Tryd.prog Tryd.f6 Rows.keysRangeRow.domain false Rows.keysRangeRow.laid) (((OpenSpec.ofChange Rows.keysRangeSpec).at F).post enc Tryd.prog Tryd.f6 false true false false) := by
  obtain ⟨places, hx⟩ := reads os enc
  refine returnsInHanded_of_row (C := Tryd.checked) (s := OpenSpec.ofChange Rows.keysRangeSpec) own started (by kernel_rfl) Tryd.func6
    (witness_row_shaped (enc := enc) (C := Tryd.checked) false (World.laidAll Tryd.prog os Rows.keysRangeRow.laid) #[.agg #[.int .i64 0, .int .i64 0, .string .empty, .string .empty, .string .empty], .int .i64 0] (World.laidAll_os _ _ _) (World.shaped_of_ZipB (by kernel_rfl) (by kernel_rfl)) (by kernel_rfl)
      (OpenSpec.preRow_of_cond 8 hx (by kernel_rfl) (fun k hk => by cases hk) (by kernel_rfl) (laid_met os _))) ?_
  intro W base args ds gs before hval0 hW _ hcond hsz _ hsh _
  have hval : ∀ (j : Nat) t v, Tryd.f6.params[j]? = some t → args[j]? = some v → Value.okWide Tryd.prog W .any base t v := hval0
  have hW' := hW
  obtain ⟨p, q, hA0, hV, rfl, hfz, hnd⟩ := hW
  have hA : DataW.TrodAll enc Tryd.prog W 0 (fun _ => true) true Tryd.f6.params.toList args.toList ds p := hA0
  rw [Tryd.params6] at hA hval hsz
  obtain ⟨v0, vs0, d0, ds0, p0, q0, hargs, rfl, rfl, h0, r0⟩ := trodAll_cons hA
  obtain ⟨v1, vs1, d1, ds1, p1, q1, rfl, rfl, rfl, h1, r1⟩ := trodAll_cons r0
  obtain ⟨rfl, rfl, rfl⟩ := trodAll_nil r1
  obtain rfl : args = #[v0, v1] := by cases args; simp_all
  obtain ⟨rfl, rfl⟩ := trodVars_none hV
  obtain ⟨ast, agr, ak, ap, au, rfl, rfl, rfl, m0, q0a, q0b, q0c⟩ := open_key (hval 0 23 v0 rfl rfl) h0
  obtain ⟨n, rfl, rfl, rfl, m1⟩ := open_int Tryd.underlying3 (hval 1 3 v1 rfl rfl) h1
  have z0 := sized_key hsz (j := 0) (st := ast) (gr := agr) (k := ak) (p := ap) (u := au) rfl rfl
  clear hA0 hval0
  simp only [List.append_nil] at hW'
  obtain ⟨mx, hmx⟩ := Tryd.laysM155.s1_3 W hsh
  refine (keysRange_walk ast agr ak ap au n m1 mx W hmx).mono fun e W' ⟨he, hg⟩ => ?_
  subst he
  exact ⟨_, rfl, _, _, _, [], [], [], hW', (trodAll_cons_mk (shut_bool Tryd.underlying4 _) trodAll_mk0), (trodAll_cons_mk (shut_key m0.1 m0.2 q0a q0b q0c) (trodAll_cons_mk (shut_int Tryd.underlying3 m1) trodAll_mk0)), rfl, hg.frame _, fun h => by cases h⟩
theorem said : Rows.KeysRangeSaid :=
  OpenClaim.holds_of_cond 6 Tryd.f6 rfl rfl rfl rfl rfl rfl rfl ⟨rfl, rfl, rfl, rfl, rfl⟩ rfl rfl rfl rfl rfl (by kernel_rfl) Tryd.func6 (by kernel_rfl)
    (of_decide_eq_true (by kernel_rfl)) (by unfold Func.isWrapper; first | (rw [if_pos (by decide +kernel)]; kernel_rfl) | (rw [if_neg (by decide +kernel)]; exact ⟨rfl, rfl⟩))
    (fun os started H enc _ F => by rw [OpenClaim.pre_eq_preRow]; exact lifted os started H enc F)
theorem plain (f : FuncId) (fn : Func) (hf : Tryd.pinned.checked.prog.funcNamed "freshet/freshetlaw03.KeysRange" = some f) (hfn : Tryd.pinned.checked.prog.funcs[f]? = some fn) :
    false = Tryd.pinned.checked.prog.looks [] ∧ ∀ (j : Nat) t, fn.params[j]? = some t → Tryd.pinned.checked.prog.wantsStandIn t = false := by
  obtain rfl : f = 6 := Option.some.inj ((show Tryd.prog.funcNamed "freshet/freshetlaw03.KeysRange" = some 6 by kernel_rfl).symm.trans hf) |>.symm
  obtain rfl : fn = Tryd.f6 := (Option.some.inj (Tryd.func6.symm.trans hfn)).symm
  refine ⟨by kernel_rfl, fun j t ht => ?_⟩
  rw [Tryd.params6] at ht
  have hm : t ∈ ([23, 3] : List Nat) := by simpa using Array.mem_of_getElem? ht
  have hall : (([23, 3] : List Nat).all fun u => !Tryd.prog.wantsStandIn u) = true := by kernel_rfl
  exact (show Tryd.prog.wantsStandIn t = false by simpa using List.all_eq_true.1 hall t hm)
theorem holds : Rows.KeysRangeCardSaid :=
  Claim7.holds_tied_plain_at .later [] _ _ _ _ said (fun _ h => by cases h) (by kernel_rfl) (fun _ h => by cases h) keysRange_row_tie rfl ⟨rfl, rfl⟩ (by kernel_rfl) rfl plain (by kernel_rfl)
end KeysRangeProof
--END
end Go.Proofs.YtpobfheioondaaaDoor
