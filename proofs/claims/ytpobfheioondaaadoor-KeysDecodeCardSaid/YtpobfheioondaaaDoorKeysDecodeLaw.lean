/-
  Every text is read as the state's key whose text it is, or refused (KeysDecode). Condition, the statement's own: at most 4096 bytes.
-/
import Derived.Test.YtpobfheioondaaaDoorKeysAwake
import Derived.Test.YtpobfheioondaaaDoorKeysDecodeRef
import Derived.Test.YtpobfheioondaaaDoorCard
namespace Go.Proofs.YtpobfheioondaaaDoor
open Go.RowKit
set_option maxHeartbeats 4000000 in
theorem keysDecode_walk (s : ByteArray) (_hs : s.size ≤ reachBytes) (m : Int) (w : World) (hm : Max w m) :
    Calls Tryd.prog 4 #[.string s] w fun e w' => e = .returned (.bool true) ∧ Below w.heap.size w w' := by
  have hB0 := Below.refl w.heap.size w
  by_cases hg : s.size ≤ 4096
  · have h1 : (s.size : Int) ≤ (4096 : Int) := by omega
    have c1 := fun v => decode_any s hg v
    have c2 := fun v => refdecode_any s hg v
    obtain ⟨a, ha⟩ := named (Keys.dec s.data.toList).1.st
    obtain ⟨b, hb⟩ := named (Keys.dec s.data.toList).1.gr
    obtain ⟨K, hK⟩ := named (⟨(Keys.dec s.data.toList).1.key.toArray⟩ : ByteArray)
    obtain ⟨P, hP⟩ := named (⟨(Keys.dec s.data.toList).1.space.toArray⟩ : ByteArray)
    obtain ⟨U, hU⟩ := named (⟨(Keys.dec s.data.toList).1.sub.toArray⟩ : ByteArray)
    obtain ⟨E, hE⟩ := named (Keys.dec s.data.toList).2
    rw [← ha.out, ← hb.out, ← hK.out, ← hP.out, ← hU.out, ← hE.out] at c1 c2
    have C1 := Lib.hid c1
    have C2 := Lib.hid c2
    clear c1 c2 hg
    go_enter Tryd.func4, Tryd.ntmps4
    go_wp2_with (first
    | (go_at_call 19; ((with_reducible refine (C1.out _).mono ?_); rintro e w1 ⟨rfl, hb1⟩; have hm1 := carry hb1 hm; have x1 := box_new w1 a b K P U; have hB1 := hb1.alloc hb1.size (.cells #[.int .i64 a, .int .i64 b, .string K, .string P, .string U] 23)))
    | (go_at_call 20; ((with_reducible refine (C2.out _).mono ?_); rintro e w2 ⟨rfl, hb2⟩; have hm2 := carry' hb2 hm1; have x2 := box_below x1 hb2; obtain ⟨b0, b1, b2, b3, b4⟩ := box_below x2 (below_alloc w2 (.cells #[.int .i64 a, .int .i64 b, .string K, .string P, .string U] 23)); have hB2 := below_of (w := w) hB1 hb2))
    | (go_at_call 18; refine (awake_any m _ (hm2.alloc _)).mono ?_; rintro e w3 ⟨rfl, hb3⟩; have hB3 := below_of (w := w) (hB2.alloc hB2.size _) hb3))
    trace_state
    go_ret
    exact ⟨rfl, by assumption⟩
  · have h1 : (4096 : Int) < (s.size : Int) := by omega
    clear hg
    go_enter Tryd.func4, Tryd.ntmps4
    go_wp2_with (go_at_call 18; refine (awake_any m _ (by assumption)).mono ?_; rintro e w' ⟨rfl, hb⟩; have hB' := below_of (w := w) (by assumption) hb)
    go_ret
    exact ⟨rfl, by assumption⟩
--CARD freshetlaw03.KeysDecode keysDecode_walk string:s
--BEGIN
namespace KeysDecodeProof
open Go.ChangeShapes Go.WideShapes Go.ChangeAt Go.RowKit
open Go.ChangeMaps (open_string shut_string)
theorem own : ownKnob Tryd.prog.godebug = none := by kernel_rfl
theorem reads (os : Os) {H : Type} (enc : TypeId × Value → H) : ∃ places, DataW.whole enc Tryd.prog ((World.laidAll Tryd.prog os Rows.keysDecodeRow.laid).forCall (fun _ _ => 0) ⟨#[], #[.string .empty], []⟩).memory Tryd.f4.params.toList Rows.keysDecodeSpec.vars false (#[.string .empty] : Array Value).toList 8 = some ([.lit (.string [])], [], places) :=
  ⟨[], by kernel_rfl⟩
theorem laid_met (os : Os) (args : Array Value) : laidMetH Tryd.prog Rows.keysDecodeRow.laid ((World.laidAll Tryd.prog os Rows.keysDecodeRow.laid).forCall (fun _ _ => 0) ⟨#[], args, []⟩).memory := by
  rw [MakeChecks.laidMetH_plain _ _ _ (by kernel_rfl)]; exact laidMet_laidAll _ (by kernel_rfl) (by kernel_rfl)
set_option maxRecDepth 100000 in
theorem lifted (os : Os) (started : os.Started) (H : Type) (enc : TypeId × Value → H) (F : Stop.Interp) :
    ReturnsInHanded {} Tryd.checked os 4 .any ((OpenSpec.ofChange Rows.keysDecodeSpec).preRow enc Tryd.prog Tryd.f4 Rows.keysDecodeRow.domain false Rows.keysDecodeRow.laid) (((OpenSpec.ofChange Rows.keysDecodeSpec).at F).post enc Tryd.prog Tryd.f4 false true false false) := by
  obtain ⟨places, hx⟩ := reads os enc
  refine returnsInHanded_of_row (C := Tryd.checked) (s := OpenSpec.ofChange Rows.keysDecodeSpec) own started (by kernel_rfl) Tryd.func4
    (witness_row_shaped (enc := enc) (C := Tryd.checked) false (World.laidAll Tryd.prog os Rows.keysDecodeRow.laid) #[.string .empty] (World.laidAll_os _ _ _) (World.shaped_of_ZipB (by kernel_rfl) (by kernel_rfl)) (by kernel_rfl)
      (OpenSpec.preRow_of_cond 8 hx (by kernel_rfl) (fun k hk => by cases hk) (by kernel_rfl) (laid_met os _))) ?_
  intro W base args ds gs before hval0 hW _ hcond hsz _ hsh _
  have hval : ∀ (j : Nat) t v, Tryd.f4.params[j]? = some t → args[j]? = some v → Value.okWide Tryd.prog W .any base t v := hval0
  have hW' := hW
  obtain ⟨p, q, hA0, hV, rfl, hfz, hnd⟩ := hW
  have hA : DataW.TrodAll enc Tryd.prog W 0 (fun _ => true) true Tryd.f4.params.toList args.toList ds p := hA0
  rw [Tryd.params4] at hA hval hsz
  obtain ⟨v0, vs0, d0, ds0, p0, q0, hargs, rfl, rfl, h0, r0⟩ := trodAll_cons hA
  obtain ⟨rfl, rfl, rfl⟩ := trodAll_nil r0
  obtain rfl : args = #[v0] := by cases args; simp_all
  obtain ⟨rfl, rfl⟩ := trodVars_none hV
  obtain ⟨s, rfl, rfl, rfl, m0⟩ := open_string Tryd.underlying9 (hval 0 9 v0 rfl rfl) h0
  have z0 : s.size ≤ reachBytes := by have := sized_string hsz (j := 0) (t := 9) (bytes := s.data.toList) rfl rfl; simpa using this
  clear hA0 hval0
  simp only [List.append_nil] at hW'
  obtain ⟨mx, hmx⟩ := Tryd.laysM155.s1_3 W hsh
  refine (keysDecode_walk s z0 mx W hmx).mono fun e W' ⟨he, hg⟩ => ?_
  subst he
  exact ⟨_, rfl, _, _, _, [], [], [], hW', (trodAll_cons_mk (shut_bool Tryd.underlying4 _) trodAll_mk0), (trodAll_cons_mk (shut_string Tryd.underlying9 m0) trodAll_mk0), rfl, hg.frame _, fun h => by cases h⟩
theorem said : Rows.KeysDecodeSaid :=
  OpenClaim.holds_of_cond 4 Tryd.f4 rfl rfl rfl rfl rfl rfl rfl ⟨rfl, rfl, rfl, rfl, rfl⟩ rfl rfl rfl rfl rfl (by kernel_rfl) Tryd.func4 (by kernel_rfl)
    (of_decide_eq_true (by kernel_rfl)) (by unfold Func.isWrapper; first | (rw [if_pos (by decide +kernel)]; kernel_rfl) | (rw [if_neg (by decide +kernel)]; exact ⟨rfl, rfl⟩))
    (fun os started H enc _ F => by rw [OpenClaim.pre_eq_preRow]; exact lifted os started H enc F)
theorem plain (f : FuncId) (fn : Func) (hf : Tryd.pinned.checked.prog.funcNamed "freshet/freshetlaw03.KeysDecode" = some f) (hfn : Tryd.pinned.checked.prog.funcs[f]? = some fn) :
    false = Tryd.pinned.checked.prog.looks [] ∧ ∀ (j : Nat) t, fn.params[j]? = some t → Tryd.pinned.checked.prog.wantsStandIn t = false := by
  obtain rfl : f = 4 := Option.some.inj ((show Tryd.prog.funcNamed "freshet/freshetlaw03.KeysDecode" = some 4 by kernel_rfl).symm.trans hf) |>.symm
  obtain rfl : fn = Tryd.f4 := (Option.some.inj (Tryd.func4.symm.trans hfn)).symm
  refine ⟨by kernel_rfl, fun j t ht => ?_⟩
  rw [Tryd.params4] at ht
  have hm : t ∈ ([9] : List Nat) := by simpa using Array.mem_of_getElem? ht
  have hall : (([9] : List Nat).all fun u => !Tryd.prog.wantsStandIn u) = true := by kernel_rfl
  exact (show Tryd.prog.wantsStandIn t = false by simpa using List.all_eq_true.1 hall t hm)
theorem holds : Rows.KeysDecodeCardSaid :=
  Claim7.holds_tied_plain_at .later [] _ _ _ _ said (fun _ h => by cases h) (by kernel_rfl) (fun _ h => by cases h) keysDecode_row_tie rfl ⟨rfl, rfl⟩ (by kernel_rfl) rfl plain (by kernel_rfl)
end KeysDecodeProof
--END
end Go.Proofs.YtpobfheioondaaaDoor
