/-
  Every text is written, and all bytes are read, as the document's ordered texts (CodeText). Condition, the statement's own: at most 4096 bytes each.
-/
import Derived.Test.YtfmdjlhoikedpaaDoorCodeAwake
import Derived.Test.YtfmdjlhoikedpaaDoorCard
namespace Go.Proofs.YtfmdjlhoikedpaaDoor
open Go.RowKit
theorem codeText_walk (t : ByteArray) (_ht : t.size ≤ reachBytes) (s : ByteArray) (hs : s.size ≤ reachBytes) (m : Int) (w : World) (hm : Max w m) :
    Calls Tryd.prog 5 #[.string t, .string s] w fun e w' => e = .returned (.bool true) ∧ Below w.heap.size w w' := by
  have hB0 := Below.refl w.heap.size w
  by_cases hg : 4096 < t.size ∨ 4096 < s.size
  · have hB1 := hB0
    go_enter Tryd.func5, Tryd.ntmps5
    rcases hg with h1 | h1
    · have h1' : (4096 : Int) < (t.size : Int) := by omega
      go_wp2_with (go_at_call 17; refine (awake_any m _ (by assumption)).mono ?_; rintro e w' ⟨rfl, hb⟩; have hB' := below_of (by assumption) hb)
      go_ret
      exact ⟨rfl, by assumption⟩
    · have h1' : (4096 : Int) < (s.size : Int) := by omega
      by_cases h2 : 4096 < t.size
      · have h2' : (4096 : Int) < (t.size : Int) := by omega
        go_wp2_with (go_at_call 17; refine (awake_any m _ (by assumption)).mono ?_; rintro e w' ⟨rfl, hb⟩; have hB' := below_of (by assumption) hb)
        go_ret
        exact ⟨rfl, by assumption⟩
      · have h2' : (t.size : Int) ≤ (4096 : Int) := by omega
        go_wp2_with (go_at_call 17; refine (awake_any m _ (by assumption)).mono ?_; rintro e w' ⟨rfl, hb⟩; have hB' := below_of (by assumption) hb)
        go_ret
        exact ⟨rfl, by assumption⟩
  · have h1 : (t.size : Int) ≤ (4096 : Int) := by omega
    have h2 : (s.size : Int) ≤ (4096 : Int) := by omega
    have C1 := Lib.hid fun u => text_any s hs u
    have C2 := Lib.hid fun u => reftext_any s hs u
    have C3 := Lib.hid fun u h => puttext_any t (by omega) m u h
    have C4 := Lib.hid fun u => refputtext_any t (by omega) u
    clear hg
    go_enter Tryd.func5, Tryd.ntmps5
    go_wp2_with (first
    | (go_at_call 22; ((with_reducible refine (C1.out _).mono ?_); rintro e w' ⟨rfl, hb⟩; have hB' := below_of (by assumption) hb; have hm' := carry hb (by assumption)))
    | (go_at_call 23; ((with_reducible refine (C2.out _).mono ?_); rintro e w' ⟨rfl, rfl⟩))
    | (go_at_call 24; ((with_reducible refine (C3.out _ (by assumption)).mono ?_); rintro e w' ⟨rfl, hb⟩; have hB' := below_of (by assumption) hb; have hm' := carry hb (by assumption)))
    | (go_at_call 25; ((with_reducible refine (C4.out _).mono ?_); rintro e w' ⟨rfl, rfl⟩))
    | (go_at_call 17; refine (awake_any m _ (by assumption)).mono ?_; rintro e w' ⟨rfl, hb⟩; have hB' := below_of (by assumption) hb))
    go_ret
    exact ⟨rfl, by assumption⟩
--CARD freshetlaw02.CodeText codeText_walk string:t string:s
--BEGIN
namespace CodeTextProof
open Go.ChangeShapes Go.WideShapes Go.ChangeAt Go.RowKit
open Go.ChangeMaps (open_string shut_string)
theorem own : ownKnob Tryd.prog.godebug = none := by kernel_rfl
theorem reads (os : Os) {H : Type} (enc : TypeId × Value → H) : ∃ places, DataW.whole enc Tryd.prog ((World.laidAll Tryd.prog os Rows.codeTextRow.laid).forCall (fun _ _ => 0) ⟨#[], #[.string .empty, .string .empty], []⟩).memory Tryd.f5.params.toList Rows.codeTextSpec.vars false (#[.string .empty, .string .empty] : Array Value).toList 8 = some ([.lit (.string []), .lit (.string [])], [], places) :=
  ⟨[], by kernel_rfl⟩
theorem laid_met (os : Os) (args : Array Value) : laidMetH Tryd.prog Rows.codeTextRow.laid ((World.laidAll Tryd.prog os Rows.codeTextRow.laid).forCall (fun _ _ => 0) ⟨#[], args, []⟩).memory := by
  rw [MakeChecks.laidMetH_plain _ _ _ (by kernel_rfl)]; exact laidMet_laidAll _ (by kernel_rfl) (by kernel_rfl)
set_option maxRecDepth 100000 in
theorem lifted (os : Os) (started : os.Started) (H : Type) (enc : TypeId × Value → H) (F : Stop.Interp) :
    ReturnsInHanded {} Tryd.checked os 5 .any ((OpenSpec.ofChange Rows.codeTextSpec).preRow enc Tryd.prog Tryd.f5 Rows.codeTextRow.domain false Rows.codeTextRow.laid) (((OpenSpec.ofChange Rows.codeTextSpec).at F).post enc Tryd.prog Tryd.f5 false true false false) := by
  obtain ⟨places, hx⟩ := reads os enc
  refine returnsInHanded_of_row (C := Tryd.checked) (s := OpenSpec.ofChange Rows.codeTextSpec) own started (by kernel_rfl) Tryd.func5
    (witness_row_shaped (enc := enc) (C := Tryd.checked) false (World.laidAll Tryd.prog os Rows.codeTextRow.laid) #[.string .empty, .string .empty] (World.laidAll_os _ _ _) (World.shaped_of_ZipB (by kernel_rfl) (by kernel_rfl)) (by kernel_rfl)
      (OpenSpec.preRow_of_cond 8 hx (by kernel_rfl) (fun k hk => by cases hk) (by kernel_rfl) (laid_met os _))) ?_
  intro W base args ds gs before hval0 hW _ hcond hsz _ hsh _
  have hval : ∀ (j : Nat) t v, Tryd.f5.params[j]? = some t → args[j]? = some v → Value.okWide Tryd.prog W .any base t v := hval0
  have hW' := hW
  obtain ⟨p, q, hA0, hV, rfl, hfz, hnd⟩ := hW
  have hA : DataW.TrodAll enc Tryd.prog W 0 (fun _ => true) true Tryd.f5.params.toList args.toList ds p := hA0
  rw [Tryd.params5] at hA hval hsz
  obtain ⟨v0, vs0, d0, ds0, p0, q0, hargs, rfl, rfl, h0, r0⟩ := trodAll_cons hA
  obtain ⟨v1, vs1, d1, ds1, p1, q1, rfl, rfl, rfl, h1, r1⟩ := trodAll_cons r0
  obtain ⟨rfl, rfl, rfl⟩ := trodAll_nil r1
  obtain rfl : args = #[v0, v1] := by cases args; simp_all
  obtain ⟨rfl, rfl⟩ := trodVars_none hV
  obtain ⟨t, rfl, rfl, rfl, m0⟩ := open_string Tryd.underlying9 (hval 0 9 v0 rfl rfl) h0
  obtain ⟨s, rfl, rfl, rfl, m1⟩ := open_string Tryd.underlying9 (hval 1 9 v1 rfl rfl) h1
  have z0 : t.size ≤ reachBytes := by have := sized_string hsz (j := 0) (t := 9) (bytes := t.data.toList) rfl rfl; simpa using this
  have z1 : s.size ≤ reachBytes := by have := sized_string hsz (j := 1) (t := 9) (bytes := s.data.toList) rfl rfl; simpa using this
  clear hA0 hval0
  simp only [List.append_nil] at hW'
  obtain ⟨mx, hmx⟩ := Tryd.laysM155.s1_3 W hsh
  refine (codeText_walk t z0 s z1 mx W hmx).mono fun e W' ⟨he, hg⟩ => ?_
  subst he
  exact ⟨_, rfl, _, _, _, [], [], [], hW', (trodAll_cons_mk (shut_bool Tryd.underlying4 _) trodAll_mk0), (trodAll_cons_mk (shut_string Tryd.underlying9 m0) (trodAll_cons_mk (shut_string Tryd.underlying9 m1) trodAll_mk0)), rfl, hg.frame _, fun h => by cases h⟩
theorem said : Rows.CodeTextSaid :=
  OpenClaim.holds_of_cond 5 Tryd.f5 rfl rfl rfl rfl rfl rfl rfl ⟨rfl, rfl, rfl, rfl, rfl⟩ rfl rfl rfl rfl rfl (by kernel_rfl) Tryd.func5 (by kernel_rfl)
    (of_decide_eq_true (by kernel_rfl)) (by unfold Func.isWrapper; first | (rw [if_pos (by decide +kernel)]; kernel_rfl) | (rw [if_neg (by decide +kernel)]; exact ⟨rfl, rfl⟩))
    (fun os started H enc _ F => by rw [OpenClaim.pre_eq_preRow]; exact lifted os started H enc F)
theorem plain (f : FuncId) (fn : Func) (hf : Tryd.pinned.checked.prog.funcNamed "freshet/freshetlaw02.CodeText" = some f) (hfn : Tryd.pinned.checked.prog.funcs[f]? = some fn) :
    false = Tryd.pinned.checked.prog.looks [] ∧ ∀ (j : Nat) t, fn.params[j]? = some t → Tryd.pinned.checked.prog.wantsStandIn t = false := by
  obtain rfl : f = 5 := Option.some.inj ((show Tryd.prog.funcNamed "freshet/freshetlaw02.CodeText" = some 5 by kernel_rfl).symm.trans hf) |>.symm
  obtain rfl : fn = Tryd.f5 := (Option.some.inj (Tryd.func5.symm.trans hfn)).symm
  refine ⟨by kernel_rfl, fun j t ht => ?_⟩
  rw [Tryd.params5] at ht
  have hm : t ∈ ([9, 9] : List Nat) := by simpa using Array.mem_of_getElem? ht
  have hall : (([9, 9] : List Nat).all fun u => !Tryd.prog.wantsStandIn u) = true := by kernel_rfl
  exact (show Tryd.prog.wantsStandIn t = false by simpa using List.all_eq_true.1 hall t hm)
theorem holds : Rows.CodeTextCardSaid :=
  Claim7.holds_tied_plain_at .later [] _ _ _ _ said (fun _ h => by cases h) (by kernel_rfl) (fun _ h => by cases h) codeText_row_tie rfl ⟨rfl, rfl⟩ (by kernel_rfl) rfl plain (by kernel_rfl)
end CodeTextProof
--END
end Go.Proofs.YtfmdjlhoikedpaaDoor
