/-
  A group is one of those there are, and of one alone it is the first (KeysGroups). No condition.
-/
import Derived.Test.YtpobfheioondaaaDoorKeysAwake
import Derived.Test.YtpobfheioondaaaDoorKeysGroup
import Derived.Test.YtpobfheioondaaaDoorCard
namespace Go.Proofs.YtpobfheioondaaaDoor
open Go.RowKit
theorem group_one (l : List UInt8) : groupOf l 1 = (0, 0) := by
  unfold groupOf
  rw [if_neg (by omega), Int.emod_one]
theorem group_no (l : List UInt8) {n : Int} (h : n < 1 ∨ 64 < n) : groupOf l n = (0, 2) := by unfold groupOf; rw [if_pos h]
theorem group_yes (l : List UInt8) {n : Int} (h : ¬ (n < 1 ∨ 64 < n)) : (groupOf l n).2 = 0 ∧ 0 ≤ (groupOf l n).1 ∧ (groupOf l n).1 < n := by
  unfold groupOf
  rw [if_neg h]
  exact ⟨rfl, Int.emod_nonneg _ (by omega), Int.emod_lt_of_pos _ (by omega)⟩
set_option maxHeartbeats 4000000 in
theorem keysGroups_walk (s : ByteArray) (hs : s.size ≤ reachBytes) (n : Int) (_hn : (Lit.int .i64 n).wf = true) (m : Int) (w : World) (hm : Max w m) :
    Calls Tryd.prog 13 #[.string s, .int .i64 n] w fun e w' => e = .returned (.bool true) ∧ Below w.heap.size w w' := by
  have hB0 := Below.refl w.heap.size w
  have hs' := reach_max hs
  have c1 := fun v => group_any s hs' n v
  have c2 := fun v => group_any s hs' 1 v
  rw [group_one] at c2
  have C2 := Lib.hid c2
  clear c2
  by_cases h : n < 1 ∨ 64 < n
  · rw [group_no _ h] at c1
    have C1 := Lib.hid c1
    clear c1 hs hs'
    rcases (show n < 1 ∨ (1 ≤ n ∧ 64 < n) by omega) with h1 | ⟨h1, h2⟩
    all_goals
      clear h
      go_enter Tryd.func13, Tryd.ntmps13
      go_wp2_with (first
        | (go_at_call 25; ((with_reducible refine (C1.out _).mono ?_); rintro e w1 ⟨rfl, hb1⟩; have hm1 := carry hb1 hm))
        | (go_at_call 25; ((with_reducible refine (C2.out _).mono ?_); rintro e w2 ⟨rfl, hb2⟩; have hm2 := carry hb2 hm1; have hB2 := below_of hb1 hb2))
        | (go_at_call 18; refine (awake_any m _ hm2).mono ?_; rintro e w3 ⟨rfl, hb3⟩; have hB3 := below_of (w := w) hB2 hb3))
      go_ret
      exact ⟨rfl, by assumption⟩
  · obtain ⟨g1, g2, g3⟩ := group_yes s.data.toList h
    have h1 : 1 ≤ n := by omega
    have h2 : n ≤ 64 := by omega
    rw [g1] at c1
    obtain ⟨G, hG⟩ := named (groupOf s.data.toList n).1
    rw [← hG.out] at c1 g2 g3
    have C1 := Lib.hid c1
    clear c1 hs hs' g1 h
    go_enter Tryd.func13, Tryd.ntmps13
    go_wp2_with (first
      | (go_at_call 25; ((with_reducible refine (C1.out _).mono ?_); rintro e w1 ⟨rfl, hb1⟩; have hm1 := carry hb1 hm))
      | (go_at_call 25; ((with_reducible refine (C2.out _).mono ?_); rintro e w2 ⟨rfl, hb2⟩; have hm2 := carry hb2 hm1; have hB2 := below_of hb1 hb2))
      | (go_at_call 18; refine (awake_any m _ hm2).mono ?_; rintro e w3 ⟨rfl, hb3⟩; have hB3 := below_of (w := w) hB2 hb3))
    go_ret
    exact ⟨rfl, by assumption⟩
--CARD freshetlaw03.KeysGroups keysGroups_walk string:s int:n
--BEGIN
namespace KeysGroupsProof
open Go.ChangeShapes Go.WideShapes Go.ChangeAt Go.RowKit
open Go.ChangeMaps (open_string shut_string)
theorem own : ownKnob Tryd.prog.godebug = none := by kernel_rfl
theorem reads (os : Os) {H : Type} (enc : TypeId × Value → H) : ∃ places, DataW.whole enc Tryd.prog ((World.laidAll Tryd.prog os Rows.keysGroupsRow.laid).forCall (fun _ _ => 0) ⟨#[], #[.string .empty, .int .i64 0], []⟩).memory Tryd.f13.params.toList Rows.keysGroupsSpec.vars false (#[.string .empty, .int .i64 0] : Array Value).toList 8 = some ([.lit (.string []), .lit (.int .i64 0)], [], places) :=
  ⟨[], by kernel_rfl⟩
theorem laid_met (os : Os) (args : Array Value) : laidMetH Tryd.prog Rows.keysGroupsRow.laid ((World.laidAll Tryd.prog os Rows.keysGroupsRow.laid).forCall (fun _ _ => 0) ⟨#[], args, []⟩).memory := by
  rw [MakeChecks.laidMetH_plain _ _ _ (by kernel_rfl)]; exact laidMet_laidAll _ (by kernel_rfl) (by kernel_rfl)
set_option maxRecDepth 100000 in
theorem lifted (os : Os) (started : os.Started) (H : Type) (enc : TypeId × Value → H) (F : Stop.Interp) :
    ReturnsInHanded {} Tryd.checked os 13 .any ((OpenSpec.ofChange Rows.keysGroupsSpec).preRow enc Tryd.prog Tryd.f13 Rows.keysGroupsRow.domain false Rows.keysGroupsRow.laid) (((OpenSpec.ofChange Rows.keysGroupsSpec).at F).post enc Tryd.prog Tryd.f13 false true false false) := by
  obtain ⟨places, hx⟩ := reads os enc
  refine returnsInHanded_of_row (C := Tryd.checked) (s := OpenSpec.ofChange Rows.keysGroupsSpec) own started (by kernel_rfl) Tryd.func13
    (witness_row_shaped (enc := enc) (C := Tryd.checked) false (World.laidAll Tryd.prog os Rows.keysGroupsRow.laid) #[.string .empty, .int .i64 0] (World.laidAll_os _ _ _) (World.shaped_of_ZipB (by kernel_rfl) (by kernel_rfl)) (by kernel_rfl)
      (OpenSpec.preRow_of_cond 8 hx (by kernel_rfl) (fun k hk => by cases hk) (by kernel_rfl) (laid_met os _))) ?_
  intro W base args ds gs before hval0 hW _ hcond hsz _ hsh _
  have hval : ∀ (j : Nat) t v, Tryd.f13.params[j]? = some t → args[j]? = some v → Value.okWide Tryd.prog W .any base t v := hval0
  have hW' := hW
  obtain ⟨p, q, hA0, hV, rfl, hfz, hnd⟩ := hW
  have hA : DataW.TrodAll enc Tryd.prog W 0 (fun _ => true) true Tryd.f13.params.toList args.toList ds p := hA0
  rw [Tryd.params13] at hA hval hsz
  obtain ⟨v0, vs0, d0, ds0, p0, q0, hargs, rfl, rfl, h0, r0⟩ := trodAll_cons hA
  obtain ⟨v1, vs1, d1, ds1, p1, q1, rfl, rfl, rfl, h1, r1⟩ := trodAll_cons r0
  obtain ⟨rfl, rfl, rfl⟩ := trodAll_nil r1
  obtain rfl : args = #[v0, v1] := by cases args; simp_all
  obtain ⟨rfl, rfl⟩ := trodVars_none hV
  obtain ⟨s, rfl, rfl, rfl, m0⟩ := open_string Tryd.underlying9 (hval 0 9 v0 rfl rfl) h0
  obtain ⟨n, rfl, rfl, rfl, m1⟩ := open_int Tryd.underlying3 (hval 1 3 v1 rfl rfl) h1
  have z0 : s.size ≤ reachBytes := by have := sized_string hsz (j := 0) (t := 9) (bytes := s.data.toList) rfl rfl; simpa using this
  clear hA0 hval0
  simp only [List.append_nil] at hW'
  obtain ⟨mx, hmx⟩ := Tryd.laysM155.s1_3 W hsh
  refine (keysGroups_walk s z0 n m1 mx W hmx).mono fun e W' ⟨he, hg⟩ => ?_
  subst he
  exact ⟨_, rfl, _, _, _, [], [], [], hW', (trodAll_cons_mk (shut_bool Tryd.underlying4 _) trodAll_mk0), (trodAll_cons_mk (shut_string Tryd.underlying9 m0) (trodAll_cons_mk (shut_int Tryd.underlying3 m1) trodAll_mk0)), rfl, hg.frame _, fun h => by cases h⟩
theorem said : Rows.KeysGroupsSaid :=
  OpenClaim.holds_of_cond 13 Tryd.f13 rfl rfl rfl rfl rfl rfl rfl ⟨rfl, rfl, rfl, rfl, rfl⟩ rfl rfl rfl rfl rfl (by kernel_rfl) Tryd.func13 (by kernel_rfl)
    (of_decide_eq_true (by kernel_rfl)) (by unfold Func.isWrapper; first | (rw [if_pos (by decide +kernel)]; kernel_rfl) | (rw [if_neg (by decide +kernel)]; exact ⟨rfl, rfl⟩))
    (fun os started H enc _ F => by rw [OpenClaim.pre_eq_preRow]; exact lifted os started H enc F)
theorem plain (f : FuncId) (fn : Func) (hf : Tryd.pinned.checked.prog.funcNamed "freshet/freshetlaw03.KeysGroups" = some f) (hfn : Tryd.pinned.checked.prog.funcs[f]? = some fn) :
    false = Tryd.pinned.checked.prog.looks [] ∧ ∀ (j : Nat) t, fn.params[j]? = some t → Tryd.pinned.checked.prog.wantsStandIn t = false := by
  obtain rfl : f = 13 := Option.some.inj ((show Tryd.prog.funcNamed "freshet/freshetlaw03.KeysGroups" = some 13 by kernel_rfl).symm.trans hf) |>.symm
  obtain rfl : fn = Tryd.f13 := (Option.some.inj (Tryd.func13.symm.trans hfn)).symm
  refine ⟨by kernel_rfl, fun j t ht => ?_⟩
  rw [Tryd.params13] at ht
  have hm : t ∈ ([9, 3] : List Nat) := by simpa using Array.mem_of_getElem? ht
  have hall : (([9, 3] : List Nat).all fun u => !Tryd.prog.wantsStandIn u) = true := by kernel_rfl
  exact (show Tryd.prog.wantsStandIn t = false by simpa using List.all_eq_true.1 hall t hm)
theorem holds : Rows.KeysGroupsCardSaid :=
  Claim7.holds_tied_plain_at .later [] _ _ _ _ said (fun _ h => by cases h) (by kernel_rfl) (fun _ h => by cases h) keysGroups_row_tie rfl ⟨rfl, rfl⟩ (by kernel_rfl) rfl plain (by kernel_rfl)
end KeysGroupsProof
--END
end Go.Proofs.YtpobfheioondaaaDoor
