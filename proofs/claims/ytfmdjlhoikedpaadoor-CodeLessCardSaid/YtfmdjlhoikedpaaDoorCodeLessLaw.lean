/-
  Of two numbers the lesser one has not more bytes, and each has 1 to 10 (CodeLess). No condition.
-/
import Derived.Test.YtfmdjlhoikedpaaDoorCodeAwake
import Derived.Test.YtfmdjlhoikedpaaDoorCard
namespace Go.Proofs.YtfmdjlhoikedpaaDoor
open Go.RowKit
theorem u64_nat' {x : Int} (h : (Lit.int .u64 x).wf = true) : ∃ n : Nat, n < 2 ^ 64 ∧ x = (n : Int) := by
  have hx : 0 ≤ x ∧ x ≤ 18446744073709551615 := by simpa [Lit.wf, IntKind.min, IntKind.max, IntKind.signed, IntKind.bits] using h
  exact ⟨x.toNat, by omega, by omega⟩
theorem codeLess_walk (x : Int) (hx : (Lit.int .u64 x).wf = true) (y : Int) (hy : (Lit.int .u64 y).wf = true) (m : Int) (w : World) (hm : Max w m) :
    Calls Tryd.prog 10 #[.int .u64 x, .int .u64 y] w fun e w' => e = .returned (.bool true) ∧ Below w.heap.size w w' := by
  obtain ⟨a, ha, rfl⟩ := u64_nat' hx
  obtain ⟨b, hb, rfl⟩ := u64_nat' hy
  have hB0 := Below.refl w.heap.size w
  have l1 := Code.uvar_len a
  have l2 := Code.uvar_len b
  have l3 := Code.uvar_ten ha
  have l4 := Code.uvar_ten hb
  have l5 := Code.uvar_mono a b
  have l6 := Code.uvar_mono b a
  have D1 := fun u => putuint_any a ha u
  have D2 := fun u => putuint_any b hb u
  obtain ⟨A, hA⟩ := named (Code.uvar a)
  obtain ⟨B, hB⟩ := named (Code.uvar b)
  simp only [← hA.out] at l1 l3 l5 l6 D1
  simp only [← hB.out] at l2 l4 l5 l6 D2
  have C1 := Lib.hid D1
  have C2 := Lib.hid D2
  clear D1 D2
  have i1 : 1 ≤ (A.length : Int) := by omega
  have i2 : 1 ≤ (B.length : Int) := by omega
  have i3 : (A.length : Int) ≤ 10 := by omega
  have i4 : (B.length : Int) ≤ 10 := by omega
  have h : ((a : Int) < b ∧ (A.length : Int) ≤ B.length) ∨ ((a : Int) = b ∧ (A.length : Int) = B.length) ∨ ((b : Int) < a ∧ (B.length : Int) ≤ A.length) := by
    rcases Nat.lt_trichotomy a b with g | g | g
    · have := l6 (by omega); exact Or.inl ⟨by omega, by omega⟩
    · have := l6 (by omega); have := l5 (by omega); exact Or.inr (Or.inl ⟨by omega, by omega⟩)
    · have := l5 (by omega); exact Or.inr (Or.inr ⟨by omega, by omega⟩)
  clear l5 l6
  go_enter Tryd.func10, Tryd.ntmps10
  rcases h with ⟨h1, h2⟩ | ⟨h1, h2⟩ | ⟨h1, h2⟩
  all_goals
    go_wp2_with (first
    | (go_at_call 15; ((with_reducible refine (C1.out _).mono ?_); rintro e w' ⟨rfl, hb⟩; have hB' := below_of (by assumption) hb; have hm' := carry hb (by assumption)))
    | (go_at_call 15; ((with_reducible refine (C2.out _).mono ?_); rintro e w' ⟨rfl, hb⟩; have hB' := below_of (by assumption) hb; have hm' := carry hb (by assumption)))
    | (go_at_call 17; refine (awake_any m _ (by assumption)).mono ?_; rintro e w' ⟨rfl, hb⟩; have hB' := below_of (by assumption) hb))
  all_goals go_ret
  all_goals exact ⟨rfl, by assumption⟩
--CARD freshetlaw02.CodeLess codeLess_walk uint64:x uint64:y
--BEGIN
namespace CodeLessProof
open Go.ChangeShapes Go.WideShapes Go.ChangeAt Go.RowKit
open Go.ChangeMaps (open_string shut_string)
theorem own : ownKnob Tryd.prog.godebug = none := by kernel_rfl
theorem reads (os : Os) {H : Type} (enc : TypeId × Value → H) : ∃ places, DataW.whole enc Tryd.prog ((World.laidAll Tryd.prog os Rows.codeLessRow.laid).forCall (fun _ _ => 0) ⟨#[], #[.int .u64 0, .int .u64 0], []⟩).memory Tryd.f10.params.toList Rows.codeLessSpec.vars false (#[.int .u64 0, .int .u64 0] : Array Value).toList 8 = some ([.lit (.int .u64 0), .lit (.int .u64 0)], [], places) :=
  ⟨[], by kernel_rfl⟩
theorem laid_met (os : Os) (args : Array Value) : laidMetH Tryd.prog Rows.codeLessRow.laid ((World.laidAll Tryd.prog os Rows.codeLessRow.laid).forCall (fun _ _ => 0) ⟨#[], args, []⟩).memory := by
  rw [MakeChecks.laidMetH_plain _ _ _ (by kernel_rfl)]; exact laidMet_laidAll _ (by kernel_rfl) (by kernel_rfl)
set_option maxRecDepth 100000 in
theorem lifted (os : Os) (started : os.Started) (H : Type) (enc : TypeId × Value → H) (F : Stop.Interp) :
    ReturnsInHanded {} Tryd.checked os 10 .any ((OpenSpec.ofChange Rows.codeLessSpec).preRow enc Tryd.prog Tryd.f10 Rows.codeLessRow.domain false Rows.codeLessRow.laid) (((OpenSpec.ofChange Rows.codeLessSpec).at F).post enc Tryd.prog Tryd.f10 false true false false) := by
  obtain ⟨places, hx⟩ := reads os enc
  refine returnsInHanded_of_row (C := Tryd.checked) (s := OpenSpec.ofChange Rows.codeLessSpec) own started (by kernel_rfl) Tryd.func10
    (witness_row_shaped (enc := enc) (C := Tryd.checked) false (World.laidAll Tryd.prog os Rows.codeLessRow.laid) #[.int .u64 0, .int .u64 0] (World.laidAll_os _ _ _) (World.shaped_of_ZipB (by kernel_rfl) (by kernel_rfl)) (by kernel_rfl)
      (OpenSpec.preRow_of_cond 8 hx (by kernel_rfl) (fun k hk => by cases hk) (by kernel_rfl) (laid_met os _))) ?_
  intro W base args ds gs before hval0 hW _ hcond hsz _ hsh _
  have hval : ∀ (j : Nat) t v, Tryd.f10.params[j]? = some t → args[j]? = some v → Value.okWide Tryd.prog W .any base t v := hval0
  have hW' := hW
  obtain ⟨p, q, hA0, hV, rfl, hfz, hnd⟩ := hW
  have hA : DataW.TrodAll enc Tryd.prog W 0 (fun _ => true) true Tryd.f10.params.toList args.toList ds p := hA0
  rw [Tryd.params10] at hA hval hsz
  obtain ⟨v0, vs0, d0, ds0, p0, q0, hargs, rfl, rfl, h0, r0⟩ := trodAll_cons hA
  obtain ⟨v1, vs1, d1, ds1, p1, q1, rfl, rfl, rfl, h1, r1⟩ := trodAll_cons r0
  obtain ⟨rfl, rfl, rfl⟩ := trodAll_nil r1
  obtain rfl : args = #[v0, v1] := by cases args; simp_all
  obtain ⟨rfl, rfl⟩ := trodVars_none hV
  obtain ⟨x, rfl, rfl, rfl, m0⟩ := open_int Tryd.underlying22 (hval 0 22 v0 rfl rfl) h0
  obtain ⟨y, rfl, rfl, rfl, m1⟩ := open_int Tryd.underlying22 (hval 1 22 v1 rfl rfl) h1
  clear hA0 hval0
  simp only [List.append_nil] at hW'
  obtain ⟨mx, hmx⟩ := Tryd.laysM155.s1_3 W hsh
  refine (codeLess_walk x m0 y m1 mx W hmx).mono fun e W' ⟨he, hg⟩ => ?_
  subst he
  exact ⟨_, rfl, _, _, _, [], [], [], hW', (trodAll_cons_mk (shut_bool Tryd.underlying4 _) trodAll_mk0), (trodAll_cons_mk (shut_int Tryd.underlying22 m0) (trodAll_cons_mk (shut_int Tryd.underlying22 m1) trodAll_mk0)), rfl, hg.frame _, fun h => by cases h⟩
theorem said : Rows.CodeLessSaid :=
  OpenClaim.holds_of_cond 10 Tryd.f10 rfl rfl rfl rfl rfl rfl rfl ⟨rfl, rfl, rfl, rfl, rfl⟩ rfl rfl rfl rfl rfl (by kernel_rfl) Tryd.func10 (by kernel_rfl)
    (of_decide_eq_true (by kernel_rfl)) (by unfold Func.isWrapper; first | (rw [if_pos (by decide +kernel)]; kernel_rfl) | (rw [if_neg (by decide +kernel)]; exact ⟨rfl, rfl⟩))
    (fun os started H enc _ F => by rw [OpenClaim.pre_eq_preRow]; exact lifted os started H enc F)
theorem plain (f : FuncId) (fn : Func) (hf : Tryd.pinned.checked.prog.funcNamed "freshet/freshetlaw02.CodeLess" = some f) (hfn : Tryd.pinned.checked.prog.funcs[f]? = some fn) :
    false = Tryd.pinned.checked.prog.looks [] ∧ ∀ (j : Nat) t, fn.params[j]? = some t → Tryd.pinned.checked.prog.wantsStandIn t = false := by
  obtain rfl : f = 10 := Option.some.inj ((show Tryd.prog.funcNamed "freshet/freshetlaw02.CodeLess" = some 10 by kernel_rfl).symm.trans hf) |>.symm
  obtain rfl : fn = Tryd.f10 := (Option.some.inj (Tryd.func10.symm.trans hfn)).symm
  refine ⟨by kernel_rfl, fun j t ht => ?_⟩
  rw [Tryd.params10] at ht
  have hm : t ∈ ([22, 22] : List Nat) := by simpa using Array.mem_of_getElem? ht
  have hall : (([22, 22] : List Nat).all fun u => !Tryd.prog.wantsStandIn u) = true := by kernel_rfl
  exact (show Tryd.prog.wantsStandIn t = false by simpa using List.all_eq_true.1 hall t hm)
theorem holds : Rows.CodeLessCardSaid :=
  Claim7.holds_tied_plain_at .later [] _ _ _ _ said (fun _ h => by cases h) (by kernel_rfl) (fun _ h => by cases h) codeLess_row_tie rfl ⟨rfl, rfl⟩ (by kernel_rfl) rfl plain (by kernel_rfl)
end CodeLessProof
--END
end Go.Proofs.YtfmdjlhoikedpaaDoor
