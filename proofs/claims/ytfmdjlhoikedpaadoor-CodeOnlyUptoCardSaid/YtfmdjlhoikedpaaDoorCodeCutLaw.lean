/-
  Of what is put each beginning that is not all ends too early (CodeCut). Condition, the statement's own: a text of at most 300 bytes.
-/
import Derived.Test.YtfmdjlhoikedpaaDoorCodeBackLaw
namespace Go.Proofs.YtfmdjlhoikedpaaDoor
open Go.RowKit
theorem list_cut (A : List UInt8) (k : Nat) : ((⟨A.toArray⟩ : ByteArray).extract 0 k).data.toList = A.take k := by
  rw [ByteArray.data_extract, Array.toList_extract, List.extract_eq_take_drop]; simp
theorem size_cut (A : List UInt8) (k : Nat) : ((⟨A.toArray⟩ : ByteArray).extract 0 k).size ≤ A.length := by
  rw [ByteArray.size_extract]; show min k A.toArray.size - 0 ≤ _; simp; omega
theorem codeCut_walk (x : Int) (hx : (Lit.int .u64 x).wf = true) (t : ByteArray) (_ht : t.size ≤ reachBytes) (y : Int) (hy : (Lit.int .i64 y).wf = true) (m : Int) (w : World) (hm : Max w m) :
    Calls Tryd.prog 12 #[.int .u64 x, .string t, .int .i64 y] w fun e w' => e = .returned (.bool true) ∧ Below w.heap.size w w' := by
  obtain ⟨n, hn, rfl⟩ := u64_nat2 hx
  have hyr := i64_range hy
  have hB0 := Below.refl w.heap.size w
  by_cases hg : 300 < t.size
  · have hg' : (300 : Int) < (t.size : Int) := by omega
    go_enter Tryd.func12, Tryd.ntmps12
    go_wp2_with (go_at_call 17; refine (awake_any m _ (by assumption)).mono ?_; rintro e w' ⟨rfl, hb⟩; have hB' := below_of (by assumption) hb)
    go_ret
    exact ⟨rfl, by assumption⟩
  have hg' : (t.size : Int) ≤ 300 := by omega
  have htl : t.data.toList.length = t.size := by simp
  have q1 := fun u => putuint_any n hn u
  have q3 := fun u h => puttext_any t (by omega) m u h
  have q4 := fun u => putfield_any t (by unfold reachBytes; omega) u
  have l1 := Code.uvar_ten hn
  have k1 := Code.uvar_len n
  have l3 : (Code.txt t.data.toList).length ≤ 602 := by unfold Code.txt; have := Code.esc_len t.data.toList; simp; omega
  have k3 : 2 ≤ (Code.txt t.data.toList).length := by unfold Code.txt; simp
  have l4 : (Code.uvar t.size ++ t.data.toList).length ≤ 310 := by have := Code.uvar_ten (n := t.size) (by omega); rw [List.length_append]; omega
  have k4 : 1 ≤ (Code.uvar t.size ++ t.data.toList).length := by have := Code.uvar_len t.size; rw [List.length_append]; omega
  have e1 := fun k (hk : k < (Code.uvar n).length) => Code.rd_cut n 0 k (by omega) hk
  have e3 := fun k (hk : k < (Code.txt t.data.toList).length) => Code.untxt_cut t.data.toList k hk
  have e4 := fun k (hk : k < (Code.uvar t.data.toList.length ++ t.data.toList).length) => Code.rdField_cut t.data.toList (by omega) 300 (by omega) k hk
  rw [htl] at e4
  obtain ⟨A1, h1⟩ := named (Code.uvar n)
  obtain ⟨A3, h3⟩ := named (Code.txt t.data.toList)
  obtain ⟨A4, h4⟩ := named (Code.uvar t.size ++ t.data.toList)
  simp only [← h1.out] at q1 l1 k1 e1
  simp only [← h3.out] at q3 l3 k3 e3
  simp only [← h4.out] at q4 l4 k4 e4
  have P1 := Lib.hid q1
  have P3 := Lib.hid q3
  have P4 := Lib.hid q4
  have C1 : Hid (∀ k u, k < A1.length → Calls Tryd.prog 13 #[.string ((⟨A1.toArray⟩ : ByteArray).extract 0 k)] u fun e w' => e = .returned (.tuple #[.int .u64 0, .int .i64 0, .int .i64 6]) ∧ Below u.heap.size u w') := Lib.hid fun k u hk =>
    (uint_any _ (by have := size_cut A1 k; unfold maxLen; omega) u).mono fun e w' ⟨he, hb⟩ => ⟨by rw [he, list_cut, e1 k hk]; rfl, hb⟩
  have C3 : Hid (∀ k u, k < A3.length → Calls Tryd.prog 22 #[.string ((⟨A3.toArray⟩ : ByteArray).extract 0 k)] u fun e w' => e = .returned (.tuple #[.string ⟨#[]⟩, .int .i64 0, .int .i64 6]) ∧ Below u.heap.size u w') := Lib.hid fun k u hk =>
    (text_any _ (by have := size_cut A3 k; unfold reachBytes; omega) u).mono fun e w' ⟨he, hb⟩ => ⟨by rw [he, list_cut, e3 k hk]; rfl, hb⟩
  have C4 : Hid (∀ k u, k < A4.length → Calls Tryd.prog 26 #[.string ((⟨A4.toArray⟩ : ByteArray).extract 0 k), .int .i64 300] u fun e w' => e = .returned (.tuple #[.string ⟨#[]⟩, .int .i64 0, .int .i64 6]) ∧ Below u.heap.size u w') := Lib.hid fun k u hk =>
    (field_any _ (by have := size_cut A4 k; unfold reachBytes; omega) 300 (by omega) u).mono fun e w' ⟨he, hb⟩ => ⟨by rw [he, list_cut, e4 k hk]; rfl, hb⟩
  have z1 : ¬ A1 = [] := fun e => by rw [e] at k1; simp at k1
  have z3 : ¬ A3 = [] := fun e => by rw [e] at k3; simp at k3
  have z4 : ¬ A4 = [] := fun e => by rw [e] at k4; simp at k4
  have y1 : ((A1.length : Int) == 0) = false := beq_eq_false_iff_ne.2 (by omega)
  have y3 : ((A3.length : Int) == 0) = false := beq_eq_false_iff_ne.2 (by omega)
  have y4 : ((A4.length : Int) == 0) = false := beq_eq_false_iff_ne.2 (by omega)
  clear q1 q3 q4 e1 e3 e4 htl hg
  go_enter Tryd.func12, Tryd.ntmps12
  by_cases hneg : y < 0
  all_goals
    go_wp2_with (first
      | (go_at_call 15; ((with_reducible refine (P1.out _).mono ?_); rintro e w' ⟨rfl, hb⟩; have hB' := below_of (by assumption) hb; have hm' := carry hb (by assumption)))
      | (go_at_call 24; ((with_reducible refine (P3.out _ (by assumption)).mono ?_); rintro e w' ⟨rfl, hb⟩; have hB' := below_of (by assumption) hb; have hm' := carry hb (by assumption)))
      | (go_at_call 28; ((with_reducible refine (P4.out _).mono ?_); rintro e w' ⟨rfl, hb⟩; have hB' := below_of (by assumption) hb; have hm' := carry hb (by assumption)))
      | (go_at_call 13; ((with_reducible refine (C1.out _ _ (by omega)).mono ?_); rintro e w' ⟨rfl, hb⟩; have hB' := below_of (by assumption) hb; have hm' := carry hb (by assumption)))
      | (go_at_call 22; ((with_reducible refine (C3.out _ _ (by omega)).mono ?_); rintro e w' ⟨rfl, hb⟩; have hB' := below_of (by assumption) hb; have hm' := carry hb (by assumption)))
      | (go_at_call 26; ((with_reducible refine (C4.out _ _ (by omega)).mono ?_); rintro e w' ⟨rfl, hb⟩; have hB' := below_of (by assumption) hb; have hm' := carry hb (by assumption)))
      | (go_at_call 17; refine (awake_any m _ (by assumption)).mono ?_; rintro e w' ⟨rfl, hb⟩; have hB' := below_of (by assumption) hb))
  all_goals go_ret
  all_goals exact ⟨rfl, by assumption⟩
--CARD freshetlaw02.CodeCut codeCut_walk uint64:x string:t int:y
--BEGIN
namespace CodeCutProof
open Go.ChangeShapes Go.WideShapes Go.ChangeAt Go.RowKit
open Go.ChangeMaps (open_string shut_string)
theorem own : ownKnob Tryd.prog.godebug = none := by kernel_rfl
theorem reads (os : Os) {H : Type} (enc : TypeId × Value → H) : ∃ places, DataW.whole enc Tryd.prog ((World.laidAll Tryd.prog os Rows.codeCutRow.laid).forCall (fun _ _ => 0) ⟨#[], #[.int .u64 0, .string .empty, .int .i64 0], []⟩).memory Tryd.f12.params.toList Rows.codeCutSpec.vars false (#[.int .u64 0, .string .empty, .int .i64 0] : Array Value).toList 8 = some ([.lit (.int .u64 0), .lit (.string []), .lit (.int .i64 0)], [], places) :=
  ⟨[], by kernel_rfl⟩
theorem laid_met (os : Os) (args : Array Value) : laidMetH Tryd.prog Rows.codeCutRow.laid ((World.laidAll Tryd.prog os Rows.codeCutRow.laid).forCall (fun _ _ => 0) ⟨#[], args, []⟩).memory := by
  rw [MakeChecks.laidMetH_plain _ _ _ (by kernel_rfl)]; exact laidMet_laidAll _ (by kernel_rfl) (by kernel_rfl)
set_option maxRecDepth 100000 in
theorem lifted (os : Os) (started : os.Started) (H : Type) (enc : TypeId × Value → H) (F : Stop.Interp) :
    ReturnsInHanded {} Tryd.checked os 12 .any ((OpenSpec.ofChange Rows.codeCutSpec).preRow enc Tryd.prog Tryd.f12 Rows.codeCutRow.domain false Rows.codeCutRow.laid) (((OpenSpec.ofChange Rows.codeCutSpec).at F).post enc Tryd.prog Tryd.f12 false true false false) := by
  obtain ⟨places, hx⟩ := reads os enc
  refine returnsInHanded_of_row (C := Tryd.checked) (s := OpenSpec.ofChange Rows.codeCutSpec) own started (by kernel_rfl) Tryd.func12
    (witness_row_shaped (enc := enc) (C := Tryd.checked) false (World.laidAll Tryd.prog os Rows.codeCutRow.laid) #[.int .u64 0, .string .empty, .int .i64 0] (World.laidAll_os _ _ _) (World.shaped_of_ZipB (by kernel_rfl) (by kernel_rfl)) (by kernel_rfl)
      (OpenSpec.preRow_of_cond 8 hx (by kernel_rfl) (fun k hk => by cases hk) (by kernel_rfl) (laid_met os _))) ?_
  intro W base args ds gs before hval0 hW _ hcond hsz _ hsh _
  have hval : ∀ (j : Nat) t v, Tryd.f12.params[j]? = some t → args[j]? = some v → Value.okWide Tryd.prog W .any base t v := hval0
  have hW' := hW
  obtain ⟨p, q, hA0, hV, rfl, hfz, hnd⟩ := hW
  have hA : DataW.TrodAll enc Tryd.prog W 0 (fun _ => true) true Tryd.f12.params.toList args.toList ds p := hA0
  rw [Tryd.params12] at hA hval hsz
  obtain ⟨v0, vs0, d0, ds0, p0, q0, hargs, rfl, rfl, h0, r0⟩ := trodAll_cons hA
  obtain ⟨v1, vs1, d1, ds1, p1, q1, rfl, rfl, rfl, h1, r1⟩ := trodAll_cons r0
  obtain ⟨v2, vs2, d2, ds2, p2, q2, rfl, rfl, rfl, h2, r2⟩ := trodAll_cons r1
  obtain ⟨rfl, rfl, rfl⟩ := trodAll_nil r2
  obtain rfl : args = #[v0, v1, v2] := by cases args; simp_all
  obtain ⟨rfl, rfl⟩ := trodVars_none hV
  obtain ⟨x, rfl, rfl, rfl, m0⟩ := open_int Tryd.underlying22 (hval 0 22 v0 rfl rfl) h0
  obtain ⟨t, rfl, rfl, rfl, m1⟩ := open_string Tryd.underlying9 (hval 1 9 v1 rfl rfl) h1
  obtain ⟨y, rfl, rfl, rfl, m2⟩ := open_int Tryd.underlying3 (hval 2 3 v2 rfl rfl) h2
  have z1 : t.size ≤ reachBytes := by have := sized_string hsz (j := 1) (t := 9) (bytes := t.data.toList) rfl rfl; simpa using this
  clear hA0 hval0
  simp only [List.append_nil] at hW'
  obtain ⟨mx, hmx⟩ := Tryd.laysM155.s1_3 W hsh
  refine (codeCut_walk x m0 t z1 y m2 mx W hmx).mono fun e W' ⟨he, hg⟩ => ?_
  subst he
  exact ⟨_, rfl, _, _, _, [], [], [], hW', (trodAll_cons_mk (shut_bool Tryd.underlying4 _) trodAll_mk0), (trodAll_cons_mk (shut_int Tryd.underlying22 m0) (trodAll_cons_mk (shut_string Tryd.underlying9 m1) (trodAll_cons_mk (shut_int Tryd.underlying3 m2) trodAll_mk0))), rfl, hg.frame _, fun h => by cases h⟩
theorem said : Rows.CodeCutSaid :=
  OpenClaim.holds_of_cond 12 Tryd.f12 rfl rfl rfl rfl rfl rfl rfl ⟨rfl, rfl, rfl, rfl, rfl⟩ rfl rfl rfl rfl rfl (by kernel_rfl) Tryd.func12 (by kernel_rfl)
    (of_decide_eq_true (by kernel_rfl)) (by unfold Func.isWrapper; first | (rw [if_pos (by decide +kernel)]; kernel_rfl) | (rw [if_neg (by decide +kernel)]; exact ⟨rfl, rfl⟩))
    (fun os started H enc _ F => by rw [OpenClaim.pre_eq_preRow]; exact lifted os started H enc F)
theorem plain (f : FuncId) (fn : Func) (hf : Tryd.pinned.checked.prog.funcNamed "freshet/freshetlaw02.CodeCut" = some f) (hfn : Tryd.pinned.checked.prog.funcs[f]? = some fn) :
    false = Tryd.pinned.checked.prog.looks [] ∧ ∀ (j : Nat) t, fn.params[j]? = some t → Tryd.pinned.checked.prog.wantsStandIn t = false := by
  obtain rfl : f = 12 := Option.some.inj ((show Tryd.prog.funcNamed "freshet/freshetlaw02.CodeCut" = some 12 by kernel_rfl).symm.trans hf) |>.symm
  obtain rfl : fn = Tryd.f12 := (Option.some.inj (Tryd.func12.symm.trans hfn)).symm
  refine ⟨by kernel_rfl, fun j t ht => ?_⟩
  rw [Tryd.params12] at ht
  have hm : t ∈ ([22, 9, 3] : List Nat) := by simpa using Array.mem_of_getElem? ht
  have hall : (([22, 9, 3] : List Nat).all fun u => !Tryd.prog.wantsStandIn u) = true := by kernel_rfl
  exact (show Tryd.prog.wantsStandIn t = false by simpa using List.all_eq_true.1 hall t hm)
theorem holds : Rows.CodeCutCardSaid :=
  Claim7.holds_tied_plain_at .later [] _ _ _ _ said (fun _ h => by cases h) (by kernel_rfl) (fun _ h => by cases h) codeCut_row_tie rfl ⟨rfl, rfl⟩ (by kernel_rfl) rfl plain (by kernel_rfl)
end CodeCutProof
--END
end Go.Proofs.YtfmdjlhoikedpaaDoor
