/-
  What is put is read back, whatever stands behind it (CodeBack, the second form: where what it reads is of bulk at most 1048576). No other condition.
-/
import Derived.Test.YtfmdjlhoikedpaaDoorCodeAwake
import Derived.Test.YtfmdjlhoikedpaaDoorCodeMath2
import Derived.Test.YtfmdjlhoikedpaaDoorCard
namespace Go.Proofs.YtfmdjlhoikedpaaDoor
open Go.RowKit
theorem u64_nat2 {x : Int} (h : (Lit.int .u64 x).wf = true) : ∃ n : Nat, n < 2 ^ 64 ∧ x = (n : Int) := by
  have hx : 0 ≤ x ∧ x ≤ 18446744073709551615 := by simpa [Lit.wf, IntKind.min, IntKind.max, IntKind.signed, IntKind.bits] using h
  exact ⟨x.toNat, by omega, by omega⟩
theorem list_app (A : List UInt8) (b : ByteArray) : ((⟨A.toArray⟩ : ByteArray) ++ b).data.toList = A ++ b.data.toList := by
  rw [ByteArray.data_append]; simp
theorem size_app (A : List UInt8) (b : ByteArray) : ((⟨A.toArray⟩ : ByteArray) ++ b).size = A.length + b.size := by
  rw [ByteArray.size_append]; rfl
theorem codeBack_walk (x : Int) (hx : (Lit.int .u64 x).wf = true) (y : Int) (hy : (Lit.int .i64 y).wf = true) (t : ByteArray) (ht : t.size ≤ 1048576) (b : ByteArray) (hbh : b.size ≤ 1048576) (m : Int) (w : World) (hm : Max w m) :
    Calls Tryd.prog 7 #[.int .u64 x, .int .i64 y, .string t, .string b] w fun e w' => e = .returned (.bool true) ∧ Below w.heap.size w w' := by
  obtain ⟨n, hn, rfl⟩ := u64_nat2 hx
  obtain ⟨U, hU, rfl⟩ := ord_up (i64_range hy)
  have hB0 := Below.refl w.heap.size w
  have htl : t.data.toList.length = t.size := by simp
  have q1 := fun u => putuint_any n hn u
  have q2 := fun u => putord_any U hU u
  have q3 := fun u h => puttext_any t (by omega) m u h
  have q4 := fun u => putfield_any t (by unfold reachBytes; omega) u
  have l1 := Code.uvar_ten hn
  have l2 := Code.be_length 8 U
  have l3 : (Code.txt t.data.toList).length ≤ 2097154 := by unfold Code.txt; have := Code.esc_len t.data.toList; simp; omega
  have l4 : (Code.uvar t.size ++ t.data.toList).length ≤ 1048586 := by have := Code.uvar_ten (n := t.size) (by omega); rw [List.length_append]; omega
  have e1 := Code.rd_uvar n 0 b.data.toList (by omega) (by omega) (by simpa using hn)
  have e2 := Code.rdOrd_be U hU b.data.toList
  have e3 := Code.untxt_txt t.data.toList b.data.toList
  have e4 := Code.rdField_fld t.data.toList b.data.toList (by omega) (t.size : Int) (by omega)
  rw [htl] at e4
  obtain ⟨A1, h1⟩ := named (Code.uvar n)
  obtain ⟨A2, h2⟩ := named (Code.be 8 U)
  obtain ⟨A3, h3⟩ := named (Code.txt t.data.toList)
  obtain ⟨A4, h4⟩ := named (Code.uvar t.size ++ t.data.toList)
  simp only [← h1.out] at q1 l1 e1
  simp only [← h2.out] at q2 l2 e2
  simp only [← h3.out] at q3 l3 e3
  simp only [← h4.out] at q4 l4 e4
  have P1 := Lib.hid q1
  have P2 := Lib.hid q2
  have P3 := Lib.hid q3
  have P4 := Lib.hid q4
  have tt : (⟨t.data.toList.toArray⟩ : ByteArray) = t := by rfl
  have C1 : Hid (∀ u, Calls Tryd.prog 13 #[.string (⟨A1.toArray⟩ ++ b)] u fun e w' => e = .returned (.tuple #[.int .u64 (n : Int), .int .i64 (A1.length : Int), .int .i64 0]) ∧ Below u.heap.size u w') := Lib.hid fun u =>
    (uint_any _ (by rw [size_app]; unfold maxLen; omega) u).mono fun e w' ⟨he, hb⟩ => ⟨by rw [he, list_app, e1]; rfl, hb⟩
  have C2 : Hid (∀ u, Calls Tryd.prog 18 #[.string (⟨A2.toArray⟩ ++ b)] u fun e w' => e = .returned (.tuple #[.int .i64 ((U : Int) - 9223372036854775808), .int .i64 0]) ∧ Below u.heap.size u w') := Lib.hid fun u =>
    (ord_any _ (by rw [size_app]; unfold maxLen; omega) u).mono fun e w' ⟨he, hb⟩ => ⟨by rw [he, list_app, e2]; rfl, hb⟩
  have C3 : Hid (∀ u, Calls Tryd.prog 22 #[.string (⟨A3.toArray⟩ ++ b)] u fun e w' => e = .returned (.tuple #[.string t, .int .i64 (A3.length : Int), .int .i64 0]) ∧ Below u.heap.size u w') := Lib.hid fun u =>
    (text_any _ (by rw [size_app]; unfold reachBytes; omega) u).mono fun e w' ⟨he, hb⟩ => ⟨by rw [he, list_app, e3]; rfl, hb⟩
  have C4 : Hid (∀ u, Calls Tryd.prog 26 #[.string (⟨A4.toArray⟩ ++ b), .int .i64 (t.size : Int)] u fun e w' => e = .returned (.tuple #[.string t, .int .i64 (A4.length : Int), .int .i64 0]) ∧ Below u.heap.size u w') := Lib.hid fun u =>
    (field_any _ (by rw [size_app]; unfold reachBytes; omega) _ (by omega) u).mono fun e w' ⟨he, hb⟩ => ⟨by rw [he, list_app, e4]; rfl, hb⟩
  clear q1 q2 q3 q4 e1 e2 e3 e4 htl tt
  go_enter Tryd.func7, Tryd.ntmps7
  go_wp2_with (first
    | (go_at_call 15; ((with_reducible refine (P1.out _).mono ?_); rintro e w' ⟨rfl, hb⟩; have hB' := below_of (by assumption) hb; have hm' := carry hb (by assumption)))
    | (go_at_call 20; ((with_reducible refine (P2.out _).mono ?_); rintro e w' ⟨rfl, hb⟩; have hB' := below_of (by assumption) hb; have hm' := carry hb (by assumption)))
    | (go_at_call 24; ((with_reducible refine (P3.out _ (by assumption)).mono ?_); rintro e w' ⟨rfl, hb⟩; have hB' := below_of (by assumption) hb; have hm' := carry hb (by assumption)))
    | (go_at_call 28; ((with_reducible refine (P4.out _).mono ?_); rintro e w' ⟨rfl, hb⟩; have hB' := below_of (by assumption) hb; have hm' := carry hb (by assumption)))
    | (go_at_call 13; ((with_reducible refine (C1.out _).mono ?_); rintro e w' ⟨rfl, hb⟩; have hB' := below_of (by assumption) hb; have hm' := carry hb (by assumption)))
    | (go_at_call 18; ((with_reducible refine (C2.out _).mono ?_); rintro e w' ⟨rfl, hb⟩; have hB' := below_of (by assumption) hb; have hm' := carry hb (by assumption)))
    | (go_at_call 22; ((with_reducible refine (C3.out _).mono ?_); rintro e w' ⟨rfl, hb⟩; have hB' := below_of (by assumption) hb; have hm' := carry hb (by assumption)))
    | (go_at_call 26; ((with_reducible refine (C4.out _).mono ?_); rintro e w' ⟨rfl, hb⟩; have hB' := below_of (by assumption) hb; have hm' := carry hb (by assumption)))
    | (go_at_call 17; refine (awake_any m _ (by assumption)).mono ?_; rintro e w' ⟨rfl, hb⟩; have hB' := below_of (by assumption) hb))
  go_ret
  exact ⟨rfl, by assumption⟩
--CARDUPTO freshetlaw02.CodeBack codeBack_walk uint64:x int64:y string:t string:b
--BEGIN
namespace CodeBackUptoProof
open Go.ChangeShapes Go.WideShapes Go.ChangeAt Go.RowKit
open Go.ChangeMaps (open_string shut_string)
theorem own : ownKnob Tryd.prog.godebug = none := by kernel_rfl
theorem reads (os : Os) {H : Type} (enc : TypeId × Value → H) : ∃ places, DataW.whole enc Tryd.prog ((World.laidAll Tryd.prog os Rows.codeBackUptoRow.laid).forCall (fun _ _ => 0) ⟨#[], #[.int .u64 0, .int .i64 0, .string .empty, .string .empty], []⟩).memory Tryd.f7.params.toList Rows.codeBackSpec.vars false (#[.int .u64 0, .int .i64 0, .string .empty, .string .empty] : Array Value).toList 8 = some ([.lit (.int .u64 0), .lit (.int .i64 0), .lit (.string []), .lit (.string [])], [], places) :=
  ⟨[], by kernel_rfl⟩
theorem laid_met (os : Os) (args : Array Value) : laidMetH Tryd.prog Rows.codeBackUptoRow.laid ((World.laidAll Tryd.prog os Rows.codeBackUptoRow.laid).forCall (fun _ _ => 0) ⟨#[], args, []⟩).memory := by
  rw [MakeChecks.laidMetH_plain _ _ _ (by kernel_rfl)]; exact laidMet_laidAll _ (by kernel_rfl) (by kernel_rfl)
set_option maxRecDepth 100000 in
theorem lifted (os : Os) (started : os.Started) (H : Type) (enc : TypeId × Value → H) (F : Stop.Interp) :
    ReturnsInHanded {} Tryd.checked os 7 .any ((Rows.OpenSpec.upto Rows.codeBackSpec).preRow enc Tryd.prog Tryd.f7 Rows.codeBackUptoRow.domain false Rows.codeBackUptoRow.laid) (((Rows.OpenSpec.upto Rows.codeBackSpec).at F).post enc Tryd.prog Tryd.f7 false true false false) := by
  obtain ⟨places, hx⟩ := reads os enc
  refine returnsInHanded_of_row (C := Tryd.checked) (s := Rows.OpenSpec.upto Rows.codeBackSpec) own started (by kernel_rfl) Tryd.func7
    (witness_row_shaped (enc := enc) (C := Tryd.checked) false (World.laidAll Tryd.prog os Rows.codeBackUptoRow.laid) #[.int .u64 0, .int .i64 0, .string .empty, .string .empty] (World.laidAll_os _ _ _) (World.shaped_of_ZipB (by kernel_rfl) (by kernel_rfl)) (by kernel_rfl)
      (OpenSpec.preRow_of_cond 8 hx (by kernel_rfl) (fun k hk => by cases hk; kernel_rfl) (by kernel_rfl) (laid_met os _))) ?_
  intro W base args ds gs before hval0 hW _ hcond hsz _ hsh _
  have hval : ∀ (j : Nat) t v, Tryd.f7.params[j]? = some t → args[j]? = some v → Value.okWide Tryd.prog W .any base t v := hval0
  have hW' := hW
  obtain ⟨p, q, hA0, hV, rfl, hfz, hnd⟩ := hW
  have hA : DataW.TrodAll enc Tryd.prog W 0 (fun _ => true) true Tryd.f7.params.toList args.toList ds p := hA0
  rw [Tryd.params7] at hA hval hsz
  obtain ⟨v0, vs0, d0, ds0, p0, q0, hargs, rfl, rfl, h0, r0⟩ := trodAll_cons hA
  obtain ⟨v1, vs1, d1, ds1, p1, q1, rfl, rfl, rfl, h1, r1⟩ := trodAll_cons r0
  obtain ⟨v2, vs2, d2, ds2, p2, q2, rfl, rfl, rfl, h2, r2⟩ := trodAll_cons r1
  obtain ⟨v3, vs3, d3, ds3, p3, q3, rfl, rfl, rfl, h3, r3⟩ := trodAll_cons r2
  obtain ⟨rfl, rfl, rfl⟩ := trodAll_nil r3
  obtain rfl : args = #[v0, v1, v2, v3] := by cases args; simp_all
  obtain ⟨rfl, rfl⟩ := trodVars_none hV
  obtain ⟨x, rfl, rfl, rfl, m0⟩ := open_int Tryd.underlying22 (hval 0 22 v0 rfl rfl) h0
  obtain ⟨y, rfl, rfl, rfl, m1⟩ := open_int Tryd.underlying2 (hval 1 2 v1 rfl rfl) h1
  obtain ⟨t, rfl, rfl, rfl, m2⟩ := open_string Tryd.underlying9 (hval 2 9 v2 rfl rfl) h2
  obtain ⟨b, rfl, rfl, rfl, m3⟩ := open_string Tryd.underlying9 (hval 3 9 v3 rfl rfl) h3
  have hu := of_decide_eq_true (hcond _ rfl)
  simp only [List.append_nil, Rows.uptoBulkAll, Rows.uptoBulk, Array.length_toList] at hu
  have z2 : t.size ≤ 1048576 := by have e : t.data.size = t.size := rfl; omega
  have z3 : b.size ≤ 1048576 := by have e : b.data.size = b.size := rfl; omega
  clear hA0 hval0
  simp only [List.append_nil] at hW'
  obtain ⟨mx, hmx⟩ := Tryd.laysM155.s1_3 W hsh
  refine (codeBack_walk x m0 y m1 t z2 b z3 mx W hmx).mono fun e W' ⟨he, hg⟩ => ?_
  subst he
  exact ⟨_, rfl, _, _, _, [], [], [], hW', (trodAll_cons_mk (shut_bool Tryd.underlying4 _) trodAll_mk0), (trodAll_cons_mk (shut_int Tryd.underlying22 m0) (trodAll_cons_mk (shut_int Tryd.underlying2 m1) (trodAll_cons_mk (shut_string Tryd.underlying9 m2) (trodAll_cons_mk (shut_string Tryd.underlying9 m3) trodAll_mk0)))), rfl, hg.frame _, fun h => by cases h⟩
theorem said : Rows.CodeBackUptoSaid :=
  OpenClaim.holds_of_cond 7 Tryd.f7 rfl rfl rfl rfl rfl rfl rfl ⟨rfl, rfl, rfl, rfl, rfl⟩ rfl rfl rfl rfl rfl (by kernel_rfl) Tryd.func7 (by kernel_rfl)
    (of_decide_eq_true (by kernel_rfl)) (by unfold Func.isWrapper; first | (rw [if_pos (by decide +kernel)]; kernel_rfl) | (rw [if_neg (by decide +kernel)]; exact ⟨rfl, rfl⟩))
    (fun os started H enc _ F => by rw [OpenClaim.pre_eq_preRow]; exact lifted os started H enc F)
theorem plain (f : FuncId) (fn : Func) (hf : Tryd.pinned.checked.prog.funcNamed "freshet/freshetlaw02.CodeBack" = some f) (hfn : Tryd.pinned.checked.prog.funcs[f]? = some fn) :
    false = Tryd.pinned.checked.prog.looks [] ∧ ∀ (j : Nat) t, fn.params[j]? = some t → Tryd.pinned.checked.prog.wantsStandIn t = false := by
  obtain rfl : f = 7 := Option.some.inj ((show Tryd.prog.funcNamed "freshet/freshetlaw02.CodeBack" = some 7 by kernel_rfl).symm.trans hf) |>.symm
  obtain rfl : fn = Tryd.f7 := (Option.some.inj (Tryd.func7.symm.trans hfn)).symm
  refine ⟨by kernel_rfl, fun j t ht => ?_⟩
  rw [Tryd.params7] at ht
  have hm : t ∈ ([22, 2, 9, 9] : List Nat) := by simpa using Array.mem_of_getElem? ht
  have hall : (([22, 2, 9, 9] : List Nat).all fun u => !Tryd.prog.wantsStandIn u) = true := by kernel_rfl
  exact (show Tryd.prog.wantsStandIn t = false by simpa using List.all_eq_true.1 hall t hm)
theorem holds : Rows.CodeBackUptoCardSaid :=
  Claim7.holds_tied_plain_at .later [] _ _ _ _ said (fun _ h => by cases h) (by kernel_rfl) (fun _ h => by cases h) codeBackUpto_row_tie rfl ⟨rfl, rfl⟩ (by kernel_rfl) rfl plain (by kernel_rfl)
end CodeBackUptoProof
--END
end Go.Proofs.YtfmdjlhoikedpaaDoor
