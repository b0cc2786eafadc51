/-
  Ordered numbers and ordered texts stand in the order of what they tell, whatever stands behind the texts, and no ordered text begins another one (CodeOrder, the second form: where what it reads is of bulk at most 1048576). No other condition.
-/
import Derived.Test.YtfmdjlhoikedpaaDoorCodeCutLaw
import Derived.Test.YtfmdjlhoikedpaaDoorCodeMath3
namespace Go.Proofs.YtfmdjlhoikedpaaDoor
open Go.RowKit
theorem bytes_of (x : ByteArray) : x.toList = x.data.toList := Lib.toList_data x
theorem beq_bytes {x y : ByteArray} (h : x ≠ y) : (x.toList == y.toList) = false := (Lib.bytes_beq_false_iff x y).2 h
/-- What the walk is told of two numbers' texts and of two texts' texts. -/
structure OrdFacts (U V : Nat) (a b : ByteArray) : Prop where
  less : Op.bytesLess a.toList b.toList = decide ((U : Int) - 9223372036854775808 < (V : Int) - 9223372036854775808)
  same : (a.toList == b.toList) = ((U : Int) - 9223372036854775808 == (V : Int) - 9223372036854775808)
theorem ord_facts (U V : Nat) (hU : U < 2 ^ 64) (hV : V < 2 ^ 64) : OrdFacts U V ⟨(Code.be 8 U).toArray⟩ ⟨(Code.be 8 V).toArray⟩ := by
  have e1 : (⟨(Code.be 8 U).toArray⟩ : ByteArray).toList = Code.be 8 U := by rw [bytes_of]
  have e2 : (⟨(Code.be 8 V).toArray⟩ : ByteArray).toList = Code.be 8 V := by rw [bytes_of]
  refine ⟨?_, ?_⟩
  · rw [e1, e2, Code.less_be, Nat.mod_eq_of_lt hU, Nat.mod_eq_of_lt hV]
    congr 1; apply propext; omega
  · rw [e1, e2]
    by_cases h : U = V
    · subst h; simp
    · have h1 : (Code.be 8 U == Code.be 8 V) = false := beq_eq_false_iff_ne.2 fun e => h (Code.be_inj hU hV e)
      have h2 : (((U : Int) - 9223372036854775808) == ((V : Int) - 9223372036854775808)) = false := beq_eq_false_iff_ne.2 (by omega)
      rw [h1, h2]
theorem txt_size (t : ByteArray) (ht : t.size ≤ 1048576) : (⟨(Code.txt t.data.toList).toArray⟩ : ByteArray).size ≤ 2097154 := by
  show (Code.txt t.data.toList).toArray.size ≤ _
  rw [List.size_toArray]
  unfold Code.txt
  have h := Code.esc_len t.data.toList
  have h2 : t.data.toList.length = t.size := by simp
  rw [List.length_append]
  show (Code.esc t.data.toList).length + 2 ≤ _
  omega
theorem txt_facts (t u p q : ByteArray) (h : t ≠ u) (c d : ByteArray) (hc : c = ⟨(Code.txt t.data.toList).toArray⟩) (hd : d = ⟨(Code.txt u.data.toList).toArray⟩) :
    c ≠ d ∧ Op.bytesLess (c ++ p).toList (d ++ q).toList = Op.bytesLess t.toList u.toList ∧ d.extract 0 c.size ≠ c := by
  subst hc hd
  have hl : t.data.toList ≠ u.data.toList := fun e => h (ByteArray.ext (Array.toList_inj.1 e))
  refine ⟨fun e => hl (Code.txt_inj ?_), ?_, fun e => hl (Code.txt_begins ?_)⟩
  · have := congrArg (fun x : ByteArray => x.data.toList) e; simpa using this
  · rw [bytes_of, bytes_of, bytes_of, bytes_of, list_app, list_app, Code.less_txt _ _ _ _ hl]
  · have := congrArg (fun x : ByteArray => x.data.toList) e
    simp only [list_cut] at this
    exact this
set_option maxHeartbeats 2000000 in
theorem codeOrder_walk (x : Int) (hx : (Lit.int .i64 x).wf = true) (y : Int) (hy : (Lit.int .i64 y).wf = true) (t : ByteArray) (ht : t.size ≤ 1048576) (u : ByteArray) (hu : u.size ≤ 1048576)
    (p : ByteArray) (hp : p.size ≤ 1048576) (q : ByteArray) (hq : q.size ≤ 1048576) (m : Int) (w : World) (hm : Max w m) :
    Calls Tryd.prog 9 #[.int .i64 x, .int .i64 y, .string t, .string u, .string p, .string q] w fun e w' => e = .returned (.bool true) ∧ Below w.heap.size w w' := by
  obtain ⟨U, hU, rfl⟩ := ord_up (i64_range hx)
  obtain ⟨V, hV, rfl⟩ := ord_up (i64_range hy)
  have hB0 := Below.refl w.heap.size w
  have hF := ord_facts U V hU hV
  have q1 := fun o => putord_any U hU o
  have q2 := fun o => putord_any V hV o
  have q3 := fun o h => puttext_any t (by omega) m o h
  have q4 := fun o h => puttext_any u (by omega) m o h
  have l3 := txt_size t ht
  have l4 := txt_size u hu
  obtain ⟨a, ha⟩ := named (⟨(Code.be 8 U).toArray⟩ : ByteArray)
  obtain ⟨b, hb⟩ := named (⟨(Code.be 8 V).toArray⟩ : ByteArray)
  obtain ⟨c, hc⟩ := named (⟨(Code.txt t.data.toList).toArray⟩ : ByteArray)
  obtain ⟨d, hd⟩ := named (⟨(Code.txt u.data.toList).toArray⟩ : ByteArray)
  simp only [← ha.out] at q1 hF
  simp only [← hb.out] at q2 hF
  simp only [← hc.out] at q3 l3
  simp only [← hd.out] at q4 l4
  have P1 := Lib.hid q1
  have P2 := Lib.hid q2
  have P3 := Lib.hid q3
  have P4 := Lib.hid q4
  obtain ⟨f1, f2⟩ := hF
  clear q1 q2 q3 q4
  by_cases htu : t = u
  · subst htu
    have hcd : d = c := hd.out.trans hc.out.symm
    subst hcd
    go_enter Tryd.func9, Tryd.ntmps9
    go_wp2_with (first
      | (go_at_call 20; ((with_reducible refine (P1.out _).mono ?_); rintro e w' ⟨rfl, hb⟩; have hB' := below_of (by assumption) hb; have hm' := carry hb (by assumption)))
      | (go_at_call 20; ((with_reducible refine (P2.out _).mono ?_); rintro e w' ⟨rfl, hb⟩; have hB' := below_of (by assumption) hb; have hm' := carry hb (by assumption)))
      | (go_at_call 24; ((with_reducible refine (P3.out _ (by assumption)).mono ?_); rintro e w' ⟨rfl, hb⟩; have hB' := below_of (by assumption) hb; have hm' := carry hb (by assumption)))
      | (go_at_call 24; ((with_reducible refine (P4.out _ (by assumption)).mono ?_); rintro e w' ⟨rfl, hb⟩; have hB' := below_of (by assumption) hb; have hm' := carry hb (by assumption)))
      | (go_at_call 17; refine (awake_any m _ (by assumption)).mono ?_; rintro e w' ⟨rfl, hb⟩; have hB' := below_of (by assumption) hb))
    go_ret
    exact ⟨rfl, by assumption⟩
  · obtain ⟨g2, g3, g4⟩ := txt_facts t u p q htu c d hc.out hd.out
    have g1 := beq_bytes htu
    have g2 := beq_bytes g2
    have g4 := beq_bytes g4
    clear htu
    go_enter Tryd.func9, Tryd.ntmps9
    by_cases hsz : (c.size : Int) ≤ (d.size : Int)
    all_goals
      go_wp2_with (first
        | (go_at_call 20; ((with_reducible refine (P1.out _).mono ?_); rintro e w' ⟨rfl, hb⟩; have hB' := below_of (by assumption) hb; have hm' := carry hb (by assumption)))
        | (go_at_call 20; ((with_reducible refine (P2.out _).mono ?_); rintro e w' ⟨rfl, hb⟩; have hB' := below_of (by assumption) hb; have hm' := carry hb (by assumption)))
        | (go_at_call 24; ((with_reducible refine (P3.out _ (by assumption)).mono ?_); rintro e w' ⟨rfl, hb⟩; have hB' := below_of (by assumption) hb; have hm' := carry hb (by assumption)))
        | (go_at_call 24; ((with_reducible refine (P4.out _ (by assumption)).mono ?_); rintro e w' ⟨rfl, hb⟩; have hB' := below_of (by assumption) hb; have hm' := carry hb (by assumption)))
        | (go_at_call 17; refine (awake_any m _ (by assumption)).mono ?_; rintro e w' ⟨rfl, hb⟩; have hB' := below_of (by assumption) hb))
    all_goals trace_state
    all_goals go_ret
    all_goals exact ⟨rfl, by assumption⟩
--CARDUPTO freshetlaw02.CodeOrder codeOrder_walk int64:x int64:y string:t string:u string:p string:q
--BEGIN
namespace CodeOrderUptoProof
open Go.ChangeShapes Go.WideShapes Go.ChangeAt Go.RowKit
open Go.ChangeMaps (open_string shut_string)
theorem own : ownKnob Tryd.prog.godebug = none := by kernel_rfl
theorem reads (os : Os) {H : Type} (enc : TypeId × Value → H) : ∃ places, DataW.whole enc Tryd.prog ((World.laidAll Tryd.prog os Rows.codeOrderUptoRow.laid).forCall (fun _ _ => 0) ⟨#[], #[.int .i64 0, .int .i64 0, .string .empty, .string .empty, .string .empty, .string .empty], []⟩).memory Tryd.f9.params.toList Rows.codeOrderSpec.vars false (#[.int .i64 0, .int .i64 0, .string .empty, .string .empty, .string .empty, .string .empty] : Array Value).toList 8 = some ([.lit (.int .i64 0), .lit (.int .i64 0), .lit (.string []), .lit (.string []), .lit (.string []), .lit (.string [])], [], places) :=
  ⟨[], by kernel_rfl⟩
theorem laid_met (os : Os) (args : Array Value) : laidMetH Tryd.prog Rows.codeOrderUptoRow.laid ((World.laidAll Tryd.prog os Rows.codeOrderUptoRow.laid).forCall (fun _ _ => 0) ⟨#[], args, []⟩).memory := by
  rw [MakeChecks.laidMetH_plain _ _ _ (by kernel_rfl)]; exact laidMet_laidAll _ (by kernel_rfl) (by kernel_rfl)
set_option maxRecDepth 100000 in
theorem lifted (os : Os) (started : os.Started) (H : Type) (enc : TypeId × Value → H) (F : Stop.Interp) :
    ReturnsInHanded {} Tryd.checked os 9 .any ((Rows.OpenSpec.upto Rows.codeOrderSpec).preRow enc Tryd.prog Tryd.f9 Rows.codeOrderUptoRow.domain false Rows.codeOrderUptoRow.laid) (((Rows.OpenSpec.upto Rows.codeOrderSpec).at F).post enc Tryd.prog Tryd.f9 false true false false) := by
  obtain ⟨places, hx⟩ := reads os enc
  refine returnsInHanded_of_row (C := Tryd.checked) (s := Rows.OpenSpec.upto Rows.codeOrderSpec) own started (by kernel_rfl) Tryd.func9
    (witness_row_shaped (enc := enc) (C := Tryd.checked) false (World.laidAll Tryd.prog os Rows.codeOrderUptoRow.laid) #[.int .i64 0, .int .i64 0, .string .empty, .string .empty, .string .empty, .string .empty] (World.laidAll_os _ _ _) (World.shaped_of_ZipB (by kernel_rfl) (by kernel_rfl)) (by kernel_rfl)
      (OpenSpec.preRow_of_cond 8 hx (by kernel_rfl) (fun k hk => by cases hk; kernel_rfl) (by kernel_rfl) (laid_met os _))) ?_
  intro W base args ds gs before hval0 hW _ hcond hsz _ hsh _
  have hval : ∀ (j : Nat) t v, Tryd.f9.params[j]? = some t → args[j]? = some v → Value.okWide Tryd.prog W .any base t v := hval0
  have hW' := hW
  obtain ⟨p, q, hA0, hV, rfl, hfz, hnd⟩ := hW
  have hA : DataW.TrodAll enc Tryd.prog W 0 (fun _ => true) true Tryd.f9.params.toList args.toList ds p := hA0
  rw [Tryd.params9] at hA hval hsz
  obtain ⟨v0, vs0, d0, ds0, p0, q0, hargs, rfl, rfl, h0, r0⟩ := trodAll_cons hA
  obtain ⟨v1, vs1, d1, ds1, p1, q1, rfl, rfl, rfl, h1, r1⟩ := trodAll_cons r0
  obtain ⟨v2, vs2, d2, ds2, p2, q2, rfl, rfl, rfl, h2, r2⟩ := trodAll_cons r1
  obtain ⟨v3, vs3, d3, ds3, p3, q3, rfl, rfl, rfl, h3, r3⟩ := trodAll_cons r2
  obtain ⟨v4, vs4, d4, ds4, p4, q4, rfl, rfl, rfl, h4, r4⟩ := trodAll_cons r3
  obtain ⟨v5, vs5, d5, ds5, p5, q5, rfl, rfl, rfl, h5, r5⟩ := trodAll_cons r4
  obtain ⟨rfl, rfl, rfl⟩ := trodAll_nil r5
  obtain rfl : args = #[v0, v1, v2, v3, v4, v5] := by cases args; simp_all
  obtain ⟨rfl, rfl⟩ := trodVars_none hV
  obtain ⟨x, rfl, rfl, rfl, m0⟩ := open_int Tryd.underlying2 (hval 0 2 v0 rfl rfl) h0
  obtain ⟨y, rfl, rfl, rfl, m1⟩ := open_int Tryd.underlying2 (hval 1 2 v1 rfl rfl) h1
  obtain ⟨t, rfl, rfl, rfl, m2⟩ := open_string Tryd.underlying9 (hval 2 9 v2 rfl rfl) h2
  obtain ⟨u, rfl, rfl, rfl, m3⟩ := open_string Tryd.underlying9 (hval 3 9 v3 rfl rfl) h3
  obtain ⟨p, rfl, rfl, rfl, m4⟩ := open_string Tryd.underlying9 (hval 4 9 v4 rfl rfl) h4
  obtain ⟨q, rfl, rfl, rfl, m5⟩ := open_string Tryd.underlying9 (hval 5 9 v5 rfl rfl) h5
  have hu := of_decide_eq_true (hcond _ rfl)
  simp only [List.append_nil, Rows.uptoBulkAll, Rows.uptoBulk, Array.length_toList] at hu
  have z2 : t.size ≤ 1048576 := by have e : t.data.size = t.size := rfl; omega
  have z3 : u.size ≤ 1048576 := by have e : u.data.size = u.size := rfl; omega
  have z4 : p.size ≤ 1048576 := by have e : p.data.size = p.size := rfl; omega
  have z5 : q.size ≤ 1048576 := by have e : q.data.size = q.size := rfl; omega
  clear hA0 hval0
  simp only [List.append_nil] at hW'
  obtain ⟨mx, hmx⟩ := Tryd.laysM155.s1_3 W hsh
  refine (codeOrder_walk x m0 y m1 t z2 u z3 p z4 q z5 mx W hmx).mono fun e W' ⟨he, hg⟩ => ?_
  subst he
  exact ⟨_, rfl, _, _, _, [], [], [], hW', (trodAll_cons_mk (shut_bool Tryd.underlying4 _) trodAll_mk0), (trodAll_cons_mk (shut_int Tryd.underlying2 m0) (trodAll_cons_mk (shut_int Tryd.underlying2 m1) (trodAll_cons_mk (shut_string Tryd.underlying9 m2) (trodAll_cons_mk (shut_string Tryd.underlying9 m3) (trodAll_cons_mk (shut_string Tryd.underlying9 m4) (trodAll_cons_mk (shut_string Tryd.underlying9 m5) trodAll_mk0)))))), rfl, hg.frame _, fun h => by cases h⟩
theorem said : Rows.CodeOrderUptoSaid :=
  OpenClaim.holds_of_cond 9 Tryd.f9 rfl rfl rfl rfl rfl rfl rfl ⟨rfl, rfl, rfl, rfl, rfl⟩ rfl rfl rfl rfl rfl (by kernel_rfl) Tryd.func9 (by kernel_rfl)
    (of_decide_eq_true (by kernel_rfl)) (by unfold Func.isWrapper; first | (rw [if_pos (by decide +kernel)]; kernel_rfl) | (rw [if_neg (by decide +kernel)]; exact ⟨rfl, rfl⟩))
    (fun os started H enc _ F => by rw [OpenClaim.pre_eq_preRow]; exact lifted os started H enc F)
theorem plain (f : FuncId) (fn : Func) (hf : Tryd.pinned.checked.prog.funcNamed "freshet/freshetlaw02.CodeOrder" = some f) (hfn : Tryd.pinned.checked.prog.funcs[f]? = some fn) :
    false = Tryd.pinned.checked.prog.looks [] ∧ ∀ (j : Nat) t, fn.params[j]? = some t → Tryd.pinned.checked.prog.wantsStandIn t = false := by
  obtain rfl : f = 9 := Option.some.inj ((show Tryd.prog.funcNamed "freshet/freshetlaw02.CodeOrder" = some 9 by kernel_rfl).symm.trans hf) |>.symm
  obtain rfl : fn = Tryd.f9 := (Option.some.inj (Tryd.func9.symm.trans hfn)).symm
  refine ⟨by kernel_rfl, fun j t ht => ?_⟩
  rw [Tryd.params9] at ht
  have hm : t ∈ ([2, 2, 9, 9, 9, 9] : List Nat) := by simpa using Array.mem_of_getElem? ht
  have hall : (([2, 2, 9, 9, 9, 9] : List Nat).all fun u => !Tryd.prog.wantsStandIn u) = true := by kernel_rfl
  exact (show Tryd.prog.wantsStandIn t = false by simpa using List.all_eq_true.1 hall t hm)
theorem holds : Rows.CodeOrderUptoCardSaid :=
  Claim7.holds_tied_plain_at .later [] _ _ _ _ said (fun _ h => by cases h) (by kernel_rfl) (fun _ h => by cases h) codeOrderUpto_row_tie rfl ⟨rfl, rfl⟩ (by kernel_rfl) rfl plain (by kernel_rfl)
end CodeOrderUptoProof
--END
end Go.Proofs.YtfmdjlhoikedpaaDoor
