/-
  The range of more parts of a state's key is within that of fewer (KeysNest). No condition.
-/
import Derived.Test.YtpobfheioondaaaDoorKeysSame
import Derived.Test.YtpobfheioondaaaDoorCard
namespace Go.Proofs.YtpobfheioondaaaDoor
open Go.RowKit
set_option maxHeartbeats 4000000 in
theorem nest_no1 (st gr : Int) (k p u : ByteArray) (n i : Int) (m : Int) (A B C D : ByteArray) (E : Nat) (F : Nat) (hE : ((E : Int) != 0) = true) (w : World) (hm : Max w m)
    (C1 : Hid (∀ v, Max v m → Calls Tryd.prog 23 #[keyVal st gr k p u, .int .i64 n] v fun e v' => e = .returned (.tuple #[.string A, .string B, .int .i64 (E : Int)]) ∧ Below v.heap.size v v'))
    (C2 : Hid (∀ v, Max v m → Calls Tryd.prog 23 #[keyVal st gr k p u, .int .i64 i] v fun e v' => e = .returned (.tuple #[.string C, .string D, .int .i64 (F : Int)]) ∧ Below v.heap.size v v')) :
    Calls Tryd.prog 11 #[keyVal st gr k p u, .int .i64 n, .int .i64 i] w fun e w' => e = .returned (.bool true) ∧ Below w.heap.size w w' := by
  have x0 := box_new w st gr k p u
  have z0 := below_alloc w (.cells #[.int .i64 st, .int .i64 gr, .string k, .string p, .string u] 23)
  have hm0 := hm.alloc (.cells #[.int .i64 st, .int .i64 gr, .string k, .string p, .string u] 23)
  go_enter Tryd.func11, Tryd.ntmps11
  go_wp2_with (first
    | (go_at_call 23; ((with_reducible refine (C1.out _ hm0).mono ?_); rintro e w1 ⟨rfl, hb1⟩; have z1 := below_of (w := w) z0 hb1; have hm1 : Max w1 m := carry hb1 hm0; have x1 := box_below x0 hb1; obtain ⟨a0, a1, a2, a3, a4⟩ := id x1))
    | (go_at_call 23; ((with_reducible refine (C2.out _ hm1).mono ?_); rintro e w2 ⟨rfl, hb2⟩; have z2 := below_of (w := w) z1 hb2; have hm2 : Max w2 m := carry hb2 hm1))
    | (go_at_call 18; refine (awake_any m _ (by first | exact hm2)).mono ?_; rintro e w9 ⟨rfl, hb9⟩; have z9 := below_of (w := w) (by first | exact z2) hb9))
  go_ret
  exact ⟨rfl, by assumption⟩
set_option maxHeartbeats 4000000 in
theorem nest_no2 (st gr : Int) (k p u : ByteArray) (n i : Int) (m : Int) (A B C D : ByteArray) (F : Nat) (hF : ((F : Int) != 0) = true) (w : World) (hm : Max w m)
    (C1 : Hid (∀ v, Max v m → Calls Tryd.prog 23 #[keyVal st gr k p u, .int .i64 n] v fun e v' => e = .returned (.tuple #[.string A, .string B, .int .i64 0]) ∧ Below v.heap.size v v'))
    (C2 : Hid (∀ v, Max v m → Calls Tryd.prog 23 #[keyVal st gr k p u, .int .i64 i] v fun e v' => e = .returned (.tuple #[.string C, .string D, .int .i64 (F : Int)]) ∧ Below v.heap.size v v')) :
    Calls Tryd.prog 11 #[keyVal st gr k p u, .int .i64 n, .int .i64 i] w fun e w' => e = .returned (.bool true) ∧ Below w.heap.size w w' := by
  have x0 := box_new w st gr k p u
  have z0 := below_alloc w (.cells #[.int .i64 st, .int .i64 gr, .string k, .string p, .string u] 23)
  have hm0 := hm.alloc (.cells #[.int .i64 st, .int .i64 gr, .string k, .string p, .string u] 23)
  go_enter Tryd.func11, Tryd.ntmps11
  go_wp2_with (first
    | (go_at_call 23; ((with_reducible refine (C1.out _ hm0).mono ?_); rintro e w1 ⟨rfl, hb1⟩; have z1 := below_of (w := w) z0 hb1; have hm1 : Max w1 m := carry hb1 hm0; have x1 := box_below x0 hb1; obtain ⟨a0, a1, a2, a3, a4⟩ := id x1))
    | (go_at_call 23; ((with_reducible refine (C2.out _ hm1).mono ?_); rintro e w2 ⟨rfl, hb2⟩; have z2 := below_of (w := w) z1 hb2; have hm2 : Max w2 m := carry hb2 hm1))
    | (go_at_call 18; refine (awake_any m _ (by first | exact hm2)).mono ?_; rintro e w9 ⟨rfl, hb9⟩; have z9 := below_of (w := w) (by first | exact z2) hb9))
  go_ret
  exact ⟨rfl, by assumption⟩
set_option maxHeartbeats 4000000 in
theorem nest_no3 (st gr : Int) (k p u : ByteArray) (n i : Int) (m : Int) (A B C D : ByteArray) (hg : i < n) (w : World) (hm : Max w m)
    (C1 : Hid (∀ v, Max v m → Calls Tryd.prog 23 #[keyVal st gr k p u, .int .i64 n] v fun e v' => e = .returned (.tuple #[.string A, .string B, .int .i64 0]) ∧ Below v.heap.size v v'))
    (C2 : Hid (∀ v, Max v m → Calls Tryd.prog 23 #[keyVal st gr k p u, .int .i64 i] v fun e v' => e = .returned (.tuple #[.string C, .string D, .int .i64 0]) ∧ Below v.heap.size v v')) :
    Calls Tryd.prog 11 #[keyVal st gr k p u, .int .i64 n, .int .i64 i] w fun e w' => e = .returned (.bool true) ∧ Below w.heap.size w w' := by
  have x0 := box_new w st gr k p u
  have z0 := below_alloc w (.cells #[.int .i64 st, .int .i64 gr, .string k, .string p, .string u] 23)
  have hm0 := hm.alloc (.cells #[.int .i64 st, .int .i64 gr, .string k, .string p, .string u] 23)
  go_enter Tryd.func11, Tryd.ntmps11
  go_wp2_with (first
    | (go_at_call 23; ((with_reducible refine (C1.out _ hm0).mono ?_); rintro e w1 ⟨rfl, hb1⟩; have z1 := below_of (w := w) z0 hb1; have hm1 : Max w1 m := carry hb1 hm0; have x1 := box_below x0 hb1; obtain ⟨a0, a1, a2, a3, a4⟩ := id x1))
    | (go_at_call 23; ((with_reducible refine (C2.out _ hm1).mono ?_); rintro e w2 ⟨rfl, hb2⟩; have z2 := below_of (w := w) z1 hb2; have hm2 : Max w2 m := carry hb2 hm1))
    | (go_at_call 18; refine (awake_any m _ (by first | exact hm2)).mono ?_; rintro e w9 ⟨rfl, hb9⟩; have z9 := below_of (w := w) (by first | exact z2) hb9))
  go_ret
  exact ⟨rfl, by assumption⟩
set_option maxHeartbeats 4000000 in
theorem nest_less (st gr : Int) (k p u : ByteArray) (n i : Int) (m : Int) (A B C D : ByteArray) (hg : n < i) (q1 : (Op.bytesLess A.toList C.toList || A.toList == C.toList) = true) (q2 : (Op.bytesLess D.toList B.toList || D.toList == B.toList) = true) (q3 : (A.size : Int) ≤ (C.size : Int)) (q4 : ∀ v, (Instr.slice 9 (.string C) none (some (.int .i64 (A.size : Int))) none).run Tryd.prog v = .ok (.string A) v) (w : World) (hm : Max w m)
    (C1 : Hid (∀ v, Max v m → Calls Tryd.prog 23 #[keyVal st gr k p u, .int .i64 n] v fun e v' => e = .returned (.tuple #[.string A, .string B, .int .i64 0]) ∧ Below v.heap.size v v'))
    (C2 : Hid (∀ v, Max v m → Calls Tryd.prog 23 #[keyVal st gr k p u, .int .i64 i] v fun e v' => e = .returned (.tuple #[.string C, .string D, .int .i64 0]) ∧ Below v.heap.size v v')) :
    Calls Tryd.prog 11 #[keyVal st gr k p u, .int .i64 n, .int .i64 i] w fun e w' => e = .returned (.bool true) ∧ Below w.heap.size w w' := by
  have x0 := box_new w st gr k p u
  have z0 := below_alloc w (.cells #[.int .i64 st, .int .i64 gr, .string k, .string p, .string u] 23)
  have hm0 := hm.alloc (.cells #[.int .i64 st, .int .i64 gr, .string k, .string p, .string u] 23)
  go_enter Tryd.func11, Tryd.ntmps11
  go_wp2_with (first
    | (go_at_call 23; ((with_reducible refine (C1.out _ hm0).mono ?_); rintro e w1 ⟨rfl, hb1⟩; have z1 := below_of (w := w) z0 hb1; have hm1 : Max w1 m := carry hb1 hm0; have x1 := box_below x0 hb1; obtain ⟨a0, a1, a2, a3, a4⟩ := id x1))
    | (go_at_call 23; ((with_reducible refine (C2.out _ hm1).mono ?_); rintro e w2 ⟨rfl, hb2⟩; have z2 := below_of (w := w) z1 hb2; have hm2 : Max w2 m := carry hb2 hm1))
    | (go_at_call 18; refine (awake_any m _ (by first | exact hm2)).mono ?_; rintro e w9 ⟨rfl, hb9⟩; have z9 := below_of (w := w) (by first | exact z2) hb9))
  go_ret
  exact ⟨rfl, by assumption⟩
set_option maxHeartbeats 4000000 in
theorem nest_level (st gr : Int) (k p u : ByteArray) (n i : Int) (m : Int) (A B C D : ByteArray) (hg1 : n ≤ i) (hg2 : ¬ n < i) (q2 : (Op.bytesLess D.toList B.toList || D.toList == B.toList) = true) (q3 : (A.size : Int) ≤ (C.size : Int)) (q4 : ∀ v, (Instr.slice 9 (.string C) none (some (.int .i64 (A.size : Int))) none).run Tryd.prog v = .ok (.string A) v) (q5 : (A.toList == C.toList) = true) (q6 : (B.toList == D.toList) = true) (w : World) (hm : Max w m)
    (C1 : Hid (∀ v, Max v m → Calls Tryd.prog 23 #[keyVal st gr k p u, .int .i64 n] v fun e v' => e = .returned (.tuple #[.string A, .string B, .int .i64 0]) ∧ Below v.heap.size v v'))
    (C2 : Hid (∀ v, Max v m → Calls Tryd.prog 23 #[keyVal st gr k p u, .int .i64 i] v fun e v' => e = .returned (.tuple #[.string C, .string D, .int .i64 0]) ∧ Below v.heap.size v v')) :
    Calls Tryd.prog 11 #[keyVal st gr k p u, .int .i64 n, .int .i64 i] w fun e w' => e = .returned (.bool true) ∧ Below w.heap.size w w' := by
  have x0 := box_new w st gr k p u
  have z0 := below_alloc w (.cells #[.int .i64 st, .int .i64 gr, .string k, .string p, .string u] 23)
  have hm0 := hm.alloc (.cells #[.int .i64 st, .int .i64 gr, .string k, .string p, .string u] 23)
  go_enter Tryd.func11, Tryd.ntmps11
  go_wp2_with (first
    | (go_at_call 23; ((with_reducible refine (C1.out _ hm0).mono ?_); rintro e w1 ⟨rfl, hb1⟩; have z1 := below_of (w := w) z0 hb1; have hm1 : Max w1 m := carry hb1 hm0; have x1 := box_below x0 hb1; obtain ⟨a0, a1, a2, a3, a4⟩ := id x1))
    | (go_at_call 23; ((with_reducible refine (C2.out _ hm1).mono ?_); rintro e w2 ⟨rfl, hb2⟩; have z2 := below_of (w := w) z1 hb2; have hm2 : Max w2 m := carry hb2 hm1))
    | (go_at_call 18; refine (awake_any m _ (by first | exact hm2)).mono ?_; rintro e w9 ⟨rfl, hb9⟩; have z9 := below_of (w := w) (by first | exact z2) hb9))
  go_ret
  exact ⟨rfl, by assumption⟩
theorem slice_to (a r : List UInt8) (v : World) :
    (Instr.slice 9 (.string ⟨(a ++ r).toArray⟩) none (some (.int .i64 ((⟨a.toArray⟩ : ByteArray).size : Int))) none).run Tryd.prog v = .ok (.string ⟨a.toArray⟩) v := by
  have h1 : (⟨a.toArray⟩ : ByteArray).size = a.length := by show a.toArray.size = _; simp
  have h2 : (⟨(a ++ r).toArray⟩ : ByteArray).size = a.length + r.length := by show (a ++ r).toArray.size = _; simp
  rw [run_slice_string_to_if v 9 _ .i64 _ Tryd.underlying9, if_pos ⟨by omega, by omega⟩, h1]
  congr 2
  apply ByteArray.ext
  apply Array.toList_inj.1
  rw [ByteArray.data_extract, Array.toList_extract]
  simp
theorem keysNest_walk (st gr : Int) (k p u : ByteArray) (n : Int) (_hn : (Lit.int .i64 n).wf = true) (i : Int) (_hi : (Lit.int .i64 i).wf = true) (m : Int) (w : World) (hm : Max w m) :
    Calls Tryd.prog 11 #[keyVal st gr k p u, .int .i64 n, .int .i64 i] w fun e w' => e = .returned (.bool true) ∧ Below w.heap.size w w' := by
  have c1 := fun v h => range_any st gr k p u n m v h
  have c2 := fun v h => range_any st gr k p u i m v h
  by_cases hE : (Keys.rng (skOf st gr k p u) n).2.2 = 0
  · by_cases hF : (Keys.rng (skOf st gr k p u) i).2.2 = 0
    · obtain ⟨ha, s1, s2, _⟩ := Keys.rng_ok hE
      obtain ⟨hb, r1, r2, _⟩ := Keys.rng_ok hF
      rw [s1, s2, hE] at c1
      rw [r1, r2, hF] at c2
      by_cases hg : i < n
      · exact nest_no3 st gr k p u n i m _ _ _ _ hg w hm (Lib.hid c1) (Lib.hid c2)
      · obtain ⟨r, hr⟩ := Keys.first_cut (skOf st gr k p u) (show n ≤ i by omega) ha.parts hb.parts.2
        have q1 : (Op.bytesLess (⟨(Keys.first (skOf st gr k p u) n).toArray⟩ : ByteArray).toList (⟨(Keys.first (skOf st gr k p u) i).toArray⟩ : ByteArray).toList || (⟨(Keys.first (skOf st gr k p u) n).toArray⟩ : ByteArray).toList == (⟨(Keys.first (skOf st gr k p u) i).toArray⟩ : ByteArray).toList) = true := by
          rw [leq_not, less_list, hr, Keys.less_begin]; rfl
        have q2 : (Op.bytesLess (⟨(Keys.up (Keys.first (skOf st gr k p u) i)).toArray⟩ : ByteArray).toList (⟨(Keys.up (Keys.first (skOf st gr k p u) n)).toArray⟩ : ByteArray).toList || (⟨(Keys.up (Keys.first (skOf st gr k p u) i)).toArray⟩ : ByteArray).toList == (⟨(Keys.up (Keys.first (skOf st gr k p u) n)).toArray⟩ : ByteArray).toList) = true := by
          rw [leq_not, less_list, hr, Keys.nest _ _ ha.low]; rfl
        have q3 : ((⟨(Keys.first (skOf st gr k p u) n).toArray⟩ : ByteArray).size : Int) ≤ ((⟨(Keys.first (skOf st gr k p u) i).toArray⟩ : ByteArray).size : Int) := by
          rw [hr]
          show ((Keys.first (skOf st gr k p u) n).toArray.size : Int) ≤ ((Keys.first (skOf st gr k p u) n ++ r).toArray.size : Int)
          simp; omega
        have q4 := fun v => slice_to (Keys.first (skOf st gr k p u) n) r v
        rw [← hr] at q4
        by_cases hl : n < i
        · exact nest_less st gr k p u n i m _ _ _ _ hl q1 q2 q3 q4 w hm (Lib.hid c1) (Lib.hid c2)
        · have hni : n = i := by omega
          exact nest_level st gr k p u n i m _ _ _ _ (by omega) hl q2 q3 q4 (by rw [hni]; simp) (by rw [hni]; simp) w hm (Lib.hid c1) (Lib.hid c2)
    · rw [hE] at c1
      exact nest_no2 st gr k p u n i m _ _ _ _ _ (bne_iff_ne.2 (fun h => hF (by exact_mod_cast h))) w hm (Lib.hid c1) (Lib.hid c2)
  · exact nest_no1 st gr k p u n i m _ _ _ _ _ _ (bne_iff_ne.2 (fun h => hE (by exact_mod_cast h))) w hm (Lib.hid c1) (Lib.hid c2)
--CARD freshetlaw03.KeysNest keysNest_walk key:a int:n int:i
--BEGIN
namespace KeysNestProof
open Go.ChangeShapes Go.WideShapes Go.ChangeAt Go.RowKit
open Go.ChangeMaps (open_string shut_string)
theorem own : ownKnob Tryd.prog.godebug = none := by kernel_rfl
theorem reads (os : Os) {H : Type} (enc : TypeId × Value → H) : ∃ places, DataW.whole enc Tryd.prog ((World.laidAll Tryd.prog os Rows.keysNestRow.laid).forCall (fun _ _ => 0) ⟨#[], #[.agg #[.int .i64 0, .int .i64 0, .string .empty, .string .empty, .string .empty], .int .i64 0, .int .i64 0], []⟩).memory Tryd.f11.params.toList Rows.keysNestSpec.vars false (#[.agg #[.int .i64 0, .int .i64 0, .string .empty, .string .empty, .string .empty], .int .i64 0, .int .i64 0] : Array Value).toList 8 = some ([.agg [.lit (.int .i64 0), .lit (.int .i64 0), .lit (.string []), .lit (.string []), .lit (.string [])], .lit (.int .i64 0), .lit (.int .i64 0)], [], places) :=
  ⟨[], by kernel_rfl⟩
theorem laid_met (os : Os) (args : Array Value) : laidMetH Tryd.prog Rows.keysNestRow.laid ((World.laidAll Tryd.prog os Rows.keysNestRow.laid).forCall (fun _ _ => 0) ⟨#[], args, []⟩).memory := by
  rw [MakeChecks.laidMetH_plain _ _ _ (by kernel_rfl)]; exact laidMet_laidAll _ (by kernel_rfl) (by kernel_rfl)
set_option maxRecDepth 100000 in
theorem lifted (os : Os) (started : os.Started) (H : Type) (enc : TypeId × Value → H) (F : Stop.Interp) :
    ReturnsInHanded {} Tryd.checked os 11 .any ((OpenSpec.ofChange Rows.keysNestSpec).preRow enc Tryd.prog Tryd.f11 Rows.keysNestRow.domain false Rows.keysNestRow.laid) (((OpenSpec.ofChange Rows.keysNestSpec).at F).post enc Tryd.prog Tryd.f11 false true false false) := by
  obtain ⟨places, hx⟩ := reads os enc
  refine returnsInHanded_of_row (C := Tryd.checked) (s := OpenSpec.ofChange Rows.keysNestSpec) own started (by kernel_rfl) Tryd.func11
    (witness_row_shaped (enc := enc) (C := Tryd.checked) false (World.laidAll Tryd.prog os Rows.keysNestRow.laid) #[.agg #[.int .i64 0, .int .i64 0, .string .empty, .string .empty, .string .empty], .int .i64 0, .int .i64 0] (World.laidAll_os _ _ _) (World.shaped_of_ZipB (by kernel_rfl) (by kernel_rfl)) (by kernel_rfl)
      (OpenSpec.preRow_of_cond 8 hx (by kernel_rfl) (fun k hk => by cases hk) (by kernel_rfl) (laid_met os _))) ?_
  intro W base args ds gs before hval0 hW _ hcond hsz _ hsh _
  have hval : ∀ (j : Nat) t v, Tryd.f11.params[j]? = some t → args[j]? = some v → Value.okWide Tryd.prog W .any base t v := hval0
  have hW' := hW
  obtain ⟨p, q, hA0, hV, rfl, hfz, hnd⟩ := hW
  have hA : DataW.TrodAll enc Tryd.prog W 0 (fun _ => true) true Tryd.f11.params.toList args.toList ds p := hA0
  rw [Tryd.params11] at hA hval hsz
  obtain ⟨v0, vs0, d0, ds0, p0, q0, hargs, rfl, rfl, h0, r0⟩ := trodAll_cons hA
  obtain ⟨v1, vs1, d1, ds1, p1, q1, rfl, rfl, rfl, h1, r1⟩ := trodAll_cons r0
  obtain ⟨v2, vs2, d2, ds2, p2, q2, rfl, rfl, rfl, h2, r2⟩ := trodAll_cons r1
  obtain ⟨rfl, rfl, rfl⟩ := trodAll_nil r2
  obtain rfl : args = #[v0, v1, v2] := by cases args; simp_all
  obtain ⟨rfl, rfl⟩ := trodVars_none hV
  obtain ⟨ast, agr, ak, ap, au, rfl, rfl, rfl, m0, q0a, q0b, q0c⟩ := open_key (hval 0 23 v0 rfl rfl) h0
  obtain ⟨n, rfl, rfl, rfl, m1⟩ := open_int Tryd.underlying3 (hval 1 3 v1 rfl rfl) h1
  obtain ⟨i, rfl, rfl, rfl, m2⟩ := open_int Tryd.underlying3 (hval 2 3 v2 rfl rfl) h2
  have z0 := sized_key hsz (j := 0) (st := ast) (gr := agr) (k := ak) (p := ap) (u := au) rfl rfl
  clear hA0 hval0
  simp only [List.append_nil] at hW'
  obtain ⟨mx, hmx⟩ := Tryd.laysM155.s1_3 W hsh
  refine (keysNest_walk ast agr ak ap au n m1 i m2 mx W hmx).mono fun e W' ⟨he, hg⟩ => ?_
  subst he
  exact ⟨_, rfl, _, _, _, [], [], [], hW', (trodAll_cons_mk (shut_bool Tryd.underlying4 _) trodAll_mk0), (trodAll_cons_mk (shut_key m0.1 m0.2 q0a q0b q0c) (trodAll_cons_mk (shut_int Tryd.underlying3 m1) (trodAll_cons_mk (shut_int Tryd.underlying3 m2) trodAll_mk0))), rfl, hg.frame _, fun h => by cases h⟩
theorem said : Rows.KeysNestSaid :=
  OpenClaim.holds_of_cond 11 Tryd.f11 rfl rfl rfl rfl rfl rfl rfl ⟨rfl, rfl, rfl, rfl, rfl⟩ rfl rfl rfl rfl rfl (by kernel_rfl) Tryd.func11 (by kernel_rfl)
    (of_decide_eq_true (by kernel_rfl)) (by unfold Func.isWrapper; first | (rw [if_pos (by decide +kernel)]; kernel_rfl) | (rw [if_neg (by decide +kernel)]; exact ⟨rfl, rfl⟩))
    (fun os started H enc _ F => by rw [OpenClaim.pre_eq_preRow]; exact lifted os started H enc F)
theorem plain (f : FuncId) (fn : Func) (hf : Tryd.pinned.checked.prog.funcNamed "freshet/freshetlaw03.KeysNest" = some f) (hfn : Tryd.pinned.checked.prog.funcs[f]? = some fn) :
    false = Tryd.pinned.checked.prog.looks [] ∧ ∀ (j : Nat) t, fn.params[j]? = some t → Tryd.pinned.checked.prog.wantsStandIn t = false := by
  obtain rfl : f = 11 := Option.some.inj ((show Tryd.prog.funcNamed "freshet/freshetlaw03.KeysNest" = some 11 by kernel_rfl).symm.trans hf) |>.symm
  obtain rfl : fn = Tryd.f11 := (Option.some.inj (Tryd.func11.symm.trans hfn)).symm
  refine ⟨by kernel_rfl, fun j t ht => ?_⟩
  rw [Tryd.params11] at ht
  have hm : t ∈ ([23, 3, 3] : List Nat) := by simpa using Array.mem_of_getElem? ht
  have hall : (([23, 3, 3] : List Nat).all fun u => !Tryd.prog.wantsStandIn u) = true := by kernel_rfl
  exact (show Tryd.prog.wantsStandIn t = false by simpa using List.all_eq_true.1 hall t hm)
theorem holds : Rows.KeysNestCardSaid :=
  Claim7.holds_tied_plain_at .later [] _ _ _ _ said (fun _ h => by cases h) (by kernel_rfl) (fun _ h => by cases h) keysNest_row_tie rfl ⟨rfl, rfl⟩ (by kernel_rfl) rfl plain (by kernel_rfl)
end KeysNestProof
--END
end Go.Proofs.YtpobfheioondaaaDoor
