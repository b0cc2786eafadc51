/-
  MemHeights: whatever the heights, a table of the same batches tells the same. No condition.
-/
import Derived.Test.YtdgbafpnfkedeaaPack4
namespace Go.Proofs.Ytdgbafpnfkedeaa
set_option maxRecDepth 100000
open Go.RowKit
set_option maxRecDepth 100000 in
set_option maxHeartbeats 8000000 in
theorem heights_walk (a0 : Option Addr) (n0 c0 b0 o0 : Nat) (bs : List Bt) (a1 : Option Addr) (n1 c1 b1 o1 : Nat) (hs : List Int) (k : ByteArray) (_ : k.size ≤ reachBytes) (q : Int) (hq : (Lit.int .u64 q).wf = true) (w : World)
    (h0 : SlOf 2 cellsBt a0 n0 c0 b0 o0 bs w ∧ ∀ v ∈ bs, BtAt v w) (h1 : SlOf 1 cellsI a1 n1 c1 b1 o1 hs w ∧ ∀ v ∈ hs, (Lit.int .i64 v).wf = true) :
    Calls Try.prog 6 #[.slice a0 n0 c0, .slice a1 n1 c1, .string k, .int .u64 q] w fun e w' => e = .returned (.bool true) ∧ Below w.heap.size w w' := by
  obtain ⟨Q, rfl⟩ : ∃ Q : Nat, q = (Q : Int) := ⟨q.toNat, by
    have : 0 ≤ q := by have := hq; simp [Lit.wf, IntKind.min, IntKind.max, IntKind.signed, IntKind.bits] at this; omega
    omega⟩
  have HA : Hid (∀ u, Below w.heap.size w u → SlOf 2 cellsBt a0 n0 c0 b0 o0 bs u ∧ (∀ v ∈ bs, BtAt v u) ∧ SlOf 1 cellsI a1 n1 c1 b1 o1 hs u) := Lib.hid fun u hu =>
    ⟨h0.1.below hu (Nat.le_refl _), fun v hv => ⟨(h0.2 v hv).1, (h0.2 v hv).2.below hu (Nat.le_refl _)⟩, h1.1.below hu (Nat.le_refl _)⟩
  have AW := fun u => Lib.hid (awake_mem u)
  have L1 := Lib.hid (laid_any (Tb.nil w.heap.size w) (Nat.le_refl _) HA.out (Below.refl _ _))
  clear h0 h1 hq
  go_enter Try.func6, Try.ntmps6
  go_upto_region 2 with (go_at_call 23; ((with_reducible refine L1.out.mono ?_); rintro e w1 ⟨p1, R1, rfl, T1, B1, n1', e1⟩; have T1 := Lib.hid T1; have B1 := Lib.hid B1; have e1 := Lib.hid e1; clear L1))
  have L2 := Lib.hid (laid_any (a1 := none) (n1 := 0) (c1 := 0) (b1 := 0) (o1 := 0) (hs := []) T1.out B1.out.size (fun u hu => ⟨(HA.out u hu).1, (HA.out u hu).2.1, sl_nil u⟩) B1.out)
  go_upto_region 3 with (go_at_call 23; ((with_reducible refine L2.out.mono ?_); rintro e w2 ⟨p2, R2, rfl, T2, B2, n2', e2⟩; have T2 := Lib.hid T2; have B2 := Lib.hid (B1.out.trans B2); have e2 := Lib.hid e2; clear L2))
  have hs2 : Hid (w.heap.size ≤ w2.heap.size) := Lib.hid B2.out.size
  cases hf : fineB bs with
  | false =>
    go_wp2_with (go_at_call 9; ((with_reducible refine (AW _).out.mono ?_); rintro e w3 ⟨rfl, B3⟩; have B3 := Lib.hid (B2.out.trans (B3.mono hs2.out))))
    go_returns
    exact ⟨rfl, B3.out⟩
  | true =>
    have E1 := e1.out hf
    have E2 := e2.out hf
    obtain ⟨RR, hRR⟩ := named (laidR bs)
    rw [← hRR.out] at E1 E2
    rw [E1, E2] at T2
    have hlR : RR.length ≤ 4000 := by rw [← E1]; exact n1'
    have QT1 : Hid (∀ u, Below w2.heap.size w2 u → TabQ (some ⟨p1, 0, none⟩) RR u) := Lib.hid fun u hu => (T2.out.grow hu).q (i := 0) rfl (by omega)
    have QT2 : Hid (∀ u, Below w2.heap.size w2 u → TabQ (some ⟨p2, 0, none⟩) RR u) := Lib.hid fun u hu => (T2.out.grow hu).q (i := 1) rfl (by omega)
    have GR1 : Hid (∀ u, Below w2.heap.size w2 u → Calls Try.prog 20 #[.pointer (some ⟨p1, 0, none⟩)] u (GaveR RR u)) := Lib.hid fun u hu => rows_tab (QT1.out u hu)
    have GR2 : Hid (∀ u, Below w2.heap.size w2 u → Calls Try.prog 20 #[.pointer (some ⟨p2, 0, none⟩)] u (GaveR RR u)) := Lib.hid fun u hu => rows_tab (QT2.out u hu)
    have SR : Hid (∀ a c b a' c' b' u, Rs a RR.length c b 0 RR u → Rs a' RR.length c' b' 0 RR u → Calls Try.prog 17 #[.slice a RR.length c, .slice a' RR.length c'] u fun e w' => e = .returned (.bool true) ∧ Below u.heap.size u w') := Lib.hid fun a c b a' c' b' u h1 h2 => (samerows_any h1 h2).mono fun e w' h => ⟨h.1.trans (by simp), h.2⟩
    have RM1 : Hid (∀ u, Below w2.heap.size w2 u → Calls Try.prog 24 #[.pointer (some ⟨p1, 0, none⟩)] u fun e w' => e = .returned (.int .i64 (roomR RR : Int)) ∧ w' = u) := Lib.hid fun u hu => room_any (QT1.out u hu)
    have RM2 : Hid (∀ u, Below w2.heap.size w2 u → Calls Try.prog 24 #[.pointer (some ⟨p2, 0, none⟩)] u fun e w' => e = .returned (.int .i64 (roomR RR : Int)) ∧ w' = u) := Lib.hid fun u hu => room_any (QT2.out u hu)
    have LN1 : Hid (∀ u, Below w2.heap.size w2 u → Calls Try.prog 25 #[.pointer (some ⟨p1, 0, none⟩)] u fun e w' => e = .returned (.int .i64 (RR.length : Int)) ∧ w' = u) := Lib.hid fun u hu => tlen_any (QT1.out u hu)
    have LN2 : Hid (∀ u, Below w2.heap.size w2 u → Calls Try.prog 25 #[.pointer (some ⟨p2, 0, none⟩)] u fun e w' => e = .returned (.int .i64 (RR.length : Int)) ∧ w' = u) := Lib.hid fun u hu => tlen_any (QT2.out u hu)
    have LS1 : Hid (∀ u, Below w2.heap.size w2 u → Calls Try.prog 26 #[.pointer (some ⟨p1, 0, none⟩)] u fun e w' => e = .returned (.int .u64 (lsR RR : Int)) ∧ w' = u) := Lib.hid fun u hu => least_any (QT1.out u hu)
    have LS2 : Hid (∀ u, Below w2.heap.size w2 u → Calls Try.prog 26 #[.pointer (some ⟨p2, 0, none⟩)] u fun e w' => e = .returned (.int .u64 (lsR RR : Int)) ∧ w' = u) := Lib.hid fun u hu => least_any (QT2.out u hu)
    have GS1 : Hid (∀ u, Below w2.heap.size w2 u → Calls Try.prog 27 #[.pointer (some ⟨p1, 0, none⟩)] u fun e w' => e = .returned (.int .u64 (grR RR : Int)) ∧ w' = u) := Lib.hid fun u hu => greatest_any (QT1.out u hu)
    have GS2 : Hid (∀ u, Below w2.heap.size w2 u → Calls Try.prog 27 #[.pointer (some ⟨p2, 0, none⟩)] u fun e w' => e = .returned (.int .u64 (grR RR : Int)) ∧ w' = u) := Lib.hid fun u hu => greatest_any (QT2.out u hu)
    obtain ⟨o, ho⟩ := named (getR RR k Q)
    obtain ⟨y, ok, hy⟩ : ∃ (y : Rw) (ok : Bool), verV o = .tuple #[.agg #[.string y.key, .int .u64 (y.seq : Int), .int .i64 y.kind, .string y.val], .bool ok] := by
      cases o with
      | none => exact ⟨zeroR, false, rfl⟩
      | some x => exact ⟨x, true, rfl⟩
    have GE1 : Hid (∀ u, Below w2.heap.size w2 u → Calls Try.prog 14 #[.pointer (some ⟨p1, 0, none⟩), .string k, .int .u64 (Q : Int)] u fun e w' => e = .returned (.tuple #[.agg #[.string y.key, .int .u64 (y.seq : Int), .int .i64 y.kind, .string y.val], .bool ok]) ∧ Below u.heap.size u w') := Lib.hid fun u hu => by
      have := get_any (QT1.out u hu) k Q
      rwa [← ho.out, hy] at this
    have GE2 : Hid (∀ u, Below w2.heap.size w2 u → Calls Try.prog 14 #[.pointer (some ⟨p2, 0, none⟩), .string k, .int .u64 (Q : Int)] u fun e w' => e = .returned (.tuple #[.agg #[.string y.key, .int .u64 (y.seq : Int), .int .i64 y.kind, .string y.val], .bool ok]) ∧ Below u.heap.size u w') := Lib.hid fun u hu => by
      have := get_any (QT2.out u hu) k Q
      rwa [← ho.out, hy] at this
    obtain ⟨yk, ys, yi, yv⟩ := y
    have EQ := fun u => eql_rw yk yk ys ys yi yi yv yv true (by simp) u
    clear hf e1 e2 hRR ho hy HA QT1 QT2 E1 E2
    have bs2 : Hid (∀ u v : World, Below w2.heap.size w2 u → Below u.heap.size u v → Below w2.heap.size w2 v) := Lib.hid fun u v h1 h2 => h1.trans (h2.mono h1.size)
    go_upto_region 6 with (go_at_call 14; ((with_reducible refine (GE1.out _ (Below.refl _ _)).mono ?_); rintro e w3 ⟨rfl, B3⟩; have B3 := Lib.hid B3; clear GE1))
    have Q3 := Lib.hid (bs2.out _ _ B3.out (below_alloc w3 (.cells #[.string yk, .int .u64 (ys : Int), .int .i64 yi, .string yv] 43)))
    have RA3 := Lib.hid (RowAt.new ⟨yk, ys, yi, yv⟩ w3)
    generalize w3.alloc (.cells #[.string yk, .int .u64 (ys : Int), .int .i64 yi, .string yv] 43) = V3 at Q3 RA3 ⊢
    go_upto_region 7 with (go_at_call 14; ((with_reducible refine (GE2.out _ Q3.out).mono ?_); rintro e w4 ⟨rfl, B4⟩; have B4 := Lib.hid B4; clear GE2))
    have Q4 := Lib.hid (bs2.out _ _ (bs2.out _ _ Q3.out B4.out) (below_alloc w4 (.cells #[.string yk, .int .u64 (ys : Int), .int .i64 yi, .string yv] 43)))
    have RA4 := Lib.hid ((RA3.out.below B4.out).below (below_alloc w4 (.cells #[.string yk, .int .u64 (ys : Int), .int .i64 yi, .string yv] 43)))
    have RB4 := Lib.hid (RowAt.new ⟨yk, ys, yi, yv⟩ w4)
    clear RA3 Q3 B4
    generalize w4.alloc (.cells #[.string yk, .int .u64 (ys : Int), .int .i64 yi, .string yv] 43) = V4 at Q4 RA4 RB4 ⊢
    go_wp2_with (first
      | (go_at_call 20; ((with_reducible refine (GR1.out _ Q4.out).mono ?_); rintro e w5 hd; obtain ⟨a5, c5, b5, rfl, r5, hb5⟩ := gave_rs hd; have Q5 := Lib.hid (bs2.out _ _ Q4.out hb5); have RA5 := Lib.hid (RA4.out.below hb5); have RB5 := Lib.hid (RB4.out.below hb5); have S5 := Lib.hid r5; clear hd hb5 r5 GR1))
      | (go_at_call 20; ((with_reducible refine (GR2.out _ Q5.out).mono ?_); rintro e w6 hd; obtain ⟨a6, c6, b6, rfl, r6, hb6⟩ := gave_rs hd; have Q6 := Lib.hid (bs2.out _ _ Q5.out hb6); have RA6 := Lib.hid (RA5.out.below hb6); have RB6 := Lib.hid (RB5.out.below hb6); have S6 := Lib.hid (SR.out _ _ _ _ _ _ _ (S5.out.below hb6 (Nat.le_refl _)) r6); clear hd hb6 r6 GR2 S5))
      | (go_at_call 17; ((with_reducible refine S6.out.mono ?_); rintro e w7 ⟨rfl, hb7⟩; have Q7 := Lib.hid (bs2.out _ _ Q6.out hb7); obtain ⟨⟨y0, y1, y2, y3⟩, _⟩ := (RA6.out.below hb7).cells; obtain ⟨⟨z0, z1, z2, z3⟩, _⟩ := (RB6.out.below hb7).cells; clear hb7 S6))
      | (go_at_call 24; ((with_reducible refine (RM1.out _ Q7.out).mono ?_); rintro e w8 ⟨rfl, rfl⟩; clear RM1))
      | (go_at_call 24; ((with_reducible refine (RM2.out _ Q7.out).mono ?_); rintro e w8 ⟨rfl, rfl⟩; clear RM2))
      | (go_at_call 25; ((with_reducible refine (LN1.out _ Q7.out).mono ?_); rintro e w8 ⟨rfl, rfl⟩; clear LN1))
      | (go_at_call 25; ((with_reducible refine (LN2.out _ Q7.out).mono ?_); rintro e w8 ⟨rfl, rfl⟩; clear LN2))
      | (go_at_call 26; ((with_reducible refine (LS1.out _ Q7.out).mono ?_); rintro e w8 ⟨rfl, rfl⟩; clear LS1))
      | (go_at_call 26; ((with_reducible refine (LS2.out _ Q7.out).mono ?_); rintro e w8 ⟨rfl, rfl⟩; clear LS2))
      | (go_at_call 27; ((with_reducible refine (GS1.out _ Q7.out).mono ?_); rintro e w8 ⟨rfl, rfl⟩; clear GS1))
      | (go_at_call 27; ((with_reducible refine (GS2.out _ Q7.out).mono ?_); rintro e w8 ⟨rfl, rfl⟩; clear GS2))
      | (go_at_call 9; ((with_reducible refine (AW _).out.mono ?_); rintro e w9 ⟨rfl, B9⟩; have Q9 := Lib.hid (bs2.out _ _ Q7.out B9); clear B9))
      | fail "no arm")
    go_returns
    exact ⟨rfl, B2.out.trans (Q9.out.mono hs2.out)⟩
--LAW freshetlaw09.MemHeights heights_walk bts:l nums:h string:k uint64:q
--BEGIN
namespace MemHeightsProof
open Go.ChangeShapes Go.WideShapes Go.ChangeAt Go.RowKit
open Go.ChangeMaps (open_string shut_string)
theorem own : ownKnob Try.prog.godebug = none := by kernel_rfl
set_option maxRecDepth 100000 in
theorem lifted (os : Os) (started : os.Started) (H : Type) (enc : TypeId × Value → H) :
    ReturnsInHanded {} Try.checked os 6 .any (Rows.memHeightsSpec.pre6 enc Try.prog Try.f6 Rows.memHeightsRow.domain false) (Rows.memHeightsSpec.post enc Try.prog Try.f6 false true false false) := by
  refine returnsInHanded_of_change_sized (C := Try.checked) own started (by kernel_rfl) Try.func6
    (ChangeSpec.witness6 (enc := enc) (C := Try.checked) false ⟨#[], #[.slice none 0 0, .slice none 0 0, .string .empty, .int .u64 0], []⟩ 8 (by kernel_rfl) (by kernel_rfl) (by kernel_rfl) (by kernel_rfl)) ?_
  intro W base args ds gs before hval0 hW _ hsz _
  have hval : ∀ (j : Nat) t v, Try.f6.params[j]? = some t → args[j]? = some v → Value.okWide Try.prog W .any base t v := hval0
  have hW' := hW
  obtain ⟨p, q, hA0, hV, rfl, hfz, hnd⟩ := hW
  have hA : DataW.TrodAll enc Try.prog W 0 (fun _ => true) true Try.f6.params.toList args.toList ds p := hA0
  rw [Try.params6] at hA hval hsz
  obtain ⟨v0, vs0, d0, ds0, p0, q0, hargs, rfl, rfl, h0, r0⟩ := trodAll_cons hA
  obtain ⟨v1, vs1, d1, ds1, p1, q1, rfl, rfl, rfl, h1, r1⟩ := trodAll_cons r0
  obtain ⟨v2, vs2, d2, ds2, p2, q2, rfl, rfl, rfl, h2, r2⟩ := trodAll_cons r1
  obtain ⟨v3, vs3, d3, ds3, p3, q3, rfl, rfl, rfl, h3, r3⟩ := trodAll_cons r2
  obtain ⟨rfl, rfl, rfl⟩ := trodAll_nil r3
  obtain rfl : args = #[v0, v1, v2, v3] := by cases args; simp_all
  obtain ⟨rfl, rfl⟩ := trodVars_none hV
  obtain ⟨a0, n0, c0, rfl⟩ := okWide_slice Try.underlying57 (hval 0 57 v0 rfl rfl)
  have k0 := h0
  obtain ⟨fu0, hf0⟩ := h0
  obtain ⟨b0, o0, l, ia0⟩ := open_bts hf0 hsz (j := 0) rfl rfl
  have lt0 : ∀ x ∈ p0, x.block < W.heap.size := fun x hx => hW'.lt x (by simp only [List.mem_append]; simp [hx])
  obtain ⟨a1, n1, c1, rfl⟩ := okWide_slice Try.underlying32 (hval 1 32 v1 rfl rfl)
  have k1 := h1
  obtain ⟨fu1, hf1⟩ := h1
  obtain ⟨b1, o1, h, ia1⟩ := open_nums hf1 hsz (j := 1) rfl rfl
  have lt1 : ∀ x ∈ p1, x.block < W.heap.size := fun x hx => hW'.lt x (by simp only [List.mem_append]; simp [hx])
  obtain ⟨k, rfl, rfl, rfl, m2⟩ := open_string Try.underlying9 (hval 2 9 v2 rfl rfl) h2
  obtain ⟨q, rfl, rfl, rfl, m3⟩ := open_int Try.underlying28 (hval 3 28 v3 rfl rfl) h3
  have z2 : k.size ≤ reachBytes := by have := sized_string hsz (j := 2) (t := 9) (bytes := k.data.toList) rfl rfl; simpa using this
  clear hA0 hval0
  simp only [List.append_nil] at hW'
  refine (heights_walk a0 n0 c0 b0 o0 l a1 n1 c1 b1 o1 h k z2 q m3 W ia0 ia1).mono fun e W' ⟨he, hg⟩ => ?_
  subst he
  exact ⟨_, rfl, _, _, _, [], _, [], hW', (trodAll_cons_mk (shut_bool Try.underlying4 _) trodAll_mk0), (trodAll_cons_mk (Below.trod laid_out (by kernel_rfl) (of_decide_eq_true (by kernel_rfl)) k0 hg lt0) (trodAll_cons_mk (Below.trod laid_out (by kernel_rfl) (of_decide_eq_true (by kernel_rfl)) k1 hg lt1) (trodAll_cons_mk (shut_string Try.underlying9 m2) (trodAll_cons_mk (shut_int Try.underlying28 m3) trodAll_mk0)))), rfl, hg.frame _, fun h => by cases h⟩
theorem holds : Rows.MemHeightsSaid :=
  OpenClaim.holds_of_wide 6 Try.f6 rfl rfl rfl rfl rfl rfl rfl ⟨rfl, rfl, rfl, rfl, rfl⟩ rfl rfl rfl rfl rfl (by kernel_rfl) Try.func6 (by kernel_rfl)
    (of_decide_eq_true (by kernel_rfl)) (by unfold Func.isWrapper; first | (rw [if_pos (by decide +kernel)]; kernel_rfl) | (rw [if_neg (by decide +kernel)]; exact ⟨rfl, rfl⟩))
    (fun os started H enc _ => lifted os started H enc)
end MemHeightsProof
--END
end Go.Proofs.Ytdgbafpnfkedeaa
