/-
  P10.3: a filter has each of its keys, and no more ones than they have bits. Condition: at most 400 keys (else the law is its own check).
-/
import Derived.Test.YtccdbodemoefkaaDoorBloomRefHas
import Derived.Test.YtccdbodemoefkaaDoorLaidOut
import Derived.Test.YtccdbodemoefkaaDoorCard
import Derived.Test.YtccdbodemoefkaaDoorRegion
import Derived.Laws.EntriesVeiled
namespace Go.Proofs.YtccdbodemoefkaaDoor
set_option maxRecDepth 100000
open Go.RowKit
theorem mkT_tail (X : List ByteArray) (bits : Nat) : (mkT X bits).data.toList.tail = Blm.filt (Blm.probes bits) (Blm.wide X.length bits) (X.map fun x => x.data.toList) := by rw [mkT_list]; rfl
theorem mkT_has (X : List ByteArray) (bits : Nat) (hb : bits ≤ 32) (hn : X.length ≤ 65536) (x : ByteArray) (hx : x ∈ X) : Blm.hasB (mkT X bits).data.toList x.data.toList = true := by
  unfold Blm.hasB
  rw [if_pos (mkT_ok X bits hb hn), mkT_tail, mkT_list, List.headD_cons, probe_byte bits hb, List.length_cons, Blm.filt_length, show Blm.wide X.length bits + 1 - 1 = Blm.wide X.length bits by omega]
  exact Blm.has_filt _ _ (by have := Blm.wide_pos X.length bits; omega) _ _ (List.mem_map.2 ⟨x, hx, rfl⟩)
theorem mkT_ones (X : List ByteArray) (bits : Nat) (hb : bits ≤ 32) (hn : X.length ≤ 65536) : Blm.onesB (mkT X bits).data.toList ≤ Blm.probes bits * X.length := by
  unfold Blm.onesB
  rw [if_pos (mkT_ok X bits hb hn), mkT_tail]
  have := Blm.ones_filt (Blm.probes bits) (Blm.wide X.length bits) (X.map fun x => x.data.toList)
  rwa [List.length_map] at this
theorem allL_other (a : Option Addr) (n c : Nat) (bits : Int) (h : 400 < n ∨ bits < 1 ∨ 32 < bits) (w : World) :
    Calls Tryd.prog 4 #[.slice a n c, .int .i64 bits] w fun e w' => e = .returned (.bool true) ∧ Below w.heap.size w w' := by
  have AW := Lib.hid (fun u : World => awake_any u)
  by_cases c1 : 400 < n
  · have i1 : (400 : Int) < (n : Int) := by omega
    go_enter Tryd.func4, Tryd.ntmps4
    go_wp2_with (go_at_call 6; (with_reducible refine (AW.out _).mono ?_); rintro e w1 ⟨rfl, b1⟩)
    go_returns
    exact ⟨rfl, b1⟩
  have j1 : (n : Int) ≤ 400 := by omega
  have M := Lib.hid (fun u : World => make_arg bits (by omega) (.slice a n c) u)
  by_cases c2 : bits < 1
  · go_enter Tryd.func4, Tryd.ntmps4
    go_wp2_with (first | (go_at_call 13; (with_reducible refine (M.out _).mono ?_); rintro e w0 ⟨rfl, rfl⟩) | (go_at_call 6; (with_reducible refine (AW.out _).mono ?_); rintro e w1 ⟨rfl, b1⟩) | fail "no arm")
    go_returns
    exact ⟨rfl, b1⟩
  have j2 : 1 ≤ bits := by omega
  have j3 : 32 < bits := by omega
  go_enter Tryd.func4, Tryd.ntmps4
  go_wp2_with (first | (go_at_call 13; (with_reducible refine (M.out _).mono ?_); rintro e w0 ⟨rfl, rfl⟩) | (go_at_call 6; (with_reducible refine (AW.out _).mono ?_); rintro e w1 ⟨rfl, b1⟩) | fail "no arm")
  go_returns
  exact ⟨rfl, b1⟩
set_option maxHeartbeats 8000000 in
theorem allL_good (a : Option Addr) (n c b o : Nat) (X : List ByteArray) (bits : Nat) (hn : n ≤ 400) (hb1 : 1 ≤ bits) (hb2 : bits ≤ 32) (w : World) (ht : TextsAt a n c b o X w) (hX : ∀ x ∈ X, x.size ≤ maxLen) (htab : Tab w) :
    Calls Tryd.prog 4 #[.slice a n c, .int .i64 (bits : Int)] w fun e w' => e = .returned (.bool true) ∧ Below w.heap.size w w' := by
  have AW := Lib.hid (fun u : World => awake_any u)
  have HX := Lib.hid hX
  have HT := Lib.hid ht
  have HL := Lib.hid ht.len
  have HB := Lib.hid htab
  have hlen : X.length ≤ 65536 := by rw [ht.len]; omega
  have M := make_calls bits hb1 hb2 a n c b o X w ht hX (by omega)
  have hok := mkT_ok X bits hb2 hlen
  have hs := mkT_size X bits
  have hw8 := Blm.wide_le X.length bits hlen hb2
  have h0 : 0 < (mkT X bits).size := by omega
  have hh := mkT_head X bits hb2 h0
  have hon := mkT_ones X bits hb2 hlen
  rw [ht.len] at hon
  have hk := Blm.probes_le bits hb2
  have hmx : (mkT X bits).size ≤ maxLen := by unfold maxLen; omega
  have HH := Lib.hid (mkT_has X bits hb2 hlen)
  have CC : Hid (∀ u : World, Calls Tryd.prog 7 #[.string (mkT X bits)] u fun e w' => e = .returned (.int .i64 0) ∧ w' = u) := Lib.hid fun u => by
    have h := check_any (mkT X bits) hmx u
    rw [hok] at h
    exact h
  have CO : Hid (∀ u : World, Tab u → Calls Tryd.prog 11 #[.string (mkT X bits)] u fun e w' => e = .returned (.int .i64 (Blm.onesB (mkT X bits).data.toList : Int)) ∧ Below u.heap.size u w') := Lib.hid fun u hu => ones_any _ hmx u hu
  have CH : Hid (∀ (x : ByteArray), x ∈ X → ∀ u : World, Calls Tryd.prog 9 #[.string (mkT X bits), .string x] u fun e w' => e = .returned (.bool true) ∧ Below u.heap.size u w') := Lib.hid fun x hx u => by
    have h := has_any (mkT X bits) x hmx (HX.out x hx) u
    rw [HH.out x hx] at h
    exact h
  obtain ⟨F, hF⟩ := named (mkT X bits)
  obtain ⟨K, hK⟩ := named (Blm.probes bits)
  simp only [← hF.out, ← hK.out] at M hh h0 CC CO CH hs hon hk
  obtain ⟨O, hO⟩ := named (Blm.onesB F.data.toList)
  simp only [← hO.out] at CO hon
  have f1 : (F[0].toNat : Int) = (K : Int) := by rw [hh]
  have s1 : (0 : Int) < (F.size : Int) := by omega
  have s2 : F.size ≤ 262145 := by omega
  have hmul : K * n ≤ 22 * 400 := Nat.mul_le_mul hk hn
  obtain ⟨P, hP⟩ := named (K * n)
  rw [← hP.out] at hmul hon
  have hPi : (K : Int) * (n : Int) = (P : Int) := by rw [hP.out]; push_cast; rfl
  have i1 : (n : Int) ≤ 400 := by omega
  have i2 : (O : Int) ≤ (P : Int) := by omega
  clear ht hX htab hlen hok hs hw8 hh HH hmx
  go_enter Tryd.func4, Tryd.ntmps4
  go_upto_region 6 with (go_at_call 13; (with_reducible refine (M.out _ (Below.refl _ _)).mono ?_); rintro e w1 ⟨rfl, b1⟩)
  have z0 : ((F.size : Int) == 0) = false := beq_eq_false_iff_ne.2 (by omega)
  have wr0 : IntKind.i64.wrap (K : Int) = (K : Int) := by rw [IntKind.wrap_i64]; omega
  have wr1 : IntKind.i64.wrap (P : Int) = (P : Int) := by rw [IntKind.wrap_i64]; omega
  have HB2 := Lib.hid (HB.out.below b1.drew (Nat.le_refl _))
  refine wp_region_any (by kernel_rfl) ?_
  refine take_at (i := 0) (v := ?_) rfl (by kernel_rfl) (by kernel_rfl) (by kernel_rfl) (fun _ _ _ h => h) (by rfl) (fun w => ?_) ?_; rotate_left 1; focus (first | (go_simp; done) | (go_simp; with_reducible rfl))
  try simp only [Act.put, List.setIfInBounds_toArray, List.set_cons_zero, List.set_cons_succ]
  refine call_at (i := 1) (by kernel_rfl) rfl (by rfl) (fun K hK => ?_)
  go_simp
  go_at_call 7
  (with_reducible refine (CC.out _).mono ?_)
  rintro e w2 ⟨rfl, rfl⟩
  refine hK _ _ ?_
  try simp only [Act.put, List.setIfInBounds_toArray, List.set_cons_zero, List.set_cons_succ]
  refine take_at (i := 2) (v := ?_) rfl (by kernel_rfl) (by kernel_rfl) (by kernel_rfl) (fun _ _ _ h => h) (by rfl) (fun w => ?_) ?_; rotate_left 1; focus (first | (go_simp; done) | (go_simp; with_reducible rfl))
  try simp only [Act.put, List.setIfInBounds_toArray, List.set_cons_zero, List.set_cons_succ]
  refine take_at (i := 3) (v := ?_) rfl (by kernel_rfl) (by kernel_rfl) (by kernel_rfl) (fun _ _ _ h => h) (by rfl) (fun w => ?_) ?_; rotate_left 1; focus (first | (go_simp; done) | (go_simp; with_reducible rfl))
  try simp only [Act.put, List.setIfInBounds_toArray, List.set_cons_zero, List.set_cons_succ]
  refine take_at (i := 4) (v := ?_) rfl (by kernel_rfl) (by kernel_rfl) (by kernel_rfl) (fun _ _ _ h => h) (by rfl) (fun w => ?_) ?_; rotate_left 1; focus (first | (go_simp; done) | (go_simp; with_reducible rfl))
  try simp only [Act.put, List.setIfInBounds_toArray, List.set_cons_zero, List.set_cons_succ]
  refine take_at (i := 5) (v := ?_) rfl (by kernel_rfl) (by kernel_rfl) (by kernel_rfl) (fun _ _ _ h => h) (by rfl) (fun w => ?_) ?_; rotate_left 1; focus (first | (go_simp; done) | (go_simp; with_reducible rfl))
  try simp only [Act.put, List.setIfInBounds_toArray, List.set_cons_zero, List.set_cons_succ]
  refine take_at (i := 6) (v := ?_) rfl (by kernel_rfl) (by kernel_rfl) (by kernel_rfl) (fun _ _ _ h => h) (by rfl) (fun w => ?_) ?_; rotate_left 1; focus (first | (go_simp; done) | (go_simp; with_reducible rfl))
  try simp only [Act.put, List.setIfInBounds_toArray, List.set_cons_zero, List.set_cons_succ]
  refine take_at (i := 7) (v := ?_) rfl (by kernel_rfl) (by kernel_rfl) (by kernel_rfl) (fun _ _ _ h => h) (by rfl) (fun w => ?_) ?_; rotate_left 1; focus (first | (go_simp; done) | (go_simp; with_reducible rfl))
  try simp only [Act.put, List.setIfInBounds_toArray, List.set_cons_zero, List.set_cons_succ]
  refine take_at (i := 8) (v := ?_) rfl (by kernel_rfl) (by kernel_rfl) (by kernel_rfl) (fun _ _ _ h => h) (by rfl) (fun w => ?_) ?_; rotate_left 1; focus (first | (go_simp; done) | (go_simp; with_reducible rfl))
  try simp only [Act.put, List.setIfInBounds_toArray, List.set_cons_zero, List.set_cons_succ]
  refine take_at (i := 9) (v := ?_) rfl (by kernel_rfl) (by kernel_rfl) (by kernel_rfl) (fun _ _ _ h => h) (by rfl) (fun w => ?_) ?_; rotate_left 1; focus (first | (go_simp; done) | (go_simp; with_reducible rfl))
  try simp only [Act.put, List.setIfInBounds_toArray, List.set_cons_zero, List.set_cons_succ]
  refine take_at (i := 11) (v := ?_) rfl (by kernel_rfl) (by kernel_rfl) (by kernel_rfl) (fun _ _ _ h => h) (by rfl) (fun w => ?_) ?_; rotate_left 1; focus (first | (go_simp; done) | (go_simp; with_reducible rfl))
  try simp only [Act.put, List.setIfInBounds_toArray, List.set_cons_zero, List.set_cons_succ]
  refine take_at (i := 12) (v := ?_) rfl (by kernel_rfl) (by kernel_rfl) (by kernel_rfl) (fun _ _ _ h => h) (by rfl) (fun w => ?_) ?_; rotate_left 1; focus (first | (go_simp; done) | (go_simp; with_reducible rfl))
  try simp only [Act.put, List.setIfInBounds_toArray, List.set_cons_zero, List.set_cons_succ]
  refine take_at (i := 13) (v := ?_) rfl (by kernel_rfl) (by kernel_rfl) (by kernel_rfl) (fun _ _ _ h => h) (by rfl) (fun w => ?_) ?_; rotate_left 1; focus (first | (go_simp; done) | (go_simp; with_reducible rfl))
  try simp only [Act.put, List.setIfInBounds_toArray, List.set_cons_zero, List.set_cons_succ]
  refine take_at (i := 14) (v := ?_) rfl (by kernel_rfl) (by kernel_rfl) (by kernel_rfl) (fun _ _ _ h => h) (by rfl) (fun w => ?_) ?_; rotate_left 1; focus (first | (go_simp; done) | (go_simp; with_reducible rfl))
  try simp only [Act.put, List.setIfInBounds_toArray, List.set_cons_zero, List.set_cons_succ]
  refine take_at (i := 15) (v := ?_) rfl (by kernel_rfl) (by kernel_rfl) (by kernel_rfl) (fun _ _ _ h => h) (by rfl) (fun w => ?_) ?_; rotate_left 1; focus (first | (go_simp; done) | (go_simp; with_reducible rfl))
  try simp only [Act.put, List.setIfInBounds_toArray, List.set_cons_zero, List.set_cons_succ]
  refine take_at (i := 16) (v := ?_) rfl (by kernel_rfl) (by kernel_rfl) (by kernel_rfl) (fun _ _ _ h => h) (by rfl) (fun w => ?_) ?_; rotate_left 1; focus (first | (go_simp; done) | (go_simp; with_reducible rfl))
  try simp only [Act.put, List.setIfInBounds_toArray, List.set_cons_zero, List.set_cons_succ]
  refine call_at (i := 10) (by kernel_rfl) rfl (by rfl) (fun K hK => ?_)
  go_simp
  go_at_call 11
  (with_reducible refine (CO.out _ HB2.out).mono ?_)
  rintro e w3 ⟨rfl, b3⟩
  refine hK _ _ ?_
  try simp only [Act.put, List.setIfInBounds_toArray, List.set_cons_zero, List.set_cons_succ]
  refine take_at (i := 17) (v := ?_) rfl (by kernel_rfl) (by kernel_rfl) (by kernel_rfl) (fun _ _ _ h => h) (by rfl) (fun w => ?_) ?_; rotate_left 1; focus (first | (go_simp; done) | (go_simp; with_reducible rfl))
  try simp only [Act.put, List.setIfInBounds_toArray, List.set_cons_zero, List.set_cons_succ]
  refine take_at (i := 18) (v := ?_) rfl (by kernel_rfl) (by kernel_rfl) (by kernel_rfl) (fun _ _ _ h => h) (by rfl) (fun w => ?_) ?_; rotate_left 1; focus (first | (go_simp; done) | (go_simp; with_reducible rfl))
  try simp only [Act.put, List.setIfInBounds_toArray, List.set_cons_zero, List.set_cons_succ]
  refine wpAny_done (by kernel_rfl) ?_ _
  have B3 := Lib.hid (b1.trans ((Below.trans (Below.refl _ _).drew b3).mono b1.size))
  have d1 : decide ((P : Int) < (O : Int)) = false := decide_eq_false (by omega)
  clear b3 HB2 CC CO
  go_wp2
  clear z0 wr0 wr1 d1 f1 hPi i2 hon
  generalize decide (P < O) = D5
  go_loopw [7] (fun d wr => ∃ i : Nat, i ≤ n ∧ d = .int .i64 i ∧ Hid (Below w.heap.size w wr)) (fun d _ => n - (intOf d).toNat)
  case atStart => exact ⟨0, by omega, rfl, B3⟩
  case round =>
    obtain ⟨i, hi, rfl, hb⟩ := hrel
    by_cases hlt : i < n
    · have hiX : i < X.length := by rw [HL.out]; exact hlt
      have h1 := (HT.out.below hb.out (Nat.le_refl _)).cell hiX
      have a1 := (HT.out.addr (by omega)).1
      have hm := CH.out X[i] (List.getElem_mem hiX)
      obtain ⟨x, hx⟩ := named X[i]
      rw [← hx.out] at h1 hm
      have HM := Lib.hid hm
      have i2 : (i : Int) < (n : Int) := by omega
      have i3 : (0 : Int) ≤ (i : Int) := by omega
      subst a1
      clear hm
      go_wp2_with (go_at_call 9; (with_reducible refine (HM.out _).mono ?_); rintro e w4 ⟨rfl, b4⟩)
      go_roundw
      case rel => exact ⟨i + 1, by omega, by go_num, Lib.hid (hb.out.trans (b4.mono hb.out.size))⟩
      case measure => simp [intOf]; omega
    · obtain rfl : i = n := by omega
      go_wp2_with (go_at_call 6; (with_reducible refine (AW.out _).mono ?_); rintro e w9 ⟨rfl, b9⟩)
      go_returns
      exact ⟨rfl, hb.out.trans (b9.mono hb.out.size)⟩
theorem allL_walk (a : Option Addr) (n c b o : Nat) (X : List ByteArray) (bits : Int) (_ : (Lit.int .i64 bits).wf = true) (w : World) (hX : TextsAt a n c b o X w ∧ ∀ v ∈ X, v.size ≤ reachBytes) (ht : Tab w) :
    Calls Tryd.prog 4 #[.slice a n c, .int .i64 bits] w fun e w' => e = .returned (.bool true) ∧ Below w.heap.size w w' := by
  by_cases h : 400 < n ∨ bits < 1 ∨ 32 < bits
  · exact allL_other a n c bits h w
  · obtain ⟨k, rfl⟩ : ∃ k : Nat, bits = (k : Int) := ⟨bits.toNat, by omega⟩
    exact allL_good a n c b o X k (by omega) (by omega) (by omega) w hX.1 (reach_texts hX.2) ht
--CARDTAB freshetlaw10.BloomAll allL_walk texts:t int:bits
--BEGIN
namespace BloomAllProof
open Go.ChangeShapes Go.WideShapes Go.ChangeAt Go.RowKit
open Go.ChangeMaps (open_string shut_string)
theorem own : ownKnob Tryd.prog.godebug = none := by kernel_rfl
theorem reads (os : Os) {H : Type} (enc : TypeId × Value → H) : ∃ places, DataW.whole enc Tryd.prog ((World.laidAll Tryd.prog os Rows.bloomAllRow.laid).forCall (fun _ _ => 0) ⟨#[], #[.slice none 0 0, .int .i64 0], []⟩).memory Tryd.f4.params.toList Rows.bloomAllSpec.vars false (#[.slice none 0 0, .int .i64 0] : Array Value).toList 8 = some ([.nil, .lit (.int .i64 0)], [], places) :=
  ⟨[], by kernel_rfl⟩
theorem laid_met (os : Os) (args : Array Value) : laidMetH Tryd.prog Rows.bloomAllRow.laid ((World.laidAll Tryd.prog os Rows.bloomAllRow.laid).forCall (fun _ _ => 0) ⟨#[], args, []⟩).memory := by
  rw [MakeChecks.laidMetH_plain _ _ _ (by kernel_rfl)]; exact laidMet_laidAll _ (by kernel_rfl) (by kernel_rfl)
set_option maxRecDepth 100000 in
theorem lifted (os : Os) (started : os.Started) (H : Type) (enc : TypeId × Value → H) (F : Stop.Interp) :
    ReturnsInHanded {} Tryd.checked os 4 .any ((OpenSpec.ofChange Rows.bloomAllSpec).preRow enc Tryd.prog Tryd.f4 Rows.bloomAllRow.domain false Rows.bloomAllRow.laid) (((OpenSpec.ofChange Rows.bloomAllSpec).at F).post enc Tryd.prog Tryd.f4 false true false false) := by
  obtain ⟨places, hx⟩ := reads os enc
  refine returnsInHanded_of_row (C := Tryd.checked) (s := OpenSpec.ofChange Rows.bloomAllSpec) own started (by kernel_rfl) Tryd.func4
    (witness_row_shaped (enc := enc) (C := Tryd.checked) false (World.laidAll Tryd.prog os Rows.bloomAllRow.laid) #[.slice none 0 0, .int .i64 0] (World.laidAll_os _ _ _) (World.shaped_of_ZipB (by kernel_rfl) (by kernel_rfl)) (by kernel_rfl)
      (OpenSpec.preRow_of_cond 8 hx (by kernel_rfl) (fun k hk => by cases hk) (by kernel_rfl) (laid_met os _))) ?_
  intro W base args ds gs before hval0 hW _ hcond hsz hlaid hsh _
  have hval : ∀ (j : Nat) t v, Tryd.f4.params[j]? = some t → args[j]? = some v → Value.okWide Tryd.prog W .any base t v := hval0
  have hW' := hW
  obtain ⟨p, q, hA0, hV, rfl, hfz, hnd⟩ := hW
  have hA : DataW.TrodAll enc Tryd.prog W 0 (fun _ => true) true Tryd.f4.params.toList args.toList ds p := hA0
  rw [Tryd.params4] at hA hval hsz
  obtain ⟨v0, vs0, d0, ds0, p0, q0, hargs, rfl, rfl, h0, r0⟩ := trodAll_cons hA
  obtain ⟨v1, vs1, d1, ds1, p1, q1, rfl, rfl, rfl, h1, r1⟩ := trodAll_cons r0
  obtain ⟨rfl, rfl, rfl⟩ := trodAll_nil r1
  obtain rfl : args = #[v0, v1] := by cases args; simp_all
  obtain ⟨rfl, rfl⟩ := trodVars_none hV
  obtain ⟨a0, n0, c0, rfl⟩ := okWide_slice Tryd.underlying27 (hval 0 27 v0 rfl rfl)
  have k0 := h0
  obtain ⟨fu0, hf0⟩ := h0
  obtain ⟨b0, o0, t, ia0⟩ := open_texts hf0 hsz (j := 0) rfl rfl
  obtain ⟨bits, rfl, rfl, rfl, m1⟩ := open_int Tryd.underlying3 (hval 1 3 v1 rfl rfl) h1
  have lt0 : ∀ x ∈ p0, x.block < W.heap.size := fun x hx => hW'.lt x (by simp only [List.mem_append]; simp [hx])
  clear hA0 hval0
  simp only [List.append_nil] at hW'
  have hmx := tab_laid (w := W) hlaid
  refine (allL_walk a0 n0 c0 b0 o0 t bits m1 W ia0 hmx).mono fun e W' ⟨he, hg⟩ => ?_
  subst he
  exact ⟨_, rfl, _, _, _, [], _, [], hW', (trodAll_cons_mk (shut_bool Tryd.underlying4 _) trodAll_mk0), (trodAll_cons_mk (Below.trod laid_out (by kernel_rfl) (of_decide_eq_true (by kernel_rfl)) k0 hg lt0) (trodAll_cons_mk (shut_int Tryd.underlying3 m1) trodAll_mk0)), rfl, hg.frame _, fun h => by cases h⟩
theorem said : Rows.BloomAllSaid :=
  OpenClaim.holds_of_cond 4 Tryd.f4 rfl rfl rfl rfl rfl rfl rfl ⟨rfl, rfl, rfl, rfl, rfl⟩ rfl rfl rfl rfl rfl (by kernel_rfl) Tryd.func4 (by kernel_rfl)
    (of_decide_eq_true (by kernel_rfl)) (by unfold Func.isWrapper; first | (rw [if_pos (by decide +kernel)]; kernel_rfl) | (rw [if_neg (by decide +kernel)]; exact ⟨rfl, rfl⟩))
    (fun os started H enc _ F => by rw [OpenClaim.pre_eq_preRow]; exact lifted os started H enc F)
theorem plain (f : FuncId) (fn : Func) (hf : Tryd.pinned.checked.prog.funcNamed "freshet/freshetlaw10.BloomAll" = some f) (hfn : Tryd.pinned.checked.prog.funcs[f]? = some fn) :
    false = Tryd.pinned.checked.prog.looks [] ∧ ∀ (j : Nat) t, fn.params[j]? = some t → Tryd.pinned.checked.prog.wantsStandIn t = false := by
  obtain rfl : f = 4 := Option.some.inj ((show Tryd.prog.funcNamed "freshet/freshetlaw10.BloomAll" = some 4 by kernel_rfl).symm.trans hf) |>.symm
  obtain rfl : fn = Tryd.f4 := (Option.some.inj (Tryd.func4.symm.trans hfn)).symm
  refine ⟨by kernel_rfl, fun j t ht => ?_⟩
  rw [Tryd.params4] at ht
  have hm : t ∈ ([27, 3] : List Nat) := by simpa using Array.mem_of_getElem? ht
  have hall : (([27, 3] : List Nat).all fun u => !Tryd.prog.wantsStandIn u) = true := by kernel_rfl
  exact (show Tryd.prog.wantsStandIn t = false by simpa using List.all_eq_true.1 hall t hm)
theorem holds : Rows.BloomAllCardSaid :=
  Claim7.holds_tied_plain_at .later [] _ _ _ _ said (fun _ h => by cases h) (by kernel_rfl) (fun _ h => by cases h) bloomAll_row_tie rfl ⟨rfl, rfl⟩ (by kernel_rfl) rfl plain (by kernel_rfl)
end BloomAllProof
--END
end Go.Proofs.YtccdbodemoefkaaDoor
