/-
  DiskFuse: with a fuse of n, n - 1 steps are done, and then the power is gone. No condition.
-/
import Derived.Test.YtkmobhbbodajcaaDiskPair
import Derived.Test.YtkmobhbbodajcaaDiskSureLaw
namespace Go.Proofs.Ytkmobhbbodajcaa
open Go.RowKit Go.Maps
attribute [local go_sem] eq_file ne_file ne_disk ne_map eq_disk2
set_option maxRecDepth 100000 in
set_option maxHeartbeats 4000000 in
theorem fuse_main {a0 : Option Addr} {n0 c0 b0 o0 : Nat} {l0 : List OpV} {w : World} (h0 : OpsArg a0 n0 c0 b0 o0 l0 w) (q0 : longB l0 = false) (n : Int) (hn1 : 1 ≤ n) (hn2 : n ≤ 1000) :
    Calls Try.prog 6 #[.slice a0 n0 c0, .int .i64 n] w fun e w' => e = .returned (.bool true) ∧ Below w.heap.size w w' := by
  have AW := fun u => Lib.hid (awake_any u)
  have L0 := long_any h0
  rw [q0] at L0
  have L0 := Lib.hid L0
  have d1 : decide (n < 1) = false := by rw [decide_eq_false_iff_not]; omega
  have d2 : decide ((1000 : Int) < n) = false := by rw [decide_eq_false_iff_not]; omega
  have N := Lib.hid (live_new (base := w.heap.size) 268435456 (by decide) (by decide) w (Nat.le_refl _))
  have F0 := Lib.hid (long_false q0)
  clear q0
  have H0 := Lib.hid h0
  clear h0
  go_enter Try.func6, Try.ntmps6
  go_wp2_with fail
  refine L0.out.mono ?_
  rintro e w' ⟨rfl, rfl⟩
  go_wp2_with fail
  refine N.out.mono ?_
  rintro e v0 ⟨own0, p, rfl, lv, bb, f0⟩
  have B0 := Lib.hid bb
  have N2 := Lib.hid (pair_new lv bb.size)
  clear bb f0 lv N L0
  go_wp2_with fail
  refine N2.out.mono ?_
  rintro e v1 ⟨q, rfl, P1, b1⟩
  have B1 := Lib.hid (B0.out.trans b1)
  have C0 := Lib.hid (P1.first B1.out.size fun o1 l => live_fuse l n (by omega))
  clear B0 N2 b1 P1
  go_wp2_with fail
  refine C0.out.mono ?_
  rintro e v2 ⟨rfl, P2, b2⟩
  have B2 := Lib.hid (B1.out.trans b2)
  have P2 := Lib.hid P2
  have R2 := Lib.hid (fused_new hn1)
  clear B1 C0 b2 d1 d2
  go_wp2_with fail
  go_loopw [9] (fun i wr => ∃ (j : Nat) (s t : St), j ≤ n0 ∧ i = .int .i64 (j : Int) ∧ Pair w.heap.size p q (1 + (j : Int)) (j : Int) s t wr ∧ Below w.heap.size w wr ∧ Fused n s t) (fun i _ => n0 - (intOf i).toNat)
  case atStart => exact ⟨0, _, _, Nat.zero_le _, rfl, P2.out.more (by omega) (by omega), B2.out, R2.out⟩
  case round =>
    clear P2 B2 R2
    obtain ⟨j, s, t, hj, rfl, hp, hb, hR⟩ := hrel
    have hp := Lib.hid hp
    have hb := Lib.hid hb
    have hR := Lib.hid hR
    have hj120 : j ≤ 120 := by have := F0.out.1; have := H0.out.1; omega
    by_cases hlt : j < n0
    · obtain ⟨hlen, _, _, hadr, hat, hsz⟩ := H0.out
      obtain ⟨⟨xd, xnm, xdt, xn, xca, xcn, xcc⟩, hx⟩ : ∃ x, l0[j]? = some x := ⟨_, List.getElem?_eq_getElem (by rw [hlen]; exact hlt)⟩
      have hmem := List.mem_of_getElem? hx
      obtain ⟨z1, z2, z3⟩ := hsz _ hmem
      have z2 := (F0.out.2 _ hmem).1
      obtain ⟨ha, hbl⟩ := hadr (by omega)
      have hat1 := hat.keep (hb.out.block b0 hbl)
      obtain ⟨e0, e1, e2, e3, e4⟩ := hat1 j _ hx
      subst ha
      simp only at e0 e1 e2 e3 e4 z1 z2 z3
      have hat := Lib.hid hat
      have hx := Lib.hid hx
      clear hat1 hsz hadr hlen hmem
      by_cases h7 : xd = 7
      · subst h7
        clear z1 z2 z3 e1 e2 e3 e4
        go_wp2_with fail
        go_roundw
        case rel => exact ⟨j + 1, s, t, by omega, by go_num, hp.out.more (by omega) (by omega), hb.out, hR.out⟩
        case measure => simp [intOf]; omega
      · have C1 : Hid (Calls Try.prog 11 #[at0 p, .agg #[.int .i64 xd, .string xnm, .string xdt, .int .i64 xn, .slice xca xcn xcc], .string ⟨#[]⟩] wr (PDid w.heap.size p q (1 + (j : Int) + 1) (j : Int) (doesS s ⟨xd, xnm, xdt, xn, xca, xcn, xcc⟩ []) t (.tuple #[]) wr)) := Lib.hid (hp.out.first hb.out.size fun o1 l => does_any l (by omega) ⟨xd, xnm, xdt, xn, xca, xcn, xcc⟩ z1 (by simp only; omega) z3 ⟨#[]⟩)
        have n7 : (xd != 7) = true := by simpa using h7
        go_wp2_with fail
        refine C1.out.mono ?_
        rintro e w1 ⟨rfl, P1, b1⟩
        have B1 := Lib.hid (hb.out.trans b1)
        have C2 : Hid (Calls Try.prog 11 #[at0 q, .agg #[.int .i64 xd, .string xnm, .string xdt, .int .i64 xn, .slice xca xcn xcc], .string ⟨#[]⟩] w1 (PDid w.heap.size p q (1 + (j : Int) + 1) ((j : Int) + 1) (doesS s ⟨xd, xnm, xdt, xn, xca, xcn, xcc⟩ []) (doesS t ⟨xd, xnm, xdt, xn, xca, xcn, xcc⟩ []) (.tuple #[]) w1)) := Lib.hid (P1.second B1.out.size fun o1 l => does_any l (by omega) ⟨xd, xnm, xdt, xn, xca, xcn, xcc⟩ z1 (by simp only; omega) z3 ⟨#[]⟩)
        obtain ⟨e0', e1', e2', e3', e4'⟩ := hat.out.keep (B1.out.block b0 hbl) j _ hx.out
        simp only at e0' e1' e2' e3' e4'
        have hR' := Lib.hid (hR.out.does ⟨xd, xnm, xdt, xn, xca, xcn, xcc⟩ [] h7)
        clear z1 z2 z3 P1 b1 C1 hat hx hb hp hR e0 e1 e2 e3 e4
        go_wp2_with fail
        refine C2.out.mono ?_
        rintro e w2 ⟨rfl, P2, b2⟩
        have B2 := Lib.hid (B1.out.trans b2)
        have P2 := Lib.hid P2
        clear C2 B1 b2
        go_wp2_with fail
        go_roundw
        case rel => exact ⟨j + 1, _, _, by omega, by go_num, P2.out.more (by omega) (by omega), B2.out, hR'.out⟩
        case measure => simp [intOf]; omega
    · have S1 := hp.out.steps
      have S2 := hp.out.symm.steps
      have D1 := hp.out.isDown
      by_cases hst : t.steps < n
      · obtain ⟨g1, g2, T⟩ := hR.out.early hst
        have SA := Lib.hid (pair_same hp.out T)
        rw [g1] at S1
        rw [g2] at D1
        obtain ⟨k, hk⟩ := named t.steps
        rw [← hk.out] at S1 S2
        have dk : decide (k < n) = true := by rw [decide_eq_true_eq, hk.out]; exact hst
        have S1 := Lib.hid S1
        have S2 := Lib.hid S2
        have D1 := Lib.hid D1
        clear hp hR T g1 g2 hst
        go_wp2_with fail
        refine S2.out.mono ?_
        rintro e w1 ⟨rfl, rfl⟩
        go_wp2_with fail
        refine S1.out.mono ?_
        rintro e w1 ⟨rfl, rfl⟩
        go_wp2_with fail
        refine S2.out.mono ?_
        rintro e w1 ⟨rfl, rfl⟩
        go_wp2_with fail
        refine D1.out.mono ?_
        rintro e w1 ⟨rfl, rfl⟩
        go_wp2_with fail
        refine SA.out.mono ?_
        rintro e w1 ⟨rfl, b1⟩
        have B1 := Lib.hid (hb.out.trans (b1.mono hb.out.size))
        go_wp2_with (go_at_call 9; refine (AW _).out.mono ?_; rintro e w' ⟨rfl, hb⟩)
        go_returns
        exact ⟨rfl, B1.out.trans (hb.mono B1.out.size)⟩
      · obtain ⟨g1, g2⟩ := hR.out.late hst
        rw [g1] at S1
        rw [g2] at D1
        obtain ⟨k, hk⟩ := named t.steps
        rw [← hk.out] at S2
        have dk : decide (k < n) = false := by rw [decide_eq_false_iff_not, hk.out]; exact hst
        have S1 := Lib.hid S1
        have S2 := Lib.hid S2
        have D1 := Lib.hid D1
        clear hp hR g1 g2 hst
        go_wp2_with fail
        refine S2.out.mono ?_
        rintro e w1 ⟨rfl, rfl⟩
        go_wp2_with fail
        refine S1.out.mono ?_
        rintro e w1 ⟨rfl, rfl⟩
        have wr1 : wrap64 (n - 1) = n - 1 := (by unfold wrap64; omega)
        go_wp2_with fail
        refine D1.out.mono ?_
        rintro e w1 ⟨rfl, rfl⟩
        go_wp2_with (go_at_call 9; refine (AW _).out.mono ?_; rintro e w' ⟨rfl, hb'⟩)
        go_returns
        exact ⟨rfl, hb.out.trans (hb'.mono hb.out.size)⟩
set_option maxRecDepth 100000 in
set_option maxHeartbeats 1000000 in
theorem fuse_long {a0 : Option Addr} {n0 c0 b0 o0 : Nat} {l0 : List OpV} {w : World} (h0 : OpsArg a0 n0 c0 b0 o0 l0 w) (q0 : longB l0 = true) (n : Int) :
    Calls Try.prog 6 #[.slice a0 n0 c0, .int .i64 n] w fun e w' => e = .returned (.bool true) ∧ Below w.heap.size w w' := by
  have AW := fun u => Lib.hid (awake_any u)
  have L0 := long_any h0
  rw [q0] at L0
  have L0 := Lib.hid L0
  clear h0 q0
  go_enter Try.func6, Try.ntmps6
  go_wp2_with fail
  refine L0.out.mono ?_
  rintro e w' ⟨rfl, rfl⟩
  go_wp2_with (go_at_call 9; refine (AW _).out.mono ?_; rintro e w' ⟨rfl, hb⟩)
  go_returns
  exact ⟨rfl, hb⟩
set_option maxRecDepth 100000 in
set_option maxHeartbeats 1000000 in
theorem fuse_other {a0 : Option Addr} {n0 c0 b0 o0 : Nat} {l0 : List OpV} {w : World} (h0 : OpsArg a0 n0 c0 b0 o0 l0 w) (q0 : longB l0 = false) (n : Int) (hn : ¬ (1 ≤ n ∧ n ≤ 1000)) :
    Calls Try.prog 6 #[.slice a0 n0 c0, .int .i64 n] w fun e w' => e = .returned (.bool true) ∧ Below w.heap.size w w' := by
  have AW := fun u => Lib.hid (awake_any u)
  have L0 := long_any h0
  rw [q0] at L0
  have L0 := Lib.hid L0
  clear h0 q0
  have hall : n < 1 ∨ (1 ≤ n ∧ 1000 < n) := by omega
  rcases hall with h1 | ⟨h1, h2⟩
  · have d1 : decide (n < 1) = true := by rw [decide_eq_true_eq]; omega
    go_enter Try.func6, Try.ntmps6
    go_wp2_with fail
    refine L0.out.mono ?_
    rintro e w' ⟨rfl, rfl⟩
    go_wp2_with (go_at_call 9; refine (AW _).out.mono ?_; rintro e w' ⟨rfl, hb⟩)
    go_returns
    exact ⟨rfl, hb⟩
  · have d1 : decide (n < 1) = false := by rw [decide_eq_false_iff_not]; omega
    have d2 : decide ((1000 : Int) < n) = true := by rw [decide_eq_true_eq]; omega
    go_enter Try.func6, Try.ntmps6
    go_wp2_with fail
    refine L0.out.mono ?_
    rintro e w' ⟨rfl, rfl⟩
    go_wp2_with (go_at_call 9; refine (AW _).out.mono ?_; rintro e w' ⟨rfl, hb⟩)
    go_returns
    exact ⟨rfl, hb⟩
theorem fuse_walk (a0 : Option Addr) (n0 c0 b0 o0 : Nat) (l0 : List OpV) (n : Int) (_hr : (Lit.int .i64 n).wf = true) (w : World) (h0 : OpsArg a0 n0 c0 b0 o0 l0 w) :
    Calls Try.prog 6 #[.slice a0 n0 c0, .int .i64 n] w fun e w' => e = .returned (.bool true) ∧ Below w.heap.size w w' := by
  cases q0 : longB l0 with
  | true => exact fuse_long h0 q0 n
  | false =>
    by_cases hn : 1 ≤ n ∧ n ≤ 1000
    · exact fuse_main h0 q0 n hn.1 hn.2
    · exact fuse_other h0 q0 n hn
--LAW freshetlaw05.DiskFuse fuse_walk ops:l0 int:n
--BEGIN
namespace DiskFuseProof
open Go.ChangeShapes Go.WideShapes Go.ChangeAt Go.RowKit
open Go.ChangeMaps (open_string shut_string)
theorem own : ownKnob Try.prog.godebug = none := by kernel_rfl
set_option maxRecDepth 100000 in
theorem lifted (os : Os) (started : os.Started) (H : Type) (enc : TypeId × Value → H) :
    ReturnsInHanded {} Try.checked os 6 .any (Rows.diskFuseSpec.pre6 enc Try.prog Try.f6 Rows.diskFuseRow.domain false) (Rows.diskFuseSpec.post enc Try.prog Try.f6 false true false false) := by
  refine returnsInHanded_of_change_sized (C := Try.checked) own started (by kernel_rfl) Try.func6
    (ChangeSpec.witness6 (enc := enc) (C := Try.checked) false ⟨#[], #[.slice none 0 0, .int .i64 0], []⟩ 8 (by kernel_rfl) (by kernel_rfl) (by kernel_rfl) (by kernel_rfl)) ?_
  intro W base args ds gs before hval0 hW _ hsz _
  have hval : ∀ (j : Nat) t v, Try.f6.params[j]? = some t → args[j]? = some v → Value.okWide Try.prog W .any base t v := hval0
  have hW' := hW
  obtain ⟨p, q, hA0, hV, rfl, hfz, hnd⟩ := hW
  have hA : DataW.TrodAll enc Try.prog W 0 (fun _ => true) true Try.f6.params.toList args.toList ds p := hA0
  rw [Try.params6] at hA hval hsz
  obtain ⟨v0, vs0, d0, ds0, p0, q0, hargs, rfl, rfl, h0, r0⟩ := trodAll_cons hA
  obtain ⟨v1, vs1, d1, ds1, p1, q1, rfl, rfl, rfl, h1, r1⟩ := trodAll_cons r0
  obtain ⟨rfl, rfl, rfl⟩ := trodAll_nil r1
  obtain rfl : args = #[v0, v1] := by cases args; simp_all
  obtain ⟨rfl, rfl⟩ := trodVars_none hV
  obtain ⟨a0, n0, c0, rfl⟩ := okWide_slice Try.underlying22 (hval 0 22 v0 rfl rfl)
  have k0 := h0
  obtain ⟨fu0, hf0⟩ := h0
  obtain ⟨b0, o0, l0, ia0⟩ := open_ops_arg hf0 hsz (j := 0) rfl rfl
  have lt0 : ∀ x ∈ p0, x.block < W.heap.size := fun x hx => hW'.lt x (by simp only [List.mem_append]; simp [hx])
  obtain ⟨n, rfl, rfl, rfl, m1⟩ := open_int Try.underlying3 (hval 1 3 v1 rfl rfl) h1
  clear hA0 hval0
  simp only [List.append_nil] at hW'
  refine (fuse_walk a0 n0 c0 b0 o0 l0 n m1 W ia0).mono fun e W' ⟨he, hg⟩ => ?_
  subst he
  exact ⟨_, rfl, _, _, _, [], _, [], hW', (trodAll_cons_mk (shut_bool Try.underlying4 _) trodAll_mk0), (trodAll_cons_mk (Below.trod laid_out (by kernel_rfl) (of_decide_eq_true (by kernel_rfl)) k0 hg lt0) (trodAll_cons_mk (shut_int Try.underlying3 m1) trodAll_mk0)), rfl, hg.frame _, fun h => by cases h⟩
theorem holds : Rows.DiskFuseSaid :=
  OpenClaim.holds_of_wide 6 Try.f6 rfl rfl rfl rfl rfl rfl rfl ⟨rfl, rfl, rfl, rfl, rfl⟩ rfl rfl rfl rfl rfl (by kernel_rfl) Try.func6 (by kernel_rfl)
    (of_decide_eq_true (by kernel_rfl)) (by unfold Func.isWrapper; first | (rw [if_pos (by decide +kernel)]; kernel_rfl) | (rw [if_neg (by decide +kernel)]; exact ⟨rfl, rfl⟩))
    (fun os started H enc _ => lifted os started H enc)
end DiskFuseProof
--END
end Go.Proofs.Ytkmobhbbodajcaa
