/-
  DiskApart: what is done with a copy changes nothing of the disk, and the other way round. No condition.
-/
import Derived.Test.YtheealfappjabaaDiskTwiceLaw
namespace Go.Proofs.Ytheealfappjabaa
open Go.RowKit Go.Maps
attribute [local go_sem] eq_file ne_file ne_disk ne_map eq_disk2
set_option maxRecDepth 100000 in
set_option maxHeartbeats 4000000 in
theorem apart_main {a0 : Option Addr} {n0 c0 b0 o0 : Nat} {l0 : List OpV} {a1 : Option Addr} {n1 c1 b1 o1 : Nat} {l1 : List OpV} {w : World} (h0 : OpsArg a0 n0 c0 b0 o0 l0 w) (h1 : OpsArg a1 n1 c1 b1 o1 l1 w) (q0 : longB l0 = false) (q1 : longB l1 = false) (ca : Option Addr) (cn cc cb : Nat) (hcn : cn ≤ 300) (cs : List Int) (hI : IntsAt cb (.slice ca cn cc) cs w) :
    Calls Try.prog 7 #[.slice a0 n0 c0, .slice a1 n1 c1, .slice ca cn cc] w fun e w' => e = .returned (.bool true) ∧ Below w.heap.size w w' := by
  have AW := fun u => Lib.hid (awake_any u)
  have L0 := long_any h0
  have L1 := long_any h1
  rw [q0] at L0
  rw [q1] at L1
  have L0 := Lib.hid L0
  have L1 := Lib.hid L1
  have d1 : decide ((300 : Int) < (cn : Int)) = false := by rw [decide_eq_false_iff_not]; omega
  have N := Lib.hid (zoo_new (Zoo.nil w.heap.size w) (Nat.le_refl _) 268435456 (by decide) (by decide))
  have hcl := Lib.hid (fun hne => hI.lt hne)
  have hI := Lib.hid hI
  have F0 := Lib.hid (long_false q0)
  have F1 := Lib.hid (long_false q1)
  clear q0 q1
  have H0 := Lib.hid h0
  have H1 := Lib.hid h1
  clear h0 h1
  go_enter Try.func7, Try.ntmps7
  go_wp2_with fail
  refine L0.out.mono ?_
  rintro e w' ⟨rfl, rfl⟩
  go_wp2_with fail
  refine L1.out.mono ?_
  rintro e w' ⟨rfl, rfl⟩
  go_wp2_with fail
  refine N.out.mono ?_
  rintro e v0 ⟨p, rfl, Z0, b0'⟩
  have Z0 : Hid (Zoo w.heap.size [(p, 0, St.fresh 268435456)] v0) := Lib.hid Z0
  have B0 := Lib.hid b0'
  have N2 := Lib.hid (zoo_new Z0.out B0.out.size 268435456 (by decide) (by decide))
  clear b0' N L0 L1 Z0
  go_wp2_with fail
  refine N2.out.mono ?_
  rintro e v1 ⟨q, rfl, Z0, b0'⟩
  have Z0 : Hid (Zoo w.heap.size [(p, 0, St.fresh 268435456), (q, 0, St.fresh 268435456)] v1) := Lib.hid Z0
  have B1 := Lib.hid (B0.out.trans b0')
  clear b0' N2 B0
  go_wp2_with fail
  go_loopw [11] (fun i wr => ∃ (j : Nat) (s : St), j ≤ n0 ∧ i = .int .i64 (j : Int) ∧ Zoo w.heap.size [(p, (j : Int), s), (q, (j : Int), s)] wr ∧ Below w.heap.size w wr) (fun i _ => n0 - (intOf i).toNat)
  case atStart => exact ⟨0, _, Nat.zero_le _, rfl, Z0.out, B1.out⟩
  case round =>
    clear Z0 B1
    obtain ⟨j, s, hj, rfl, hp, hb⟩ := hrel
    have hp := Lib.hid hp
    have hb := Lib.hid hb
    have hj120 : j ≤ 120 := by have := F0.out.1; have := H0.out.1; omega
    by_cases hlt : j < n0
    · obtain ⟨hlen, _, _, hadr, hat, hsz⟩ := H0.out
      obtain ⟨⟨xd, xnm, xdt, xn, xca, xcn, xcc⟩, hx⟩ : ∃ x, l0[j]? = some x := ⟨_, List.getElem?_eq_getElem (by rw [hlen]; exact hlt)⟩
      have hmem := List.mem_of_getElem? hx
      obtain ⟨z1, z2, z3⟩ := hsz _ hmem
      have z2 := (F0.out.2 _ hmem).1
      obtain ⟨ha, hbl⟩ := hadr (by omega)
      have hat1 := hat.keep (hb.out.block b0 hbl)
      obtain ⟨e0, e1, e2, e3, e4⟩ := hat1 j _ hx
      subst ha
      simp only at e0 e1 e2 e3 e4 z1 z2 z3
      have hat := Lib.hid hat
      have hx := Lib.hid hx
      clear hat1 hsz hadr hlen hmem
      have C1 : Hid (Calls Try.prog 11 #[at0 p, .agg #[.int .i64 xd, .string xnm, .string xdt, .int .i64 xn, .slice xca xcn xcc], .string ⟨#[]⟩] wr (ZDid w.heap.size [(p, (j : Int) + 1, doesS s ⟨xd, xnm, xdt, xn, xca, xcn, xcc⟩ []), (q, (j : Int), s)] (.tuple #[]) wr)) := Lib.hid (zoo_does hp.out hb.out.size (i := 0) rfl (by omega) ⟨xd, xnm, xdt, xn, xca, xcn, xcc⟩ z1 z2 z3)
      go_wp2_with fail
      refine C1.out.mono ?_
      rintro e w1 ⟨rfl, P1, b1⟩
      have B1 := Lib.hid (hb.out.trans b1)
      have C2 : Hid (Calls Try.prog 11 #[at0 q, .agg #[.int .i64 xd, .string xnm, .string xdt, .int .i64 xn, .slice xca xcn xcc], .string ⟨#[]⟩] w1 (ZDid w.heap.size [(p, (j : Int) + 1, doesS s ⟨xd, xnm, xdt, xn, xca, xcn, xcc⟩ []), (q, (j : Int) + 1, doesS s ⟨xd, xnm, xdt, xn, xca, xcn, xcc⟩ [])] (.tuple #[]) w1)) := Lib.hid (zoo_does P1 B1.out.size (i := 1) rfl (by omega) ⟨xd, xnm, xdt, xn, xca, xcn, xcc⟩ z1 z2 z3)
      obtain ⟨e0', e1', e2', e3', e4'⟩ := hat.out.keep (B1.out.block b0 hbl) j _ hx.out
      simp only at e0' e1' e2' e3' e4'
      clear z1 z2 z3 P1 b1 C1 hat hx hb hp e0 e1 e2 e3 e4
      go_wp2_with fail
      refine C2.out.mono ?_
      rintro e w2 ⟨rfl, P2, b2⟩
      have B2 := Lib.hid (B1.out.trans b2)
      have P2 := Lib.hid P2
      clear C2 B1 b2
      go_wp2_with fail
      go_roundw
      case rel => exact ⟨j + 1, _, by omega, by go_num, P2.out, B2.out⟩
      case measure => simp [intOf]; omega
    · have C1 := Lib.hid (zoo_copy hp.out hb.out.size (i := 0) rfl (by omega))
      go_wp2_with fail
      clear hlt hj F0 H0
      refine C1.out.mono ?_
      rintro e w1 ⟨c, rfl, Z1, b1⟩
      have B1 := Lib.hid (hb.out.trans b1)
      have Z1 : Hid (Zoo w.heap.size [(p, (j : Int), s), (q, (j : Int), s), (c, (j : Int), s)] w1) := Lib.hid Z1
      clear C1 hb b1 hp
      go_wp2_with fail
      go_loopw [13] (fun i' wq => ∃ (j' : Nat) (t : St), j' ≤ n1 ∧ i' = .int .i64 (j' : Int) ∧ Zoo w.heap.size [(p, (j : Int), s), (q, (j : Int), s), (c, (j : Int) + (j' : Int), t)] wq ∧ Below w.heap.size w wq) (fun i' _ => n1 - (intOf i').toNat)
      case atStart => exact ⟨0, s, Nat.zero_le _, rfl, by have := Z1.out; simpa using this, B1.out⟩
      case round =>
        clear Z1 B1
        obtain ⟨j', t, hj', rfl, hp, hb⟩ := hrel
        have hp := Lib.hid hp
        have hb := Lib.hid hb
        have hj2 : j' ≤ 120 := by have := F1.out.1; have := H1.out.1; omega
        by_cases hlt : j' < n1
        · obtain ⟨hlen, _, _, hadr, hat, hsz⟩ := H1.out
          obtain ⟨⟨xd, xnm, xdt, xn, xca, xcn, xcc⟩, hx⟩ : ∃ x, l1[j']? = some x := ⟨_, List.getElem?_eq_getElem (by rw [hlen]; exact hlt)⟩
          have hmem := List.mem_of_getElem? hx
          obtain ⟨z1, z2, z3⟩ := hsz _ hmem
          have z2 := (F1.out.2 _ hmem).1
          obtain ⟨ha, hbl⟩ := hadr (by omega)
          obtain ⟨e0, e1, e2, e3, e4⟩ := (hat.keep (hb.out.block b1 hbl)) j' _ hx
          subst ha
          simp only at e0 e1 e2 e3 e4 z1 z2 z3
          clear hat hsz hadr hlen hbl hx hmem
          have C : Hid (Calls Try.prog 11 #[at0 c, .agg #[.int .i64 xd, .string xnm, .string xdt, .int .i64 xn, .slice xca xcn xcc], .string ⟨#[]⟩] wr (ZDid w.heap.size [(p, (j : Int), s), (q, (j : Int), s), (c, (j : Int) + (j' : Int) + 1, doesS t ⟨xd, xnm, xdt, xn, xca, xcn, xcc⟩ [])] (.tuple #[]) wr)) := Lib.hid (zoo_does hp.out hb.out.size (i := 2) rfl (by omega) ⟨xd, xnm, xdt, xn, xca, xcn, xcc⟩ z1 z2 z3)
          clear z1 z2 z3 hp
          go_wp2_with fail
          refine C.out.mono ?_
          rintro e w' ⟨rfl, hp', hb'⟩
          have hp' := Lib.hid hp'
          have hb' := Lib.hid (hb.out.trans hb')
          clear C hb
          go_wp2_with fail
          go_roundw
          case rel => exact ⟨j' + 1, _, by omega, by go_num, (by have := hp'.out.more (i := 2) rfl (k' := (j : Int) + ((j' + 1 : Nat) : Int)) (by omega); exact this), hb'.out⟩
          case measure => simp [intOf]; omega
        · have SA := Lib.hid (zoo_same hp.out (i := 0) (j := 1) rfl rfl (Alike.refl _))
          go_wp2_with fail
          clear hlt hj' F1 H1
          refine SA.out.mono ?_
          rintro e w2 ⟨rfl, b2⟩
          have B2 := Lib.hid (hb.out.trans (b2.mono hb.out.size))
          have Z2 := Lib.hid (hp.out.below b2)
          obtain ⟨k, hk⟩ := named s.steps
          have T1 := zoo_steps Z2.out (i := 0) rfl
          have T2 := zoo_steps Z2.out (i := 1) rfl
          rw [← hk.out] at T1 T2
          have T1 := Lib.hid T1
          have T2 := Lib.hid T2
          have kk : (k != k) = false := by simp
          clear SA hb b2 hp
          go_wp2_with fail
          refine T1.out.mono ?_
          rintro e w3 ⟨rfl, rfl⟩
          go_wp2_with fail
          refine T2.out.mono ?_
          rintro e w3 ⟨rfl, rfl⟩
          have C3 := Lib.hid (zoo_copy Z2.out B2.out.size (i := 2) rfl (by omega))
          clear T1 T2
          go_wp2_with fail
          refine C3.out.mono ?_
          rintro e w3 ⟨b, rfl, Z3, b3⟩
          have B3 := Lib.hid (B2.out.trans b3)
          have Z3 : Hid (Zoo w.heap.size [(p, (j : Int), s), (q, (j : Int), s), (c, (j : Int) + (j' : Int), t), (b, (j : Int) + (j' : Int), t)] w3) := Lib.hid Z3
          have C4 : Hid (Calls Try.prog 16 #[at0 p, .slice ca cn cc] w3 (ZDid w.heap.size [(p, (j : Int) + 1, s.crash cs), (q, (j : Int), s), (c, (j : Int) + (j' : Int), t), (b, (j : Int) + (j' : Int), t)] (.tuple #[]) w3)) := Lib.hid (zoo_crash Z3.out B3.out.size (i := 0) rfl (by omega) (hI.out.within B3.out) hcl.out)
          clear C3 B2 b3 Z2 Z3
          go_wp2_with fail
          refine C4.out.mono ?_
          rintro e w4 ⟨rfl, Z4, b4⟩
          have B4 := Lib.hid (B3.out.trans b4)
          have C5 : Hid (Calls Try.prog 16 #[at0 q, .slice ca cn cc] w4 (ZDid w.heap.size [(p, (j : Int) + 1, s.crash cs), (q, (j : Int) + 1, s.crash cs), (c, (j : Int) + (j' : Int), t), (b, (j : Int) + (j' : Int), t)] (.tuple #[]) w4)) := Lib.hid (zoo_crash Z4 B4.out.size (i := 1) rfl (by omega) (hI.out.within B4.out) hcl.out)
          clear C4 B3 b4 Z4
          go_wp2_with fail
          refine C5.out.mono ?_
          rintro e w5 ⟨rfl, Z5, b5⟩
          have B5 := Lib.hid (B4.out.trans b5)
          have Z5 := Lib.hid Z5
          have S1 := Lib.hid (zoo_same Z5.out (i := 0) (j := 1) rfl rfl (Alike.refl _))
          clear C5 B4 b5
          go_wp2_with fail
          refine S1.out.mono ?_
          rintro e w6 ⟨rfl, b6⟩
          have B6 := Lib.hid (B5.out.trans (b6.mono B5.out.size))
          have Z6 := Lib.hid (Z5.out.below b6)
          have S2 := Lib.hid (zoo_same Z6.out (i := 3) (j := 2) rfl rfl (Alike.refl _))
          clear S1 B5 b6 Z5
          go_wp2_with fail
          refine S2.out.mono ?_
          rintro e w7 ⟨rfl, b7⟩
          have B7 := Lib.hid (B6.out.trans (b7.mono B6.out.size))
          have Z7 := Lib.hid (Z6.out.below b7)
          obtain ⟨m, hm⟩ := named t.steps
          have T1 := zoo_steps Z7.out (i := 3) rfl
          have T2 := zoo_steps Z7.out (i := 2) rfl
          rw [← hm.out] at T1 T2
          have T1 := Lib.hid T1
          have T2 := Lib.hid T2
          have mm : (m == m) = true := by simp
          clear S2 B6 b7 Z6 Z7
          go_wp2_with fail
          refine T1.out.mono ?_
          rintro e w8 ⟨rfl, rfl⟩
          go_wp2_with fail
          refine T2.out.mono ?_
          rintro e w8 ⟨rfl, rfl⟩
          go_wp2_with (go_at_call 9; refine (AW _).out.mono ?_; rintro e w' ⟨rfl, hb⟩)
          go_returns
          exact ⟨rfl, B7.out.trans (hb.mono B7.out.size)⟩
set_option maxRecDepth 100000 in
set_option maxHeartbeats 1000000 in
theorem apart_big {a0 : Option Addr} {n0 c0 b0 o0 : Nat} {l0 : List OpV} {a1 : Option Addr} {n1 c1 b1 o1 : Nat} {l1 : List OpV} {w : World} (h0 : OpsArg a0 n0 c0 b0 o0 l0 w) (h1 : OpsArg a1 n1 c1 b1 o1 l1 w) (ca : Option Addr) (cn cc : Nat) (hbig : ¬ (longB l0 = false ∧ longB l1 = false ∧ cn ≤ 300)) :
    Calls Try.prog 7 #[.slice a0 n0 c0, .slice a1 n1 c1, .slice ca cn cc] w fun e w' => e = .returned (.bool true) ∧ Below w.heap.size w w' := by
  have AW := fun u => Lib.hid (awake_any u)
  have L0 := long_any h0
  have L1 := long_any h1
  obtain ⟨bl, hbl⟩ := named (longB l0)
  obtain ⟨bm, hbm⟩ := named (longB l1)
  rw [← hbl.out] at L0
  rw [← hbm.out] at L1
  have L0 := Lib.hid L0
  have L1 := Lib.hid L1
  clear h0 h1
  obtain ⟨bx, hbx⟩ := named (decide ((300 : Int) < (cn : Int)))
  have hall : bl = true ∨ (bl = false ∧ (bm = true ∨ (bm = false ∧ bx = true))) := by
    rw [hbx.out, hbm.out, hbl.out]
    simp only [decide_eq_true_eq]
    cases e : longB l0 with
    | true => exact .inl rfl
    | false =>
      cases e' : longB l1 with
      | true => exact .inr ⟨rfl, .inl rfl⟩
      | false => exact .inr ⟨rfl, .inr ⟨rfl, by rw [e, e'] at hbig; simp only [true_and] at hbig; omega⟩⟩
  have ex := hbx.out.symm
  rcases hall with rfl | ⟨rfl, rfl | ⟨rfl, rfl⟩⟩
  · clear L1
    go_enter Try.func7, Try.ntmps7
    go_wp2_with fail
    refine L0.out.mono ?_
    rintro e w' ⟨rfl, rfl⟩
    go_wp2_with (go_at_call 9; refine (AW _).out.mono ?_; rintro e w' ⟨rfl, hb⟩)
    go_returns
    exact ⟨rfl, hb⟩
  all_goals
    go_enter Try.func7, Try.ntmps7
    go_wp2_with fail
    refine L0.out.mono ?_
    rintro e w' ⟨rfl, rfl⟩
    go_wp2_with fail
    refine L1.out.mono ?_
    rintro e w' ⟨rfl, rfl⟩
    go_wp2_with (go_at_call 9; refine (AW _).out.mono ?_; rintro e w' ⟨rfl, hb⟩)
    go_returns
    exact ⟨rfl, hb⟩
theorem apart_walk (a0 : Option Addr) (n0 c0 b0 o0 : Nat) (l0 : List OpV) (a1 : Option Addr) (n1 c1 b1 o1 : Nat) (l1 : List OpV) (ca : Option Addr) (cn cc cb : Nat) (cs : List Int) (w : World) (h0 : OpsArg a0 n0 c0 b0 o0 l0 w) (h1 : OpsArg a1 n1 c1 b1 o1 l1 w) (hI : IntsAt cb (.slice ca cn cc) cs w) :
    Calls Try.prog 7 #[.slice a0 n0 c0, .slice a1 n1 c1, .slice ca cn cc] w fun e w' => e = .returned (.bool true) ∧ Below w.heap.size w w' := by
  by_cases hb : longB l0 = false ∧ longB l1 = false ∧ cn ≤ 300
  · exact apart_main h0 h1 hb.1 hb.2.1 ca cn cc cb hb.2.2 cs hI
  · exact apart_big h0 h1 ca cn cc hb
--LAW freshetlaw05.DiskApart apart_walk ops:l0 ops:l1 ints:cs
--BEGIN
namespace DiskApartProof
open Go.ChangeShapes Go.WideShapes Go.ChangeAt Go.RowKit
open Go.ChangeMaps (open_string shut_string)
theorem own : ownKnob Try.prog.godebug = none := by kernel_rfl
set_option maxRecDepth 100000 in
theorem lifted (os : Os) (started : os.Started) (H : Type) (enc : TypeId × Value → H) :
    ReturnsInHanded {} Try.checked os 7 .any (Rows.diskApartSpec.pre6 enc Try.prog Try.f7 Rows.diskApartRow.domain false) (Rows.diskApartSpec.post enc Try.prog Try.f7 false true false false) := by
  refine returnsInHanded_of_change_sized (C := Try.checked) own started (by kernel_rfl) Try.func7
    (ChangeSpec.witness6 (enc := enc) (C := Try.checked) false ⟨#[], #[.slice none 0 0, .slice none 0 0, .slice none 0 0], []⟩ 8 (by kernel_rfl) (by kernel_rfl) (by kernel_rfl) (by kernel_rfl)) ?_
  intro W base args ds gs before hval0 hW _ hsz _
  have hval : ∀ (j : Nat) t v, Try.f7.params[j]? = some t → args[j]? = some v → Value.okWide Try.prog W .any base t v := hval0
  have hW' := hW
  obtain ⟨p, q, hA0, hV, rfl, hfz, hnd⟩ := hW
  have hA : DataW.TrodAll enc Try.prog W 0 (fun _ => true) true Try.f7.params.toList args.toList ds p := hA0
  rw [Try.params7] at hA hval hsz
  obtain ⟨v0, vs0, d0, ds0, p0, q0, hargs, rfl, rfl, h0, r0⟩ := trodAll_cons hA
  obtain ⟨v1, vs1, d1, ds1, p1, q1, rfl, rfl, rfl, h1, r1⟩ := trodAll_cons r0
  obtain ⟨v2, vs2, d2, ds2, p2, q2, rfl, rfl, rfl, h2, r2⟩ := trodAll_cons r1
  obtain ⟨rfl, rfl, rfl⟩ := trodAll_nil r2
  obtain rfl : args = #[v0, v1, v2] := by cases args; simp_all
  obtain ⟨rfl, rfl⟩ := trodVars_none hV
  obtain ⟨a0, n0, c0, rfl⟩ := okWide_slice Try.underlying22 (hval 0 22 v0 rfl rfl)
  have k0 := h0
  obtain ⟨fu0, hf0⟩ := h0
  obtain ⟨b0, o0, l0, ia0⟩ := open_ops_arg hf0 hsz (j := 0) rfl rfl
  have lt0 : ∀ x ∈ p0, x.block < W.heap.size := fun x hx => hW'.lt x (by simp only [List.mem_append]; simp [hx])
  obtain ⟨a1, n1, c1, rfl⟩ := okWide_slice Try.underlying22 (hval 1 22 v1 rfl rfl)
  have k1 := h1
  obtain ⟨fu1, hf1⟩ := h1
  obtain ⟨b1, o1, l1, ia1⟩ := open_ops_arg hf1 hsz (j := 1) rfl rfl
  have lt1 : ∀ x ∈ p1, x.block < W.heap.size := fun x hx => hW'.lt x (by simp only [List.mem_append]; simp [hx])
  obtain ⟨a2, n2, c2, rfl⟩ := okWide_slice Try.underlying23 (hval 2 23 v2 rfl rfl)
  have k2 := h2
  obtain ⟨fu2, hf2⟩ := h2
  obtain ⟨b2, cs, ia2⟩ := open_ints_arg hf2
  have lt2 : ∀ x ∈ p2, x.block < W.heap.size := fun x hx => hW'.lt x (by simp only [List.mem_append]; simp [hx])
  clear hA0 hval0
  simp only [List.append_nil] at hW'
  refine (apart_walk a0 n0 c0 b0 o0 l0 a1 n1 c1 b1 o1 l1 a2 n2 c2 b2 cs W ia0 ia1 ia2).mono fun e W' ⟨he, hg⟩ => ?_
  subst he
  exact ⟨_, rfl, _, _, _, [], _, [], hW', (trodAll_cons_mk (shut_bool Try.underlying4 _) trodAll_mk0), (trodAll_cons_mk (Below.trod laid_out (by kernel_rfl) (of_decide_eq_true (by kernel_rfl)) k0 hg lt0) (trodAll_cons_mk (Below.trod laid_out (by kernel_rfl) (of_decide_eq_true (by kernel_rfl)) k1 hg lt1) (trodAll_cons_mk (Below.trod laid_out (by kernel_rfl) (of_decide_eq_true (by kernel_rfl)) k2 hg lt2) trodAll_mk0))), rfl, hg.frame _, fun h => by cases h⟩
theorem holds : Rows.DiskApartSaid :=
  OpenClaim.holds_of_wide 7 Try.f7 rfl rfl rfl rfl rfl rfl rfl ⟨rfl, rfl, rfl, rfl, rfl⟩ rfl rfl rfl rfl rfl (by kernel_rfl) Try.func7 (by kernel_rfl)
    (of_decide_eq_true (by kernel_rfl)) (by unfold Func.isWrapper; first | (rw [if_pos (by decide +kernel)]; kernel_rfl) | (rw [if_neg (by decide +kernel)]; exact ⟨rfl, rfl⟩))
    (fun os started H enc _ => lifted os started H enc)
end DiskApartProof
--END
