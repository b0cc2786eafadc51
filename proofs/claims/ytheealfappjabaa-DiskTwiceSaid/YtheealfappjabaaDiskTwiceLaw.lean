/-
  DiskTwice: a crash behind a crash changes nothing. No condition.
-/
import Derived.Test.YtheealfappjabaaDiskZoo
import Derived.Test.YtheealfappjabaaDiskSureLaw
namespace Go.Proofs.Ytheealfappjabaa
open Go.RowKit Go.Maps
attribute [local go_sem] eq_file ne_file ne_disk ne_map eq_disk2
theorem IntsAt.within {cb : Nat} {cv : Value} {cs : List Int} {w w' : World} (h : IntsAt cb cv cs w) (hb : Below w.heap.size w w') : IntsAt cb cv cs w' := h.keep fun hne => hb.block cb (h.lt hne)
/-- A call of a script on one of the disks. -/
theorem zoo_does {base : Nat} {l : List (Nat × Int × St)} {w : World} (h : Zoo base l w) (hb : base ≤ w.heap.size) {i p : Nat} {k : Int} {s : St} (hi : l[i]? = some (p, k, s)) (hk : k ≤ 99999) (x : OpV) (hnm : x.nm.size ≤ 140737488355328) (hdt : x.dt.size ≤ 2000) (hn : x.n ≤ 9223372036854775807) :
    Calls Try.prog 11 #[at0 p, .agg #[.int .i64 x.d, .string x.nm, .string x.dt, .int .i64 x.n, .slice x.ca x.cn x.cc], .string ⟨#[]⟩] w (ZDid base (l.set i (p, k + 1, doesS s x [])) (.tuple #[]) w) :=
  h.act hb hi fun _ lv => does_any lv hk x hnm (by omega) hn ⟨#[]⟩
theorem zoo_crash {base : Nat} {l : List (Nat × Int × St)} {w : World} (h : Zoo base l w) (hb : base ≤ w.heap.size) {i p : Nat} {k : Int} {s : St} (hi : l[i]? = some (p, k, s)) (hk : k ≤ 99999) {cs : List Int} {cv : Value} {cb : Nat} (hcs : IntsAt cb cv cs w) (hlt : cs ≠ [] → cb < base) :
    Calls Try.prog 16 #[at0 p, cv] w (ZDid base (l.set i (p, k + 1, s.crash cs)) (.tuple #[]) w) :=
  h.act hb hi fun o lv => live_crash lv hk hcs fun hne => by
    cases e : o cb with
    | none => rfl
    | some r => exact absurd (lv.at'.lo cb (by simp [e])).1 (by have := hlt hne; omega)
set_option maxRecDepth 100000 in
set_option maxHeartbeats 4000000 in
theorem twice_main {a0 : Option Addr} {n0 c0 b0 o0 : Nat} {l0 : List OpV} {w : World} (h0 : OpsArg a0 n0 c0 b0 o0 l0 w) (q0 : longB l0 = false) (ca : Option Addr) (cn cc cb : Nat) (hcn : cn ≤ 300) (cs : List Int) (hI : IntsAt cb (.slice ca cn cc) cs w) (da : Option Addr) (dn dc db : Nat) (hdn : dn ≤ 300) (ds : List Int) (hJ : IntsAt db (.slice da dn dc) ds w) :
    Calls Try.prog 5 #[.slice a0 n0 c0, .slice ca cn cc, .slice da dn dc] w fun e w' => e = .returned (.bool true) ∧ Below w.heap.size w w' := by
  have AW := fun u => Lib.hid (awake_any u)
  have L0 := long_any h0
  rw [q0] at L0
  have L0 := Lib.hid L0
  have d1 : decide ((300 : Int) < (cn : Int)) = false := by rw [decide_eq_false_iff_not]; omega
  have d2 : decide ((300 : Int) < (dn : Int)) = false := by rw [decide_eq_false_iff_not]; omega
  have N := Lib.hid (zoo_new (Zoo.nil w.heap.size w) (Nat.le_refl _) 268435456 (by decide) (by decide))
  have hcl := Lib.hid (fun hne => hI.lt hne)
  have hdl := Lib.hid (fun hne => hJ.lt hne)
  have hI := Lib.hid hI
  have hJ := Lib.hid hJ
  have F0 := Lib.hid (long_false q0)
  clear q0
  have H0 := Lib.hid h0
  clear h0
  go_enter Try.func5, Try.ntmps5
  go_wp2_with fail
  refine L0.out.mono ?_
  rintro e w' ⟨rfl, rfl⟩
  go_wp2_with fail
  refine N.out.mono ?_
  rintro e v0 ⟨p, rfl, Z0, b0'⟩
  have Z0 : Hid (Zoo w.heap.size [(p, 0, St.fresh 268435456)] v0) := Lib.hid Z0
  have B0 := Lib.hid b0'
  clear b0' N L0
  go_wp2_with fail
  go_loopw [9] (fun i wr => ∃ (j : Nat) (s : St), j ≤ n0 ∧ i = .int .i64 (j : Int) ∧ Zoo w.heap.size [(p, (j : Int), s)] wr ∧ Below w.heap.size w wr) (fun i _ => n0 - (intOf i).toNat)
  case atStart => exact ⟨0, _, Nat.zero_le _, rfl, Z0.out, B0.out⟩
  case round =>
    clear Z0 B0
    obtain ⟨j, s, hj, rfl, hp, hb⟩ := hrel
    have hp := Lib.hid hp
    have hb := Lib.hid hb
    have hj120 : j ≤ 120 := by have := F0.out.1; have := H0.out.1; omega
    by_cases hlt : j < n0
    · obtain ⟨hlen, _, _, hadr, hat, hsz⟩ := H0.out
      obtain ⟨⟨xd, xnm, xdt, xn, xca, xcn, xcc⟩, hx⟩ : ∃ x, l0[j]? = some x := ⟨_, List.getElem?_eq_getElem (by rw [hlen]; exact hlt)⟩
      have hmem := List.mem_of_getElem? hx
      obtain ⟨z1, z2, z3⟩ := hsz _ hmem
      have z2 := (F0.out.2 _ hmem).1
      obtain ⟨ha, hbl⟩ := hadr (by omega)
      obtain ⟨e0, e1, e2, e3, e4⟩ := (hat.keep (hb.out.block b0 hbl)) j _ hx
      subst ha
      simp only at e0 e1 e2 e3 e4 z1 z2 z3
      clear hat hsz hadr hlen hbl hx hmem
      have C : Hid (Calls Try.prog 11 #[at0 p, .agg #[.int .i64 xd, .string xnm, .string xdt, .int .i64 xn, .slice xca xcn xcc], .string ⟨#[]⟩] wr (ZDid w.heap.size [(p, (j : Int) + 1, doesS s ⟨xd, xnm, xdt, xn, xca, xcn, xcc⟩ [])] (.tuple #[]) wr)) := Lib.hid (zoo_does hp.out hb.out.size (i := 0) rfl (by omega) ⟨xd, xnm, xdt, xn, xca, xcn, xcc⟩ z1 z2 z3)
      clear z1 z2 z3 hp
      go_wp2_with fail
      refine C.out.mono ?_
      rintro e w' ⟨rfl, hp', hb'⟩
      have hp' := Lib.hid hp'
      have hb' := Lib.hid (hb.out.trans hb')
      clear C hb
      go_wp2_with fail
      go_roundw
      case rel => exact ⟨j + 1, _, by omega, by go_num, hp'.out, hb'.out⟩
      case measure => simp [intOf]; omega
    · have C1 : Hid (Calls Try.prog 16 #[at0 p, .slice ca cn cc] wr (ZDid w.heap.size [(p, (j : Int) + 1, s.crash cs)] (.tuple #[]) wr)) := Lib.hid (zoo_crash hp.out hb.out.size (i := 0) rfl (by omega) (hI.out.within hb.out) hcl.out)
      have W0 : Hid (WF 0 s ∧ 0 ≤ s.steps) := Lib.hid (by obtain ⟨o, lv⟩ := hp.out.live (i := 0) rfl; exact ⟨lv.wf, lv.s0⟩)
      have K := Lib.hid (calm_crash W0.out.1 cs)
      have A : Hid (Alike ((s.crash cs).crash ds) (s.crash cs)) := Lib.hid (calm_again (W0.out.1.crash W0.out.2 cs) (by rw [crash_steps s cs W0.out.1.fit]; exact W0.out.2) K.out ds)
      obtain ⟨t, ht⟩ := named (s.crash cs)
      rw [← ht.out] at C1 K A
      clear hp W0 ht
      go_wp2_with fail
      refine C1.out.mono ?_
      rintro e w1 ⟨rfl, Z1, b1⟩
      have B1 := Lib.hid (hb.out.trans b1)
      have Z1 := Lib.hid Z1
      have C2 := Lib.hid (zoo_copy Z1.out B1.out.size (i := 0) rfl (by omega))
      clear C1 hb b1 Z1
      go_wp2_with fail
      refine C2.out.mono ?_
      rintro e w2 ⟨q, rfl, Z2, b2⟩
      have B2 := Lib.hid (B1.out.trans b2)
      have Z2 : Hid (Zoo w.heap.size [(p, (j : Int) + 1, t), (q, (j : Int) + 1, t)] w2) := Lib.hid Z2
      have C3 : Hid (Calls Try.prog 16 #[at0 p, .slice da dn dc] w2 (ZDid w.heap.size [(p, (j : Int) + 1 + 1, t.crash ds), (q, (j : Int) + 1, t)] (.tuple #[]) w2)) := Lib.hid (zoo_crash Z2.out B2.out.size (i := 0) rfl (by omega) (hJ.out.within B2.out) hdl.out)
      clear C2 B1 b2 Z2
      go_wp2_with fail
      refine C3.out.mono ?_
      rintro e w3 ⟨rfl, Z3, b3⟩
      have B3 := Lib.hid (B2.out.trans b3)
      have Z3 := Lib.hid Z3
      have C4 := Lib.hid (zoo_same Z3.out (i := 0) (j := 1) rfl rfl A.out)
      clear C3 B2 b3
      go_wp2_with fail
      refine C4.out.mono ?_
      rintro e w4 ⟨rfl, b4⟩
      have B4 := Lib.hid (B3.out.trans (b4.mono B3.out.size))
      have C5 := zoo_down (Z3.out.below b4) (i := 0) rfl
      rw [A.out.down, K.out.down] at C5
      have C5 := Lib.hid C5
      clear C4 B3 b4 Z3
      go_wp2_with fail
      refine C5.out.mono ?_
      rintro e w5 ⟨rfl, rfl⟩
      go_wp2_with (go_at_call 9; refine (AW _).out.mono ?_; rintro e w' ⟨rfl, hb⟩)
      go_returns
      exact ⟨rfl, B4.out.trans (hb.mono B4.out.size)⟩
set_option maxRecDepth 100000 in
set_option maxHeartbeats 1000000 in
theorem twice_big {a0 : Option Addr} {n0 c0 b0 o0 : Nat} {l0 : List OpV} {w : World} (h0 : OpsArg a0 n0 c0 b0 o0 l0 w) (ca : Option Addr) (cn cc : Nat) (da : Option Addr) (dn dc : Nat) (hbig : ¬ (longB l0 = false ∧ cn ≤ 300 ∧ dn ≤ 300)) :
    Calls Try.prog 5 #[.slice a0 n0 c0, .slice ca cn cc, .slice da dn dc] w fun e w' => e = .returned (.bool true) ∧ Below w.heap.size w w' := by
  have AW := fun u => Lib.hid (awake_any u)
  have L0 := long_any h0
  obtain ⟨bl, hbl⟩ := named (longB l0)
  rw [← hbl.out] at L0
  have L0 := Lib.hid L0
  clear h0
  obtain ⟨bx, hbx⟩ := named (decide ((300 : Int) < (cn : Int)))
  obtain ⟨b_y, hby⟩ := named (decide ((300 : Int) < (dn : Int)))
  have hall : bl = true ∨ (bl = false ∧ (bx = true ∨ (bx = false ∧ b_y = true))) := by
    rw [hbx.out, hby.out, hbl.out]
    simp only [decide_eq_true_eq, decide_eq_false_iff_not]
    cases e : longB l0 with
    | true => exact .inl rfl
    | false => exact .inr ⟨rfl, by rw [e] at hbig; simp only [true_and] at hbig; omega⟩
  have ex := hbx.out.symm
  have ey := hby.out.symm
  rcases hall with rfl | ⟨rfl, rfl | ⟨rfl, rfl⟩⟩
  all_goals
    go_enter Try.func5, Try.ntmps5
    go_wp2_with fail
    refine L0.out.mono ?_
    rintro e w' ⟨rfl, rfl⟩
    go_wp2_with (go_at_call 9; refine (AW _).out.mono ?_; rintro e w' ⟨rfl, hb⟩)
    go_returns
    exact ⟨rfl, hb⟩
theorem twice_walk (a0 : Option Addr) (n0 c0 b0 o0 : Nat) (l0 : List OpV) (ca : Option Addr) (cn cc cb : Nat) (cs : List Int) (da : Option Addr) (dn dc db : Nat) (ds : List Int) (w : World) (h0 : OpsArg a0 n0 c0 b0 o0 l0 w) (hI : IntsAt cb (.slice ca cn cc) cs w) (hJ : IntsAt db (.slice da dn dc) ds w) :
    Calls Try.prog 5 #[.slice a0 n0 c0, .slice ca cn cc, .slice da dn dc] w fun e w' => e = .returned (.bool true) ∧ Below w.heap.size w w' := by
  by_cases hb : longB l0 = false ∧ cn ≤ 300 ∧ dn ≤ 300
  · exact twice_main h0 hb.1 ca cn cc cb hb.2.1 cs hI da dn dc db hb.2.2 ds hJ
  · exact twice_big h0 ca cn cc da dn dc hb
--LAW freshetlaw05.DiskTwice twice_walk ops:l0 ints:cs ints:ds
--BEGIN
namespace DiskTwiceProof
open Go.ChangeShapes Go.WideShapes Go.ChangeAt Go.RowKit
open Go.ChangeMaps (open_string shut_string)
theorem own : ownKnob Try.prog.godebug = none := by kernel_rfl
set_option maxRecDepth 100000 in
theorem lifted (os : Os) (started : os.Started) (H : Type) (enc : TypeId × Value → H) :
    ReturnsInHanded {} Try.checked os 5 .any (Rows.diskTwiceSpec.pre6 enc Try.prog Try.f5 Rows.diskTwiceRow.domain false) (Rows.diskTwiceSpec.post enc Try.prog Try.f5 false true false false) := by
  refine returnsInHanded_of_change_sized (C := Try.checked) own started (by kernel_rfl) Try.func5
    (ChangeSpec.witness6 (enc := enc) (C := Try.checked) false ⟨#[], #[.slice none 0 0, .slice none 0 0, .slice none 0 0], []⟩ 8 (by kernel_rfl) (by kernel_rfl) (by kernel_rfl) (by kernel_rfl)) ?_
  intro W base args ds gs before hval0 hW _ hsz _
  have hval : ∀ (j : Nat) t v, Try.f5.params[j]? = some t → args[j]? = some v → Value.okWide Try.prog W .any base t v := hval0
  have hW' := hW
  obtain ⟨p, q, hA0, hV, rfl, hfz, hnd⟩ := hW
  have hA : DataW.TrodAll enc Try.prog W 0 (fun _ => true) true Try.f5.params.toList args.toList ds p := hA0
  rw [Try.params5] at hA hval hsz
  obtain ⟨v0, vs0, d0, ds0, p0, q0, hargs, rfl, rfl, h0, r0⟩ := trodAll_cons hA
  obtain ⟨v1, vs1, d1, ds1, p1, q1, rfl, rfl, rfl, h1, r1⟩ := trodAll_cons r0
  obtain ⟨v2, vs2, d2, ds2, p2, q2, rfl, rfl, rfl, h2, r2⟩ := trodAll_cons r1
  obtain ⟨rfl, rfl, rfl⟩ := trodAll_nil r2
  obtain rfl : args = #[v0, v1, v2] := by cases args; simp_all
  obtain ⟨rfl, rfl⟩ := trodVars_none hV
  obtain ⟨a0, n0, c0, rfl⟩ := okWide_slice Try.underlying22 (hval 0 22 v0 rfl rfl)
  have k0 := h0
  obtain ⟨fu0, hf0⟩ := h0
  obtain ⟨b0, o0, l0, ia0⟩ := open_ops_arg hf0 hsz (j := 0) rfl rfl
  have lt0 : ∀ x ∈ p0, x.block < W.heap.size := fun x hx => hW'.lt x (by simp only [List.mem_append]; simp [hx])
  obtain ⟨a1, n1, c1, rfl⟩ := okWide_slice Try.underlying23 (hval 1 23 v1 rfl rfl)
  have k1 := h1
  obtain ⟨fu1, hf1⟩ := h1
  obtain ⟨b1, cs, ia1⟩ := open_ints_arg hf1
  have lt1 : ∀ x ∈ p1, x.block < W.heap.size := fun x hx => hW'.lt x (by simp only [List.mem_append]; simp [hx])
  obtain ⟨a2, n2, c2, rfl⟩ := okWide_slice Try.underlying23 (hval 2 23 v2 rfl rfl)
  have k2 := h2
  obtain ⟨fu2, hf2⟩ := h2
  obtain ⟨b2, ds, ia2⟩ := open_ints_arg hf2
  have lt2 : ∀ x ∈ p2, x.block < W.heap.size := fun x hx => hW'.lt x (by simp only [List.mem_append]; simp [hx])
  clear hA0 hval0
  simp only [List.append_nil] at hW'
  refine (twice_walk a0 n0 c0 b0 o0 l0 a1 n1 c1 b1 cs a2 n2 c2 b2 ds W ia0 ia1 ia2).mono fun e W' ⟨he, hg⟩ => ?_
  subst he
  exact ⟨_, rfl, _, _, _, [], _, [], hW', (trodAll_cons_mk (shut_bool Try.underlying4 _) trodAll_mk0), (trodAll_cons_mk (Below.trod laid_out (by kernel_rfl) (of_decide_eq_true (by kernel_rfl)) k0 hg lt0) (trodAll_cons_mk (Below.trod laid_out (by kernel_rfl) (of_decide_eq_true (by kernel_rfl)) k1 hg lt1) (trodAll_cons_mk (Below.trod laid_out (by kernel_rfl) (of_decide_eq_true (by kernel_rfl)) k2 hg lt2) trodAll_mk0))), rfl, hg.frame _, fun h => by cases h⟩
theorem holds : Rows.DiskTwiceSaid :=
  OpenClaim.holds_of_wide 5 Try.f5 rfl rfl rfl rfl rfl rfl rfl ⟨rfl, rfl, rfl, rfl, rfl⟩ rfl rfl rfl rfl rfl (by kernel_rfl) Try.func5 (by kernel_rfl)
    (of_decide_eq_true (by kernel_rfl)) (by unfold Func.isWrapper; first | (rw [if_pos (by decide +kernel)]; kernel_rfl) | (rw [if_neg (by decide +kernel)]; exact ⟨rfl, rfl⟩))
    (fun os started H enc _ => lifted os started H enc)
end DiskTwiceProof
--END
