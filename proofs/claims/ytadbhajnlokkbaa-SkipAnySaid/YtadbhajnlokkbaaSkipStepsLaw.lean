/-
  SkipSteps: a search goes past no more rows than there are, and, where all are one high, past those that are ahead. No condition.
-/
import Derived.Test.YtadbhajnlokkbaaSkipAwake
import Derived.Test.YtadbhajnlokkbaaSkipMath2
import Derived.Test.YtadbhajnlokkbaaSliceArg
import Derived.Test.YtadbhajnlokkbaaLaidOut
namespace Go.Proofs.Ytadbhajnlokkbaa
open Go.RowKit
attribute [local go_sem] eq_node ne_node eq_list
abbrev zeroList : Obj := .cells #[.pointer none, .pointer none, .pointer none, .pointer none, .pointer none, .pointer none, .pointer none, .pointer none, .pointer none, .pointer none, .pointer none, .pointer none, .int .i64 0, .int .i64 0] 29
theorem num_at {a : Option Addr} {n c b o : Nat} {l : List Int} {w : World} (h : SlOf 1 cellsI a n c b o l w) {j : Nat} (hj : j < n) : ∃ x, l[j]? = some x ∧ a = some ⟨b, o, none⟩ ∧ w.cell? ⟨b, o + j, none⟩ = some (.int .i64 x) := by
  obtain ⟨x, hx⟩ : ∃ x, l[j]? = some x := ⟨_, List.getElem?_eq_getElem (by rw [h.len]; exact hj)⟩
  refine ⟨x, hx, (h.addr (by omega)).1, ?_⟩
  have := h.at' j x hx 0 _ rfl
  rw [Nat.mul_one, Nat.add_zero] at this
  exact this
/-- A list of a zoo, and what else a call may know of it. -/
theorem zoo_two (w : World) : Zoo w.heap.size [(w.heap.size, []), (w.heap.size + 1, [])] ((w.alloc zeroList).alloc zeroList) ∧ Below w.heap.size w ((w.alloc zeroList).alloc zeroList) := by
  have h1 := (Zoo.nil w.heap.size w).new (Nat.le_refl _)
  have h2 := h1.new (by rw [World.size_alloc]; omega)
  rw [World.size_alloc] at h2
  exact ⟨h2, below_of (below_alloc _ _) (below_alloc _ _)⟩
set_option maxRecDepth 100000 in
set_option maxHeartbeats 8000000 in
theorem steps_main (a0 : Option Addr) (n0 c0 b0 o0 : Nat) (rs : List Rw) (a1 : Option Addr) (n1 c1 b1 o1 : Nat) (hl : List Int) (key : ByteArray) (hz : key.size ≤ 281474976710656) (s : Nat) (w : World)
    (h0 : Rs a0 n0 c0 b0 o0 rs w) (g0 : ∀ v ∈ rs, RwIn v) (h1 : SlOf 1 cellsI a1 n1 c1 b1 o1 hl w) (hn : n0 ≤ 100) :
    Calls Try.prog 6 #[.slice a0 n0 c0, .slice a1 n1 c1, .string key, .int .u64 (s : Int)] w fun e w' => e = .returned (.bool true) ∧ Below w.heap.size w w' := by
  have AW := Lib.hid (fun u => awake_any u)
  obtain ⟨Z0, B0⟩ := zoo_two w
  have Z0 := Lib.hid Z0
  have B0 := Lib.hid B0
  have e0 := h0.len
  have e1 := h1.len
  have m0 := h0.most
  have m1 := h1.most
  have q0 := h0.cap
  have q1 := h1.cap
  have d0 : decide ((100 : Int) < (n0 : Int)) = false := by rw [decide_eq_false_iff_not]; omega
  replace e0 := Lib.hid e0
  replace e1 := Lib.hid e1
  replace h0 := Lib.hid h0
  replace h1 := Lib.hid h1
  replace g0 := Lib.hid g0
  go_enter Try.func6, Try.ntmps6
  go_wp2_with fail
  go_loopw [11] (fun i wr => ∃ j : Nat, j ≤ n0 ∧ i = .int .i64 (j : Int) ∧ Zoo w.heap.size [(w.heap.size, fp rs (hAt hl) j), (w.heap.size + 1, fp rs (fun _ => 1) j)] wr ∧ Below w.heap.size w wr) (fun i _ => n0 - (intOf i).toNat)
  case atStart => exact ⟨0, Nat.zero_le _, rfl, Z0.out, B0.out⟩
  case round =>
    clear Z0 B0
    obtain ⟨j, hj, rfl, hZ, hb⟩ := hrel
    by_cases hlt : j < n0
    · obtain ⟨x, hx, rfl, x0, x1, x2, x3⟩ := (h0.out.below hb (Nat.le_refl _)).at4 hlt
      obtain ⟨k1, k2, k3⟩ := g0.out x (List.mem_of_getElem? hx)
      have l1 := fp_len rs (hAt hl) j
      have l2 := fp_len rs (fun _ => 1) j
      have sA := Lib.hid (fp_step (f := hAt hl) hx)
      have sB := Lib.hid (fp_step (f := fun _ => 1) hx)
      have P := Lib.hid (fun H => hZ.put (i := 0) hb.size rfl (by omega) x k1 k2 k3 H)
      have Q : Hid (∀ H w2, Below w.heap.size w w2 → Zoo w.heap.size ([(w.heap.size, fp rs (hAt hl) j), (w.heap.size + 1, fp rs (fun _ => 1) j)].set 0 (w.heap.size, putL (fp rs (hAt hl) j) x (hgtOf H))) w2 →
          Calls Try.prog 10 #[.pointer (some ⟨w.heap.size + 1, 0, none⟩), rowV x, .int .i64 1] w2 fun e w' => e = .returned (.bool (!thrL (fp rs (fun _ => 1) j) x.key x.seq)) ∧ Zoo w.heap.size [(w.heap.size, putL (fp rs (hAt hl) j) x (hgtOf H)), (w.heap.size + 1, putL (fp rs (fun _ => 1) j) x (hgtOf 1))] w' ∧ Below w.heap.size w2 w') :=
        Lib.hid fun H w2 hb2 hz2 => hz2.put (i := 1) hb2.size rfl (by omega) x k1 k2 k3 1
      have kr : Hid (∀ w2, Below w.heap.size w w2 → w2.cell? ⟨b0, o0 + j * 4, none⟩ = some (.string x.key) ∧ w2.cell? ⟨b0, o0 + j * 4 + 1, none⟩ = some (.int .u64 (x.seq : Int)) ∧ w2.cell? ⟨b0, o0 + j * 4 + 2, none⟩ = some (.int .i64 x.kind) ∧ w2.cell? ⟨b0, o0 + j * 4 + 3, none⟩ = some (.string x.val)) :=
        Lib.hid fun w2 hb2 => by
          have := (h0.out.below hb2 (Nat.le_refl _)).at' j x hx
          exact this
      have hb' := Lib.hid hb
      obtain ⟨xk, xs, xi, xv⟩ := x
      simp only at x0 x1 x2 x3 P Q kr sA sB
      by_cases hh : j < n1
      · obtain ⟨H, hH, rfl, y0⟩ := num_at (h1.out.below hb (Nat.le_refl _)) hh
        have eH : Hid (hAt hl j = H) := Lib.hid (by unfold hAt; rw [if_pos (by rw [e1.out]; exact hh), List.getD_eq_getElem?_getD, hH]; rfl)
        rw [eH.out] at sA
        clear hZ hb k1 k2 k3 l1 l2 hx hH eH
        go_wp2_with (go_at_call 10; ((with_reducible refine (P.out _).mono ?_); rintro e w2 ⟨rfl, hZ2, hb2⟩; have B2 := hb'.out.trans hb2; obtain ⟨z0, z1, z2, z3⟩ := kr.out w2 B2; have Q2 := Lib.hid (Q.out _ w2 B2 hZ2); clear hZ2 hb2 P))
        refine Q2.out.mono ?_
        rintro e w3 ⟨rfl, hZ3, hb3⟩
        rw [← sA.out, ← sB.out] at hZ3
        replace hZ3 := Lib.hid hZ3
        have B3 := Lib.hid (B2.trans hb3)
        clear Q2 Q B2 hb3 z0 z1 z2 z3
        go_wp2_with fail
        go_roundw
        case rel => exact ⟨j + 1, by omega, by go_num, hZ3.out, B3.out⟩
        case measure => simp [intOf]; omega
      · have eH : Hid (hAt hl j = 1) := Lib.hid (by unfold hAt; rw [if_neg (by rw [e1.out]; exact hh)])
        rw [eH.out] at sA
        clear hZ hb k1 k2 k3 l1 l2 hx eH
        go_wp2_with (go_at_call 10; ((with_reducible refine (P.out _).mono ?_); rintro e w2 ⟨rfl, hZ2, hb2⟩; have B2 := hb'.out.trans hb2; obtain ⟨z0, z1, z2, z3⟩ := kr.out w2 B2; have Q2 := Lib.hid (Q.out _ w2 B2 hZ2); clear hZ2 hb2 P))
        refine Q2.out.mono ?_
        rintro e w3 ⟨rfl, hZ3, hb3⟩
        rw [← sA.out, ← sB.out] at hZ3
        replace hZ3 := Lib.hid hZ3
        have B3 := Lib.hid (B2.trans hb3)
        clear Q2 Q B2 hb3 z0 z1 z2 z3
        go_wp2_with fail
        go_roundw
        case rel => exact ⟨j + 1, by omega, by go_num, hZ3.out, B3.out⟩
        case measure => simp [intOf]; omega
    · have hjn : j = n0 := by omega
      subst hjn
      have l1 := fp_len rs (hAt hl) j
      have l2 := fp_len rs (fun _ => 1) j
      have hLA := hZ.ls (i := 0) rfl
      have hLB := hZ.ls (i := 1) rfl
      have one := fp_ones rs j
      have sle := steps_le (l := fp rs (hAt hl) j) key s
      have sone := steps_one one key s
      have hpl : plL (fp rs (hAt hl) j) key s = plL (fp rs (fun _ => 1) j) key s := by unfold plL; rw [fp_rows rs (hAt hl) (fun _ => 1) j]
      have hln : (fp rs (hAt hl) j).length = (fp rs (fun _ => 1) j).length := by rw [← rows_len, ← rows_len, fp_rows rs (hAt hl) (fun _ => 1) j]
      have ple := plL_le (fp rs (fun _ => 1) j) key s
      have LN := Lib.hid (len_l hLB)
      have AL := Lib.hid ((all_l hLB (by omega) key hz s 200).mono fun e w' hg => (show ∃ p c, e = .returned (.slice p ((fp rs (fun _ => 1) j).length - plL (fp rs (fun _ => 1) j) key s) c) ∧ Below wr.heap.size wr w' from by
        obtain ⟨v, rfl, hrow, hb2⟩ := hg
        obtain ⟨p, c, rfl⟩ := ownsRow_slice hrow
        refine ⟨p, c, ?_, hb2⟩
        unfold upTo
        rw [if_neg (by rw [List.length_drop, rows_len]; omega), List.length_drop, rows_len]))
      have SA : Hid (∀ u, Below wr.heap.size wr u → Calls Try.prog 15 #[.pointer (some ⟨w.heap.size, 0, none⟩), .string key, .int .u64 (s : Int)] u fun e w' => e = .returned (.int .i64 (stepsL (fp rs (hAt hl) j) key s : Int)) ∧ Below u.heap.size u w') := Lib.hid fun u hu => steps_l (hLA.grow hu) (by omega) key s
      have SB : Hid (∀ u, Below wr.heap.size wr u → Calls Try.prog 15 #[.pointer (some ⟨w.heap.size + 1, 0, none⟩), .string key, .int .u64 (s : Int)] u fun e w' => e = .returned (.int .i64 (plL (fp rs (fun _ => 1) j) key s : Int)) ∧ Below u.heap.size u w') := Lib.hid fun u hu => by rw [← sone]; exact steps_l (hLB.grow hu) (by omega) key s
      have LA : Hid (∀ u, Below wr.heap.size wr u → Calls Try.prog 17 #[.pointer (some ⟨w.heap.size, 0, none⟩)] u fun e w' => e = .returned (.int .i64 ((fp rs (hAt hl) j).length : Int)) ∧ w' = u) := Lib.hid fun u hu => len_l (hLA.grow hu)
      rw [hln] at LA
      have hll := hln
      obtain ⟨LL, hLL⟩ := named (fp rs (fun _ => 1) j).length
      obtain ⟨PP, hPP⟩ := named (plL (fp rs (fun _ => 1) j) key s)
      obtain ⟨SS, hSS⟩ := named (stepsL (fp rs (hAt hl) j) key s)
      rw [← hLL.out] at LN AL LA ple l2
      rw [← hPP.out] at AL SB ple
      rw [← hSS.out] at SA
      have t1 : SS ≤ PP := by rw [hSS.out, hPP.out, ← hpl]; exact sle.1
      have t2 : SS ≤ LL := by omega
      have t3 : (0 : Int) ≤ (SS : Int) := by omega
      have t4 : (SS : Int) ≤ (LL : Int) := by omega
      have t5 : (SS : Int) ≤ (PP : Int) := by omega
      have t6 : ((LL : Int) - ((LL - PP : Nat) : Int)) = (PP : Int) := by omega
      have t7 : wrap64 ((LL : Int) - ((LL - PP : Nat) : Int)) = (PP : Int) := by unfold wrap64; omega
      replace hb := Lib.hid hb
      clear hZ hLA hLB one sle sone hpl hln hll
      go_wp2_with (first
        | (go_at_call 17; ((with_reducible refine LN.out.mono ?_); rintro e w2 ⟨rfl, rfl⟩; clear LN))
        | (go_at_call 14; ((with_reducible refine AL.out.mono ?_); rintro e w2 ⟨pa, ca, rfl, hb2⟩; have BB := Lib.hid hb2; clear AL hb2))
        | fail "no arm")
      refine (SA.out w2 BB.out).mono ?_
      rintro e w3 ⟨rfl, hb3⟩
      have B3 := Lib.hid (below_of BB.out hb3)
      have LA3 := Lib.hid (LA.out w3 B3.out)
      have SB3 := Lib.hid (SB.out w3 B3.out)
      clear SA SB LA hb3
      go_wp2_with (first
        | (go_at_call 17; ((with_reducible refine LA3.out.mono ?_); rintro e w4 ⟨rfl, rfl⟩))
        | (go_at_call 15; ((with_reducible refine SB3.out.mono ?_); rintro e w4 ⟨rfl, hb4⟩; have B4 := Lib.hid (below_of B3.out hb4); clear hb4))
        | (go_at_call 8; ((with_reducible refine (AW.out _).mono ?_); rintro e w5 ⟨rfl, hb5⟩; have B5 := Lib.hid (below_of B4.out hb5); clear hb5))
        | fail "no arm")
      go_returns
      exact ⟨rfl, hb.out.trans (B5.out.mono hb.out.size)⟩
set_option maxRecDepth 100000 in
set_option maxHeartbeats 2000000 in
theorem steps_big (a0 : Option Addr) (n0 c0 : Nat) (a1 : Option Addr) (n1 c1 : Nat) (key : ByteArray) (s : Int) (w : World) (hn : 100 < n0) :
    Calls Try.prog 6 #[.slice a0 n0 c0, .slice a1 n1 c1, .string key, .int .u64 s] w fun e w' => e = .returned (.bool true) ∧ Below w.heap.size w w' := by
  have AW := Lib.hid (awake_any w)
  have d0 : decide ((100 : Int) < (n0 : Int)) = true := by rw [decide_eq_true_eq]; omega
  go_enter Try.func6, Try.ntmps6
  go_wp2_with fail
  refine AW.out.mono ?_
  rintro e w' ⟨rfl, hb⟩
  go_wp2_with fail
  go_returns
  exact ⟨rfl, hb⟩
theorem steps_walk (a0 : Option Addr) (n0 c0 b0 o0 : Nat) (rs : List Rw) (a1 : Option Addr) (n1 c1 b1 o1 : Nat) (hl : List Int) (key : ByteArray) (hz : key.size ≤ reachBytes) (s : Int) (hs : (Lit.int .u64 s).wf = true) (w : World)
    (h0 : Rs a0 n0 c0 b0 o0 rs w ∧ ∀ v ∈ rs, RwIn v) (h1 : SlOf 1 cellsI a1 n1 c1 b1 o1 hl w ∧ ∀ v ∈ hl, (Lit.int .i64 v).wf = true) :
    Calls Try.prog 6 #[.slice a0 n0 c0, .slice a1 n1 c1, .string key, .int .u64 s] w fun e w' => e = .returned (.bool true) ∧ Below w.heap.size w w' := by
  by_cases hn : n0 ≤ 100
  · have hr : 0 ≤ s ∧ s ≤ 18446744073709551615 := by simpa [Lit.wf, IntKind.min, IntKind.max, IntKind.signed, IntKind.bits] using hs
    obtain ⟨q, rfl⟩ := Int.eq_ofNat_of_zero_le hr.1
    exact steps_main a0 n0 c0 b0 o0 rs a1 n1 c1 b1 o1 hl key (by unfold reachBytes at hz; omega) q w h0.1 h0.2 h1.1 hn
  · exact steps_big a0 n0 c0 a1 n1 c1 key s w (by omega)
--LAW freshetlaw08.SkipSteps steps_walk rows:ra nums:ha string:key uint64:sq
--BEGIN
namespace SkipStepsProof
open Go.ChangeShapes Go.WideShapes Go.ChangeAt Go.RowKit
open Go.ChangeMaps (open_string shut_string)
theorem own : ownKnob Try.prog.godebug = none := by kernel_rfl
set_option maxRecDepth 100000 in
theorem lifted (os : Os) (started : os.Started) (H : Type) (enc : TypeId × Value → H) :
    ReturnsInHanded {} Try.checked os 6 .any (Rows.skipStepsSpec.pre6 enc Try.prog Try.f6 Rows.skipStepsRow.domain false) (Rows.skipStepsSpec.post enc Try.prog Try.f6 false true false false) := by
  refine returnsInHanded_of_change_sized (C := Try.checked) own started (by kernel_rfl) Try.func6
    (ChangeSpec.witness6 (enc := enc) (C := Try.checked) false ⟨#[], #[.slice none 0 0, .slice none 0 0, .string .empty, .int .u64 0], []⟩ 8 (by kernel_rfl) (by kernel_rfl) (by kernel_rfl) (by kernel_rfl)) ?_
  intro W base args ds gs before hval0 hW _ hsz _
  have hval : ∀ (j : Nat) t v, Try.f6.params[j]? = some t → args[j]? = some v → Value.okWide Try.prog W .any base t v := hval0
  have hW' := hW
  obtain ⟨p, q, hA0, hV, rfl, hfz, hnd⟩ := hW
  have hA : DataW.TrodAll enc Try.prog W 0 (fun _ => true) true Try.f6.params.toList args.toList ds p := hA0
  rw [Try.params6] at hA hval hsz
  obtain ⟨v0, vs0, d0, ds0, p0, q0, hargs, rfl, rfl, h0, r0⟩ := trodAll_cons hA
  obtain ⟨v1, vs1, d1, ds1, p1, q1, rfl, rfl, rfl, h1, r1⟩ := trodAll_cons r0
  obtain ⟨v2, vs2, d2, ds2, p2, q2, rfl, rfl, rfl, h2, r2⟩ := trodAll_cons r1
  obtain ⟨v3, vs3, d3, ds3, p3, q3, rfl, rfl, rfl, h3, r3⟩ := trodAll_cons r2
  obtain ⟨rfl, rfl, rfl⟩ := trodAll_nil r3
  obtain rfl : args = #[v0, v1, v2, v3] := by cases args; simp_all
  obtain ⟨rfl, rfl⟩ := trodVars_none hV
  obtain ⟨a0, n0, c0, rfl⟩ := okWide_slice Try.underlying30 (hval 0 30 v0 rfl rfl)
  have k0 := h0
  obtain ⟨fu0, hf0⟩ := h0
  obtain ⟨b0, o0, ra, ia0⟩ := open_rows hf0 hsz (j := 0) rfl rfl
  have lt0 : ∀ x ∈ p0, x.block < W.heap.size := fun x hx => hW'.lt x (by simp only [List.mem_append]; simp [hx])
  obtain ⟨a1, n1, c1, rfl⟩ := okWide_slice Try.underlying31 (hval 1 31 v1 rfl rfl)
  have k1 := h1
  obtain ⟨fu1, hf1⟩ := h1
  obtain ⟨b1, o1, ha, ia1⟩ := open_nums hf1 hsz (j := 1) rfl rfl
  have lt1 : ∀ x ∈ p1, x.block < W.heap.size := fun x hx => hW'.lt x (by simp only [List.mem_append]; simp [hx])
  obtain ⟨key, rfl, rfl, rfl, m2⟩ := open_string Try.underlying9 (hval 2 9 v2 rfl rfl) h2
  obtain ⟨sq, rfl, rfl, rfl, m3⟩ := open_int Try.underlying34 (hval 3 34 v3 rfl rfl) h3
  have z2 : key.size ≤ reachBytes := by have := sized_string hsz (j := 2) (t := 9) (bytes := key.data.toList) rfl rfl; simpa using this
  clear hA0 hval0
  simp only [List.append_nil] at hW'
  refine (steps_walk a0 n0 c0 b0 o0 ra a1 n1 c1 b1 o1 ha key z2 sq m3 W ia0 ia1).mono fun e W' ⟨he, hg⟩ => ?_
  subst he
  exact ⟨_, rfl, _, _, _, [], _, [], hW', (trodAll_cons_mk (shut_bool Try.underlying4 _) trodAll_mk0), (trodAll_cons_mk (Below.trod laid_out (by kernel_rfl) (of_decide_eq_true (by kernel_rfl)) k0 hg lt0) (trodAll_cons_mk (Below.trod laid_out (by kernel_rfl) (of_decide_eq_true (by kernel_rfl)) k1 hg lt1) (trodAll_cons_mk (shut_string Try.underlying9 m2) (trodAll_cons_mk (shut_int Try.underlying34 m3) trodAll_mk0)))), rfl, hg.frame _, fun h => by cases h⟩
theorem holds : Rows.SkipStepsSaid :=
  OpenClaim.holds_of_wide 6 Try.f6 rfl rfl rfl rfl rfl rfl rfl ⟨rfl, rfl, rfl, rfl, rfl⟩ rfl rfl rfl rfl rfl (by kernel_rfl) Try.func6 (by kernel_rfl)
    (of_decide_eq_true (by kernel_rfl)) (by unfold Func.isWrapper; first | (rw [if_pos (by decide +kernel)]; kernel_rfl) | (rw [if_neg (by decide +kernel)]; exact ⟨rfl, rfl⟩))
    (fun os started H enc _ => lifted os started H enc)
end SkipStepsProof
--END
end Go.Proofs.Ytadbhajnlokkbaa
