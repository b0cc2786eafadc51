/-
  BlockBuild: Build, Check and Order answer as the document's; the rows that are handed in stand as they were. Condition: at most 1100 rows (the law's own).
-/
import Derived.Test.YtlgdpnipoldfdaaBlockAwake
import Derived.Test.YtlgdpnipoldfdaaLaidOut
import Derived.Test.YtlgdpnipoldfdaaBlockSlices
import Derived.Test.YtlgdpnipoldfdaaBlockBuilt
import Derived.Test.YtlgdpnipoldfdaaBlockOwn
import Derived.Test.YtlgdpnipoldfdaaBlockRefBuild
import Derived.Test.YtlgdpnipoldfdaaBlockRefOrder
import Derived.Test.YtlgdpnipoldfdaaSliceArg
import Derived.Test.YtlgdpnipoldfdaaHeld
namespace Go.Proofs.Ytlgdpnipoldfdaa
set_option maxRecDepth 100000
open Go.RowKit
set_option maxRecDepth 100000 in
set_option maxHeartbeats 8000000 in
theorem build_walk (a : Option Addr) (n c b o : Nat) (l : List Rw) (d : Int) (hd : (Lit.int .i64 d).wf = true) (w : World) (h0 : Rs a n c b o l w ∧ ∀ v ∈ l, RwIn v) :
    Calls Try.prog 3 #[.slice a n c, .int .i64 d] w fun e w' => e = .returned (.bool true) ∧ Below w.heap.size w w' := by
  have AW := Lib.hid (fun u => awake_any u)
  have h := h0.1
  have q0 := h.cap
  have m0 := h.most
  clear h0
  by_cases g1 : (1100 : Int) < (n : Int)
  · go_enter Try.func3, Try.ntmps3
    go_wp2_with (go_at_call 6; ((with_reducible refine (AW.out _).mono ?_); rintro e w1 ⟨rfl, hb1⟩))
    go_returns
    exact ⟨rfl, hb1⟩
  have d1 : decide ((1100 : Int) < (n : Int)) = false := by simpa using g1
  have hn : n ≤ 1100 := by omega
  have hl := Lib.hid h.len
  have OW := Lib.hid (own_any h hn)
  have h := Lib.hid h
  have BP : Hid (∀ g cc u, Rs (some ⟨g, 0, none⟩) n cc g 0 l u → Calls Try.prog 8 #[.slice (some ⟨g, 0, none⟩) n cc, .int .i64 d] u fun e w' => e = .returned (.tuple #[.string ⟨(buildB l d).1.toArray⟩, .int .i64 ((buildB l d).2 : Nat)]) ∧ Below u.heap.size u w') := Lib.hid (fun g cc u hu => build_any d hu)
  have BR : Hid (∀ u, Rs a n c b o l u → Calls Try.prog 9 #[.slice a n c, .int .i64 d] u fun e w' => e = .returned (.tuple #[.string ⟨(buildB l d).1.toArray⟩, .int .i64 ((buildB l d).2 : Nat)]) ∧ Below u.heap.size u w') := Lib.hid (fun u hu => refbuild_any d hu)
  have OP : Hid (∀ g cc u, Rs (some ⟨g, 0, none⟩) n cc g 0 l u → Calls Try.prog 12 #[.slice (some ⟨g, 0, none⟩) n cc] u fun e w' => e = .returned (.bool (ordR l)) ∧ Below u.heap.size u w') := Lib.hid (fun g cc u hu => order_any hu)
  have OR : Hid (∀ u, Rs a n c b o l u → Calls Try.prog 13 #[.slice a n c] u fun e w' => e = .returned (.bool (ordR l)) ∧ Below u.heap.size u w') := Lib.hid (fun u hu => reforder_any hu)
  obtain ⟨⟨S, E1⟩, hS⟩ := named (buildB l d)
  rw [← hS.out] at BP BR
  simp only at BP BR
  obtain ⟨OO, hOO⟩ := named (ordR l)
  rw [← hOO.out] at OP OR
  have TK : Hid (∀ g cc u, Rs (some ⟨g, 0, none⟩) (n + 1) cc g 0 (l ++ [markR]) u → Rs (some ⟨g, 0, none⟩) n cc g 0 l u) := Lib.hid (fun g cc u hu => by have := hu.upto (k := n) (by omega); rw [← hl.out, markR_take] at this; rw [← hl.out]; exact this)
  have s1 : (S == S) = true := beq_self_eq_true S
  have s2 : (E1 == E1) = true := beq_self_eq_true E1
  have s3 : (OO == OO) = true := beq_self_eq_true OO
  clear hS hOO
  go_enter Try.func3, Try.ntmps3
  go_wp2_with (first
    | (go_at_call 7; ((with_reducible refine OW.out.mono ?_); rintro e w1 hh; obtain ⟨g, c1, rfl, hg, hR1, hb1⟩ := hh; have H1 := Lib.hid (h.out.below hb1 (Nat.le_refl _)); have K1 := Lib.hid hR1; have W1 := Lib.hid hb1; have hg := Lib.hid hg; clear hb1 hR1))
    | (go_at_call 8; ((with_reducible refine (BP.out _ _ _ (TK.out _ _ _ K1.out)).mono ?_); rintro e w2 ⟨rfl, hb2⟩; have H2 := Lib.hid (H1.out.below hb2 (Nat.le_refl _)); have K2 := Lib.hid (K1.out.below hb2 (Nat.le_refl _)); have W2 := Lib.hid (below_of W1.out hb2); clear hb2))
    | (go_at_call 9; ((with_reducible refine (BR.out _ H2.out).mono ?_); rintro e w3 ⟨rfl, hb3⟩; have H3 := Lib.hid (H2.out.below hb3 (Nat.le_refl _)); have K3 := Lib.hid (K2.out.below hb3 (Nat.le_refl _)); have W3 := Lib.hid (below_of W2.out hb3); clear hb3)))
  clear h H1 H2 K1 K2 W1 W2 OW BP BR
  go_loopw [10] (fun i wr => ∃ j : Nat, j ≤ n ∧ i = .int .i64 (j : Int) ∧ Below w3.heap.size w3 wr) (fun i _ => n - (intOf i).toNat)
  case atStart => exact ⟨0, Nat.zero_le _, rfl, Below.refl _ _⟩
  case round =>
    obtain ⟨j, hj, rfl, hb⟩ := hrel
    have hb := Lib.hid hb
    have HH := Lib.hid (H3.out.below hb.out (Nat.le_refl _))
    by_cases hlt : j < n
    · obtain ⟨x, hx, rfl, x0, x1, x2, x3⟩ := HH.out.at4 hlt
      have i0 : (j : Int) < (n : Int) := by omega
      have CK := Lib.hid (fun u => chk_any x u)
      have CR := Lib.hid (fun u => refchk_any x u)
      obtain ⟨XC, hXC⟩ := named (chkR x)
      rw [← hXC.out] at CK CR
      clear hXC hx
      obtain ⟨xk, xs, xi, xv⟩ := x
      simp only at x0 x1 x2 x3 CK CR
      have s4 : ((XC : Int) != (XC : Int)) = false := by simp
      have s5 : (XC != XC) = false := by simp
      go_upto_region 9 with fail
      refine wp_region_held_drew (S := (fun v => (v.cell? ⟨b, o + j * 4, none⟩ = some (.string xk) ∧ v.cell? ⟨b, o + j * 4 + 1, none⟩ = some (.int .u64 (xs : Int)) ∧ v.cell? ⟨b, o + j * 4 + 2, none⟩ = some (.int .i64 xi) ∧ v.cell? ⟨b, o + j * 4 + 3, none⟩ = some (.string xv)) ∧ Hid (Below wr.heap.size wr v))) (by kernel_rfl) (⟨⟨x0, x1, x2, x3⟩, Lib.hid (Below.refl wr.heap.size wr).drew⟩) (fun hHeld => ?_)
      refine held_take (i := 0) (v := ?_) rfl (by kernel_rfl) (by kernel_rfl) (by kernel_rfl) (fun _ _ _ h => h) (by rfl) (fun w hSw => ?_) (by assumption) ?_; rotate_left 1; focus (((try dsimp only at hSw); first | (go_simp; done) | (go_simp; with_reducible rfl)))
      try simp only [Act.put, List.setIfInBounds_toArray, List.set_cons_zero, List.set_cons_succ]
      refine held_take (i := 1) (v := ?_) rfl (by kernel_rfl) (by kernel_rfl) (by kernel_rfl) (fun _ _ _ h => h) (by rfl) (fun w hSw => ?_) (by assumption) ?_; rotate_left 1; focus (((try dsimp only at hSw); first | (go_simp; done) | (go_simp; with_reducible rfl)))
      try simp only [Act.put, List.setIfInBounds_toArray, List.set_cons_zero, List.set_cons_succ]
      refine held_take (i := 2) (v := ?_) rfl (by kernel_rfl) (by kernel_rfl) (by kernel_rfl) (fun _ _ _ h => h) (by rfl) (fun w hSw => ?_) (by assumption) ?_; rotate_left 1; focus (((try dsimp only at hSw); first | (go_simp; done) | (go_simp; with_reducible rfl)))
      try simp only [Act.put, List.setIfInBounds_toArray, List.set_cons_zero, List.set_cons_succ]
      refine held_take (i := 3) (v := ?_) rfl (by kernel_rfl) (by kernel_rfl) (by kernel_rfl) (fun _ _ _ h => h) (by rfl) (fun w hSw => ?_) (by assumption) ?_; rotate_left 1; focus (((try dsimp only at hSw); first | (go_simp; done) | (go_simp; with_reducible rfl)))
      try simp only [Act.put, List.setIfInBounds_toArray, List.set_cons_zero, List.set_cons_succ]
      refine held_take (i := 5) (v := ?_) rfl (by kernel_rfl) (by kernel_rfl) (by kernel_rfl) (fun _ _ _ h => h) (by rfl) (fun w hSw => ?_) (by assumption) ?_; rotate_left 1; focus (((try dsimp only at hSw); first | (go_simp; done) | (go_simp; with_reducible rfl)))
      try simp only [Act.put, List.setIfInBounds_toArray, List.set_cons_zero, List.set_cons_succ]
      refine held_take (i := 6) (v := ?_) rfl (by kernel_rfl) (by kernel_rfl) (by kernel_rfl) (fun _ _ _ h => h) (by rfl) (fun w hSw => ?_) (by assumption) ?_; rotate_left 1; focus (((try dsimp only at hSw); first | (go_simp; done) | (go_simp; with_reducible rfl)))
      try simp only [Act.put, List.setIfInBounds_toArray, List.set_cons_zero, List.set_cons_succ]
      refine held_take (i := 7) (v := ?_) rfl (by kernel_rfl) (by kernel_rfl) (by kernel_rfl) (fun _ _ _ h => h) (by rfl) (fun w hSw => ?_) (by assumption) ?_; rotate_left 1; focus (((try dsimp only at hSw); first | (go_simp; done) | (go_simp; with_reducible rfl)))
      try simp only [Act.put, List.setIfInBounds_toArray, List.set_cons_zero, List.set_cons_succ]
      refine held_take (i := 8) (v := ?_) rfl (by kernel_rfl) (by kernel_rfl) (by kernel_rfl) (fun _ _ _ h => h) (by rfl) (fun w hSw => ?_) (by assumption) ?_; rotate_left 1; focus (((try dsimp only at hSw); first | (go_simp; done) | (go_simp; with_reducible rfl)))
      try simp only [Act.put, List.setIfInBounds_toArray, List.set_cons_zero, List.set_cons_succ]
      refine held_call (i := 4) (by kernel_rfl) rfl (by rfl) (fun K hK => ?_)
      go_simp
      (go_at_call 10; ((with_reducible refine (CK.out _).mono ?_); rintro e u1 ⟨rfl, hb4⟩))
      have B4 := Lib.hid (below_of (w := wr) (Below.refl wr.heap.size wr).drew hb4)
      clear hb4
      refine hK.out _ _ (⟨⟨cell_keep B4.out x0, cell_keep B4.out x1, cell_keep B4.out x2, cell_keep B4.out x3⟩, B4⟩) (fun hHeld => ?_)
      try simp only [Act.put, List.setIfInBounds_toArray, List.set_cons_zero, List.set_cons_succ]
      refine held_call (i := 9) (by kernel_rfl) rfl (by rfl) (fun K hK => ?_)
      go_simp
      (go_at_call 11; ((with_reducible refine (CR.out _).mono ?_); rintro e u2 ⟨rfl, hb5⟩))
      have B5 := Lib.hid (below_of (w := wr) B4.out hb5)
      clear hb5
      refine hK.out _ _ (⟨⟨cell_keep B5.out x0, cell_keep B5.out x1, cell_keep B5.out x2, cell_keep B5.out x3⟩, B5⟩) (fun hHeld => ?_)
      try simp only [Act.put, List.setIfInBounds_toArray, List.set_cons_zero, List.set_cons_succ]
      refine held_take (i := 10) (v := ?_) rfl (by kernel_rfl) (by kernel_rfl) (by kernel_rfl) (fun _ _ _ h => h) (by rfl) (fun w hSw => ?_) (by assumption) ?_; rotate_left 1; focus (((try dsimp only at hSw); first | (go_simp; done) | (go_simp; with_reducible rfl)))
      try simp only [Act.put, List.setIfInBounds_toArray, List.set_cons_zero, List.set_cons_succ]
      refine wpAnyH_done (by kernel_rfl) ?_ _
      go_wp2_with fail
      go_roundw
      case rel => exact ⟨j + 1, by omega, by go_num, below_of hb.out B5.out⟩
      case measure => simp [intOf]; omega
    · have i0 : ¬ (j : Int) < (n : Int) := by omega
      have KK := Lib.hid (K3.out.below hb.out (Nat.le_refl _))
      have WW := Lib.hid (below_of W3.out hb.out)
      go_wp2_with (first
        | (go_at_call 12; ((with_reducible refine (OP.out _ _ _ (TK.out _ _ _ KK.out)).mono ?_); rintro e w4 ⟨rfl, hb4⟩; have H4 := Lib.hid (HH.out.below hb4 (Nat.le_refl _)); have K4 := Lib.hid (KK.out.below hb4 (Nat.le_refl _)); have W4 := Lib.hid (below_of WW.out hb4); clear hb4))
        | (go_at_call 13; ((with_reducible refine (OR.out _ H4.out).mono ?_); rintro e w5 ⟨rfl, hb5⟩; have KP := Lib.hid (kept_any (K4.out.below hb5 (Nat.le_refl _)) (H4.out.below hb5 (Nat.le_refl _)) hn); have W5 := Lib.hid (below_of W4.out hb5); clear hb5))
        | (go_at_call 14; ((with_reducible refine KP.out.mono ?_); rintro e w6 ⟨rfl, hb6⟩; have W6 := Lib.hid (below_of W5.out hb6); clear hb6))
        | (go_at_call 6; ((with_reducible refine (AW.out _).mono ?_); rintro e w9 ⟨rfl, hb9⟩; have W9 := Lib.hid (below_of W6.out hb9); clear hb9)))
      go_returns
      exact ⟨rfl, W9.out⟩
--LAW freshetlaw11.BlockBuild build_walk rows:ra int:d
--BEGIN
namespace BlockBuildProof
open Go.ChangeShapes Go.WideShapes Go.ChangeAt Go.RowKit
open Go.ChangeMaps (open_string shut_string)
theorem own : ownKnob Try.prog.godebug = none := by kernel_rfl
set_option maxRecDepth 100000 in
theorem lifted (os : Os) (started : os.Started) (H : Type) (enc : TypeId × Value → H) :
    ReturnsInHanded {} Try.checked os 3 .any (Rows.blockBuildSpec.pre6 enc Try.prog Try.f3 Rows.blockBuildRow.domain false) (Rows.blockBuildSpec.post enc Try.prog Try.f3 false true false false) := by
  refine returnsInHanded_of_change_sized (C := Try.checked) own started (by kernel_rfl) Try.func3
    (ChangeSpec.witness6 (enc := enc) (C := Try.checked) false ⟨#[], #[.slice none 0 0, .int .i64 0], []⟩ 8 (by kernel_rfl) (by kernel_rfl) (by kernel_rfl) (by kernel_rfl)) ?_
  intro W base args ds gs before hval0 hW _ hsz _
  have hval : ∀ (j : Nat) t v, Try.f3.params[j]? = some t → args[j]? = some v → Value.okWide Try.prog W .any base t v := hval0
  have hW' := hW
  obtain ⟨p, q, hA0, hV, rfl, hfz, hnd⟩ := hW
  have hA : DataW.TrodAll enc Try.prog W 0 (fun _ => true) true Try.f3.params.toList args.toList ds p := hA0
  rw [Try.params3] at hA hval hsz
  obtain ⟨v0, vs0, d0, ds0, p0, q0, hargs, rfl, rfl, h0, r0⟩ := trodAll_cons hA
  obtain ⟨v1, vs1, d1, ds1, p1, q1, rfl, rfl, rfl, h1, r1⟩ := trodAll_cons r0
  obtain ⟨rfl, rfl, rfl⟩ := trodAll_nil r1
  obtain rfl : args = #[v0, v1] := by cases args; simp_all
  obtain ⟨rfl, rfl⟩ := trodVars_none hV
  obtain ⟨a0, n0, c0, rfl⟩ := okWide_slice Try.underlying22 (hval 0 22 v0 rfl rfl)
  have k0 := h0
  obtain ⟨fu0, hf0⟩ := h0
  obtain ⟨b0, o0, ra, ia0⟩ := open_rows hf0 hsz (j := 0) rfl rfl
  have lt0 : ∀ x ∈ p0, x.block < W.heap.size := fun x hx => hW'.lt x (by simp only [List.mem_append]; simp [hx])
  obtain ⟨d, rfl, rfl, rfl, m1⟩ := open_int Try.underlying3 (hval 1 3 v1 rfl rfl) h1
  clear hA0 hval0
  simp only [List.append_nil] at hW'
  refine (build_walk a0 n0 c0 b0 o0 ra d m1 W ia0).mono fun e W' ⟨he, hg⟩ => ?_
  subst he
  exact ⟨_, rfl, _, _, _, [], _, [], hW', (trodAll_cons_mk (shut_bool Try.underlying4 _) trodAll_mk0), (trodAll_cons_mk (Below.trod laid_out (by kernel_rfl) (of_decide_eq_true (by kernel_rfl)) k0 hg lt0) (trodAll_cons_mk (shut_int Try.underlying3 m1) trodAll_mk0)), rfl, hg.frame _, fun h => by cases h⟩
theorem holds : Rows.BlockBuildSaid :=
  OpenClaim.holds_of_wide 3 Try.f3 rfl rfl rfl rfl rfl rfl rfl ⟨rfl, rfl, rfl, rfl, rfl⟩ rfl rfl rfl rfl rfl (by kernel_rfl) Try.func3 (by kernel_rfl)
    (of_decide_eq_true (by kernel_rfl)) (by unfold Func.isWrapper; first | (rw [if_pos (by decide +kernel)]; kernel_rfl) | (rw [if_neg (by decide +kernel)]; exact ⟨rfl, rfl⟩))
    (fun os started H enc _ => lifted os started H enc)
end BlockBuildProof
--END
end Go.Proofs.Ytlgdpnipoldfdaa
