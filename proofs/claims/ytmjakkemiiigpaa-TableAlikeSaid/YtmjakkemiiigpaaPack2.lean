/-
  The contract of the closure that writes a row behind the one that it remembers. Condition: a valid row.
-/
import Derived.Test.YtmjakkemiiigpaaPack1
import Derived.Deep.Cut
import Derived.Deep.DeepCutAuto
import Derived.WalkKit
import Derived.Laws.AppendOwn
import Derived.OwnWalk
import Derived.Laws.DeepStrings4
import Derived.Deep.RegionHeld3
import Derived.Test.YtmjakkemiiigpaaRows
import Derived.IntWalk
import Derived.WalkMore
import Derived.Deep.LoopGhost
import Derived.Shelf.Abstract
import Derived.RangeFuncBox
import Derived.RangeFuncNested
import Derived.Handy
import Derived.BigRegion
import Derived.Deep.RegionHeld
import Derived.ChangeSame
import Derived.ProofKit
import Derived.SizedLaws
import Derived.Deep.Slices
import Derived.Deep.Fields
import Derived.ChangeSlices
import Derived.OpenShut
import Derived.SliceStrings
namespace Go.Proofs.Ytmjakkemiiigpaa
set_option maxRecDepth 100000
open Go.RowKit
theorem putfield_list (D : List UInt8) (h : D.length ≤ 4096) (w : World) :
    Calls Try.prog 75 #[.string ⟨D.toArray⟩] w fun e w' => e = .returned (.string ⟨(Code.uvar D.length ++ D).toArray⟩) ∧ Below w.heap.size w w' := by
  have hz : (⟨D.toArray⟩ : ByteArray).size = D.length := by show D.toArray.size = _; simp
  have := putfield_any ⟨D.toArray⟩ (by rw [hz]; unfold reachBytes; omega) w
  rw [hz] at this
  exact this
theorem text_of (k : Nat) (hk : k < 256) (u : World) (g : Nat) (h0 : u.cell? ⟨g, 0, none⟩ = some (.int .u8 (k : Int))) : (convert 49 9 (.slice (some ⟨g, 0, none⟩) 1 1)).run Try.prog u = .ok (.string ⟨[UInt8.ofNat k].toArray⟩) u := by
  refine run_convert_bytes_back u _ _ 5 ⟨g, 0, none⟩ 1 [UInt8.ofNat k] Try.underlying49 Try.underlying5 Try.underlying9 ?_
  intro j hj
  have : j = 0 := by simpa using hj
  subst this
  simp [Addr.add, h0]
  omega
theorem rowAt_put {b : Nat} {y : Rw} {W : World} (h : RowAt b y W) (x : Rw) : RowAt b x ((((W.setCell ⟨b, 0, none⟩ (.string x.key)).setCell ⟨b, 1, none⟩ (.int .u64 (x.seq : Int))).setCell ⟨b, 2, none⟩ (.int .i64 x.kind)).setCell ⟨b, 3, none⟩ (.string x.val)) :=
  (heap_setCell_same _ _ _ _ _ _ ((heap_setCell_same _ _ _ _ _ _ ((heap_setCell_same _ _ _ _ _ _ ((heap_setCell_same _ _ _ _ _ _ h).trans rfl)).trans rfl)).trans rfl)).trans rfl
theorem but_put4 (b : Nat) (W : World) (x : Rw) : But b W ((((W.setCell ⟨b, 0, none⟩ (.string x.key)).setCell ⟨b, 1, none⟩ (.int .u64 (x.seq : Int))).setCell ⟨b, 2, none⟩ (.int .i64 x.kind)).setCell ⟨b, 3, none⟩ (.string x.val)) :=
  ((((But.refl b W).setCell rfl _).setCell rfl _).setCell rfl _).setCell rfl _
theorem RowAt.but {b c : Nat} {x : Rw} {w w' : World} (h : RowAt c x w) (hb : But b w w') (hc : c ≠ b) : RowAt c x w' := (hb.block c (Array.getElem?_eq_some_iff.1 h).1 hc).trans h
theorem but_new {w w' : World} {b : Nat} {o : Obj} (h : But b (w.alloc o) w') : But b w w' := (But.of_below (below_alloc w o) (Nat.le_refl _)).trans h
set_option maxRecDepth 100000 in
set_option maxHeartbeats 8000000 in
theorem writer_any (x p : Rw) (f : Bool) (b : Nat) (w : World) (hp : RowAt b p w) (hx : chkR x = 0) (hpk : p.key.size ≤ 520) :
    Calls Try.prog 80 #[rowV x, .bool f, .pointer (some ⟨b, 0, none⟩)] w fun e w' => e = .returned (.string ⟨(encX (if f = true then [] else p.key.toList) x).toArray⟩) ∧ RowAt b x w' ∧ But b w w' := by
  obtain ⟨hk, _, hs1, hs2, _, hkl, hvl⟩ := chkR_ok hx
  have hb0 : b < w.heap.size := (Array.getElem?_eq_some_iff.1 hp).1
  have R0 := RowAt.new x w
  have W0 := Lib.hid (below_alloc w (.cells #[.string x.key, .int .u64 (x.seq : Int), .int .i64 x.kind, .string x.val] 39))
  have hp1 := hp.below W0.out
  obtain ⟨P, hP⟩ := named (if f = true then [] else p.key.toList)
  obtain ⟨c, hc⟩ := named (com P x.key.toList)
  have hc1 : c ≤ x.key.size := by rw [hc.out, ← toL_len]; exact (com_le _ _).2
  have hcf : Hid (f = true → c = 0) := Lib.hid (fun hf => by rw [hc.out, hP.out, if_pos hf, com_nil])
  have hcn : Hid (f = false → c = com p.key.toList x.key.toList) := Lib.hid (fun hf => by rw [hc.out, hP.out, if_neg (by rw [hf]; decide)])
  have CM := Lib.hid (fun u => common_any p.key x.key (by unfold maxLen; omega) (by unfold maxLen; omega) u)
  have hE : Hid (encX P x = Code.uvar c ++ (Code.uvar (x.key.toList.drop c).length ++ x.key.toList.drop c) ++ Code.uvar x.seq ++ [UInt8.ofNat x.kind.toNat] ++ valB x) := Lib.hid (by unfold encX; rw [← hc.out])
  have hV1 : Hid (x.kind = 1 → valB x = Code.uvar x.val.size ++ x.val.toList) := Lib.hid (fun h => by unfold valB; rw [if_pos h])
  have hV2 : Hid (x.kind ≠ 1 → valB x = []) := Lib.hid (fun h => by unfold valB; rw [if_neg h])
  rw [← hP.out]
  obtain ⟨E, hE2⟩ := named (encX P x)
  rw [← hE2.out] at hE ⊢
  obtain ⟨VB, hVB⟩ := named (valB x)
  rw [← hVB.out] at hE hV1 hV2
  obtain ⟨k, hk2⟩ : ∃ k : Nat, x.kind = (k : Int) := ⟨x.kind.toNat, by omega⟩
  have hk12 : k = 1 ∨ k = 2 := by omega
  clear hVB hE2 hP hc hk
  obtain ⟨xk, xs, xi, xv⟩ := x
  simp only at *
  subst hk2
  obtain ⟨D, hD⟩ := named (xk.toList.drop c)
  have hDl : D.length ≤ 520 := by rw [hD.out, List.length_drop, toL_len]; omega
  have SLF := sl_from xk c hc1 _ rfl
  rw [← hD.out] at SLF hE
  obtain ⟨A1, hA1⟩ := named (Code.uvar c)
  obtain ⟨A2, hA2⟩ := named (Code.uvar D.length ++ D)
  obtain ⟨A3, hA3⟩ := named (Code.uvar xs)
  obtain ⟨A4, hA4⟩ := named [UInt8.ofNat k]
  have P1 := Lib.hid (fun u => putuint_any c (by omega) u)
  have P2 := Lib.hid (fun u => putfield_list D (by omega) u)
  have P3 := Lib.hid (fun u => putuint_any xs (by omega) u)
  have PV := Lib.hid (fun u => putfield_any xv (by unfold reachBytes; omega) u)
  obtain ⟨A5, hA5⟩ := named (Code.uvar xv.size ++ xv.toList)
  have PV : Hid (∀ u, Calls Try.prog 75 #[.string xv] u fun e w' => e = .returned (.string ⟨A5.toArray⟩) ∧ Below u.heap.size u w') := Lib.hid (by rw [hA5.out, ByteArray.toList_eq]; exact PV.out)
  rw [← hA1.out] at P1 hE
  rw [← hA2.out] at P2 hE
  rw [← hA3.out] at P3 hE
  have T17 : ∀ (u : World) (g : Nat), u.cell? ⟨g, 0, none⟩ = some (.int .u8 (k : Int)) → (convert 49 9 (.slice (some ⟨g, 0, none⟩) 1 1)).run Try.prog u = .ok (.string ⟨A4.toArray⟩) u := by rw [hA4.out]; exact fun u g => text_of k (by omega) u g
  rw [show (k : Int).toNat = k from rfl, ← hA4.out] at hE
  rw [← hA5.out] at hV1
  have a1 : A1.length ≤ 10 := by rw [hA1.out]; exact Code.uvar_ten (by omega)
  have a2 : A2.length ≤ 530 := by rw [hA2.out, List.length_append]; have := Code.uvar_ten (n := D.length) (by omega); omega
  have a3 : A3.length ≤ 10 := by rw [hA3.out]; exact Code.uvar_ten (by omega)
  have a4 : A4.length = 1 := by rw [hA4.out]; rfl
  have a5 : A5.length ≤ 2058 := by rw [hA5.out, List.length_append, toL_len]; have := Code.uvar_ten (n := xv.size) (by omega); omega
  have z1 : ¬ 9223372036854775807 < A1.length + A2.length := by omega
  have z2 : ¬ 9223372036854775807 < A1.length + A2.length + A3.length := by omega
  have z3 : ¬ 9223372036854775807 < A1.length + A2.length + A3.length + A4.length := by omega
  have z4 : ¬ 9223372036854775807 < A1.length + A2.length + A3.length + A4.length + A5.length := by omega
  have w1 : IntKind.u64.wrap (c : Int) = (c : Int) := wrap_u64_nat (by omega)
  have w2 : IntKind.u8.wrap (k : Int) = (k : Int) := by rw [IntKind.wrap_u8]; omega
  clear hD hA1 hA2 hA3 hA4 hA5 hkl hvl hs1 hs2 hx
  replace a4 := Lib.hid a4
  replace hDl := Lib.hid hDl
  obtain ⟨⟨p0, p1, p2, p3⟩, pf⟩ := hp1.cells
  obtain ⟨⟨x0, x1, x2, x3⟩, _⟩ := R0.cells
  simp only at x0 x1 x2 x3
  have pf0 := pf 0
  have pf1 := pf 1
  have pf2 := pf 2
  have pf3 := pf 3
  clear pf
  go_enter Try.func80, Try.ntmps80
  go_upto_if 9 with fail
  go_cut [6] from 9 to 14 (fun s wc => s = .int .i64 (c : Int) ∧ Below (w.alloc (.cells #[.string xk, .int .u64 (xs : Int), .int .i64 (k : Int), .string xv] 39)).heap.size (w.alloc (.cells #[.string xk, .int .u64 (xs : Int), .int .i64 (k : Int), .string xv] 39)) wc)
  case first =>
    cases f with
    | true =>
      have e0 := hcf.out rfl
      subst e0
      go_wp2_with fail
      go_meet
      exact ⟨rfl, Below.refl _ _⟩
    | false =>
      have e0 := hcn.out rfl
      subst e0
      go_wp2_with (go_at_call 81; ((with_reducible refine (CM.out _).mono ?_); rintro e u1 ⟨rfl, hb1⟩))
      go_meet
      exact ⟨rfl, hb1⟩
  case rest =>
    obtain ⟨rfl, hcut⟩ := hcut
    have X1 := R0.below hcut
    have Q1 := hp1.below hcut
    have hne : w.heap.size ≠ b := by omega
    have BV : Hid (But b w ((((wc.setCell ⟨b, 0, none⟩ (.string xk)).setCell ⟨b, 1, none⟩ (.int .u64 (xs : Int))).setCell ⟨b, 2, none⟩ (.int .i64 (k : Int))).setCell ⟨b, 3, none⟩ (.string xv))) := Lib.hid ((But.of_below (W0.out.trans (hcut.mono W0.out.size)) (Nat.le_refl _)).trans (but_put4 b wc ⟨xk, xs, (k : Int), xv⟩))
    have RV := Lib.hid (rowAt_put Q1 ⟨xk, xs, (k : Int), xv⟩)
    have XV := Lib.hid (X1.but (but_put4 b wc ⟨xk, xs, (k : Int), xv⟩) hne)
    simp only at RV XV
    obtain ⟨⟨p0, p1, p2, p3⟩, pf⟩ := Q1.cells
    obtain ⟨⟨x0, x1, x2, x3⟩, _⟩ := X1.cells
    simp only at x0 x1 x2 x3
    have pf0 := pf 0
    have pf1 := pf 1
    have pf2 := pf 2
    have pf3 := pf 3
    clear pf Q1 X1 hcut hp1 hp hcf hcn CM
    go_upto_region 5 with fail
    generalize (((wc.setCell ⟨b, 0, none⟩ (.string xk)).setCell ⟨b, 1, none⟩ (.int .u64 (xs : Int))).setCell ⟨b, 2, none⟩ (.int .i64 (k : Int))).setCell ⟨b, 3, none⟩ (.string xv) = V at *
    clear p0 p1 p2 p3 x0 x1 x2 x3 pf0 pf1 pf2 pf3 W0
    have B0 : Hid (Below V.heap.size V V.drew) := Lib.hid (Below.refl _ V).drew
    have SX : Hid (∀ u, Below V.heap.size V u → (u.cell? ⟨w.heap.size, 0, none⟩ = some (.string xk) ∧ u.cell? ⟨w.heap.size, 1, none⟩ = some (.int .u64 (xs : Int)) ∧ u.cell? ⟨w.heap.size, 2, none⟩ = some (.int .i64 (k : Int))) ∧ Hid (Below V.heap.size V u)) := Lib.hid (fun u hu => by
      obtain ⟨⟨y0, y1, y2, _⟩, _⟩ := (XV.out.below hu).cells
      exact ⟨⟨y0, y1, y2⟩, Lib.hid hu⟩)
    go_cut [7] from 16 to 34 (fun s wc => s = .string (⟨A1.toArray⟩ ++ ⟨A2.toArray⟩ ++ ⟨A3.toArray⟩ ++ ⟨A4.toArray⟩) ∧ Below V.heap.size V wc)
    case first =>
      refine wp_region_held_drew (S := (fun v => (v.cell? ⟨w.heap.size, 0, none⟩ = some (.string xk) ∧ v.cell? ⟨w.heap.size, 1, none⟩ = some (.int .u64 (xs : Int)) ∧ v.cell? ⟨w.heap.size, 2, none⟩ = some (.int .i64 (k : Int))) ∧ Hid (Below V.heap.size V v))) (by kernel_rfl) (SX.out _ B0.out) (fun hHeld => ?_)
      refine held_take (i := 0) (v := ?_) rfl (by kernel_rfl) (by kernel_rfl) (by kernel_rfl) (fun _ _ _ h => h) (by rfl) (fun w hSw => ?_) (by assumption) ?_; rotate_left 1; focus (((try dsimp only at hSw); first | (go_simp; done) | (go_simp; with_reducible rfl)))
      try simp only [Act.put, List.setIfInBounds_toArray, List.set_cons_zero, List.set_cons_succ]
      refine held_take (i := 1) (v := ?_) rfl (by kernel_rfl) (by kernel_rfl) (by kernel_rfl) (fun _ _ _ h => h) (by rfl) (fun w hSw => ?_) (by assumption) ?_; rotate_left 1; focus (((try dsimp only at hSw); first | (go_simp; done) | (go_simp; with_reducible rfl)))
      try simp only [Act.put, List.setIfInBounds_toArray, List.set_cons_zero, List.set_cons_succ]
      refine held_take (i := 3) (v := ?_) rfl (by kernel_rfl) (by kernel_rfl) (by kernel_rfl) (fun _ _ _ h => h) (by rfl) (fun w hSw => ?_) (by assumption) ?_; rotate_left 1; focus (((try dsimp only at hSw); first | (go_simp; done) | (go_simp; with_reducible rfl)))
      try simp only [Act.put, List.setIfInBounds_toArray, List.set_cons_zero, List.set_cons_succ]
      refine held_take (i := 4) (v := ?_) rfl (by kernel_rfl) (by kernel_rfl) (by kernel_rfl) (fun _ _ _ h => h) (by rfl) (fun w hSw => ?_) (by assumption) ?_; rotate_left 1; focus (((try dsimp only at hSw); first | (go_simp; done) | (go_simp; with_reducible rfl)))
      try simp only [Act.put, List.setIfInBounds_toArray, List.set_cons_zero, List.set_cons_succ]
      refine held_take (i := 5) (v := ?_) rfl (by kernel_rfl) (by kernel_rfl) (by kernel_rfl) (fun _ _ _ h => h) (by rfl) (fun w hSw => ?_) (by assumption) ?_; rotate_left 1; focus (((try dsimp only at hSw); first | (go_simp; done) | (go_simp; with_reducible rfl)))
      try simp only [Act.put, List.setIfInBounds_toArray, List.set_cons_zero, List.set_cons_succ]
      refine held_take (i := 6) (v := ?_) rfl (by kernel_rfl) (by kernel_rfl) (by kernel_rfl) (fun _ _ _ h => h) (by rfl) (fun w hSw => ?_) (by assumption) ?_; rotate_left 1; focus (((try dsimp only at hSw); first | (go_simp; done) | (go_simp; with_reducible rfl)))
      try simp only [Act.put, List.setIfInBounds_toArray, List.set_cons_zero, List.set_cons_succ]
      refine held_take (i := 9) (v := ?_) rfl (by kernel_rfl) (by kernel_rfl) (by kernel_rfl) (fun _ _ _ h => h) (by rfl) (fun w hSw => ?_) (by assumption) ?_; rotate_left 1; focus (((try dsimp only at hSw); first | (go_simp; done) | (go_simp; with_reducible rfl)))
      try simp only [Act.put, List.setIfInBounds_toArray, List.set_cons_zero, List.set_cons_succ]
      refine held_take (i := 10) (v := ?_) rfl (by kernel_rfl) (by kernel_rfl) (by kernel_rfl) (fun _ _ _ h => h) (by rfl) (fun w hSw => ?_) (by assumption) ?_; rotate_left 1; focus (((try dsimp only at hSw); first | (go_simp; done) | (go_simp; with_reducible rfl)))
      try simp only [Act.put, List.setIfInBounds_toArray, List.set_cons_zero, List.set_cons_succ]
      refine held_take (i := 13) (v := ?_) rfl (by kernel_rfl) (by kernel_rfl) (by kernel_rfl) (fun _ _ _ h => h) (by rfl) (fun w hSw => ?_) (by assumption) ?_; rotate_left 1; focus (((try dsimp only at hSw); first | (go_simp; done) | (go_simp; with_reducible rfl)))
      try simp only [Act.put, List.setIfInBounds_toArray, List.set_cons_zero, List.set_cons_succ]
      refine held_take (i := 14) (v := ?_) rfl (by kernel_rfl) (by kernel_rfl) (by kernel_rfl) (fun _ _ _ h => h) (by rfl) (fun w hSw => ?_) (by assumption) ?_; rotate_left 1; focus (((try dsimp only at hSw); first | (go_simp; done) | (go_simp; with_reducible rfl)))
      try simp only [Act.put, List.setIfInBounds_toArray, List.set_cons_zero, List.set_cons_succ]
      refine held_take (i := 15) (v := ?_) rfl (by kernel_rfl) (by kernel_rfl) (by kernel_rfl) (fun _ _ _ h => h) (by rfl) (fun w hSw => ?_) (by assumption) ?_; rotate_left 1; focus (((try dsimp only at hSw); first | (go_simp; done) | (go_simp; with_reducible rfl)))
      try simp only [Act.put, List.setIfInBounds_toArray, List.set_cons_zero, List.set_cons_succ]
      refine held_two (i := 2) (j := 16) (by kernel_rfl) rfl rfl (by rfl) (by rfl) (fun K hK => ?_) (fun K hK => ?_)
      · go_simp
        (go_at_call 76; ((with_reducible refine (P1.out _).mono ?_); rintro e u2 ⟨rfl, hb2⟩))
        have B2 := Lib.hid (below_of (w := V) B0.out hb2)
        clear hb2
        refine hK.out _ _ (SX.out _ B2.out) (fun hHeld => ?_)
        try simp only [Act.put, List.setIfInBounds_toArray, List.set_cons_zero, List.set_cons_succ]
        refine held_two (i := 7) (j := 16) (by kernel_rfl) rfl rfl (by rfl) (by rfl) (fun K hK => ?_) (fun K hK => ?_)
        · go_simp
          (go_at_call 75; ((with_reducible refine (P2.out _).mono ?_); rintro e u7 ⟨rfl, hb7⟩))
          have B7 := Lib.hid (below_of (w := V) B2.out hb7)
          clear hb7
          refine hK.out _ _ (SX.out _ B7.out) (fun hHeld => ?_)
          try simp only [Act.put, List.setIfInBounds_toArray, List.set_cons_zero, List.set_cons_succ]
          refine held_take (i := 8) (v := ?_) rfl (by kernel_rfl) (by kernel_rfl) (by kernel_rfl) (fun _ _ _ h => h) (by rfl) (fun w hSw => ?_) (by assumption) ?_; rotate_left 1; focus (((try dsimp only at hSw); first | (go_simp; done) | (go_simp; with_reducible rfl)))
          try simp only [Act.put, List.setIfInBounds_toArray, List.set_cons_zero, List.set_cons_succ]
          refine held_two (i := 11) (j := 16) (by kernel_rfl) rfl rfl (by rfl) (by rfl) (fun K hK => ?_) (fun K hK => ?_)
          · go_simp
            (go_at_call 76; ((with_reducible refine (P3.out _).mono ?_); rintro e u11 ⟨rfl, hb11⟩))
            have B11 := Lib.hid (below_of (w := V) B7.out hb11)
            clear hb11
            refine hK.out _ _ (SX.out _ B11.out) (fun hHeld => ?_)
            try simp only [Act.put, List.setIfInBounds_toArray, List.set_cons_zero, List.set_cons_succ]
            refine held_take (i := 12) (v := ?_) rfl (by kernel_rfl) (by kernel_rfl) (by kernel_rfl) (fun _ _ _ h => h) (by rfl) (fun w hSw => ?_) (by assumption) ?_; rotate_left 1; focus (((try dsimp only at hSw); first | (go_simp; done) | (go_simp; with_reducible rfl)))
            try simp only [Act.put, List.setIfInBounds_toArray, List.set_cons_zero, List.set_cons_succ]
            refine held_call (i := 16) (by kernel_rfl) rfl (by rfl) (fun K hK => ?_)
            go_simp
            have B16' := Lib.hid (below_of (w := V) B11.out (below_alloc u11 (.cells #[.int .u8 (k : Int)] 5)))
            have c17' : (u11.alloc (.cells #[.int .u8 (k : Int)] 5)).cell? ⟨u11.heap.size, 0, none⟩ = some (.int .u8 (k : Int)) := by rw [World.cell?_alloc_new]; rfl
            obtain ⟨u16, hu16⟩ := named (u11.alloc (.cells #[.int .u8 (k : Int)] 5))
            rw [← hu16.out] at B16' c17'
            have B16 := B16'
            have c17 := c17'
            clear B16' c17'
            refine hK.out _ _ (by rw [← hu16.out]; exact SX.out _ B16.out) (fun hHeld => ?_)
            rw [← hu16.out] at hHeld ⊢
            try simp only [Act.put, List.setIfInBounds_toArray, List.set_cons_zero, List.set_cons_succ]
            refine held_call (i := 17) (by kernel_rfl) rfl (by rfl) (fun K hK => ?_)
            go_simp
            clear c17
            refine hK.out _ _ hHeld (fun hHeld => ?_)
            try simp only [Act.put, List.setIfInBounds_toArray, List.set_cons_zero, List.set_cons_succ]
            refine held_take (i := 18) (v := ?_) rfl (by kernel_rfl) (by kernel_rfl) (by kernel_rfl) (fun _ _ _ h => h) (by rfl) (fun w hSw => ?_) (by assumption) ?_; rotate_left 1; focus (((try dsimp only at hSw); first | (go_simp; done) | (go_simp; with_reducible rfl)))
            try simp only [Act.put, List.setIfInBounds_toArray, List.set_cons_zero, List.set_cons_succ]
            refine held_take (i := 19) (v := ?_) rfl (by kernel_rfl) (by kernel_rfl) (by kernel_rfl) (fun _ _ _ h => h) (by rfl) (fun w hSw => ?_) (by assumption) ?_; rotate_left 1; focus (((try dsimp only at hSw); first | (go_simp; done) | (go_simp; with_reducible rfl)))
            try simp only [Act.put, List.setIfInBounds_toArray, List.set_cons_zero, List.set_cons_succ]
            refine wpAnyH_done (by kernel_rfl) ?_ _
            go_wp2_with fail
            go_meet
            exact ⟨rfl, hHeld.2.out⟩
          · go_simp
            have B16' := Lib.hid (below_of (w := V) B7.out (below_alloc u7 (.cells #[.int .u8 (k : Int)] 5)))
            have c17' : (u7.alloc (.cells #[.int .u8 (k : Int)] 5)).cell? ⟨u7.heap.size, 0, none⟩ = some (.int .u8 (k : Int)) := by rw [World.cell?_alloc_new]; rfl
            obtain ⟨u16, hu16⟩ := named (u7.alloc (.cells #[.int .u8 (k : Int)] 5))
            rw [← hu16.out] at B16' c17'
            have B16 := B16'
            have c17 := c17'
            clear B16' c17'
            refine hK.out _ _ (by rw [← hu16.out]; exact SX.out _ B16.out) (fun hHeld => ?_)
            rw [← hu16.out] at hHeld ⊢
            try simp only [Act.put, List.setIfInBounds_toArray, List.set_cons_zero, List.set_cons_succ]
            refine held_two (i := 11) (j := 17) (by kernel_rfl) rfl rfl (by rfl) (by rfl) (fun K hK => ?_) (fun K hK => ?_)
            · go_simp
              (go_at_call 76; ((with_reducible refine (P3.out _).mono ?_); rintro e u11 ⟨rfl, hb11⟩))
              have B11 := Lib.hid (below_of (w := V) B16.out hb11)
              have c17 := cell_keep hb11 c17
              clear hb11
              refine hK.out _ _ (SX.out _ B11.out) (fun hHeld => ?_)
              try simp only [Act.put, List.setIfInBounds_toArray, List.set_cons_zero, List.set_cons_succ]
              refine held_take (i := 12) (v := ?_) rfl (by kernel_rfl) (by kernel_rfl) (by kernel_rfl) (fun _ _ _ h => h) (by rfl) (fun w hSw => ?_) (by assumption) ?_; rotate_left 1; focus (((try dsimp only at hSw); first | (go_simp; done) | (go_simp; with_reducible rfl)))
              try simp only [Act.put, List.setIfInBounds_toArray, List.set_cons_zero, List.set_cons_succ]
              refine held_call (i := 17) (by kernel_rfl) rfl (by rfl) (fun K hK => ?_)
              go_simp
              clear c17
              refine hK.out _ _ hHeld (fun hHeld => ?_)
              try simp only [Act.put, List.setIfInBounds_toArray, List.set_cons_zero, List.set_cons_succ]
              refine held_take (i := 18) (v := ?_) rfl (by kernel_rfl) (by kernel_rfl) (by kernel_rfl) (fun _ _ _ h => h) (by rfl) (fun w hSw => ?_) (by assumption) ?_; rotate_left 1; focus (((try dsimp only at hSw); first | (go_simp; done) | (go_simp; with_reducible rfl)))
              try simp only [Act.put, List.setIfInBounds_toArray, List.set_cons_zero, List.set_cons_succ]
              refine held_take (i := 19) (v := ?_) rfl (by kernel_rfl) (by kernel_rfl) (by kernel_rfl) (fun _ _ _ h => h) (by rfl) (fun w hSw => ?_) (by assumption) ?_; rotate_left 1; focus (((try dsimp only at hSw); first | (go_simp; done) | (go_simp; with_reducible rfl)))
              try simp only [Act.put, List.setIfInBounds_toArray, List.set_cons_zero, List.set_cons_succ]
              refine wpAnyH_done (by kernel_rfl) ?_ _
              go_wp2_with fail
              go_meet
              exact ⟨rfl, hHeld.2.out⟩
            · go_simp
              clear c17
              refine hK.out _ _ hHeld (fun hHeld => ?_)
              try simp only [Act.put, List.setIfInBounds_toArray, List.set_cons_zero, List.set_cons_succ]
              refine held_call (i := 11) (by kernel_rfl) rfl (by rfl) (fun K hK => ?_)
              go_simp
              (go_at_call 76; ((with_reducible refine (P3.out _).mono ?_); rintro e u11 ⟨rfl, hb11⟩))
              have B11 := Lib.hid (below_of (w := V) B16.out hb11)
              clear hb11
              refine hK.out _ _ (SX.out _ B11.out) (fun hHeld => ?_)
              try simp only [Act.put, List.setIfInBounds_toArray, List.set_cons_zero, List.set_cons_succ]
              refine held_take (i := 12) (v := ?_) rfl (by kernel_rfl) (by kernel_rfl) (by kernel_rfl) (fun _ _ _ h => h) (by rfl) (fun w hSw => ?_) (by assumption) ?_; rotate_left 1; focus (((try dsimp only at hSw); first | (go_simp; done) | (go_simp; with_reducible rfl)))
              try simp only [Act.put, List.setIfInBounds_toArray, List.set_cons_zero, List.set_cons_succ]
              refine held_take (i := 18) (v := ?_) rfl (by kernel_rfl) (by kernel_rfl) (by kernel_rfl) (fun _ _ _ h => h) (by rfl) (fun w hSw => ?_) (by assumption) ?_; rotate_left 1; focus (((try dsimp only at hSw); first | (go_simp; done) | (go_simp; with_reducible rfl)))
              try simp only [Act.put, List.setIfInBounds_toArray, List.set_cons_zero, List.set_cons_succ]
              refine held_take (i := 19) (v := ?_) rfl (by kernel_rfl) (by kernel_rfl) (by kernel_rfl) (fun _ _ _ h => h) (by rfl) (fun w hSw => ?_) (by assumption) ?_; rotate_left 1; focus (((try dsimp only at hSw); first | (go_simp; done) | (go_simp; with_reducible rfl)))
              try simp only [Act.put, List.setIfInBounds_toArray, List.set_cons_zero, List.set_cons_succ]
              refine wpAnyH_done (by kernel_rfl) ?_ _
              go_wp2_with fail
              go_meet
              exact ⟨rfl, hHeld.2.out⟩
        · go_simp
          have B16' := Lib.hid (below_of (w := V) B2.out (below_alloc u2 (.cells #[.int .u8 (k : Int)] 5)))
          have c17' : (u2.alloc (.cells #[.int .u8 (k : Int)] 5)).cell? ⟨u2.heap.size, 0, none⟩ = some (.int .u8 (k : Int)) := by rw [World.cell?_alloc_new]; rfl
          obtain ⟨u16, hu16⟩ := named (u2.alloc (.cells #[.int .u8 (k : Int)] 5))
          rw [← hu16.out] at B16' c17'
          have B16 := B16'
          have c17 := c17'
          clear B16' c17'
          refine hK.out _ _ (by rw [← hu16.out]; exact SX.out _ B16.out) (fun hHeld => ?_)
          rw [← hu16.out] at hHeld ⊢
          try simp only [Act.put, List.setIfInBounds_toArray, List.set_cons_zero, List.set_cons_succ]
          refine held_two (i := 7) (j := 17) (by kernel_rfl) rfl rfl (by rfl) (by rfl) (fun K hK => ?_) (fun K hK => ?_)
          · go_simp
            (go_at_call 75; ((with_reducible refine (P2.out _).mono ?_); rintro e u7 ⟨rfl, hb7⟩))
            have B7 := Lib.hid (below_of (w := V) B16.out hb7)
            have c17 := cell_keep hb7 c17
            clear hb7
            refine hK.out _ _ (SX.out _ B7.out) (fun hHeld => ?_)
            try simp only [Act.put, List.setIfInBounds_toArray, List.set_cons_zero, List.set_cons_succ]
            refine held_take (i := 8) (v := ?_) rfl (by kernel_rfl) (by kernel_rfl) (by kernel_rfl) (fun _ _ _ h => h) (by rfl) (fun w hSw => ?_) (by assumption) ?_; rotate_left 1; focus (((try dsimp only at hSw); first | (go_simp; done) | (go_simp; with_reducible rfl)))
            try simp only [Act.put, List.setIfInBounds_toArray, List.set_cons_zero, List.set_cons_succ]
            refine held_two (i := 11) (j := 17) (by kernel_rfl) rfl rfl (by rfl) (by rfl) (fun K hK => ?_) (fun K hK => ?_)
            · go_simp
              (go_at_call 76; ((with_reducible refine (P3.out _).mono ?_); rintro e u11 ⟨rfl, hb11⟩))
              have B11 := Lib.hid (below_of (w := V) B7.out hb11)
              have c17 := cell_keep hb11 c17
              clear hb11
              refine hK.out _ _ (SX.out _ B11.out) (fun hHeld => ?_)
              try simp only [Act.put, List.setIfInBounds_toArray, List.set_cons_zero, List.set_cons_succ]
              refine held_take (i := 12) (v := ?_) rfl (by kernel_rfl) (by kernel_rfl) (by kernel_rfl) (fun _ _ _ h => h) (by rfl) (fun w hSw => ?_) (by assumption) ?_; rotate_left 1; focus (((try dsimp only at hSw); first | (go_simp; done) | (go_simp; with_reducible rfl)))
              try simp only [Act.put, List.setIfInBounds_toArray, List.set_cons_zero, List.set_cons_succ]
              refine held_call (i := 17) (by kernel_rfl) rfl (by rfl) (fun K hK => ?_)
              go_simp
              clear c17
              refine hK.out _ _ hHeld (fun hHeld => ?_)
              try simp only [Act.put, List.setIfInBounds_toArray, List.set_cons_zero, List.set_cons_succ]
              refine held_take (i := 18) (v := ?_) rfl (by kernel_rfl) (by kernel_rfl) (by kernel_rfl) (fun _ _ _ h => h) (by rfl) (fun w hSw => ?_) (by assumption) ?_; rotate_left 1; focus (((try dsimp only at hSw); first | (go_simp; done) | (go_simp; with_reducible rfl)))
              try simp only [Act.put, List.setIfInBounds_toArray, List.set_cons_zero, List.set_cons_succ]
              refine held_take (i := 19) (v := ?_) rfl (by kernel_rfl) (by kernel_rfl) (by kernel_rfl) (fun _ _ _ h => h) (by rfl) (fun w hSw => ?_) (by assumption) ?_; rotate_left 1; focus (((try dsimp only at hSw); first | (go_simp; done) | (go_simp; with_reducible rfl)))
              try simp only [Act.put, List.setIfInBounds_toArray, List.set_cons_zero, List.set_cons_succ]
              refine wpAnyH_done (by kernel_rfl) ?_ _
              go_wp2_with fail
              go_meet
              exact ⟨rfl, hHeld.2.out⟩
            · go_simp
              clear c17
              refine hK.out _ _ hHeld (fun hHeld => ?_)
              try simp only [Act.put, List.setIfInBounds_toArray, List.set_cons_zero, List.set_cons_succ]
              refine held_call (i := 11) (by kernel_rfl) rfl (by rfl) (fun K hK => ?_)
              go_simp
              (go_at_call 76; ((with_reducible refine (P3.out _).mono ?_); rintro e u11 ⟨rfl, hb11⟩))
              have B11 := Lib.hid (below_of (w := V) B7.out hb11)
              clear hb11
              refine hK.out _ _ (SX.out _ B11.out) (fun hHeld => ?_)
              try simp only [Act.put, List.setIfInBounds_toArray, List.set_cons_zero, List.set_cons_succ]
              refine held_take (i := 12) (v := ?_) rfl (by kernel_rfl) (by kernel_rfl) (by kernel_rfl) (fun _ _ _ h => h) (by rfl) (fun w hSw => ?_) (by assumption) ?_; rotate_left 1; focus (((try dsimp only at hSw); first | (go_simp; done) | (go_simp; with_reducible rfl)))
              try simp only [Act.put, List.setIfInBounds_toArray, List.set_cons_zero, List.set_cons_succ]
              refine held_take (i := 18) (v := ?_) rfl (by kernel_rfl) (by kernel_rfl) (by kernel_rfl) (fun _ _ _ h => h) (by rfl) (fun w hSw => ?_) (by assumption) ?_; rotate_left 1; focus (((try dsimp only at hSw); first | (go_simp; done) | (go_simp; with_reducible rfl)))
              try simp only [Act.put, List.setIfInBounds_toArray, List.set_cons_zero, List.set_cons_succ]
              refine held_take (i := 19) (v := ?_) rfl (by kernel_rfl) (by kernel_rfl) (by kernel_rfl) (fun _ _ _ h => h) (by rfl) (fun w hSw => ?_) (by assumption) ?_; rotate_left 1; focus (((try dsimp only at hSw); first | (go_simp; done) | (go_simp; with_reducible rfl)))
              try simp only [Act.put, List.setIfInBounds_toArray, List.set_cons_zero, List.set_cons_succ]
              refine wpAnyH_done (by kernel_rfl) ?_ _
              go_wp2_with fail
              go_meet
              exact ⟨rfl, hHeld.2.out⟩
          · go_simp
            clear c17
            refine hK.out _ _ hHeld (fun hHeld => ?_)
            try simp only [Act.put, List.setIfInBounds_toArray, List.set_cons_zero, List.set_cons_succ]
            refine held_call (i := 7) (by kernel_rfl) rfl (by rfl) (fun K hK => ?_)
            go_simp
            (go_at_call 75; ((with_reducible refine (P2.out _).mono ?_); rintro e u7 ⟨rfl, hb7⟩))
            have B7 := Lib.hid (below_of (w := V) B16.out hb7)
            clear hb7
            refine hK.out _ _ (SX.out _ B7.out) (fun hHeld => ?_)
            try simp only [Act.put, List.setIfInBounds_toArray, List.set_cons_zero, List.set_cons_succ]
            refine held_take (i := 8) (v := ?_) rfl (by kernel_rfl) (by kernel_rfl) (by kernel_rfl) (fun _ _ _ h => h) (by rfl) (fun w hSw => ?_) (by assumption) ?_; rotate_left 1; focus (((try dsimp only at hSw); first | (go_simp; done) | (go_simp; with_reducible rfl)))
            try simp only [Act.put, List.setIfInBounds_toArray, List.set_cons_zero, List.set_cons_succ]
            refine held_call (i := 11) (by kernel_rfl) rfl (by rfl) (fun K hK => ?_)
            go_simp
            (go_at_call 76; ((with_reducible refine (P3.out _).mono ?_); rintro e u11 ⟨rfl, hb11⟩))
            have B11 := Lib.hid (below_of (w := V) B7.out hb11)
            clear hb11
            refine hK.out _ _ (SX.out _ B11.out) (fun hHeld => ?_)
            try simp only [Act.put, List.setIfInBounds_toArray, List.set_cons_zero, List.set_cons_succ]
            refine held_take (i := 12) (v := ?_) rfl (by kernel_rfl) (by kernel_rfl) (by kernel_rfl) (fun _ _ _ h => h) (by rfl) (fun w hSw => ?_) (by assumption) ?_; rotate_left 1; focus (((try dsimp only at hSw); first | (go_simp; done) | (go_simp; with_reducible rfl)))
            try simp only [Act.put, List.setIfInBounds_toArray, List.set_cons_zero, List.set_cons_succ]
            refine held_take (i := 18) (v := ?_) rfl (by kernel_rfl) (by kernel_rfl) (by kernel_rfl) (fun _ _ _ h => h) (by rfl) (fun w hSw => ?_) (by assumption) ?_; rotate_left 1; focus (((try dsimp only at hSw); first | (go_simp; done) | (go_simp; with_reducible rfl)))
            try simp only [Act.put, List.setIfInBounds_toArray, List.set_cons_zero, List.set_cons_succ]
            refine held_take (i := 19) (v := ?_) rfl (by kernel_rfl) (by kernel_rfl) (by kernel_rfl) (fun _ _ _ h => h) (by rfl) (fun w hSw => ?_) (by assumption) ?_; rotate_left 1; focus (((try dsimp only at hSw); first | (go_simp; done) | (go_simp; with_reducible rfl)))
            try simp only [Act.put, List.setIfInBounds_toArray, List.set_cons_zero, List.set_cons_succ]
            refine wpAnyH_done (by kernel_rfl) ?_ _
            go_wp2_with fail
            go_meet
            exact ⟨rfl, hHeld.2.out⟩
      · go_simp
        have B16' := Lib.hid (below_alloc V (.cells #[.int .u8 (k : Int)] 5)).drew
        have c17' : (V.alloc (.cells #[.int .u8 (k : Int)] 5)).drew.cell? ⟨V.heap.size, 0, none⟩ = some (.int .u8 (k : Int)) := by show (V.alloc (.cells #[.int .u8 (k : Int)] 5)).cell? _ = _; rw [World.cell?_alloc_new]; rfl
        obtain ⟨u16, hu16⟩ := named (V.alloc (.cells #[.int .u8 (k : Int)] 5)).drew
        rw [← hu16.out] at B16' c17'
        have B16 := B16'
        have c17 := c17'
        clear B16' c17'
        refine hK.out _ _ (by rw [← hu16.out]; exact SX.out _ B16.out) (fun hHeld => ?_)
        rw [← hu16.out] at hHeld ⊢
        try simp only [Act.put, List.setIfInBounds_toArray, List.set_cons_zero, List.set_cons_succ]
        refine held_two (i := 2) (j := 17) (by kernel_rfl) rfl rfl (by rfl) (by rfl) (fun K hK => ?_) (fun K hK => ?_)
        · go_simp
          (go_at_call 76; ((with_reducible refine (P1.out _).mono ?_); rintro e u2 ⟨rfl, hb2⟩))
          have B2 := Lib.hid (below_of (w := V) B16.out hb2)
          have c17 := cell_keep hb2 c17
          clear hb2
          refine hK.out _ _ (SX.out _ B2.out) (fun hHeld => ?_)
          try simp only [Act.put, List.setIfInBounds_toArray, List.set_cons_zero, List.set_cons_succ]
          refine held_two (i := 7) (j := 17) (by kernel_rfl) rfl rfl (by rfl) (by rfl) (fun K hK => ?_) (fun K hK => ?_)
          · go_simp
            (go_at_call 75; ((with_reducible refine (P2.out _).mono ?_); rintro e u7 ⟨rfl, hb7⟩))
            have B7 := Lib.hid (below_of (w := V) B2.out hb7)
            have c17 := cell_keep hb7 c17
            clear hb7
            refine hK.out _ _ (SX.out _ B7.out) (fun hHeld => ?_)
            try simp only [Act.put, List.setIfInBounds_toArray, List.set_cons_zero, List.set_cons_succ]
            refine held_take (i := 8) (v := ?_) rfl (by kernel_rfl) (by kernel_rfl) (by kernel_rfl) (fun _ _ _ h => h) (by rfl) (fun w hSw => ?_) (by assumption) ?_; rotate_left 1; focus (((try dsimp only at hSw); first | (go_simp; done) | (go_simp; with_reducible rfl)))
            try simp only [Act.put, List.setIfInBounds_toArray, List.set_cons_zero, List.set_cons_succ]
            refine held_two (i := 11) (j := 17) (by kernel_rfl) rfl rfl (by rfl) (by rfl) (fun K hK => ?_) (fun K hK => ?_)
            · go_simp
              (go_at_call 76; ((with_reducible refine (P3.out _).mono ?_); rintro e u11 ⟨rfl, hb11⟩))
              have B11 := Lib.hid (below_of (w := V) B7.out hb11)
              have c17 := cell_keep hb11 c17
              clear hb11
              refine hK.out _ _ (SX.out _ B11.out) (fun hHeld => ?_)
              try simp only [Act.put, List.setIfInBounds_toArray, List.set_cons_zero, List.set_cons_succ]
              refine held_take (i := 12) (v := ?_) rfl (by kernel_rfl) (by kernel_rfl) (by kernel_rfl) (fun _ _ _ h => h) (by rfl) (fun w hSw => ?_) (by assumption) ?_; rotate_left 1; focus (((try dsimp only at hSw); first | (go_simp; done) | (go_simp; with_reducible rfl)))
              try simp only [Act.put, List.setIfInBounds_toArray, List.set_cons_zero, List.set_cons_succ]
              refine held_call (i := 17) (by kernel_rfl) rfl (by rfl) (fun K hK => ?_)
              go_simp
              clear c17
              refine hK.out _ _ hHeld (fun hHeld => ?_)
              try simp only [Act.put, List.setIfInBounds_toArray, List.set_cons_zero, List.set_cons_succ]
              refine held_take (i := 18) (v := ?_) rfl (by kernel_rfl) (by kernel_rfl) (by kernel_rfl) (fun _ _ _ h => h) (by rfl) (fun w hSw => ?_) (by assumption) ?_; rotate_left 1; focus (((try dsimp only at hSw); first | (go_simp; done) | (go_simp; with_reducible rfl)))
              try simp only [Act.put, List.setIfInBounds_toArray, List.set_cons_zero, List.set_cons_succ]
              refine held_take (i := 19) (v := ?_) rfl (by kernel_rfl) (by kernel_rfl) (by kernel_rfl) (fun _ _ _ h => h) (by rfl) (fun w hSw => ?_) (by assumption) ?_; rotate_left 1; focus (((try dsimp only at hSw); first | (go_simp; done) | (go_simp; with_reducible rfl)))
              try simp only [Act.put, List.setIfInBounds_toArray, List.set_cons_zero, List.set_cons_succ]
              refine wpAnyH_done (by kernel_rfl) ?_ _
              go_wp2_with fail
              go_meet
              exact ⟨rfl, hHeld.2.out⟩
            · go_simp
              clear c17
              refine hK.out _ _ hHeld (fun hHeld => ?_)
              try simp only [Act.put, List.setIfInBounds_toArray, List.set_cons_zero, List.set_cons_succ]
              refine held_call (i := 11) (by kernel_rfl) rfl (by rfl) (fun K hK => ?_)
              go_simp
              (go_at_call 76; ((with_reducible refine (P3.out _).mono ?_); rintro e u11 ⟨rfl, hb11⟩))
              have B11 := Lib.hid (below_of (w := V) B7.out hb11)
              clear hb11
              refine hK.out _ _ (SX.out _ B11.out) (fun hHeld => ?_)
              try simp only [Act.put, List.setIfInBounds_toArray, List.set_cons_zero, List.set_cons_succ]
              refine held_take (i := 12) (v := ?_) rfl (by kernel_rfl) (by kernel_rfl) (by kernel_rfl) (fun _ _ _ h => h) (by rfl) (fun w hSw => ?_) (by assumption) ?_; rotate_left 1; focus (((try dsimp only at hSw); first | (go_simp; done) | (go_simp; with_reducible rfl)))
              try simp only [Act.put, List.setIfInBounds_toArray, List.set_cons_zero, List.set_cons_succ]
              refine held_take (i := 18) (v := ?_) rfl (by kernel_rfl) (by kernel_rfl) (by kernel_rfl) (fun _ _ _ h => h) (by rfl) (fun w hSw => ?_) (by assumption) ?_; rotate_left 1; focus (((try dsimp only at hSw); first | (go_simp; done) | (go_simp; with_reducible rfl)))
              try simp only [Act.put, List.setIfInBounds_toArray, List.set_cons_zero, List.set_cons_succ]
              refine held_take (i := 19) (v := ?_) rfl (by kernel_rfl) (by kernel_rfl) (by kernel_rfl) (fun _ _ _ h => h) (by rfl) (fun w hSw => ?_) (by assumption) ?_; rotate_left 1; focus (((try dsimp only at hSw); first | (go_simp; done) | (go_simp; with_reducible rfl)))
              try simp only [Act.put, List.setIfInBounds_toArray, List.set_cons_zero, List.set_cons_succ]
              refine wpAnyH_done (by kernel_rfl) ?_ _
              go_wp2_with fail
              go_meet
              exact ⟨rfl, hHeld.2.out⟩
          · go_simp
            clear c17
            refine hK.out _ _ hHeld (fun hHeld => ?_)
            try simp only [Act.put, List.setIfInBounds_toArray, List.set_cons_zero, List.set_cons_succ]
            refine held_call (i := 7) (by kernel_rfl) rfl (by rfl) (fun K hK => ?_)
            go_simp
            (go_at_call 75; ((with_reducible refine (P2.out _).mono ?_); rintro e u7 ⟨rfl, hb7⟩))
            have B7 := Lib.hid (below_of (w := V) B2.out hb7)
            clear hb7
            refine hK.out _ _ (SX.out _ B7.out) (fun hHeld => ?_)
            try simp only [Act.put, List.setIfInBounds_toArray, List.set_cons_zero, List.set_cons_succ]
            refine held_take (i := 8) (v := ?_) rfl (by kernel_rfl) (by kernel_rfl) (by kernel_rfl) (fun _ _ _ h => h) (by rfl) (fun w hSw => ?_) (by assumption) ?_; rotate_left 1; focus (((try dsimp only at hSw); first | (go_simp; done) | (go_simp; with_reducible rfl)))
            try simp only [Act.put, List.setIfInBounds_toArray, List.set_cons_zero, List.set_cons_succ]
            refine held_call (i := 11) (by kernel_rfl) rfl (by rfl) (fun K hK => ?_)
            go_simp
            (go_at_call 76; ((with_reducible refine (P3.out _).mono ?_); rintro e u11 ⟨rfl, hb11⟩))
            have B11 := Lib.hid (below_of (w := V) B7.out hb11)
            clear hb11
            refine hK.out _ _ (SX.out _ B11.out) (fun hHeld => ?_)
            try simp only [Act.put, List.setIfInBounds_toArray, List.set_cons_zero, List.set_cons_succ]
            refine held_take (i := 12) (v := ?_) rfl (by kernel_rfl) (by kernel_rfl) (by kernel_rfl) (fun _ _ _ h => h) (by rfl) (fun w hSw => ?_) (by assumption) ?_; rotate_left 1; focus (((try dsimp only at hSw); first | (go_simp; done) | (go_simp; with_reducible rfl)))
            try simp only [Act.put, List.setIfInBounds_toArray, List.set_cons_zero, List.set_cons_succ]
            refine held_take (i := 18) (v := ?_) rfl (by kernel_rfl) (by kernel_rfl) (by kernel_rfl) (fun _ _ _ h => h) (by rfl) (fun w hSw => ?_) (by assumption) ?_; rotate_left 1; focus (((try dsimp only at hSw); first | (go_simp; done) | (go_simp; with_reducible rfl)))
            try simp only [Act.put, List.setIfInBounds_toArray, List.set_cons_zero, List.set_cons_succ]
            refine held_take (i := 19) (v := ?_) rfl (by kernel_rfl) (by kernel_rfl) (by kernel_rfl) (fun _ _ _ h => h) (by rfl) (fun w hSw => ?_) (by assumption) ?_; rotate_left 1; focus (((try dsimp only at hSw); first | (go_simp; done) | (go_simp; with_reducible rfl)))
            try simp only [Act.put, List.setIfInBounds_toArray, List.set_cons_zero, List.set_cons_succ]
            refine wpAnyH_done (by kernel_rfl) ?_ _
            go_wp2_with fail
            go_meet
            exact ⟨rfl, hHeld.2.out⟩
        · go_simp
          clear c17
          refine hK.out _ _ hHeld (fun hHeld => ?_)
          try simp only [Act.put, List.setIfInBounds_toArray, List.set_cons_zero, List.set_cons_succ]
          refine held_call (i := 2) (by kernel_rfl) rfl (by rfl) (fun K hK => ?_)
          go_simp
          (go_at_call 76; ((with_reducible refine (P1.out _).mono ?_); rintro e u2 ⟨rfl, hb2⟩))
          have B2 := Lib.hid (below_of (w := V) B16.out hb2)
          clear hb2
          refine hK.out _ _ (SX.out _ B2.out) (fun hHeld => ?_)
          try simp only [Act.put, List.setIfInBounds_toArray, List.set_cons_zero, List.set_cons_succ]
          refine held_call (i := 7) (by kernel_rfl) rfl (by rfl) (fun K hK => ?_)
          go_simp
          (go_at_call 75; ((with_reducible refine (P2.out _).mono ?_); rintro e u7 ⟨rfl, hb7⟩))
          have B7 := Lib.hid (below_of (w := V) B2.out hb7)
          clear hb7
          refine hK.out _ _ (SX.out _ B7.out) (fun hHeld => ?_)
          try simp only [Act.put, List.setIfInBounds_toArray, List.set_cons_zero, List.set_cons_succ]
          refine held_take (i := 8) (v := ?_) rfl (by kernel_rfl) (by kernel_rfl) (by kernel_rfl) (fun _ _ _ h => h) (by rfl) (fun w hSw => ?_) (by assumption) ?_; rotate_left 1; focus (((try dsimp only at hSw); first | (go_simp; done) | (go_simp; with_reducible rfl)))
          try simp only [Act.put, List.setIfInBounds_toArray, List.set_cons_zero, List.set_cons_succ]
          refine held_call (i := 11) (by kernel_rfl) rfl (by rfl) (fun K hK => ?_)
          go_simp
          (go_at_call 76; ((with_reducible refine (P3.out _).mono ?_); rintro e u11 ⟨rfl, hb11⟩))
          have B11 := Lib.hid (below_of (w := V) B7.out hb11)
          clear hb11
          refine hK.out _ _ (SX.out _ B11.out) (fun hHeld => ?_)
          try simp only [Act.put, List.setIfInBounds_toArray, List.set_cons_zero, List.set_cons_succ]
          refine held_take (i := 12) (v := ?_) rfl (by kernel_rfl) (by kernel_rfl) (by kernel_rfl) (fun _ _ _ h => h) (by rfl) (fun w hSw => ?_) (by assumption) ?_; rotate_left 1; focus (((try dsimp only at hSw); first | (go_simp; done) | (go_simp; with_reducible rfl)))
          try simp only [Act.put, List.setIfInBounds_toArray, List.set_cons_zero, List.set_cons_succ]
          refine held_take (i := 18) (v := ?_) rfl (by kernel_rfl) (by kernel_rfl) (by kernel_rfl) (fun _ _ _ h => h) (by rfl) (fun w hSw => ?_) (by assumption) ?_; rotate_left 1; focus (((try dsimp only at hSw); first | (go_simp; done) | (go_simp; with_reducible rfl)))
          try simp only [Act.put, List.setIfInBounds_toArray, List.set_cons_zero, List.set_cons_succ]
          refine held_take (i := 19) (v := ?_) rfl (by kernel_rfl) (by kernel_rfl) (by kernel_rfl) (fun _ _ _ h => h) (by rfl) (fun w hSw => ?_) (by assumption) ?_; rotate_left 1; focus (((try dsimp only at hSw); first | (go_simp; done) | (go_simp; with_reducible rfl)))
          try simp only [Act.put, List.setIfInBounds_toArray, List.set_cons_zero, List.set_cons_succ]
          refine wpAnyH_done (by kernel_rfl) ?_ _
          go_wp2_with fail
          go_meet
          exact ⟨rfl, hHeld.2.out⟩
    case rest =>
      obtain ⟨rfl, hc2⟩ := hcut
      have RW := Lib.hid (RV.out.below hc2)
      have XW := XV.out.below hc2
      have BW := Lib.hid (BV.out.trans (But.of_below hc2 (Nat.le_refl _)))
      obtain ⟨⟨x0, x1, x2, x3⟩, _⟩ := XW.cells
      simp only at x0 x1 x2 x3
      clear XW XV RV BV hc2 B0 SX
      rcases hk12 with rfl | rfl
      · have hV3 := Lib.hid (hV1.out rfl)
        go_wp2_with (go_at_call 75; ((with_reducible refine (PV.out _).mono ?_); rintro e u9 ⟨rfl, hb9⟩))
        go_returns
        exact ⟨by rw [hE.out, hV3.out]; simp only [← List.append_assoc, ← cat_ba]; rfl, RW.out.below hb9, BW.out.trans (But.of_below hb9 (Nat.le_refl _))⟩
      · have hV3 := Lib.hid (hV2.out (by decide))
        go_wp2_with fail
        go_returns
        exact ⟨by rw [hE.out, hV3.out, List.append_nil]; simp only [← List.append_assoc, ← cat_ba]; rfl, RW.out, BW.out⟩
end Go.Proofs.Ytmjakkemiiigpaa
/-
  A struct of four cells in a block of its own. No condition.
-/
namespace Go.Proofs.Ytmjakkemiiigpaa
set_option maxRecDepth 100000
open Go.RowKit
def Box4 (b : Nat) (T : TypeId) (x0 x1 x2 x3 : Value) (w : World) : Prop := w.heap[b]? = some (.cells #[x0, x1, x2, x3] T (0, 0))
theorem Box4.new (w : World) (T : TypeId) (x0 x1 x2 x3 : Value) : Box4 w.heap.size T x0 x1 x2 x3 (w.alloc (.cells #[x0, x1, x2, x3] T)) := heap_alloc_new _ _
theorem Box4.lt {b : Nat} {T : TypeId} {x0 x1 x2 x3 : Value} {w : World} (h : Box4 b T x0 x1 x2 x3 w) : b < w.heap.size := (Array.getElem?_eq_some_iff.1 h).1
theorem Box4.below {b : Nat} {T : TypeId} {x0 x1 x2 x3 : Value} {w w' : World} (h : Box4 b T x0 x1 x2 x3 w) (hb : Below w.heap.size w w') : Box4 b T x0 x1 x2 x3 w' := (hb.block b h.lt).trans h
theorem Box4.keep {b : Nat} {T : TypeId} {x0 x1 x2 x3 : Value} {w w' : World} (h : Box4 b T x0 x1 x2 x3 w) (hb : w'.heap[b]? = w.heap[b]?) : Box4 b T x0 x1 x2 x3 w' := hb.trans h
theorem Box4.cells {b : Nat} {T : TypeId} {x0 x1 x2 x3 : Value} {w : World} (h : Box4 b T x0 x1 x2 x3 w) : (w.cell? ⟨b, 0, none⟩ = some x0 ∧ w.cell? ⟨b, 1, none⟩ = some x1 ∧ w.cell? ⟨b, 2, none⟩ = some x2 ∧ w.cell? ⟨b, 3, none⟩ = some x3) ∧ w.frozen? ⟨b, 0, none⟩ = false ∧ w.frozen? ⟨b, 1, none⟩ = false ∧ w.frozen? ⟨b, 2, none⟩ = false ∧ w.frozen? ⟨b, 3, none⟩ = false := by
  unfold Box4 at h
  refine ⟨by simp [World.cell?, h], ?_⟩
  simp [World.frozen?, h]
abbrev put4 (b : Nat) (w : World) (y0 y1 y2 y3 : Value) : World := (((w.setCell ⟨b, 0, none⟩ y0).setCell ⟨b, 1, none⟩ y1).setCell ⟨b, 2, none⟩ y2).setCell ⟨b, 3, none⟩ y3
theorem Box4.put {b : Nat} {T : TypeId} {x0 x1 x2 x3 : Value} {w : World} (h : Box4 b T x0 x1 x2 x3 w) (y0 y1 y2 y3 : Value) : Box4 b T y0 y1 y2 y3 (put4 b w y0 y1 y2 y3) :=
  (heap_setCell_same _ _ _ _ _ _ ((heap_setCell_same _ _ _ _ _ _ ((heap_setCell_same _ _ _ _ _ _ ((heap_setCell_same _ _ _ _ _ _ h).trans rfl)).trans rfl)).trans rfl)).trans rfl
theorem below_p4 {B N : Nat} {w V : World} (h : Below B w V) (hN : B ≤ N) (y0 y1 y2 y3 : Value) : Below B w (put4 N V y0 y1 y2 y3) :=
  (((h.setCell (p := ⟨N, 0, none⟩) hN _).setCell (p := ⟨N, 1, none⟩) hN _).setCell (p := ⟨N, 2, none⟩) hN _).setCell (p := ⟨N, 3, none⟩) hN _
/-- A result of four cells: what stands when it has been stored. -/
theorem Box4.res {b : Nat} {T : TypeId} {x0 x1 x2 x3 : Value} {w0 w : World} {B : Nat} (h : Box4 b T x0 x1 x2 x3 w) (hb : Below B w0 w) (hN : B ≤ b) (y0 y1 y2 y3 : Value) : Box4 b T y0 y1 y2 y3 ((((w.setCell ⟨b, 0, none⟩ y0).setCell ⟨b, 1, none⟩ y1).setCell ⟨b, 2, none⟩ y2).setCell ⟨b, 3, none⟩ y3) ∧ Below B w0 ((((w.setCell ⟨b, 0, none⟩ y0).setCell ⟨b, 1, none⟩ y1).setCell ⟨b, 2, none⟩ y2).setCell ⟨b, 3, none⟩ y3) := ⟨h.put _ _ _ _, below_p4 hb hN _ _ _ _⟩
end Go.Proofs.Ytmjakkemiiigpaa
/-
  Slices of slices of rows. No condition.
-/
namespace Go.Proofs.Ytmjakkemiiigpaa
set_option maxRecDepth 100000
open Go.RowKit
theorem size_rowB (w : World) : (Go.sizeOf (Try.prog.elem 22)).run Try.prog w = .ok 4 w := by
  obtain ⟨i0, hi, hz0, hz1, hz2⟩ := info_parts (show (Try.prog.info? (Try.prog.elem 22)).map (fun i => (i.zero, i.size, i.bytes)) = some (some (.agg #[.string .empty, .int .u64 0, .int .i64 0, .string .empty]), 4, 48) by kernel_rfl)
  simp [Go.sizeOf, typeInfo, hi, hz1]
theorem slr_upto (p : Option Addr) (n c k : Nat) (hk : k ≤ c) (u : World) : (Instr.slice 22 (.slice p n c) none (some (.int .i64 (k : Int))) none).run Try.prog u = .ok (.slice p k c) u := by
  rw [run_slice_h u 22 p n c (by kernel_rfl) .i64 (k : Int) (by omega) (by omega), size_rowB]
  cases p <;> simp [Result.andThen, sliced, Addr.add]
theorem Rs.upto {a : Option Addr} {n c b o : Nat} {l : List Rw} {w : World} (h : Rs a n c b o l w) {k : Nat} (hk : k ≤ n) : Rs a k c b o (l.take k) w :=
  ⟨by rw [List.length_take, h.len]; omega, by have := h.cap; omega, h.most, fun h0 => h.addr (by omega), fun j x hx => by
    rw [List.getElem?_take] at hx
    split at hx
    · exact h.at' j x hx
    · cases hx⟩
theorem addr_add (b o k : Nat) : (⟨b, o, none⟩ : Addr).add k = ⟨b, o + k, none⟩ := by
  unfold Addr.add
  split
  · rename_i h; rw [h]; rfl
  · rfl
/-- Where the rows from the k-th on lie. -/
def fromA (p : Option Addr) (c k : Nat) : Option Addr := if c = k then p else p.map (·.add (k * 4))
theorem slr_from (p : Option Addr) (n c k : Nat) (hk : k ≤ n) (x : Int) (hx : x = (k : Int)) (u : World) : (Instr.slice 22 (.slice p n c) (some (.int .i64 x)) none none).run Try.prog u = .ok (.slice (fromA p c k) (n - k) (c - k)) u := by
  subst hx
  rw [run_slice_l u 22 p n c (by kernel_rfl) .i64 (k : Int) (by omega) (by omega), size_rowB]
  simp only [Result.andThen, sliced, Int.toNat_natCast, fromA]
theorem slr_mid (p : Option Addr) (n c k m : Nat) (hk : k ≤ m) (hm : m ≤ c) (u : World) : (Instr.slice 22 (.slice p n c) (some (.int .i64 (k : Int))) (some (.int .i64 (m : Int))) none).run Try.prog u = .ok (.slice (fromA p c k) (m - k) (c - k)) u := by
  rw [run_slice_lh u 22 p n c (by kernel_rfl) .i64 .i64 (k : Int) (m : Int) (by omega) (by omega) (by omega), size_rowB]
  simp only [Result.andThen, sliced, Int.toNat_natCast, fromA]
theorem Rs.mid {p : Option Addr} {n c b o : Nat} {l : List Rw} {w : World} (h : Rs p n c b o l w) {k m : Nat} (hk : k ≤ m) (hm : m ≤ n) : Rs (fromA p c k) (m - k) (c - k) b (o + k * 4) ((l.take m).drop k) w := by
  have hc := h.cap
  refine ⟨by rw [List.length_drop, List.length_take, h.len]; omega, by omega, by have := h.most; omega, fun h0 => ?_, fun j x hx => ?_⟩
  · obtain ⟨rfl, hb⟩ := h.addr (by omega)
    refine ⟨?_, hb⟩
    unfold fromA
    rw [if_neg (by omega)]
    simp [addr_add]
  · rw [List.getElem?_drop, List.getElem?_take] at hx
    split at hx
    · have := h.at' (k + j) x hx
      rw [show o + (k + j) * 4 = o + k * 4 + j * 4 by omega] at this
      exact this
    · cases hx
theorem Rs.from {p : Option Addr} {n c b o : Nat} {l : List Rw} {w : World} (h : Rs p n c b o l w) {k : Nat} (hk : k ≤ n) : Rs (fromA p c k) (n - k) (c - k) b (o + k * 4) (l.drop k) w := by
  have := h.mid hk (Nat.le_refl n)
  rwa [List.take_of_length_le (by rw [h.len]; exact Nat.le_refl _)] at this
theorem same_rowsB {p1 p2 : Option Addr} {n1 c1 b1 o1 n2 c2 b2 o2 : Nat} {l : List Rw} {w : World} (h1 : Rs p1 n1 c1 b1 o1 l w) (h2 : Rs p2 n2 c2 b2 o2 l w) :
    Calls Try.prog 11 #[.slice p1 n1 c1, .slice p2 n2 c2] w fun e w' => e = .returned (.bool true) ∧ Below w.heap.size w w' := by
  have := samerows_any h1 h2
  simpa using this
end Go.Proofs.Ytmjakkemiiigpaa
/-
  The contracts of code.Text and of the document's own, and of the document's PutText: each answers the plain mathematics' ordered text. Condition: a text of a length that there is (the document's PutText: at most 2^31 bytes).
-/
namespace Go.Proofs.Ytmjakkemiiigpaa
set_option maxRecDepth 100000
open Go.RowKit
theorem ownsRow_but {w w' : World} {base : Nat} {e : TypeId} {size : Nat} {v : Value} {n b : Nat} {xs : List Value} (h : w.ownsRow base e size v n xs) (hb : But b w w') (hlt : b < base) : w'.ownsRow base e size v n xs := by
  refine ⟨h.1, ?_⟩
  rcases h.2 with h2 | ⟨g, cap, cur, h1, h2, h3, h4⟩
  · exact Or.inl h2
  · refine Or.inr ⟨g, cap, cur, h1, h2, ?_, h4⟩
    have hg : g < w.heap.size := (Array.getElem?_eq_some_iff.1 h3).1
    rw [hb.block g hg (by omega)]; exact h3
theorem cur_grown {w w' : World} {b k : Nat} {s : ByteArray} {row : Option Nat} (h : CurAt w b s k) (hg : w.grownBy w' row) (hr : ∀ r, row = some r → b < r) : CurAt w' b s k := by
  have hb := hg.block b h.lt (fun e => by have := hr b e.symm; omega)
  refine ⟨?_, ?_, ?_⟩
  · have := h.c0; unfold World.cell? at this ⊢; rw [hb]; exact this
  · have := h.c1; unfold World.cell? at this ⊢; rw [hb]; exact this
  · have := h.f1; unfold World.frozen? at this ⊢; rw [hb]; exact this
theorem World.alloc_cur {w : World} {b k : Nat} {s : ByteArray} {o : Obj} (h : CurAt w b s k) : CurAt (w.alloc o) b s k := h.below (below_alloc w o) h.lt
def bytesRowOf (l : List UInt8) : List Value := l.map fun c => .int .u8 (c.toNat : Int)
theorem own_text {w : World} {base : Nat} {v : Value} {n : Nat} {l : List UInt8} (h : w.ownsRow base 5 1 v n (bytesRowOf l)) (x : World) (hx : ∀ a, x.cell? a = w.cell? a) : (convert 49 9 v).run Try.prog x = .ok (.string ⟨l.toArray⟩) x := by
  have hl : l.length = n := by have := h.1; simpa [bytesRowOf] using this
  rcases h.2 with ⟨rfl, rfl⟩ | ⟨g, cap, cur, rfl, h2, h3, h4, h5, h6, h7⟩
  · obtain rfl := List.length_eq_zero_iff.1 hl
    rw [run_convert_bytes_string x 49 9 5 none 0 0 Try.underlying49 Try.underlying5 Try.underlying9]
    rfl
  · subst hl
    refine run_convert_bytes_back x _ _ 5 ⟨g, 0, none⟩ cap l Try.underlying49 Try.underlying5 Try.underlying9 ?_
    intro j hj
    have ha : (⟨g, 0, none⟩ : Addr).add j = ⟨g, j, none⟩ := by
      unfold Addr.add
      split
      · rename_i h0; rw [h0]
      · simp
    rw [ha, hx]
    have e1 : (bytesRowOf l)[j]? = some (.int .u8 (l[j].toNat : Int)) := by unfold bytesRowOf; simp [hj]
    rw [← h7, List.getElem?_take] at e1
    split at e1
    · unfold World.cell?
      rw [h3]
      simpa using e1
    · cases e1
/-- How much a cursor has ahead. -/
def curLeft (w : World) (b n : Nat) : Nat := n - (intOf ((w.cell? ⟨b, 1, none⟩).getD undef)).toNat
theorem CurAt.left {w : World} {b k : Nat} {s : ByteArray} (h : CurAt w b s k) (n : Nat) : curLeft w b n = n - k := by
  unfold curLeft; rw [h.c1]; simp [intOf]
theorem info8 : (Try.prog.info? 5).map (fun i => (i.zero, i.size, i.bytes)) = some (some (.int .u8 0), 1, 1) := by kernel_rfl
theorem new_cell (w : World) (x : Int) (t : TypeId) (j : Nat) (u : Value) (hj : ([Value.int .u8 x])[j]? = some u) : (w.alloc (.cells #[.int .u8 x] t)).cell? ((⟨w.heap.size, 0, none⟩ : Addr).add j) = some u := by
  cases j with
  | zero => simp at hj; subst hj; simp [Addr.add]
  | succ j => simp at hj
theorem extract_one (s : ByteArray) (k : Nat) (h : k < s.size) : s.extract k (k + 1) = ⟨#[s[k]]⟩ := by
  apply ByteArray.ext
  apply Array.toList_inj.1
  rw [ByteArray.data_extract, Array.toList_extract]
  have hl : k < s.data.toList.length := by simpa using h
  rw [List.extract_eq_take_drop, Nat.add_sub_cancel_left, List.drop_eq_getElem_cons hl]
  rfl
theorem slice_one (s : ByteArray) (k : Nat) (h : k < s.size) (w : World) : (Instr.slice 9 (.string s) (some (.int .i64 (k : Int))) (some (.int .i64 ((k : Int) + 1))) none).run Try.prog w = .ok (.string ⟨#[s[k]]⟩) w := by
  rw [run_slice_string_if w 9 s .i64 .i64 _ _ Try.underlying9, if_pos ⟨by omega, by omega⟩, if_pos ⟨by omega, by omega⟩]
  have e1 : (k : Int).toNat = k := by omega
  have e2 : ((k : Int) + 1).toNat = k + 1 := by omega
  rw [e1, e2, extract_one s k h]
end Go.Proofs.Ytmjakkemiiigpaa
/-
  The contracts of code.Field and of the document's own: each answers the plain mathematics' field. Condition: a text of a length that there is.
-/
namespace Go.Proofs.Ytmjakkemiiigpaa
set_option maxRecDepth 100000
open Go.RowKit
theorem CurAt.put {w : World} {b : Nat} {s : ByteArray} {k : Nat} (h : CurAt w b s k) (j : Nat) (x : Int) (hx : x = (j : Int)) : CurAt (w.setCell ⟨b, 1, none⟩ (.int .i64 x)).drew b s j := by
  subst hx; exact ⟨(h.set j).c0, (h.set j).c1, (h.set j).f1⟩
theorem clone_any (s : ByteArray) (hs : s.size ≤ 281474976710656) (w : World) : Calls Try.prog 31 #[.string s] w fun e w' => e = .returned (.string s) ∧ Below w.heap.size w w' := by
  go_enter Try.func31, Try.ntmps31
  go_wp2_with (go_at_call 65; refine (Any.stringslite_Clone Try.laysM316 s _ hs).mono ?_; rintro e w' ⟨rfl, hb⟩)
  go_ret
  exact ⟨rfl, hb⟩
set_option maxRecDepth 100000 in
set_option maxHeartbeats 4000000 in
theorem take_none (s : ByteArray) (hs : s.size ≤ maxLen) (b k n : Nat) (w : World) (h : CurAt w b s k) (hk : k ≤ s.size) (hlt : s.size - k < n) :
    Calls Try.prog 93 #[.pointer (some ⟨b, 0, none⟩), .int .u64 (n : Int)] w fun e w' => e = .returned (.tuple #[.string ⟨#[]⟩, .bool false]) ∧ But b w w' := by
  unfold maxLen at hs
  obtain ⟨h0, h1, hf⟩ := h
  have hd : (s.size : Int) - (k : Int) < (n : Int) := by omega
  have hd0 : 0 ≤ (s.size : Int) - (k : Int) := by omega
  go_enter Try.func93, Try.ntmps93
  go_wp2
  go_quiet (fail)
  go_wp2
  go_returns
  exact ⟨rfl, (But.refl _ _).drewN⟩
set_option maxRecDepth 100000 in
set_option maxHeartbeats 4000000 in
theorem take_some (s : ByteArray) (hs : s.size ≤ maxLen) (b k n : Nat) (hcap : n ≤ 281474976710656) (w : World) (h : CurAt w b s k) (hk : k + n ≤ s.size) :
    Calls Try.prog 93 #[.pointer (some ⟨b, 0, none⟩), .int .u64 (n : Int)] w fun e w' => e = .returned (.tuple #[.string (s.extract k (k + n)), .bool true]) ∧ CurAt w' b s (k + n) ∧ But b w w' := by
  unfold maxLen at hs
  have hlt := h.lt
  obtain ⟨h0, h1, hf⟩ := h
  have hd : (n : Int) ≤ (s.size : Int) - (k : Int) := by omega
  have hd0 : 0 ≤ (s.size : Int) - (k : Int) := by omega
  go_enter Try.func93, Try.ntmps93
  go_wp2
  go_quiet (fail)
  go_wp2
  go_region_with (first | (go_at_call 31; refine (clone_any (s.extract k (k + n)) (by rw [ByteArray.size_extract]; omega) _).mono ?_; rintro e w' ⟨rfl, hb⟩))
  all_goals go_wp2
  all_goals go_returns
  all_goals
    refine ⟨rfl, ?_, ?_⟩
    · refine CurAt.below ?_ hb (by simpa using hlt)
      exact CurAt.put (CurAt.drewN ⟨h0, h1, hf⟩) (k + n) _ (by omega)
    · exact (((But.refl b w).drewN (n := _)).setCell (p := ⟨b, 1, none⟩) rfl _).drew.trans (But.of_below hb (Nat.le_refl _))
theorem field_list (s : ByteArray) (k n : Nat) : (s.extract k (k + n)) = ⟨((s.data.toList.drop k).take n).toArray⟩ := by
  apply ByteArray.ext
  apply Array.toList_inj.1
  rw [ByteArray.data_extract, Array.toList_extract, List.extract_eq_take_drop, Nat.add_sub_cancel_left]
set_option maxRecDepth 100000 in
set_option maxHeartbeats 4000000 in
theorem field_gen (s : ByteArray) (hs' : s.size ≤ maxLen) (x : Int) (hx : -9223372036854775808 ≤ x ∧ x ≤ 9223372036854775807) (hcap : s.size ≤ 281474976710656 ∨ x ≤ 281474976710656) (w : World) :
    Calls Try.prog 83 #[.string s, .int .i64 x] w fun e w' =>
      e = .returned (.tuple #[.string ⟨(Code.rdField s.data.toList x).1.toArray⟩, .int .i64 ((Code.rdField s.data.toList x).2.1 : Int), .int .i64 ((Code.rdField s.data.toList x).2.2 : Int)]) ∧ Below w.heap.size w w' := by
  have hmf := makes_func
  have hsz := Code.rd_size s.data.toList
  have hfit := Code.rd_fits s.data.toList
  have hE := Code.rd_err 0 s.data.toList
  have hn := number_any s hs' w.heap.size 0 _ (cur_new w s 143) (by omega)
  rw [List.drop_zero] at hn
  have hlen : s.data.toList.length = s.size := by simp
  rw [hlen] at hsz
  have hF : Hid (Code.rdField s.data.toList x = if (Code.rd 0 s.data.toList).2.2 ≠ 0 then ([], 0, (Code.rd 0 s.data.toList).2.2) else if x < (Code.rd 0 s.data.toList).1 then ([], 0, 3) else if s.size - (Code.rd 0 s.data.toList).2.1 < (Code.rd 0 s.data.toList).1 then ([], 0, 6) else ((s.data.toList.drop (Code.rd 0 s.data.toList).2.1).take (Code.rd 0 s.data.toList).1, (Code.rd 0 s.data.toList).2.1 + (Code.rd 0 s.data.toList).1, 0)) := Lib.hid (by rw [← hlen]; rfl)
  obtain ⟨⟨n, k, e⟩, HR⟩ := named (Code.rd 0 s.data.toList)
  rw [← HR.out] at hn hE hsz hfit hF
  obtain ⟨T, HT⟩ := named (Code.rdField s.data.toList x)
  rw [← HT.out] at hF ⊢
  have HN := Lib.hid hn
  clear hn hlen
  have hsz : k ≤ s.size := hsz
  have hfit : n < 2 ^ 64 := hfit
  have hs2 := hs'
  unfold maxLen at hs2
  go_enter Try.func83, Try.ntmps83
  go_wp2
  refine wp_scope_fwd 0 rfl ?_
  go_wp2_with fail
  refine HN.out.mono ?_
  rintro e' w1 ⟨rfl, hc, hB⟩
  have hB1 := below_but hB
  rcases hE with h0 | ⟨h67, _, _⟩
  · have h0 : e = 0 := h0
    subst h0
    have hcc := hc rfl
    rw [Nat.zero_add] at hcc
    clear hc
    by_cases hlong : x < (n : Int)
    · by_cases hneg : x < 0
      · go_wp2
        go_step3
        refine ⟨rfl, ?_⟩
        go_wp2
        rw [Exit.noGoto_ret]
        go_returns
        have := hF.out
        rw [if_neg (by simp), if_pos hlong] at this
        rw [this]
        exact ⟨rfl, hB1⟩
      · have hpos : 0 ≤ x := by omega
        have hw : x % 18446744073709551616 = x := by omega
        go_wp2
        go_step3
        refine ⟨rfl, ?_⟩
        go_wp2
        rw [Exit.noGoto_ret]
        go_returns
        have := hF.out
        rw [if_neg (by simp), if_pos hlong] at this
        rw [this]
        exact ⟨rfl, hB1⟩
    · have hpos : 0 ≤ x := by omega
      have hnl : (n : Int) ≤ x := by omega
      by_cases hshort : s.size - k < n
      · have hns : Hid (s.size - k < n) := hshort
        go_wp2_with fail
        refine (take_none s hs' w.heap.size k n w1 hcc hsz hshort).mono ?_
        rintro e' w2 ⟨rfl, hB2⟩
        go_wp2
        go_step3
        refine ⟨rfl, ?_⟩
        go_wp2
        rw [Exit.noGoto_ret]
        go_returns
        have := hF.out
        rw [if_neg (by simp), if_neg (show ¬ x < (n : Int) by omega), if_pos hns.out] at this
        rw [this]
        exact ⟨rfl, hB1.trans (hB2.below (Nat.le_refl _) hB1.size)⟩
      · go_wp2_with fail
        refine (take_some s hs' w.heap.size k n (by omega) w1 hcc (by omega)).mono ?_
        rintro e' w2 ⟨rfl, ⟨c0, c1, f1⟩, hB2⟩
        have hT := hF.out
        rw [if_neg (by simp), if_neg (show ¬ x < (n : Int) by omega), if_neg hshort] at hT
        have HT2 := Lib.hid hT
        clear hT
        go_wp2
        go_quiet (fail)
        go_wp2
        rw [jump_ret]
        go_returns
        rw [HT2.out, field_list]
        exact ⟨rfl, below_drewN (hB1.trans (hB2.below (Nat.le_refl _) hB1.size))⟩
  · have h67 : e = 6 ∨ e = 7 := h67
    have hz : ((e : Int) == 0) = false := beq_eq_false_iff_ne.2 (by omega)
    clear hc
    have hne : Hid (¬ e = 0) := Lib.hid (by omega)
    go_wp2
    go_step3
    refine ⟨rfl, ?_⟩
    go_wp2
    rw [Exit.noGoto_ret]
    go_returns
    have := hF.out
    rw [if_pos hne.out] at this
    rw [this]
    exact ⟨rfl, hB1⟩
theorem field_any (s : ByteArray) (hs : s.size ≤ reachBytes) (x : Int) (hx : -9223372036854775808 ≤ x ∧ x ≤ 9223372036854775807) (w : World) :
    Calls Try.prog 83 #[.string s, .int .i64 x] w fun e w' =>
      e = .returned (.tuple #[.string ⟨(Code.rdField s.data.toList x).1.toArray⟩, .int .i64 ((Code.rdField s.data.toList x).2.1 : Int), .int .i64 ((Code.rdField s.data.toList x).2.2 : Int)]) ∧ Below w.heap.size w w' :=
  field_gen s (reach_max hs) x hx (Or.inl (by unfold reachBytes at hs; omega)) w
end Go.Proofs.Ytmjakkemiiigpaa
/-
  Plain mathematics of a check sum of 32 bits: a step on the register, its linearity and its injectivity; what 32 bits in a row do. No condition.
-/
namespace Go.Proofs.Ytmjakkemiiigpaa.Crc

/-- One bit's step: shifted right, and the divisor laid on where the lost bit was 1. -/
def step (r : BitVec 32) : BitVec 32 := (r >>> 1) ^^^ (if r.getLsbD 0 then 0x82F63B78#32 else 0#32)
def steps : Nat → BitVec 32 → BitVec 32
  | 0, r => r
  | n + 1, r => step (steps n r)
def byte (r : BitVec 32) (c : UInt8) : BitVec 32 := steps 8 (r ^^^ c.toBitVec.setWidth 32)
/-- A step done for each byte. -/
def fold (f : BitVec 32 → UInt8 → BitVec 32) (r : BitVec 32) (l : List UInt8) : BitVec 32 := l.foldl f r
theorem fold_snoc (f : BitVec 32 → UInt8 → BitVec 32) (r : BitVec 32) (l : List UInt8) (c : UInt8) : fold f r (l ++ [c]) = f (fold f r l) c := List.foldl_append ..
def run (r : BitVec 32) (l : List UInt8) : BitVec 32 := fold byte r l
/-- All bits turned. -/
def inv (s : BitVec 32) : BitVec 32 := ~~~ s
theorem inv_inv (s : BitVec 32) : inv (inv s) = s := by unfold inv; exact BitVec.not_not
theorem inv_inj {a b : BitVec 32} (h : inv a = inv b) : a = b := by rw [← inv_inv a, h, inv_inv]
def more (s : BitVec 32) (l : List UInt8) : BitVec 32 := inv (run (inv s) l)

theorem step_zero : step 0#32 = 0#32 := by decide
theorem step_xor (a b : BitVec 32) : step (a ^^^ b) = step a ^^^ step b := by
  have hs : (a ^^^ b) >>> 1 = (a >>> 1) ^^^ (b >>> 1) := by ext i hi; simp
  unfold step
  rw [hs, BitVec.getLsbD_xor]
  cases a.getLsbD 0 <;> cases b.getLsbD 0 <;> simp
  · rw [BitVec.xor_assoc]
  · rw [BitVec.xor_assoc, BitVec.xor_assoc, BitVec.xor_comm (b >>> 1)]
  · rw [BitVec.xor_assoc, BitVec.xor_comm _ ((b >>> 1) ^^^ _), BitVec.xor_assoc]; simp
/-- The divisor's top bit is set and a shift's is not: so the lost bit is seen. -/
theorem step_inj0 (a : BitVec 32) (h : step a = 0#32) : a = 0#32 := by
  have h31 : (step a).getLsbD 31 = a.getLsbD 0 := by
    unfold step
    cases a.getLsbD 0 <;> simp
  have h0 : a.getLsbD 0 = false := by rw [← h31, h]; simp
  have hs : a >>> 1 = 0#32 := by
    have := h; unfold step at this; rw [h0] at this; simpa using this
  ext i hi
  simp only [BitVec.getElem_zero]
  rcases i with _ | i
  · rw [← BitVec.getLsbD_eq_getElem]; exact h0
  · have : (a >>> 1).getLsbD i = false := by rw [hs]; simp
    rw [BitVec.getLsbD_ushiftRight] at this
    rw [← BitVec.getLsbD_eq_getElem, Nat.add_comm]; exact this
theorem xor_eq_zero {n : Nat} {a b : BitVec n} (h : a ^^^ b = 0#n) : a = b := by
  have : a ^^^ b ^^^ b = 0#n ^^^ b := by rw [h]
  simpa [BitVec.xor_assoc] using this
theorem step_inj {a b : BitVec 32} (h : step a = step b) : a = b := by
  apply xor_eq_zero
  apply step_inj0
  rw [step_xor, h]; simp
theorem steps_xor (n : Nat) (a b : BitVec 32) : steps n (a ^^^ b) = steps n a ^^^ steps n b := by
  induction n with
  | zero => rfl
  | succ n ih => simp only [steps]; rw [ih, step_xor]
theorem steps_inj (n : Nat) {a b : BitVec 32} (h : steps n a = steps n b) : a = b := by
  induction n with
  | zero => exact h
  | succ n ih => exact ih (step_inj h)
theorem steps_add (m n : Nat) (a : BitVec 32) : steps (m + n) a = steps m (steps n a) := by
  induction m with
  | zero => simp [steps]
  | succ m ih => rw [Nat.add_right_comm]; simp only [steps]; rw [ih]
theorem steps_zero (n : Nat) : steps n 0#32 = 0#32 := by
  induction n with
  | zero => rfl
  | succ n ih => simp only [steps]; rw [ih, step_zero]

theorem wide_xor (c d : UInt8) : (c ^^^ d).toBitVec.setWidth 32 = c.toBitVec.setWidth 32 ^^^ d.toBitVec.setWidth 32 := by
  rw [UInt8.toBitVec_xor, BitVec.setWidth_xor]
theorem byte_xor (a b : BitVec 32) (c d : UInt8) : byte (a ^^^ b) (c ^^^ d) = byte a c ^^^ byte b d := by
  unfold byte
  rw [← steps_xor, wide_xor]
  congr 1
  rw [BitVec.xor_assoc, BitVec.xor_assoc, ← BitVec.xor_assoc b, BitVec.xor_comm b, BitVec.xor_assoc]
theorem byte_inj {a b : BitVec 32} {c : UInt8} (h : byte a c = byte b c) : a = b := by
  have := steps_inj 8 h
  have h2 : a ^^^ c.toBitVec.setWidth 32 ^^^ c.toBitVec.setWidth 32 = b ^^^ c.toBitVec.setWidth 32 ^^^ c.toBitVec.setWidth 32 := by rw [this]
  simpa [BitVec.xor_assoc] using h2
theorem wide_inj {c d : UInt8} (h : c.toBitVec.setWidth 32 = d.toBitVec.setWidth 32) : c = d := by
  apply UInt8.toNat_inj.1
  have := congrArg BitVec.toNat h
  simp only [BitVec.toNat_setWidth, UInt8.toNat_toBitVec] at this
  have h1 := UInt8.toNat_lt c
  have h2 := UInt8.toNat_lt d
  omega
theorem byte_inj2 {a : BitVec 32} {c d : UInt8} (h : byte a c = byte a d) : c = d := by
  have := steps_inj 8 h
  apply wide_inj
  have h2 : a ^^^ (a ^^^ c.toBitVec.setWidth 32) = a ^^^ (a ^^^ d.toBitVec.setWidth 32) := by rw [this]
  simpa [← BitVec.xor_assoc] using h2
theorem byte_zero : byte 0#32 0 = 0#32 := by decide

theorem run_append (r : BitVec 32) (a b : List UInt8) : run r (a ++ b) = run (run r a) b := List.foldl_append ..
theorem run_inj (l : List UInt8) {a b : BitVec 32} (h : run a l = run b l) : a = b := by
  induction l generalizing a b with
  | nil => exact h
  | cons c l ih => exact byte_inj (ih h)
theorem run_xor (l m : List UInt8) (a b : BitVec 32) (h : l.length = m.length) : run (a ^^^ b) (List.zipWith (· ^^^ ·) l m) = run a l ^^^ run b m := by
  induction l generalizing m a b with
  | nil => cases m with
    | nil => rfl
    | cons _ _ => simp at h
  | cons c l ih => cases m with
    | nil => simp at h
    | cons d m =>
      simp only [List.zipWith_cons_cons]
      show run (byte (a ^^^ b) (c ^^^ d)) _ = run (byte a c) l ^^^ run (byte b d) m
      rw [byte_xor]
      exact ih m _ _ (by simpa using h)
theorem run_zeros (n : Nat) : run 0#32 (List.replicate n 0) = 0#32 := by
  induction n with
  | zero => rfl
  | succ n ih =>
    have e : run 0#32 (0 :: List.replicate n 0) = run (byte 0#32 0) (List.replicate n 0) := rfl
    rw [List.replicate_succ, e, byte_zero, ih]
theorem run_append_ne (l : List UInt8) (h : run 0#32 l ≠ 0#32) (n : Nat) : run 0#32 (l ++ List.replicate n 0) ≠ 0#32 := by
  rw [run_append]
  intro e
  exact h (run_inj (List.replicate n 0) (by rw [e, run_zeros]))

theorem more_append (s : BitVec 32) (a b : List UInt8) : more (more s a) b = more s (a ++ b) := by
  unfold more; rw [run_append, inv_inv]
theorem more_nil (s : BitVec 32) : more s [] = s := inv_inv s
theorem more_inj {s t : BitVec 32} {l : List UInt8} : more s l = more t l ↔ s = t :=
  ⟨fun h => inv_inj (run_inj l (inv_inj h)), fun h => by rw [h]⟩
theorem more_last {s : BitVec 32} {a : List UInt8} {x y : UInt8} : more s (a ++ [x]) = more s (a ++ [y]) ↔ x = y := by
  refine ⟨fun h => ?_, fun h => by rw [h]⟩
  have h1 := inv_inj h
  rw [run_append, run_append] at h1
  exact byte_inj2 h1

/-- Four bytes of a register, the lowest first. -/
def low (r : BitVec 32) (i : Nat) : UInt8 := ⟨(r >>> (8 * i)).setWidth 8⟩
def four (r : BitVec 32) : List UInt8 := [low r 0, low r 1, low r 2, low r 3]
theorem step_even (r : BitVec 32) (h : r.getLsbD 0 = false) : step r = r >>> 1 := by
  unfold step; rw [h]; simp
theorem shl_low (y : BitVec 32) (i : Nat) (hi : 0 < i) : (y <<< i).getLsbD 0 = false := by
  rw [BitVec.getLsbD_shiftLeft]; simp [hi]
/-- Bits that are still high are not felt by the steps: they only come down. -/
theorem steps_shl (n : Nat) (y : BitVec 32) (h : ∀ j, 32 - n ≤ j → y.getLsbD j = false) : steps n (y <<< n) = y := by
  induction n generalizing y with
  | zero => simp [steps]
  | succ n ih =>
    have e : steps (n + 1) (y <<< (n + 1)) = steps n (step (y <<< (n + 1))) := by rw [steps_add n 1]; rfl
    rw [e, step_even _ (shl_low y _ (by omega))]
    have e2 : (y <<< (n + 1)) >>> 1 = y <<< n := by
      apply BitVec.eq_of_getLsbD_eq
      intro j hj
      rw [BitVec.getLsbD_ushiftRight, BitVec.getLsbD_shiftLeft, BitVec.getLsbD_shiftLeft]
      by_cases hjn : j < n
      · have : ¬ n < 1 + j := by omega
        simp [hjn, show 1 + j < n + 1 by omega]
      · by_cases h31 : j = 31
        · subst h31
          have : y.getLsbD (31 - n) = false := h _ (by omega)
          simp [this]
        · simp [hj, hjn, show 1 + j < 32 by omega, show ¬ 1 + j < n + 1 by omega]
          congr 1
          omega
    rw [e2]
    exact ih y (fun j hj => h j (by omega))
end Go.Proofs.Ytmjakkemiiigpaa.Crc
/-
  How the translated operations on 32 bits read as operations on 32 bits in a row. No condition.
-/
namespace Go.Proofs.Ytmjakkemiiigpaa
set_option maxRecDepth 100000
open Go.RowKit
theorem ofInt_bv (a : BitVec 32) : BitVec.ofInt 32 (a.toNat : Int) = a := by
  rw [BitVec.ofInt_natCast, BitVec.ofNat_toNat, BitVec.setWidth_eq]
theorem bv_lt (a : BitVec 32) : (a.toNat : Int) < 4294967296 := by have := a.isLt; omega
theorem wrap_bv (a : BitVec 32) : IntKind.u32.wrap (a.toNat : Int) = a.toNat := by
  rw [IntKind.wrap_u32]; have := bv_lt a; omega
theorem xor_int (x y : Int) : bits .xor .u32 x y = ((BitVec.ofInt 32 x ^^^ BitVec.ofInt 32 y).toNat : Int) := wrap_bv _
theorem and_int (x y : Int) : bits .and .u32 x y = ((BitVec.ofInt 32 x &&& BitVec.ofInt 32 y).toNat : Int) := wrap_bv _
theorem xor_bv (a b : BitVec 32) : bits .xor .u32 (a.toNat : Int) (b.toNat : Int) = ((a ^^^ b).toNat : Int) := by rw [xor_int, ofInt_bv, ofInt_bv]
theorem ofInt_u8 (c : UInt8) : BitVec.ofInt 32 ((c.toNat : Int) % 4294967296) = c.toBitVec.setWidth 32 := by
  have h := UInt8.toNat_lt c
  have e : (c.toNat : Int) % 4294967296 = ((c.toNat : Nat) : Int) := by omega
  rw [e, BitVec.ofInt_natCast]
  apply BitVec.eq_of_toNat_eq
  simp
theorem xor_u8 (r : BitVec 32) (c : UInt8) : bits .xor .u32 (r.toNat : Int) ((c.toNat : Int) % 4294967296) = ((r ^^^ c.toBitVec.setWidth 32).toNat : Int) := by
  rw [xor_int, ofInt_bv, ofInt_u8]
theorem half_bv (r : BitVec 32) : BitVec.ofInt 32 ((r.toNat : Int) / 2) = r >>> 1 := by
  have e : (r.toNat : Int) / 2 = ((r.toNat / 2 : Nat) : Int) := by omega
  rw [e, BitVec.ofInt_natCast]
  apply BitVec.eq_of_toNat_eq
  have := r.isLt
  simp [Nat.shiftRight_eq_div_pow]; omega
theorem low_bv (r : BitVec 32) : r &&& 1#32 = if r.getLsbD 0 then 1#32 else 0#32 := by
  apply BitVec.eq_of_toNat_eq
  have h : (r &&& 1#32).toNat = r.toNat % 2 := by simp
  rw [h]
  have : r.getLsbD 0 = decide (r.toNat % 2 = 1) := by simp [BitVec.getLsbD, Nat.testBit_zero]
  rw [this]
  by_cases e : r.toNat % 2 = 1
  · simp [e]
  · simp [e]; omega
theorem step_code (r : BitVec 32) : bits .xor .u32 ((r.toNat : Int) / 2) (bits .and .u32 2197175160 (-bits .and .u32 (r.toNat : Int) 1 % 4294967296)) = ((Crc.step r).toNat : Int) := by
  have h1 : bits .and .u32 (r.toNat : Int) 1 = ((r &&& 1#32).toNat : Int) := by rw [and_int, ofInt_bv]; rfl
  rw [h1, low_bv, xor_int, half_bv]
  unfold Crc.step
  cases r.getLsbD 0
  · rfl
  · rfl
theorem step_odd (r : BitVec 32) (h : (r.toNat : Int) % 2 = 1) : bits .xor .u32 ((r.toNat : Int) / 2) 2197175160 = ((Crc.step r).toNat : Int) := by
  have e : r.getLsbD 0 = true := by simp [BitVec.getLsbD, Nat.testBit_zero]; omega
  rw [xor_int, half_bv]
  unfold Crc.step
  rw [e]; rfl
theorem step_even (r : BitVec 32) (h : ¬ (r.toNat : Int) % 2 = 1) : (r.toNat : Int) / 2 = ((Crc.step r).toNat : Int) := by
  have e : r.getLsbD 0 = false := by simp [BitVec.getLsbD, Nat.testBit_zero]; omega
  unfold Crc.step
  rw [e]
  simp [Nat.shiftRight_eq_div_pow]
theorem inv_code (r : BitVec 32) : bits .xor .u32 IntKind.u32.max (r.toNat : Int) = ((Crc.inv r).toNat : Int) := by
  have : BitVec.ofInt 32 IntKind.u32.max = BitVec.allOnes 32 := by decide
  rw [xor_int, ofInt_bv, this, BitVec.allOnes_xor]; rfl
theorem inv_code' (r : BitVec 32) : bits .xor .u32 (r.toNat : Int) 4294967295 = ((Crc.inv r).toNat : Int) := by
  rw [← inv_code, xor_int, xor_int, BitVec.xor_comm]; rfl
end Go.Proofs.Ytmjakkemiiigpaa
/-
  The contract of the step that is done for each byte, a closure over the register.
-/
namespace Go.Proofs.Ytmjakkemiiigpaa
set_option maxRecDepth 100000
open Go.RowKit
set_option maxHeartbeats 1000000 in
theorem clo_any (r : BitVec 32) (c : UInt8) (w : World) :
    Calls Try.prog 91 #[.int .u8 (c.toNat : Int), .pointer (some ⟨w.heap.size, 0, none⟩)] (w.alloc (.cells #[.int .u32 (r.toNat : Int)] 46)) fun e w' => e = .returned (.tuple #[]) ∧ w' = w.alloc (.cells #[.int .u32 ((Crc.byte r c).toNat : Int)] 46) := by
  go_enter Try.func91, Try.ntmps91
  go_wp2; go_step3; go_wp2; go_step3; go_wp2
  go_loopw [3] (fun d wr => ∃ k : Nat, k ≤ 8 ∧ d = .int .i64 k ∧ wr = w.alloc (.cells #[.int .u32 ((Crc.steps k (r ^^^ c.toBitVec.setWidth 32)).toNat : Int)] 46)) (fun d _ => 8 - (intOf d).toNat)
  case atStart => exact ⟨0, by omega, rfl, by rw [xor_u8]; rfl⟩
  case round =>
    obtain ⟨k, hk, rfl, rfl⟩ := hrel
    by_cases h8 : k = 8
    · subst h8
      go_wp2
      rw [Exit.noGoto_normal]
      go_end0
      exact ⟨rfl, rfl⟩
    · go_wp2
      go_roundw
      case rel => exact ⟨k + 1, by omega, by go_num, by rw [step_code]; rfl⟩
      case measure => simp [intOf]; omega

/-- The loop over the bytes: whatever closure over one register of 32 bits is handed in, it is done for each byte in its place. -/
theorem each_any (G : FuncId) (hE : ∀ (args : Array Value) (w : World), (callFunc G args).run Try.prog w = .ok (.enter G args) w) (f : BitVec 32 → UInt8 → BitVec 32) (B : World)
    (hG : ∀ (r : BitVec 32) (c : UInt8), Calls Try.prog G #[.int .u8 (c.toNat : Int), .pointer (some ⟨B.heap.size, 0, none⟩)] (B.alloc (.cells #[.int .u32 (r.toNat : Int)] 46)) fun e w' => e = .returned (.tuple #[]) ∧ w' = B.alloc (.cells #[.int .u32 ((f r c).toNat : Int)] 46))
    (r : BitVec 32) (s : ByteArray) (hs : s.size ≤ maxLen) :
    Calls Try.prog 90 #[.string s, .func (.func G) #[] #[.pointer (some ⟨B.heap.size, 0, none⟩)]] (B.alloc (.cells #[.int .u32 (r.toNat : Int)] 46)) fun e w' => e = .returned (.tuple #[]) ∧ w' = B.alloc (.cells #[.int .u32 ((Crc.fold f r s.data.toList).toNat : Int)] 46) := by
  unfold maxLen at hs
  go_enter Try.func90, Try.ntmps90
  go_wp2
  go_loopw [7] (fun d wr => ∃ k : Nat, k ≤ s.size ∧ d = .int .i64 k ∧ wr = B.alloc (.cells #[.int .u32 ((Crc.fold f r (s.data.toList.take k)).toNat : Int)] 46)) (fun d _ => s.size - (intOf d).toNat)
  case atStart => exact ⟨0, by omega, rfl, rfl⟩
  case round =>
    obtain ⟨k, hk, rfl, rfl⟩ := hrel
    by_cases hlt : k < s.size
    · have hts : s.data.toList.take (k + 1) = s.data.toList.take k ++ [s[k]] := by
        rw [List.take_succ_eq_append_getElem (by simpa using hlt)]; rfl
      have HS : Hid (Crc.fold f r (s.data.toList.take (k + 1)) = f (Crc.fold f r (s.data.toList.take k)) s[k]) := by
        rw [hts]; exact Crc.fold_snoc _ _ _ _
      clear hts
      go_wp2_with fail
      refine (hG _ _).mono ?_
      rintro e w' ⟨rfl, rfl⟩
      go_wp2
      go_roundw
      case rel => exact ⟨k + 1, by omega, by go_num, by rw [HS.out]⟩
      case measure => simp [intOf]; omega
    · go_wp2
      go_end0
      have : k = s.size := by omega
      subst this
      exact ⟨rfl, by rw [List.take_of_length_le (by simp)]⟩
end Go.Proofs.Ytmjakkemiiigpaa
/-
  The contracts of sum.More, sum.Of and of the document's own: each answers the plain mathematics' check sum. Condition: a text of a length that there is.
-/
namespace Go.Proofs.Ytmjakkemiiigpaa
set_option maxRecDepth 100000
open Go.RowKit
theorem clo_enters : ∀ (args : Array Value) (w : World), (callFunc 91 args).run Try.prog w = .ok (.enter 91 args) w := enters_of Try.func91 (by kernel_rfl) rfl
abbrev bytesOf (s : ByteArray) : List UInt8 := s.data.toList
theorem more_any (s : BitVec 32) (b : ByteArray) (w : World) (hb : b.size ≤ maxLen) :
    Calls Try.prog 82 #[.int .u32 (s.toNat : Int), .string b] w fun e w' => e = .returned (.int .u32 ((Crc.more s b.data.toList).toNat : Int)) ∧ w' = w.alloc (.cells #[.int .u32 ((Crc.inv (Crc.more s b.data.toList)).toNat : Int)] 46) := by
  have hmf : ∀ (fn : Fn) (first cap : Array Value) (w : World), (Instr.makeFunc fn first cap).run Try.prog w = .ok (.func fn first cap) w := fun _ _ _ _ => rfl
  have hn : bits .xor .u32 IntKind.u32.max (s.toNat : Int) = ((Crc.inv s).toNat : Int) := inv_code s
  go_enter Try.func82, Try.ntmps82
  go_wp2_with fail
  refine (each_any _ clo_enters Crc.byte w (fun r c => clo_any r c w) (Crc.inv s) b hb).mono ?_
  rintro e w' ⟨rfl, rfl⟩
  go_wp2
  go_ret
  refine ⟨?_, ?_⟩
  · rw [inv_code]; rfl
  · unfold Crc.more; rw [Crc.inv_inv, Crc.run]
theorem of_any (b : ByteArray) (w : World) (hb : b.size ≤ maxLen) :
    Calls Try.prog 60 #[.string b] w fun e w' => e = .returned (.int .u32 ((Crc.more 0#32 b.data.toList).toNat : Int)) ∧ w' = w.alloc (.cells #[.int .u32 ((Crc.inv (Crc.more 0#32 b.data.toList)).toNat : Int)] 46) := by
  go_enter Try.func60, Try.ntmps60
  go_wp2_with (go_at_call 82; refine (more_any 0#32 b _ hb).mono ?_; rintro e w' ⟨rfl, rfl⟩)
  go_ret
  exact ⟨rfl, rfl⟩
end Go.Proofs.Ytmjakkemiiigpaa
/-
  The contracts of the seeded hash, the program's and the document's: both answer one plain number. Condition: a text of a length that there is.
-/
namespace Go.Proofs.Ytmjakkemiiigpaa
set_option maxRecDepth 100000
open Go.RowKit
namespace Crc
def hbyte (h : BitVec 32) (c : UInt8) : BitVec 32 := (h ^^^ c.toBitVec.setWidth 32) * 16777619#32
def mix (h : BitVec 32) : BitVec 32 := (h ^^^ (h >>> 15)) * 739982445#32
def mixes : Nat → BitVec 32 → BitVec 32
  | 0, h => h
  | n + 1, h => mix (mixes n h)
def start (seed : BitVec 32) : BitVec 32 := seed ^^^ 2166136261#32
def hash (seed : BitVec 32) (l : List UInt8) : BitVec 32 := mixes 3 (fold hbyte (start seed) l)
end Crc
theorem mul_bv (a : BitVec 32) (m : Nat) (hm : m < 4294967296) : (a.toNat : Int) * (m : Int) % 4294967296 = ((a * BitVec.ofNat 32 m).toNat : Int) := by
  rw [BitVec.toNat_mul, BitVec.toNat_ofNat, Nat.mod_eq_of_lt (show m < 2 ^ 32 by omega)]
  omega
theorem hbyte_code (r : BitVec 32) (c : UInt8) : bits .xor .u32 (r.toNat : Int) ((c.toNat : Int) % 4294967296) * 16777619 % 4294967296 = ((Crc.hbyte r c).toNat : Int) := by
  rw [xor_u8]; exact mul_bv _ 16777619 (by omega)
theorem shr15 (r : BitVec 32) : BitVec.ofInt 32 ((r.toNat : Int) / 32768) = r >>> 15 := by
  have e : (r.toNat : Int) / 32768 = ((r.toNat / 32768 : Nat) : Int) := by omega
  rw [e, BitVec.ofInt_natCast]
  apply BitVec.eq_of_toNat_eq
  have := r.isLt
  simp [Nat.shiftRight_eq_div_pow]; omega
theorem mixx_code (r : BitVec 32) : bits .xor .u32 (r.toNat : Int) ((r.toNat : Int) / 32768) = ((r ^^^ (r >>> 15)).toNat : Int) := by
  rw [xor_int, ofInt_bv, shr15]
theorem mix_code (r : BitVec 32) : bits .xor .u32 (r.toNat : Int) ((r.toNat : Int) / 32768) * 739982445 % 4294967296 = ((Crc.mix r).toNat : Int) := by
  rw [mixx_code]; exact mul_bv _ 739982445 (by omega)
theorem start_code (s : BitVec 32) : bits .xor .u32 (s.toNat : Int) 2166136261 = ((Crc.start s).toNat : Int) := by
  rw [xor_int, ofInt_bv]; rfl
theorem hclo_any (r : BitVec 32) (c : UInt8) (w : World) :
    Calls Try.prog 98 #[.int .u8 (c.toNat : Int), .pointer (some ⟨w.heap.size, 0, none⟩)] (w.alloc (.cells #[.int .u32 (r.toNat : Int)] 46)) fun e w' => e = .returned (.tuple #[]) ∧ w' = w.alloc (.cells #[.int .u32 ((Crc.hbyte r c).toNat : Int)] 46) := by
  go_enter Try.func98, Try.ntmps98
  go_wp2
  go_end0
  exact ⟨rfl, by rw [hbyte_code]⟩
theorem hclo_enters : ∀ (args : Array Value) (w : World), (callFunc 98 args).run Try.prog w = .ok (.enter 98 args) w := enters_of Try.func98 (by kernel_rfl) rfl
theorem hash_any (s : BitVec 32) (b : ByteArray) (w : World) (hb : b.size ≤ maxLen) :
    Calls Try.prog 87 #[.int .u32 (s.toNat : Int), .string b] w fun e w' => e = .returned (.int .u32 ((Crc.hash s b.data.toList).toNat : Int)) ∧ w' = w.alloc (.cells #[.int .u32 ((Crc.hash s b.data.toList).toNat : Int)] 46) := by
  have hmf : ∀ (fn : Fn) (first cap : Array Value) (w : World), (Instr.makeFunc fn first cap).run Try.prog w = .ok (.func fn first cap) w := fun _ _ _ _ => rfl
  have hs := start_code s
  go_enter Try.func87, Try.ntmps87
  go_wp2_with fail
  refine (each_any _ hclo_enters Crc.hbyte w (fun r c => hclo_any r c w) (Crc.start s) b hb).mono ?_
  rintro e w' ⟨rfl, rfl⟩
  obtain ⟨R, HR⟩ := named (Crc.fold Crc.hbyte (Crc.start s) b.data.toList)
  rw [← HR.out]
  go_wp2
  go_loopw [11] (fun d wr => ∃ k : Nat, k ≤ 3 ∧ d = .int .i64 k ∧ wr = w.alloc (.cells #[.int .u32 ((Crc.mixes k R).toNat : Int)] 46)) (fun d _ => 3 - (intOf d).toNat)
  case atStart => exact ⟨0, by omega, rfl, rfl⟩
  case round =>
    obtain ⟨k, hk, rfl, rfl⟩ := hrel
    by_cases h3 : k = 3
    · subst h3
      go_wp2
      go_ret
      unfold Crc.hash
      rw [← HR.out]
      exact ⟨rfl, rfl⟩
    · go_wp2
      go_roundw
      case rel => exact ⟨k + 1, by omega, by go_num, by rw [mix_code]; rfl⟩
      case measure => simp [intOf]; omega
end Go.Proofs.Ytmjakkemiiigpaa
/-
  Bloom filters as lists of bytes: the bits of a key, what is set, what is counted. No condition.
-/
namespace Go.Proofs.Ytmjakkemiiigpaa
set_option maxRecDepth 100000
namespace Blm
def idx (key : List UInt8) (i : Nat) : BitVec 32 := Crc.hash 1#32 key + BitVec.ofNat 32 i * (Crc.hash 2#32 key ||| 1#32)
def pos (m : Nat) (key : List UInt8) (i : Nat) : Nat := (idx key i).toNat % m
def bit (p : Nat) : UInt8 := UInt8.ofNat (2 ^ p)
def tst (c : UInt8) (p : Nat) : Bool := c.toNat.testBit p
def getB (l : List UInt8) (q : Nat) : Bool := tst (l[q / 8]?.getD 0) (q % 8)
def setB (l : List UInt8) (q : Nat) : List UInt8 := l.set (q / 8) (l[q / 8]?.getD 0 ||| bit (q % 8))
def addK (m : Nat) (key : List UInt8) : Nat → List UInt8 → List UInt8
  | 0, l => l
  | i + 1, l => setB (addK m key i l) (pos m key i)
def filt (k n : Nat) (keys : List (List UInt8)) : List UInt8 := keys.foldl (fun l key => addK (8 * n) key k l) (List.replicate n 0)
/-- All of the first i bits of a key are there. -/
def hasK (m : Nat) (l : List UInt8) (key : List UInt8) : Nat → Bool
  | 0 => true
  | i + 1 => hasK m l key i && getB l (pos m key i)
def tab : List Int := [0, 1, 1, 2, 1, 2, 2, 3, 1, 2, 2, 3, 2, 3, 3, 4]
def pop (c : UInt8) : Nat := ((List.range 8).filter fun p => tst c p).length
def ones (l : List UInt8) : Nat := (l.map pop).sum
theorem idx_zero (key : List UInt8) : idx key 0 = Crc.hash 1#32 key := by unfold idx; simp
theorem idx_succ (key : List UInt8) (i : Nat) : idx key (i + 1) = idx key i + (Crc.hash 2#32 key ||| 1#32) := by
  unfold idx
  rw [BitVec.ofNat_add, BitVec.add_mul, BitVec.add_assoc]
  congr 1
  congr 1
  exact BitVec.one_mul _
theorem pos_lt {m : Nat} (h : 0 < m) (key : List UInt8) (i : Nat) : pos m key i < m := Nat.mod_lt _ h
theorem bit_toNat (p : Nat) (hp : p < 8) : (bit p).toNat = 2 ^ p := by
  unfold bit
  have : 2 ^ p < 256 := Nat.pow_lt_pow_right (by omega) (show p < 8 from hp)
  rw [UInt8.toNat_ofNat']
  exact Nat.mod_eq_of_lt this
theorem tst_or (c : UInt8) (p q : Nat) (hp : p < 8) : tst (c ||| bit p) q = (tst c q || decide (p = q)) := by
  unfold tst
  rw [UInt8.toNat_or, Nat.testBit_or, bit_toNat p hp, Nat.testBit_two_pow]
theorem tst_zero (q : Nat) : tst 0 q = false := by unfold tst; simp
theorem tst_all (q : Nat) (hq : q < 8) : tst 255 q = true := by
  have : ∀ q : Fin 8, tst 255 q.val = true := by decide +kernel
  exact this ⟨q, hq⟩
theorem tst_ext {c d : UInt8} (h : ∀ q, q < 8 → tst c q = tst d q) : c = d := by
  apply UInt8.toNat_inj.1
  apply Nat.eq_of_testBit_eq
  intro q
  by_cases hq : q < 8
  · exact h q hq
  · have hc := UInt8.toNat_lt c
    have hd := UInt8.toNat_lt d
    have hp : 2 ^ 8 ≤ 2 ^ q := Nat.pow_le_pow_right (by omega) (by omega)
    rw [Nat.testBit_lt_two_pow (by omega), Nat.testBit_lt_two_pow (by omega)]
theorem tst_sub {c d : UInt8} (h : ∀ q, q < 8 → tst c q = true → tst d q = true) : c &&& ~~~d = 0 := by
  apply tst_ext
  intro q hq
  have h1 := h q hq
  rw [tst_zero]
  unfold tst at h1 ⊢
  have e : (~~~d).toNat = 255 - d.toNat := by simp
  have hd := UInt8.toNat_lt d
  rw [UInt8.toNat_and, Nat.testBit_and, e, show 255 - d.toNat = 2 ^ 8 - (d.toNat + 1) by omega, Nat.testBit_two_pow_sub_succ (by omega)]
  by_cases hc : c.toNat.testBit q = true
  · simp [hc, h1 hc]
  · simp [hc]
theorem setB_length (l : List UInt8) (q : Nat) : (setB l q).length = l.length := by unfold setB; simp
theorem addK_length (m : Nat) (key : List UInt8) (i : Nat) (l : List UInt8) : (addK m key i l).length = l.length := by
  induction i with
  | zero => rfl
  | succ i ih => rw [addK, setB_length, ih]
theorem filt_fold_length (k m : Nat) : ∀ (keys : List (List UInt8)) (l : List UInt8), (keys.foldl (fun l key => addK m key k l) l).length = l.length
  | [], _ => rfl
  | x :: r, l => by rw [List.foldl_cons, filt_fold_length k m r, addK_length]
theorem filt_length (k n : Nat) (keys : List (List UInt8)) : (filt k n keys).length = n := by unfold filt; rw [filt_fold_length]; simp
theorem filt_snoc (k n : Nat) (keys : List (List UInt8)) (x : List UInt8) : filt k n (keys ++ [x]) = addK (8 * n) x k (filt k n keys) := by unfold filt; rw [List.foldl_append]; rfl
theorem getB_setB (l : List UInt8) (p q : Nat) (hp : p < 8 * l.length) : getB (setB l p) q = (getB l q || decide (p = q)) := by
  have h8 : p / 8 < l.length := by omega
  unfold getB setB
  rw [List.getElem?_set]
  by_cases e : p / 8 = q / 8
  · rw [if_pos e, if_pos (by omega), ← e, Option.getD_some, tst_or _ _ _ (by omega)]
    congr 1
    apply decide_eq_decide.2
    omega
  · rw [if_neg e, show decide (p = q) = false from decide_eq_false (by omega), Bool.or_false]
theorem getB_addK (m : Nat) (key : List UInt8) (i : Nat) (l : List UInt8) (hm : m = 8 * l.length) (h0 : 0 < m) (q : Nat) : getB (addK m key i l) q = true ↔ getB l q = true ∨ ∃ j, j < i ∧ pos m key j = q := by
  induction i with
  | zero => simp [addK]
  | succ i ih =>
    rw [addK, getB_setB _ _ _ (by rw [addK_length, ← hm]; exact pos_lt h0 _ _), Bool.or_eq_true, ih]
    constructor
    · rintro ((h | ⟨j, hj, he⟩) | h)
      · exact .inl h
      · exact .inr ⟨j, by omega, he⟩
      · exact .inr ⟨i, by omega, of_decide_eq_true h⟩
    · rintro (h | ⟨j, hj, he⟩)
      · exact .inl (.inl h)
      · by_cases hji : j = i
        · subst hji; exact .inr (decide_eq_true he)
        · exact .inl (.inr ⟨j, by omega, he⟩)
theorem getB_zeros (n q : Nat) : getB (List.replicate n 0) q = false := by
  unfold getB
  rw [List.getElem?_replicate]
  split <;> exact tst_zero _
theorem getB_filt (k n : Nat) (hn : 0 < n) (keys : List (List UInt8)) (q : Nat) : getB (filt k n keys) q = true ↔ ∃ key ∈ keys, ∃ j, j < k ∧ pos (8 * n) key j = q := by
  have gen : ∀ (keys : List (List UInt8)) (l : List UInt8), l.length = n → (getB (keys.foldl (fun l key => addK (8 * n) key k l) l) q = true ↔ getB l q = true ∨ ∃ key ∈ keys, ∃ j, j < k ∧ pos (8 * n) key j = q) := by
    intro keys
    induction keys with
    | nil => intro l _; simp
    | cons x r ih =>
      intro l hl
      rw [List.foldl_cons, ih _ (by rw [addK_length, hl]), getB_addK _ _ _ _ (by rw [hl]) (by omega)]
      constructor
      · rintro ((h | h) | ⟨key, hk, h⟩)
        · exact .inl h
        · exact .inr ⟨x, List.mem_cons_self .., h⟩
        · exact .inr ⟨key, List.mem_cons_of_mem _ hk, h⟩
      · rintro (h | ⟨key, hk, h⟩)
        · exact .inl (.inl h)
        · rcases List.mem_cons.1 hk with rfl | hk
          · exact .inl (.inr h)
          · exact .inr ⟨key, hk, h⟩
  unfold filt
  rw [gen keys _ (by simp), getB_zeros]
  simp
theorem getB_ext {l r : List UInt8} (hl : l.length = r.length) (h : ∀ q, q < 8 * l.length → getB l q = getB r q) : l = r := by
  apply List.ext_getElem hl
  intro i h1 h2
  apply tst_ext
  intro p hp
  have := h (8 * i + p) (by omega)
  unfold getB at this
  rw [show (8 * i + p) / 8 = i by omega, show (8 * i + p) % 8 = p by omega, List.getElem?_eq_getElem h1, List.getElem?_eq_getElem h2] at this
  exact this
theorem filt_same (k n : Nat) (hn : 0 < n) (keys other : List (List UInt8)) (h : ∀ x, x ∈ keys ↔ x ∈ other) : filt k n keys = filt k n other := by
  apply getB_ext (by rw [filt_length, filt_length])
  intro q _
  apply Bool.eq_iff_iff.2
  rw [getB_filt k n hn, getB_filt k n hn]
  exact ⟨fun ⟨x, hx, h'⟩ => ⟨x, (h x).1 hx, h'⟩, fun ⟨x, hx, h'⟩ => ⟨x, (h x).2 hx, h'⟩⟩
theorem filt_sub (k n : Nat) (hn : 0 < n) (some all : List (List UInt8)) (h : ∀ x, x ∈ some → x ∈ all) (i : Nat) (h1 : i < (filt k n some).length) (h2 : i < (filt k n all).length) : (filt k n some)[i] &&& ~~~((filt k n all)[i]) = 0 := by
  apply tst_sub
  intro p hp hs
  have e : ∀ (l : List UInt8) (hi : i < l.length), getB l (8 * i + p) = tst l[i] p := by
    intro l hi
    unfold getB
    rw [show (8 * i + p) / 8 = i by omega, show (8 * i + p) % 8 = p by omega, List.getElem?_eq_getElem hi]
    rfl
  rw [← e _ h1, getB_filt k n hn] at hs
  rw [← e _ h2, getB_filt k n hn]
  obtain ⟨x, hx, h'⟩ := hs
  exact ⟨x, h x hx, h'⟩
theorem hasK_iff (m : Nat) (l key : List UInt8) (i : Nat) : hasK m l key i = true ↔ ∀ j, j < i → getB l (pos m key j) = true := by
  induction i with
  | zero => simp [hasK]
  | succ i ih =>
    rw [hasK, Bool.and_eq_true, ih]
    constructor
    · rintro ⟨h, h'⟩ j hj
      by_cases e : j = i
      · subst e; exact h'
      · exact h j (by omega)
    · intro h
      exact ⟨fun j hj => h j (by omega), h i (by omega)⟩
theorem hasK_false {m : Nat} {l key : List UInt8} {i j : Nat} (hj : j < i) (h : getB l (pos m key j) = false) : hasK m l key i = false := by
  rw [Bool.eq_false_iff]
  intro h'
  rw [hasK_iff] at h'
  rw [h' j hj] at h; cases h
theorem has_filt (k n : Nat) (hn : 0 < n) (keys : List (List UInt8)) (x : List UInt8) (hx : x ∈ keys) : hasK (8 * n) (filt k n keys) x k = true := by
  rw [hasK_iff]
  intro j hj
  rw [getB_filt k n hn]
  exact ⟨x, hx, j, hj, rfl⟩
theorem has_all (k n : Nat) (hn : 0 < n) (x : List UInt8) : hasK (8 * n) (List.replicate n 255) x k = true := by
  rw [hasK_iff]
  intro j hj
  have := pos_lt (m := 8 * n) (by omega) x j
  unfold getB
  rw [List.getElem?_replicate, if_pos (by omega)]
  exact tst_all _ (by omega)
theorem has_none (k n : Nat) (hk : 0 < k) (x : List UInt8) : hasK (8 * n) (List.replicate n 0) x k = false := hasK_false hk (getB_zeros _ _)
theorem pop_table (c : UInt8) : (pop c : Int) = (tab.getD (c.toNat % 16) 0) + tab.getD (c.toNat / 16) 0 := by
  have : ∀ c : Fin 256, (pop (UInt8.ofNat c.val) : Int) = (tab.getD (c.val % 16) 0) + tab.getD (c.val / 16) 0 := by decide +kernel
  simpa using this ⟨c.toNat, UInt8.toNat_lt c⟩
theorem pop_or (c : UInt8) (p : Nat) (hp : p < 8) : pop (c ||| bit p) ≤ pop c + 1 := by
  have : ∀ (c : Fin 256) (p : Fin 8), pop (UInt8.ofNat c.val ||| bit p.val) ≤ pop (UInt8.ofNat c.val) + 1 := by decide +kernel
  simpa using this ⟨c.toNat, UInt8.toNat_lt c⟩ ⟨p, hp⟩
theorem pop_le (c : UInt8) : pop c ≤ 8 := by unfold pop; exact (List.length_filter_le _ _)
/-- What is counted of a byte that is halved again and again. -/
def low (c : Nat) : Nat → Nat
  | 0 => 0
  | i + 1 => low c i + c / 2 ^ i % 2
theorem low_pop (c : UInt8) (i : Nat) (hi : i ≤ 8) (h : c.toNat / 2 ^ i = 0) : low c.toNat i = pop c := by
  have : ∀ (c : Fin 256) (i : Fin 9), c.val / 2 ^ i.val = 0 → low c.val i.val = pop (UInt8.ofNat c.val) := by decide +kernel
  have := this ⟨c.toNat, UInt8.toNat_lt c⟩ ⟨i, by omega⟩ h
  simpa using this
theorem ones_nil : ones [] = 0 := rfl
theorem ones_cons (c : UInt8) (l : List UInt8) : ones (c :: l) = pop c + ones l := rfl
theorem ones_snoc (l : List UInt8) (c : UInt8) : ones (l ++ [c]) = ones l + pop c := by unfold ones; simp
theorem ones_le (l : List UInt8) : ones l ≤ 8 * l.length := by
  induction l with
  | nil => simp [ones]
  | cons x r ih => rw [ones_cons, List.length_cons]; have := pop_le x; omega
theorem ones_replicate (n : Nat) (c : UInt8) : ones (List.replicate n c) = n * pop c := by unfold ones; simp
theorem ones_set : ∀ (l : List UInt8) (i : Nat) (c : UInt8), pop c ≤ pop (l[i]?.getD 0) + 1 → ones (l.set i c) ≤ ones l + 1
  | [], _, _, _ => by simp [ones]
  | x :: r, 0, c, h => by simp only [List.set_cons_zero, ones_cons]; simp at h; omega
  | x :: r, i + 1, c, h => by
    rw [List.set_cons_succ, ones_cons, ones_cons]
    have := ones_set r i c (by simpa using h)
    omega
theorem ones_setB (l : List UInt8) (p : Nat) : ones (setB l p) ≤ ones l + 1 := by unfold setB; exact ones_set _ _ _ (pop_or _ _ (by omega))
theorem ones_addK (m : Nat) (key : List UInt8) (i : Nat) (l : List UInt8) : ones (addK m key i l) ≤ ones l + i := by
  induction i with
  | zero => exact Nat.le_refl _
  | succ i ih => rw [addK]; have := ones_setB (addK m key i l) (pos m key i); omega
theorem ones_filt (k n : Nat) (keys : List (List UInt8)) : ones (filt k n keys) ≤ k * keys.length := by
  have gen : ∀ (keys : List (List UInt8)) (l : List UInt8), ones (keys.foldl (fun l key => addK (8 * n) key k l) l) ≤ ones l + k * keys.length := by
    intro keys
    induction keys with
    | nil => intro l; simp
    | cons x r ih =>
      intro l
      rw [List.foldl_cons, List.length_cons, Nat.mul_add]
      have h1 := ih (addK (8 * n) x k l)
      have h2 := ones_addK (8 * n) x k l
      omega
  have := gen keys (List.replicate n 0)
  rw [ones_replicate, show pop 0 = 0 from rfl] at this
  unfold filt
  omega
/-- The bytes after the first of a filter's text, and the number of probes. -/
def wide (n bits : Nat) : Nat := max ((n * bits + 7) / 8) 8
def probes (bits : Nat) : Nat := max (bits * 7 / 10) 1
theorem wide_pos (n bits : Nat) : 8 ≤ wide n bits := by unfold wide; omega
theorem wide_le (n bits : Nat) (hn : n ≤ 65536) (hb : bits ≤ 32) : wide n bits ≤ 262144 := by
  have : n * bits ≤ 65536 * 32 := Nat.mul_le_mul hn hb
  unfold wide; omega
theorem probes_pos (bits : Nat) : 1 ≤ probes bits := by unfold probes; omega
theorem probes_le (bits : Nat) (hb : bits ≤ 32) : probes bits ≤ 22 := by unfold probes; omega
/-- The text of the filter. -/
def text (keys : List (List UInt8)) (bits : Nat) : List UInt8 := UInt8.ofNat (probes bits) :: filt (probes bits) (wide keys.length bits) keys
/-- What is a filter's text. -/
def okB (f : List UInt8) : Bool := decide (9 ≤ f.length) && decide (f.length ≤ 262145) && decide (1 ≤ (f.headD 0).toNat) && decide ((f.headD 0).toNat ≤ 22)
def hasB (f key : List UInt8) : Bool := if okB f then hasK (8 * (f.length - 1)) f.tail key (f.headD 0).toNat else true
def onesB (f : List UInt8) : Nat := if okB f then ones f.tail else 0
end Blm
end Go.Proofs.Ytmjakkemiiigpaa
/-
  The contract of the program's inner function that hands the bits of a key on, whatever is done with them. Condition: a text of a length that there is, at most 1000 probes, at most 2^28 bytes.
-/
namespace Go.Proofs.Ytmjakkemiiigpaa
set_option maxRecDepth 100000
open Go.RowKit
theorem or1_code (s : BitVec 32) : bits .or .u32 (s.toNat : Int) 1 = ((s ||| 1#32).toNat : Int) := by
  show IntKind.u32.wrap (((BitVec.ofInt 32 (s.toNat : Int) ||| BitVec.ofInt 32 1).toNat : Nat) : Int) = _
  rw [ofInt_bv]
  exact wrap_bv _
theorem idx_code (key : List UInt8) (i : Nat) : (((Blm.idx key i).toNat : Int) + ((Crc.hash 2#32 key ||| 1#32).toNat : Int)) % 4294967296 = ((Blm.idx key (i + 1)).toNat : Int) := by
  rw [Blm.idx_succ, BitVec.toNat_add]; omega
set_option maxHeartbeats 1000000 in
theorem probe_any (key : ByteArray) (hkey : key.size ≤ maxLen) (k n : Nat) (hk : k ≤ 1000) (hn : 0 < n) (hn2 : n ≤ 268435456) (G : FuncId) (caps : Array Value)
    (hE : ∀ (args : Array Value) (w : World), (callFunc G args).run Try.prog w = .ok (.enter G args) w) (w : World) (J : Nat → World → Prop) (K : World → Prop)
    (h0 : ∀ u, Below w.heap.size w u → J 0 u)
    (hV : ∀ i u, i < k → J i u → Calls Try.prog G (#[.int .u32 ((Blm.pos (8 * n) key.data.toList i / 8 : Nat) : Int), .int .u32 ((Blm.pos (8 * n) key.data.toList i % 8 : Nat) : Int)] ++ caps) u fun e u' => ∃ b, e = .returned (.bool b) ∧ (b = true → J (i + 1) u') ∧ (b = false → K u')) :
    Calls Try.prog 70 #[.string key, .int .i64 (k : Int), .int .i64 (n : Int), .func (.func G) #[] caps] w fun e w' => e = .returned (.tuple #[]) ∧ (J k w' ∨ K w') := by
  obtain ⟨H1, e1⟩ := named (Crc.hash 1#32 key.data.toList)
  obtain ⟨H2, e2⟩ := named (Crc.hash 2#32 key.data.toList)
  have C1 : ∀ u, Hid (Calls Try.prog 87 #[.int .u32 1, .string key] u fun e w' => e = .returned (.int .u32 (H1.toNat : Int)) ∧ Below u.heap.size u w') := fun u => Lib.hid ((hash_any 1#32 key u hkey).mono fun e w' ⟨h, h'⟩ => ⟨by rw [h, e1.out], by rw [h']; exact below_alloc _ _⟩)
  have C2 : ∀ u, Hid (Calls Try.prog 87 #[.int .u32 2, .string key] u fun e w' => e = .returned (.int .u32 (H2.toNat : Int)) ∧ Below u.heap.size u w') := fun u => Lib.hid ((hash_any 2#32 key u hkey).mono fun e w' ⟨h, h'⟩ => ⟨by rw [h, e2.out], by rw [h']; exact below_alloc _ _⟩)
  have HV : Hid (∀ i u, i < k → J i u → Calls Try.prog G (#[.int .u32 (((Blm.idx key.data.toList i).toNat : Int) % ((n : Int) * 8) / 8), .int .u32 (((Blm.idx key.data.toList i).toNat : Int) % 8)] ++ caps) u fun e u' => ∃ b, e = .returned (.bool b) ∧ (b = true → J (i + 1) u') ∧ (b = false → K u')) := Lib.hid (by
    intro i u hi hj
    have h := hV i u hi hj
    unfold Blm.pos at h
    rw [show ((Blm.idx key.data.toList i).toNat : Int) % 8 = (((Blm.idx key.data.toList i).toNat % (8 * n) % 8 : Nat) : Int) by rw [Nat.mod_mul_right_mod]; omega, show ((Blm.idx key.data.toList i).toNat : Int) % ((n : Int) * 8) = (((Blm.idx key.data.toList i).toNat % (8 * n) : Nat) : Int) by rw [Int.natCast_emod]; congr 1; omega]
    exact h)
  have H0 := Lib.hid h0
  clear hV h0 hkey
  go_enter Try.func70, Try.ntmps70
  go_wp2_with (go_at_call 87; first | ((with_reducible refine (C1 _).out.mono ?_); rintro e w1 ⟨rfl, b1⟩) | ((with_reducible refine (C2 _).out.mono ?_); rintro e w2 ⟨rfl, b2⟩) | fail "no arm")
  have B2 := below_of b1 b2
  obtain ⟨X, hX⟩ : ∃ X : Nat → BitVec 32, Hid (∀ i, X i = Blm.idx key.data.toList i) := ⟨_, Lib.hid fun _ => rfl⟩
  have hX0 : H1 = X 0 := by rw [hX.out, Blm.idx_zero, e1.out]
  obtain ⟨H3, e3⟩ := named (H2 ||| 1#32)
  rw [or1_code, hX0, ← e3.out]
  have HB := Lib.hid B2
  clear b1 b2 B2 C1 C2
  go_loopw [9, 21] (fun x d wr => ∃ i : Nat, i ≤ k ∧ x = .int .u32 ((X i).toNat : Int) ∧ d = .int .i64 i ∧ J i wr) (fun _ d _ => k - (intOf d).toNat)
  case atStart => exact ⟨0, by omega, rfl, rfl, H0.out _ HB.out⟩
  case round =>
    obtain ⟨i, hi, rfl, rfl, hJ⟩ := hrel
    have HJ := Lib.hid hJ
    clear hJ
    by_cases hlt : i < k
    · have HC := HV.out i wr hlt HJ.out
      rw [← hX.out] at HC
      have HH := Lib.hid HC
      clear HC
      have x0 : 0 ≤ ((X i).toNat : Int) % ((n : Int) * 8) := Int.emod_nonneg _ (by omega)
      have x1 : ((X i).toNat : Int) % ((n : Int) * 8) < 4294967296 := Int.lt_of_lt_of_le (Int.emod_lt_of_pos _ (by omega)) (by omega)
      go_wp2_with fail
      refine HH.out.mono ?_
      rintro e w3 ⟨b, rfl, p1, p2⟩
      cases b
      · have P2 := Lib.hid (p2 rfl)
        clear p1 p2
        go_wp2
        first | go_end0 | (simp only [Exit.inBlock, Exit.then]; refine bodyPost_ret (results_none rfl _ _ _) rfl ?_) | refine bodyPost_ret (results_none rfl _ _ _) rfl ?_
        exact ⟨rfl, .inr P2.out⟩
      · have P1 := Lib.hid (p1 rfl)
        clear p1 p2
        go_wp2
        go_roundw
        case rel =>
          refine ⟨i + 1, by omega, ?_, by go_num, P1.out⟩
          rw [e3.out, hX.out, hX.out, e2.out, idx_code]
        case measure => simp [intOf]; omega
    · go_wp2
      go_end0
      obtain rfl : i = k := by omega
      exact ⟨rfl, .inl HJ.out⟩
end Go.Proofs.Ytmjakkemiiigpaa
/-
  The contracts of the program's Check and Has, over the plain filter. Condition: texts of a length that there is.
-/
namespace Go.Proofs.Ytmjakkemiiigpaa
set_option maxRecDepth 100000
open Go.RowKit
theorem okB_size (f : ByteArray) : f.data.toList.length = f.size := by rw [Array.length_toList]; rfl
theorem head_at (f : ByteArray) (h : 0 < f.size) : f.data.toList.headD 0 = f[0] := by
  obtain ⟨⟨l⟩⟩ := f
  cases l with
  | nil => simp [ByteArray.size] at h
  | cons x r => rfl
theorem at_list (f : ByteArray) (i : Nat) (h : i < f.size) (h' : i < f.data.toList.length) : f.data.toList[i] = f[i] := rfl
theorem tail_text (f : ByteArray) (h : 0 < f.size) : (f.extract 1 f.size).data.toList = f.data.toList.tail := by
  rw [ByteArray.data_extract, Array.toList_extract, ← List.drop_one, List.extract_eq_take_drop, List.take_of_length_le (by simp)]
theorem okB_of (f : ByteArray) (h : 0 < f.size) : Blm.okB f.data.toList = (decide (9 ≤ f.size) && decide (f.size ≤ 262145) && decide (1 ≤ f[0].toNat) && decide (f[0].toNat ≤ 22)) := by
  unfold Blm.okB
  rw [okB_size, head_at f h]
theorem check_any (f : ByteArray) (hf : f.size ≤ maxLen) (w : World) :
    Calls Try.prog 28 #[.string f] w fun e w' => e = .returned (.int .i64 (if Blm.okB f.data.toList then 0 else 7)) ∧ w' = w := by
  unfold maxLen at hf
  by_cases c1 : f.size < 9
  · have ho : Blm.okB f.data.toList = false := by
      unfold Blm.okB; rw [okB_size]; simp; omega
    rw [ho]
    go_enter Try.func28, Try.ntmps28
    go_wp2
    go_returns
    exact ⟨rfl, rfl⟩
  · have h0 : 0 < f.size := by omega
    rw [okB_of f h0]
    have i0 : (0 : Int) < (f.size : Int) := by omega
    by_cases c2 : 262145 < f.size
    · rw [show decide (f.size ≤ 262145) = false from decide_eq_false (by omega)]
      simp only [Bool.and_false, Bool.false_and]
      go_enter Try.func28, Try.ntmps28
      go_wp2
      go_returns
      exact ⟨rfl, rfl⟩
    · rw [show decide (f.size ≤ 262145) = true from decide_eq_true (by omega), show decide (9 ≤ f.size) = true from decide_eq_true (by omega)]
      simp only [Bool.true_and]
      by_cases c3 : f[0].toNat = 0
      · rw [show decide (1 ≤ f[0].toNat) = false from decide_eq_false (by omega), Bool.false_and]
        go_enter Try.func28, Try.ntmps28
        go_wp2
        go_returns
        exact ⟨rfl, rfl⟩
      · rw [show decide (1 ≤ f[0].toNat) = true from decide_eq_true (by omega), Bool.true_and]
        have q3 : ((f[0].toNat : Int) == 0) = false := by simp; omega
        by_cases c4 : 22 < f[0].toNat
        · rw [show decide (f[0].toNat ≤ 22) = false from decide_eq_false (by omega)]
          go_enter Try.func28, Try.ntmps28
          go_wp2
          go_returns
          exact ⟨rfl, rfl⟩
        · rw [show decide (f[0].toNat ≤ 22) = true from decide_eq_true (by omega)]
          have q4 : (f[0].toNat : Int) ≤ 22 := by omega
          go_enter Try.func28, Try.ntmps28
          go_wp2
          go_returns
          exact ⟨rfl, rfl⟩
theorem tst_code (c : UInt8) (q : Nat) (hq : q < 8) : (bits .and .u8 ((c.toNat : Int) / 2 ^ q) 1 == 1) = Blm.tst c q := by
  have : ∀ (c : Fin 256) (q : Fin 8), (bits .and .u8 ((c.val : Int) / 2 ^ q.val) 1 == 1) = Blm.tst (UInt8.ofNat c.val) q.val := by decide +kernel
  have := this ⟨c.toNat, UInt8.toNat_lt c⟩ ⟨q, hq⟩
  simpa using this
/-- The closure of Has: whether the bit is there, which it notes down. -/
theorem hasClo_any (S : ByteArray) (hS : S.size ≤ maxLen) (p q : Nat) (hp : p < S.size) (hq : q < 8) (g1 g2 : Nat) (h12 : g1 ≠ g2) (b0 : Bool) (u : World) (h1 : Boxed u g1 9 (.string S)) (h2 : Boxed u g2 4 (.bool b0)) :
    Calls Try.prog 71 #[.int .u32 (p : Int), .int .u32 (q : Int), .pointer (some ⟨g1, 0, none⟩), .pointer (some ⟨g2, 0, none⟩)] u fun e w' => e = .returned (.bool (Blm.tst S[p] q)) ∧ w' = u.setCell ⟨g2, 0, none⟩ (.bool (Blm.tst S[p] q)) := by
  unfold maxLen at hS
  have x1 := h1.cell
  have x2 := h2.cell
  have x3 := h2.frozen
  have x4 := (h2.set (.bool (Blm.tst S[p] q))).cell
  have ht := tst_code S[p] q hq
  have i1 : (p : Int) < (S.size : Int) := by omega
  have i2 : (0 : Int) ≤ (p : Int) := by omega
  have i3 : (q : Int) < 8 := by omega
  have i4 : (0 : Int) ≤ (q : Int) := by omega
  clear h1 h2
  go_enter Try.func71, Try.ntmps71
  go_wp2
  go_returns
  exact ⟨rfl, rfl⟩
theorem hasClo_enters : ∀ (args : Array Value) (w : World), (callFunc 71 args).run Try.prog w = .ok (.enter 71 args) w := enters_of Try.func71 (by kernel_rfl) rfl
/-- What stands while the bits of a key are looked at. -/
structure Look (w0 : World) (g1 g2 : Nat) (S : ByteArray) (b : Bool) (u : World) : Prop where
  below : Below w0.heap.size w0 u
  set : Boxed u g1 9 (.string S)
  has : Boxed u g2 4 (.bool b)
theorem Look.grow {w0 u u' : World} {g1 g2 : Nat} {S : ByteArray} {b : Bool} (h : Look w0 g1 g2 S b u) (hb : Below u.heap.size u u') : Look w0 g1 g2 S b u' :=
  ⟨h.below.trans (hb.mono h.below.size), (hb.block g1 h.set.lt).trans h.set, (hb.block g2 h.has.lt).trans h.has⟩
theorem Look.note {w0 u : World} {g1 g2 : Nat} {S : ByteArray} {b : Bool} (h : Look w0 g1 g2 S b u) (h12 : g1 ≠ g2) (h2 : w0.heap.size ≤ g2) (c : Bool) : Look w0 g1 g2 S c (u.setCell ⟨g2, 0, none⟩ (.bool c)) :=
  ⟨h.below.setCell h2 _, h.set.other h12 _, h.has.set _⟩
theorem look_any (key : ByteArray) (hkey : key.size ≤ maxLen) (k : Nat) (hk : k ≤ 1000) (S : ByteArray) (hn : 0 < S.size) (hn2 : S.size ≤ 268435456) (w0 w : World) (g1 g2 : Nat) (h12 : g1 ≠ g2) (h2 : w0.heap.size ≤ g2) (h : Look w0 g1 g2 S true w) :
    Calls Try.prog 70 #[.string key, .int .i64 (k : Int), .int .i64 (S.size : Int), .func (.func 71) #[] #[.pointer (some ⟨g1, 0, none⟩), .pointer (some ⟨g2, 0, none⟩)]] w fun e w' => e = .returned (.tuple #[]) ∧ Look w0 g1 g2 S (Blm.hasK (8 * S.size) S.data.toList key.data.toList k) w' := by
  refine (probe_any key hkey k S.size hk hn hn2 71 _ hasClo_enters w
    (fun i u => Blm.hasK (8 * S.size) S.data.toList key.data.toList i = true ∧ Look w0 g1 g2 S true u)
    (fun u => Blm.hasK (8 * S.size) S.data.toList key.data.toList k = false ∧ Look w0 g1 g2 S false u)
    (fun u hb => ⟨rfl, h.grow hb⟩) ?_).mono ?_
  · rintro i u hi ⟨hh, hl⟩
    have hp := Blm.pos_lt (m := 8 * S.size) (by omega) key.data.toList i
    obtain ⟨p, ep⟩ := named (Blm.pos (8 * S.size) key.data.toList i)
    rw [← ep.out] at hp ⊢
    have hg : Blm.getB S.data.toList p = Blm.tst (S[p / 8]'(by omega)) (p % 8) := by
      unfold Blm.getB
      rw [List.getElem?_eq_getElem (by rw [okB_size]; omega)]
      rfl
    refine (hasClo_any S (by unfold maxLen; omega) (p / 8) (p % 8) (by omega) (by omega) g1 g2 h12 true u hl.set hl.has).mono ?_
    rintro e w' ⟨rfl, rfl⟩
    refine ⟨_, rfl, fun ht => ?_, fun ht => ?_⟩
    · rw [ht]
      refine ⟨?_, hl.note h12 h2 true⟩
      rw [Blm.hasK, hh, ← ep.out, hg, ht]; rfl
    · rw [ht]
      refine ⟨Blm.hasK_false hi ?_, hl.note h12 h2 false⟩
      rw [← ep.out, hg, ht]
  · rintro e w' ⟨rfl, ⟨h1, h'⟩ | ⟨h1, h'⟩⟩
    · rw [h1]; exact ⟨rfl, h'⟩
    · rw [h1]; exact ⟨rfl, h'⟩
set_option maxHeartbeats 4000000 in
theorem has_any (f key : ByteArray) (hf : f.size ≤ maxLen) (hkey : key.size ≤ maxLen) (w : World) :
    Calls Try.prog 39 #[.string f, .string key] w fun e w' => e = .returned (.bool (Blm.hasB f.data.toList key.data.toList)) ∧ Below w.heap.size w w' := by
  have C := Lib.hid (check_any f hf w)
  unfold Blm.hasB
  cases ho : Blm.okB f.data.toList with
  | false =>
    rw [ho] at C
    go_enter Try.func39, Try.ntmps39
    go_wp2_with (go_at_call 28; ((with_reducible refine C.out.mono ?_); rintro e w1 ⟨rfl, rfl⟩))
    go_returns
    exact ⟨rfl, Below.refl _ _⟩
  | true =>
    rw [ho] at C
    have h9 : 9 ≤ f.size ∧ f.size ≤ 262145 := by
      unfold Blm.okB at ho; rw [okB_size] at ho; simp at ho; omega
    have h0 : 0 < f.size := by omega
    rw [head_at f h0, okB_size, ← tail_text f h0]
    have hk : f[0].toNat ≤ 22 := by
      rw [okB_of f h0] at ho; simp at ho; omega
    have hSz : (f.extract 1 f.size).size = f.size - 1 := by simp
    obtain ⟨S, hS⟩ := named (f.extract 1 f.size)
    rw [← hS.out] at hSz ⊢
    rw [← hSz]
    have L := fun (u : World) (h : Look w w.heap.size (w.heap.size + 1) S true u) => Lib.hid (look_any key hkey f[0].toNat (by omega) S (by omega) (by omega) w u w.heap.size (w.heap.size + 1) (by omega) (by omega) h)
    have LH := Lib.hid L
    have hwr : IntKind.i64.wrap (f[0].toNat : Int) = (f[0].toNat : Int) := by rw [IntKind.wrap_i64]; omega
    clear L ho
    have HZ := Lib.hid hSz
    clear hSz
    have i0 : (0 : Int) < (f.size : Int) := by omega
    have i1 : (1 : Int) ≤ (f.size : Int) := by omega
    go_enter Try.func39, Try.ntmps39
    go_upto_region 5 with (go_at_call 28; ((with_reducible refine C.out.mono ?_); rintro e w1 ⟨rfl, rfl⟩))
    rw [← hS.out]
    have hl : Look w1 w1.heap.size (w1.heap.size + 1) S true ((w1.alloc (.cells #[.string S] 9)).alloc (.cells #[.bool true] 4)) := by
      refine ⟨below_of (below_alloc _ _) (below_alloc _ _), (Boxed.new _ _ _).alloc _, ?_⟩
      have := Boxed.new (w1.alloc (.cells #[.string S] 9)) 4 (.bool true)
      rwa [World.size_alloc] at this
    generalize hW : ((w1.alloc (.cells #[.string S] 9)).alloc (.cells #[.bool true] 4)) = W at hl ⊢
    clear hW
    have x1 := hl.set.cell
    have c1 := LH.out W.drew ⟨hl.below.drew, hl.set, hl.has⟩
    have HL := Lib.hid hl
    clear hl LH
    go_region_with (go_at_call 70; ((with_reducible refine c1.out.mono ?_); rintro e w2 ⟨rfl, l2⟩))
    all_goals have x9 := l2.has.cell
    all_goals have b9 := Lib.hid l2.below
    all_goals clear l2
    all_goals go_wp2
    all_goals go_returns
    all_goals exact ⟨rfl, b9.out⟩
end Go.Proofs.Ytmjakkemiiigpaa
/-
  The program's types are laid out. No condition.
-/
namespace Go.Proofs.Ytmjakkemiiigpaa
set_option maxRecDepth 100000
open Go Go.RowKit Go.ChangeShapes
theorem laid_out : laidOutB Try.prog = true := by kernel_rfl
end Go.Proofs.Ytmjakkemiiigpaa
/-
  A slice of structs that came in as an argument, whatever its element: opened once, over how one element reads. Rows (api.Row) and slices of rows. No condition.
-/
namespace Go.Proofs.Ytmjakkemiiigpaa
open Go Go.RowKit Go.ChangeShapes Go.WideShapes Go.Deep
set_option maxRecDepth 100000
theorem weights_of {H : Type} {P : Program} {e : TypeId} : ∀ {l : List (DataW H)} {d : DataW H} {n : Nat}, d ∈ l → n ∈ d.weights P e → n ∈ DataW.weightsAll P e l
  | [], _, _, h, _ => by cases h
  | x :: r, d, n, h, hn => by
    rw [DataW.weightsAll]
    rcases List.mem_cons.1 h with rfl | h
    · exact List.mem_append_left _ hn
    · exact List.mem_append_right _ (weights_of h hn)
/-- A slice of elements of k cells: where it lies, and what it holds. -/
structure SlOf {α : Type} (k : Nat) (cells : α → List Value) (a : Option Addr) (n c b o : Nat) (l : List α) (w : World) : Prop where
  len : l.length = n
  cap : n ≤ c
  most : c ≤ 9223372036854775807
  addr : 0 < n → a = some ⟨b, o, none⟩ ∧ b < w.heap.size
  at' : ∀ j x, l[j]? = some x → ∀ m u, (cells x)[m]? = some u → w.cell? ⟨b, o + j * k + m, none⟩ = some u
theorem open_slice_of {α : Type} [Inhabited α] {H : Type} {enc : TypeId × Value → H} {W : World} {a0 : Option Addr} {len cap fuel : Nat} {x : DataW H × List MemPlace} {T E : TypeId} (k : Nat) (hT : Try.prog.underlying T = some (.slice E)) (hk : Try.prog.cellsOf E = k) (hk0 : 0 < k)
    (cells : α → List Value) (hcl : ∀ v, (cells v).length = k) (Good : α → Prop) (Ns : α → List Nat)
    (read : ∀ {fuel : Nat} {cs : List Value} {y : DataW H × List MemPlace}, DataW.trod enc Try.prog W 0 (fun _ => true) true fuel E cs = some y → ∃ v : α, cs = cells v ∧ Good v ∧ ∀ n ∈ Ns v, n ∈ y.1.weights Try.prog E)
    (hf : DataW.trod enc Try.prog W 0 (fun _ => true) true fuel T [.slice a0 len cap] = some x) (hsz : ∀ n ∈ x.1.weights Try.prog T, n ≤ reachBytes) :
    ∃ b o l, SlOf k cells a0 len cap b o l W ∧ ∀ v ∈ l, Good v ∧ ∀ n ∈ Ns v, n ≤ reachBytes := by
  rcases DataW.trod_slice hT hf with ⟨hcs, _⟩ | ⟨a, len', cap', elems, rest, n, _, hcs, hx, _, hl, hm, hlen, hel, _, _⟩
  · simp at hcs
    obtain ⟨rfl, rfl, rfl⟩ := hcs
    exact ⟨0, 0, [], ⟨rfl, Nat.le_refl _, by omega, fun h => absurd h (by omega), fun j x hx => by simp at hx⟩, fun x hx => by cases hx⟩
  · simp at hcs
    obtain ⟨rfl, rfl, rfl⟩ := hcs
    obtain ⟨b, off, spot⟩ := a
    have el : ∀ i, i < len → ∃ v : α, (∀ m u, (cells v)[m]? = some u → W.cell? ((⟨b, off, spot⟩ : Addr).add (i * k + m)) = some u) ∧ Good v ∧ ∃ y, elems[i]? = some y ∧ ∀ n ∈ Ns v, n ∈ y.1.weights Try.prog E := by
      intro i hi
      have h1 := hel i hi
      rw [hk] at h1
      have hys : elems[i]? = some (elems[i]'(by omega)) := List.getElem?_eq_getElem (by omega)
      rw [hys] at h1
      obtain ⟨cs, hc, ht'⟩ := Option.bind_eq_some_iff.1 h1
      obtain ⟨v, rfl, hg, hy⟩ := read ht'
      obtain ⟨_, hcl', hat⟩ := World.cells?_some hc
      refine ⟨v, fun m u hu => ?_, hg, _, hys, hy⟩
      have hm5 : m < k := by have := (List.getElem?_eq_some_iff.1 hu).1; rw [hcl] at this; exact this
      rw [← Go.Deep.add_add, hat m hm5, hu]
    obtain ⟨vf, hvf⟩ : ∃ vf : Nat → α, ∀ i, i < len → (∀ m u, (cells (vf i))[m]? = some u → W.cell? ((⟨b, off, spot⟩ : Addr).add (i * k + m)) = some u) ∧ Good (vf i) ∧ ∃ y, elems[i]? = some y ∧ ∀ n ∈ Ns (vf i), n ∈ y.1.weights Try.prog E := by
      refine ⟨fun i => if h : i < len then (el i h).choose else default, fun i hi => ?_⟩
      simp only [dif_pos hi]
      exact (el i hi).choose_spec
    have hwt : ∀ i, i < len → ∀ n, n ∈ Ns (vf i) → n ≤ reachBytes := by
      intro i hi n hn
      obtain ⟨_, _, y, hy, he⟩ := hvf i hi
      refine hsz n ?_
      rw [hx, DataW.weights, hT]
      exact List.mem_cons_of_mem _ (List.mem_append_left _ (weights_of (List.mem_map.2 ⟨y, List.mem_of_getElem? hy, rfl⟩) (he n hn)))
    have hspot : 0 < len → spot = none := fun h0 => by
      obtain ⟨hcell, _⟩ := hvf 0 h0
      have := hcell 0 _ (List.getElem?_eq_getElem (by rw [hcl]; exact hk0))
      simpa [Addr.add] using World.cell?_spot this
    unfold maxLen at hm
    refine ⟨b, off, (List.range len).map vf, ⟨by simp, hl, by omega, fun h0 => ?_, fun j v hj m u hu => ?_⟩, fun v hv => ?_⟩
    · have hs := hspot h0
      subst hs
      obtain ⟨hcell, _⟩ := hvf 0 h0
      have hb := World.block_lt_of_cell? _ _ (hcell 0 _ (List.getElem?_eq_getElem (by rw [hcl]; exact hk0)))
      exact ⟨rfl, by simpa [Addr.add] using hb⟩
    · have hjl : j < len := by have := (List.getElem?_eq_some_iff.1 hj).1; simpa using this
      have hvj : v = vf j := by simpa [hjl] using hj.symm
      subst hvj
      have hs := hspot (by omega)
      subst hs
      obtain ⟨hcell, _⟩ := hvf j hjl
      have := hcell m u hu
      have e1 : (⟨b, off, none⟩ : Addr).add (j * k + m) = ⟨b, off + j * k + m, none⟩ := by
        unfold Addr.add
        split
        · rename_i h0
          rw [show off + j * k + m = off by omega]
        · simp only [Addr.mk.injEq, true_and, and_true]; omega
      rw [e1] at this
      exact this
    · obtain ⟨i, hi, rfl⟩ := List.mem_map.1 hv
      have hil : i < len := List.mem_range.1 hi
      exact ⟨(hvf i hil).2.1, hwt i hil⟩
/-- A row's cells. -/
def cellsR (x : Rw) : List Value := [.string x.key, .int .u64 (x.seq : Int), .int .i64 x.kind, .string x.val]
instance : Inhabited Rw := ⟨⟨.empty, 0, 0, .empty⟩⟩
/-- What holds of each row that came in. -/
def RwIn (x : Rw) : Prop := x.key.size ≤ 281474976710656 ∧ x.val.size ≤ 281474976710656 ∧ x.seq ≤ 18446744073709551615
theorem rw_read {H : Type} {enc : TypeId × Value → H} {w : World} {fuel : Nat} {cs : List Value} {y : DataW H × List MemPlace} (h : DataW.trod enc Try.prog w 0 (fun _ => true) true fuel 39 cs = some y) :
    ∃ x : Rw, cs = cellsR x ∧ x.seq ≤ 18446744073709551615 ∧ ∀ n ∈ [x.key.size, x.val.size], n ∈ y.1.weights Try.prog 39 := by
  have oc : Try.prog.cellsOf 39 = 4 := by kernel_rfl
  have i1 : Try.prog.cellsOf 3 = 1 := by kernel_rfl
  have q1 : Try.prog.cellsOf 25 = 1 := by kernel_rfl
  have s1 : Try.prog.cellsOf 9 = 1 := by kernel_rfl
  obtain ⟨xs, n, _, hx, hsz, hn, hg⟩ := DataW.trod_struct Try.underlying39 h
  have g0 := hg 0 _ rfl
  have g1 := hg 1 _ rfl
  have g2 := hg 2 _ rfl
  have g3 := hg 3 _ rfl
  clear hg h
  rw [oc] at hsz
  have hm : xs.length = 4 := hn
  match cs, hsz with
  | [c0, c1, c2, c3], _ =>
    match xs, hm with
    | [y0, y1, y2, y3], _ =>
      obtain ⟨a0, e0, f0, w0⟩ := DataW.trod_string Try.underlying9 g0
      obtain ⟨a1, e1, f1, w1⟩ := DataW.trod_int Try.underlying25 g1
      obtain ⟨a2, e2, f2, w2⟩ := DataW.trod_int Try.underlying3 g2
      obtain ⟨a3, e3, f3, w3⟩ := DataW.trod_string Try.underlying9 g3
      simp [i1, s1, q1] at e0 e1 e2 e3
      subst e0 e1 e2 e3 f0 f1 f2 f3
      have hr : 0 ≤ a1 ∧ a1 ≤ 18446744073709551615 := by simpa [Lit.wf, IntKind.min, IntKind.max, IntKind.signed, IntKind.bits] using w1
      have e5 : ((a1.toNat : Nat) : Int) = a1 := by omega
      refine ⟨⟨a0, a1.toNat, a2, a3⟩, by simp only [cellsR, e5], by show a1.toNat ≤ _; omega, fun m hm => ?_⟩
      have hy : y.1 = .agg [.lit (.string a0.data.toList), .lit (.int .u64 a1), .lit (.int .i64 a2), .lit (.string a3.data.toList)] := by rw [hx]; rfl
      rw [hy]
      simp only [DataW.weights, Try.underlying39, DataW.weightsEach, List.map_cons, List.map_nil]
      have e : ∀ s : ByteArray, s.data.toList.length = s.size := fun s => by rw [Array.length_toList]; rfl
      simp only [List.mem_cons, List.not_mem_nil, or_false] at hm
      rcases hm with rfl | rfl
      · rw [← e]; simp
      · rw [← e]; simp
theorem rwIn_of {x : Rw} (h : x.seq ≤ 18446744073709551615) (hn : ∀ n ∈ [x.key.size, x.val.size], n ≤ reachBytes) : RwIn x := by
  have h1 := hn _ (List.mem_cons_self ..)
  have h2 := hn x.val.size (by simp)
  unfold reachBytes at h1 h2
  exact ⟨by omega, by omega, h⟩
/-- Rows that came in. -/
theorem open_rows {H : Type} {enc : TypeId × Value → H} {W : World} {a0 : Option Addr} {len cap fuel : Nat} {x : DataW H × List MemPlace} {ts : List TypeId} {ds : List (DataW H)}
    (hf : DataW.trod enc Try.prog W 0 (fun _ => true) true fuel 22 [.slice a0 len cap] = some x) (hsz : (DataW.weightsEach Try.prog ts ds).all (· ≤ reachBytes) = true) {j : Nat} (ht : ts[j]? = some 22) (hd : ds[j]? = some x.1) :
    ∃ b o l, Rs a0 len cap b o l W ∧ ∀ v ∈ l, RwIn v := by
  have oc : Try.prog.cellsOf 39 = 4 := by kernel_rfl
  obtain ⟨b, o, l, hs, hg⟩ := open_slice_of (α := Rw) 4 Try.underlying22 oc (by omega) cellsR (fun _ => rfl) (fun v => v.seq ≤ 18446744073709551615) (fun v => [v.key.size, v.val.size]) rw_read hf
    (fun m hm => by have := List.all_eq_true.1 hsz _ (DataW.weights_mem_each ht hd m hm); simpa using this)
  refine ⟨b, o, l, ⟨hs.len, hs.cap, hs.most, hs.addr, fun j v hj => ?_⟩, fun v hv => rwIn_of (hg v hv).1 (hg v hv).2⟩
  exact ⟨hs.at' j v hj 0 _ rfl, hs.at' j v hj 1 _ rfl, hs.at' j v hj 2 _ rfl, hs.at' j v hj 3 _ rfl⟩
/-- A row that came in. -/
theorem open_row {H : Type} {enc : TypeId × Value → H} {W : World} {b0 : Nat} {r : Reach} {v : Value} {d : DataW H} {ps : List MemPlace} {ts : List TypeId} {ds : List (DataW H)}
    (hv : Value.okWide Try.prog W r b0 39 v) (h : DataW.Trod enc Try.prog W 0 (fun _ => true) true 39 v d ps)
    (hsz : (DataW.weightsEach Try.prog ts ds).all (· ≤ reachBytes) = true) {j : Nat} (ht : ts[j]? = some 39) (hd : ds[j]? = some d) :
    ∃ x : Rw, v = .agg #[.string x.key, .int .u64 (x.seq : Int), .int .i64 x.kind, .string x.val] ∧ RwIn x := by
  obtain ⟨cs, rfl, hsz2⟩ := okWide_struct Try.underlying39 hv
  obtain ⟨fuel, hf⟩ := h
  obtain ⟨x, hc, hq, hw⟩ := rw_read hf
  obtain ⟨l⟩ := cs
  have hc' : l = cellsR x := hc
  subst hc'
  exact ⟨x, rfl, rwIn_of hq fun n hn => by
    have := List.all_eq_true.1 hsz _ (DataW.weights_mem_each ht hd n (hw n hn)); simpa using this⟩
/-- Integers that came in. -/
def cellsI (x : Int) : List Value := [.int .i64 x]
theorem open_nums {H : Type} {enc : TypeId × Value → H} {W : World} {a0 : Option Addr} {len cap fuel : Nat} {x : DataW H × List MemPlace} {ts : List TypeId} {ds : List (DataW H)}
    (hf : DataW.trod enc Try.prog W 0 (fun _ => true) true fuel 47 [.slice a0 len cap] = some x) (hsz : (DataW.weightsEach Try.prog ts ds).all (· ≤ reachBytes) = true) {j : Nat} (ht : ts[j]? = some 47) (hd : ds[j]? = some x.1) :
    ∃ b o l, SlOf 1 cellsI a0 len cap b o l W ∧ ∀ v ∈ l, (Lit.int .i64 v).wf = true := by
  have i1 : Try.prog.cellsOf 3 = 1 := by kernel_rfl
  obtain ⟨b, o, l, hs, hg⟩ := open_slice_of (α := Int) 1 Try.underlying47 i1 (by omega) cellsI (fun _ => rfl) (fun v => (Lit.int .i64 v).wf = true) (fun _ => []) (fun {fuel cs y} h => by
      obtain ⟨a0, e0, f0, w0⟩ := DataW.trod_int Try.underlying3 h
      exact ⟨a0, e0, w0, fun n hn => by cases hn⟩) hf
    (fun m hm => by have := List.all_eq_true.1 hsz _ (DataW.weights_mem_each ht hd m hm); simpa using this)
  exact ⟨b, o, l, hs, fun v hv => (hg v hv).1⟩
theorem SlOf.keep {α : Type} {k : Nat} {cells : α → List Value} {a : Option Addr} {n c b o : Nat} {l : List α} {w w' : World} (h : SlOf k cells a n c b o l w) (hk : 0 < n → w'.heap[b]? = w.heap[b]?) (hs : w.heap.size ≤ w'.heap.size) : SlOf k cells a n c b o l w' := by
  refine ⟨h.len, h.cap, h.most, fun h0 => ⟨(h.addr h0).1, Nat.lt_of_lt_of_le (h.addr h0).2 hs⟩, fun j x hx m u hu => ?_⟩
  have hj : j < n := by rw [← h.len]; exact (List.getElem?_eq_some_iff.1 hx).1
  rw [World.cell?_of_block (a := ⟨b, o + j * k + m, none⟩) (hk (by omega))]
  exact h.at' j x hx m u hu
theorem SlOf.below {α : Type} {k : Nat} {cells : α → List Value} {a : Option Addr} {n c b o : Nat} {l : List α} {w w' : World} {B : Nat} (h : SlOf k cells a n c b o l w) (hb : Below B w w') (hB : w.heap.size ≤ B) : SlOf k cells a n c b o l w' := h.keep (fun h0 => hb.block b (Nat.lt_of_lt_of_le (h.addr h0).2 hB)) hb.size
end Go.Proofs.Ytmjakkemiiigpaa
/-
  A slice of texts that came in, or that a call made: where it lies and what it holds. No condition.
-/
namespace Go.Proofs.Ytmjakkemiiigpaa
set_option maxRecDepth 100000
open Go Go.RowKit Go.ChangeShapes Go.WideShapes Go.Deep
def cellsT (x : ByteArray) : List Value := [.string x]
structure TextsAt (a : Option Addr) (n c b o : Nat) (l : List ByteArray) (w : World) : Prop where
  sl : SlOf 1 cellsT a n c b o l w
  nil : a = none → n = 0 ∧ c = 0
theorem TextsAt.len {a : Option Addr} {n c b o : Nat} {l : List ByteArray} {w : World} (h : TextsAt a n c b o l w) : l.length = n := h.sl.len
theorem TextsAt.addr {a : Option Addr} {n c b o : Nat} {l : List ByteArray} {w : World} (h : TextsAt a n c b o l w) (h0 : 0 < n) : a = some ⟨b, o, none⟩ ∧ b < w.heap.size := h.sl.addr h0
theorem open_texts {H : Type} {enc : TypeId × Value → H} {W : World} {a0 : Option Addr} {len cap fuel : Nat} {x : DataW H × List MemPlace} {ts : List TypeId} {ds : List (DataW H)}
    (hf : DataW.trod enc Try.prog W 0 (fun _ => true) true fuel 58 [.slice a0 len cap] = some x) (hsz : (DataW.weightsEach Try.prog ts ds).all (· ≤ reachBytes) = true) {j : Nat} (ht : ts[j]? = some 58) (hd : ds[j]? = some x.1) :
    ∃ b o l, TextsAt a0 len cap b o l W ∧ ∀ v ∈ l, v.size ≤ reachBytes := by
  have i1 : Try.prog.cellsOf 9 = 1 := by kernel_rfl
  obtain ⟨b, o, l, hs, hg⟩ := open_slice_of (α := ByteArray) 1 Try.underlying58 i1 (by omega) cellsT (fun _ => rfl) (fun _ => True) (fun v => [v.size]) (fun {fuel cs y} h => by
      obtain ⟨s, e0, f0, w0⟩ := DataW.trod_string Try.underlying9 h
      refine ⟨s, e0, trivial, fun n hn => ?_⟩
      simp only [List.mem_cons, List.not_mem_nil, or_false] at hn
      subst hn
      rw [f0]
      simp [DataW.weights]) hf
    (fun m hm => by have := List.all_eq_true.1 hsz _ (DataW.weights_mem_each ht hd m hm); simpa using this)
  refine ⟨b, o, l, ⟨hs, fun hn => ?_⟩, fun v hv => (hg v hv).2 _ (List.mem_cons_self ..)⟩
  rcases DataW.trod_slice Try.underlying58 hf with ⟨hcs, _⟩ | ⟨a, len', cap', elems, rest, n, _, hcs, _⟩
  · simp at hcs
    exact hcs.2
  · simp at hcs
    rw [hcs.1] at hn; cases hn
theorem TextsAt.cell {a : Option Addr} {n c b o : Nat} {l : List ByteArray} {w : World} (h : TextsAt a n c b o l w) {j : Nat} (hj : j < l.length) : w.cell? ⟨b, o + j, none⟩ = some (.string l[j]) := by
  have := h.sl.at' j l[j] (List.getElem?_eq_getElem hj) 0 _ rfl
  simpa using this
theorem TextsAt.below {a : Option Addr} {n c b o : Nat} {l : List ByteArray} {w w' : World} {B : Nat} (h : TextsAt a n c b o l w) (hb : Below B w w') (hB : w.heap.size ≤ B) : TextsAt a n c b o l w' := ⟨h.sl.below hb hB, h.nil⟩
theorem textsAt_none (w : World) : TextsAt none 0 0 0 0 [] w := ⟨⟨rfl, Nat.le_refl _, by omega, fun h => absurd h (by omega), fun j x h => by simp at h⟩, fun _ => ⟨rfl, rfl⟩⟩
theorem textsAt_row {w : World} {B : Nat} {v : Value} {l : List ByteArray} (h : w.ownsRow B 9 1 v l.length (l.map fun s => .string s)) : ∃ a c b, v = .slice a l.length c ∧ TextsAt a l.length c b 0 l w ∧ (0 < l.length → B ≤ b) := by
  rcases h.2 with ⟨rfl, hz⟩ | ⟨g, cap, cur, rfl, hg, hb, hn, hm, hs, ht⟩
  · have : l = [] := List.length_eq_zero_iff.1 hz
    subst this
    exact ⟨none, 0, 0, rfl, textsAt_none w, fun h => absurd h (by simp)⟩
  · refine ⟨_, _, g, rfl, ⟨⟨rfl, hn, hm, fun _ => ⟨rfl, (Array.getElem?_eq_some_iff.1 hb).1⟩, fun j x hx m u hu => ?_⟩, fun e => by cases e⟩, fun _ => hg⟩
    have hj : j < l.length := (List.getElem?_eq_some_iff.1 hx).1
    have hm0 : m = 0 := by
      have := (List.getElem?_eq_some_iff.1 hu).1
      simp [cellsT] at this; exact this
    subst hm0
    have hu' : u = .string x := by simpa [cellsT] using hu.symm
    subst hu'
    refine (World.ownsRow.cellAt h _ (by omega)).trans ?_
    simp [hx]
theorem TextsAt.row {p : Addr} {n c b o : Nat} {l : List ByteArray} {w : World} (h : TextsAt (some p) n c b o l w) (j : Nat) (u : Value) (hu : (l.map fun s => Value.string s)[j]? = some u) : w.cell? (p.add j) = some u := by
  rw [List.getElem?_map] at hu
  obtain ⟨x, hx, rfl⟩ := Option.map_eq_some_iff.1 hu
  have hj : j < l.length := (List.getElem?_eq_some_iff.1 hx).1
  have hn : 0 < n := by have := h.len; omega
  have e := (h.addr hn).1
  simp only [Option.some.injEq] at e
  subst e
  have e1 : (⟨b, o, none⟩ : Addr).add j = ⟨b, o + j, none⟩ := by
    unfold Addr.add
    split
    · rename_i h0; rw [h0]; rfl
    · rfl
  rw [e1, h.cell hj]
  have := (List.getElem?_eq_some_iff.1 hx).2
  rw [this]
end Go.Proofs.Ytmjakkemiiigpaa
