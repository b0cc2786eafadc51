/-
  The contract of the closure that writes a row behind the one that it remembers. Condition: a valid row.
-/
import Derived.Test.YtnmlifagchdphaaBlockBehind
import Derived.Test.YtnmlifagchdphaaBlockCheck
import Derived.Test.YtnmlifagchdphaaCodePutText
import Derived.Test.YtnmlifagchdphaaHeld
import Derived.Test.YtnmlifagchdphaaBut
import Derived.Deep.Cut
import Derived.Deep.DeepCutAuto
namespace Go.Proofs.Ytnmlifagchdphaa
set_option maxRecDepth 100000
open Go.RowKit
theorem putfield_list (D : List UInt8) (h : D.length ≤ 4096) (w : World) :
    Calls Try.prog 43 #[.string ⟨D.toArray⟩] w fun e w' => e = .returned (.string ⟨(Code.uvar D.length ++ D).toArray⟩) ∧ Below w.heap.size w w' := by
  have hz : (⟨D.toArray⟩ : ByteArray).size = D.length := by show D.toArray.size = _; simp
  have := putfield_any ⟨D.toArray⟩ (by rw [hz]; unfold reachBytes; omega) w
  rw [hz] at this
  exact this
theorem text_of (k : Nat) (hk : k < 256) (u : World) (g : Nat) (h0 : u.cell? ⟨g, 0, none⟩ = some (.int .u8 (k : Int))) : (convert 51 9 (.slice (some ⟨g, 0, none⟩) 1 1)).run Try.prog u = .ok (.string ⟨[UInt8.ofNat k].toArray⟩) u := by
  refine run_convert_bytes_back u _ _ 5 ⟨g, 0, none⟩ 1 [UInt8.ofNat k] Try.underlying51 Try.underlying5 Try.underlying9 ?_
  intro j hj
  have : j = 0 := by simpa using hj
  subst this
  simp [Addr.add, h0]
  omega
theorem rowAt_put {b : Nat} {y : Rw} {W : World} (h : RowAt b y W) (x : Rw) : RowAt b x ((((W.setCell ⟨b, 0, none⟩ (.string x.key)).setCell ⟨b, 1, none⟩ (.int .u64 (x.seq : Int))).setCell ⟨b, 2, none⟩ (.int .i64 x.kind)).setCell ⟨b, 3, none⟩ (.string x.val)) :=
  (heap_setCell_same _ _ _ _ _ _ ((heap_setCell_same _ _ _ _ _ _ ((heap_setCell_same _ _ _ _ _ _ ((heap_setCell_same _ _ _ _ _ _ h).trans rfl)).trans rfl)).trans rfl)).trans rfl
theorem but_put4 (b : Nat) (W : World) (x : Rw) : But b W ((((W.setCell ⟨b, 0, none⟩ (.string x.key)).setCell ⟨b, 1, none⟩ (.int .u64 (x.seq : Int))).setCell ⟨b, 2, none⟩ (.int .i64 x.kind)).setCell ⟨b, 3, none⟩ (.string x.val)) :=
  ((((But.refl b W).setCell rfl _).setCell rfl _).setCell rfl _).setCell rfl _
theorem RowAt.but {b c : Nat} {x : Rw} {w w' : World} (h : RowAt c x w) (hb : But b w w') (hc : c ≠ b) : RowAt c x w' := (hb.block c (Array.getElem?_eq_some_iff.1 h).1 hc).trans h
theorem but_new {w w' : World} {b : Nat} {o : Obj} (h : But b (w.alloc o) w') : But b w w' := (But.of_below (below_alloc w o) (Nat.le_refl _)).trans h
set_option maxRecDepth 100000 in
set_option maxHeartbeats 8000000 in
theorem writer_any (x p : Rw) (f : Bool) (b : Nat) (w : World) (hp : RowAt b p w) (hx : chkR x = 0) (hpk : p.key.size ≤ 520) :
    Calls Try.prog 40 #[rowV x, .bool f, .pointer (some ⟨b, 0, none⟩)] w fun e w' => e = .returned (.string ⟨(encX (if f = true then [] else p.key.toList) x).toArray⟩) ∧ RowAt b x w' ∧ But b w w' := by
  obtain ⟨hk, _, hs1, hs2, _, hkl, hvl⟩ := chkR_ok hx
  have hb0 : b < w.heap.size := (Array.getElem?_eq_some_iff.1 hp).1
  have R0 := RowAt.new x w
  have W0 := Lib.hid (below_alloc w (.cells #[.string x.key, .int .u64 (x.seq : Int), .int .i64 x.kind, .string x.val] 33))
  have hp1 := hp.below W0.out
  obtain ⟨P, hP⟩ := named (if f = true then [] else p.key.toList)
  obtain ⟨c, hc⟩ := named (com P x.key.toList)
  have hc1 : c ≤ x.key.size := by rw [hc.out, ← toL_len]; exact (com_le _ _).2
  have hcf : Hid (f = true → c = 0) := Lib.hid (fun hf => by rw [hc.out, hP.out, if_pos hf, com_nil])
  have hcn : Hid (f = false → c = com p.key.toList x.key.toList) := Lib.hid (fun hf => by rw [hc.out, hP.out, if_neg (by rw [hf]; decide)])
  have CM := Lib.hid (fun u => common_any p.key x.key (by unfold maxLen; omega) (by unfold maxLen; omega) u)
  have hE : Hid (encX P x = Code.uvar c ++ (Code.uvar (x.key.toList.drop c).length ++ x.key.toList.drop c) ++ Code.uvar x.seq ++ [UInt8.ofNat x.kind.toNat] ++ valB x) := Lib.hid (by unfold encX; rw [← hc.out])
  have hV1 : Hid (x.kind = 1 → valB x = Code.uvar x.val.size ++ x.val.toList) := Lib.hid (fun h => by unfold valB; rw [if_pos h])
  have hV2 : Hid (x.kind ≠ 1 → valB x = []) := Lib.hid (fun h => by unfold valB; rw [if_neg h])
  rw [← hP.out]
  obtain ⟨E, hE2⟩ := named (encX P x)
  rw [← hE2.out] at hE ⊢
  obtain ⟨VB, hVB⟩ := named (valB x)
  rw [← hVB.out] at hE hV1 hV2
  obtain ⟨k, hk2⟩ : ∃ k : Nat, x.kind = (k : Int) := ⟨x.kind.toNat, by omega⟩
  have hk12 : k = 1 ∨ k = 2 := by omega
  clear hVB hE2 hP hc hk
  obtain ⟨xk, xs, xi, xv⟩ := x
  simp only at *
  subst hk2
  obtain ⟨D, hD⟩ := named (xk.toList.drop c)
  have hDl : D.length ≤ 520 := by rw [hD.out, List.length_drop, toL_len]; omega
  have SLF := sl_from xk c hc1 _ rfl
  rw [← hD.out] at SLF hE
  obtain ⟨A1, hA1⟩ := named (Code.uvar c)
  obtain ⟨A2, hA2⟩ := named (Code.uvar D.length ++ D)
  obtain ⟨A3, hA3⟩ := named (Code.uvar xs)
  obtain ⟨A4, hA4⟩ := named [UInt8.ofNat k]
  have P1 := Lib.hid (fun u => putuint_any c (by omega) u)
  have P2 := Lib.hid (fun u => putfield_list D (by omega) u)
  have P3 := Lib.hid (fun u => putuint_any xs (by omega) u)
  have PV := Lib.hid (fun u => putfield_any xv (by unfold reachBytes; omega) u)
  obtain ⟨A5, hA5⟩ := named (Code.uvar xv.size ++ xv.toList)
  have PV : Hid (∀ u, Calls Try.prog 43 #[.string xv] u fun e w' => e = .returned (.string ⟨A5.toArray⟩) ∧ Below u.heap.size u w') := Lib.hid (by rw [hA5.out, ByteArray.toList_eq]; exact PV.out)
  rw [← hA1.out] at P1 hE
  rw [← hA2.out] at P2 hE
  rw [← hA3.out] at P3 hE
  have T17 : ∀ (u : World) (g : Nat), u.cell? ⟨g, 0, none⟩ = some (.int .u8 (k : Int)) → (convert 51 9 (.slice (some ⟨g, 0, none⟩) 1 1)).run Try.prog u = .ok (.string ⟨A4.toArray⟩) u := by rw [hA4.out]; exact fun u g => text_of k (by omega) u g
  rw [show (k : Int).toNat = k from rfl, ← hA4.out] at hE
  rw [← hA5.out] at hV1
  have a1 : A1.length ≤ 10 := by rw [hA1.out]; exact Code.uvar_ten (by omega)
  have a2 : A2.length ≤ 530 := by rw [hA2.out, List.length_append]; have := Code.uvar_ten (n := D.length) (by omega); omega
  have a3 : A3.length ≤ 10 := by rw [hA3.out]; exact Code.uvar_ten (by omega)
  have a4 : A4.length = 1 := by rw [hA4.out]; rfl
  have a5 : A5.length ≤ 2058 := by rw [hA5.out, List.length_append, toL_len]; have := Code.uvar_ten (n := xv.size) (by omega); omega
  have z1 : ¬ 9223372036854775807 < A1.length + A2.length := by omega
  have z2 : ¬ 9223372036854775807 < A1.length + A2.length + A3.length := by omega
  have z3 : ¬ 9223372036854775807 < A1.length + A2.length + A3.length + A4.length := by omega
  have z4 : ¬ 9223372036854775807 < A1.length + A2.length + A3.length + A4.length + A5.length := by omega
  have w1 : IntKind.u64.wrap (c : Int) = (c : Int) := wrap_u64_nat (by omega)
  have w2 : IntKind.u8.wrap (k : Int) = (k : Int) := by rw [IntKind.wrap_u8]; omega
  clear hD hA1 hA2 hA3 hA4 hA5 hkl hvl hs1 hs2 hx
  replace a4 := Lib.hid a4
  replace hDl := Lib.hid hDl
  obtain ⟨⟨p0, p1, p2, p3⟩, pf⟩ := hp1.cells
  obtain ⟨⟨x0, x1, x2, x3⟩, _⟩ := R0.cells
  simp only at x0 x1 x2 x3
  have pf0 := pf 0
  have pf1 := pf 1
  have pf2 := pf 2
  have pf3 := pf 3
  clear pf
  go_enter Try.func40, Try.ntmps40
  go_upto_if 9 with fail
  go_cut [6] from 9 to 14 (fun s wc => s = .int .i64 (c : Int) ∧ Below (w.alloc (.cells #[.string xk, .int .u64 (xs : Int), .int .i64 (k : Int), .string xv] 33)).heap.size (w.alloc (.cells #[.string xk, .int .u64 (xs : Int), .int .i64 (k : Int), .string xv] 33)) wc)
  case first =>
    cases f with
    | true =>
      have e0 := hcf.out rfl
      subst e0
      go_wp2_with fail
      go_meet
      exact ⟨rfl, Below.refl _ _⟩
    | false =>
      have e0 := hcn.out rfl
      subst e0
      go_wp2_with (go_at_call 41; ((with_reducible refine (CM.out _).mono ?_); rintro e u1 ⟨rfl, hb1⟩))
      go_meet
      exact ⟨rfl, hb1⟩
  case rest =>
    obtain ⟨rfl, hcut⟩ := hcut
    have X1 := R0.below hcut
    have Q1 := hp1.below hcut
    have hne : w.heap.size ≠ b := by omega
    have BV : Hid (But b w ((((wc.setCell ⟨b, 0, none⟩ (.string xk)).setCell ⟨b, 1, none⟩ (.int .u64 (xs : Int))).setCell ⟨b, 2, none⟩ (.int .i64 (k : Int))).setCell ⟨b, 3, none⟩ (.string xv))) := Lib.hid ((But.of_below (W0.out.trans (hcut.mono W0.out.size)) (Nat.le_refl _)).trans (but_put4 b wc ⟨xk, xs, (k : Int), xv⟩))
    have RV := Lib.hid (rowAt_put Q1 ⟨xk, xs, (k : Int), xv⟩)
    have XV := Lib.hid (X1.but (but_put4 b wc ⟨xk, xs, (k : Int), xv⟩) hne)
    simp only at RV XV
    obtain ⟨⟨p0, p1, p2, p3⟩, pf⟩ := Q1.cells
    obtain ⟨⟨x0, x1, x2, x3⟩, _⟩ := X1.cells
    simp only at x0 x1 x2 x3
    have pf0 := pf 0
    have pf1 := pf 1
    have pf2 := pf 2
    have pf3 := pf 3
    clear pf Q1 X1 hcut hp1 hp hcf hcn CM
    go_upto_region 5 with fail
    generalize (((wc.setCell ⟨b, 0, none⟩ (.string xk)).setCell ⟨b, 1, none⟩ (.int .u64 (xs : Int))).setCell ⟨b, 2, none⟩ (.int .i64 (k : Int))).setCell ⟨b, 3, none⟩ (.string xv) = V at *
    clear p0 p1 p2 p3 x0 x1 x2 x3 pf0 pf1 pf2 pf3 W0
    have B0 : Hid (Below V.heap.size V V.drew) := Lib.hid (Below.refl _ V).drew
    have SX : Hid (∀ u, Below V.heap.size V u → (u.cell? ⟨w.heap.size, 0, none⟩ = some (.string xk) ∧ u.cell? ⟨w.heap.size, 1, none⟩ = some (.int .u64 (xs : Int)) ∧ u.cell? ⟨w.heap.size, 2, none⟩ = some (.int .i64 (k : Int))) ∧ Hid (Below V.heap.size V u)) := Lib.hid (fun u hu => by
      obtain ⟨⟨y0, y1, y2, _⟩, _⟩ := (XV.out.below hu).cells
      exact ⟨⟨y0, y1, y2⟩, Lib.hid hu⟩)
    go_cut [7] from 16 to 34 (fun s wc => s = .string (⟨A1.toArray⟩ ++ ⟨A2.toArray⟩ ++ ⟨A3.toArray⟩ ++ ⟨A4.toArray⟩) ∧ Below V.heap.size V wc)
    case first =>
      refine wp_region_held_drew (S := (fun v => (v.cell? ⟨w.heap.size, 0, none⟩ = some (.string xk) ∧ v.cell? ⟨w.heap.size, 1, none⟩ = some (.int .u64 (xs : Int)) ∧ v.cell? ⟨w.heap.size, 2, none⟩ = some (.int .i64 (k : Int))) ∧ Hid (Below V.heap.size V v))) (by kernel_rfl) (SX.out _ B0.out) (fun hHeld => ?_)
      refine held_take (i := 0) (v := ?_) rfl (by kernel_rfl) (by kernel_rfl) (by kernel_rfl) (fun _ _ _ h => h) (by rfl) (fun w hSw => ?_) (by assumption) ?_; rotate_left 1; focus (((try dsimp only at hSw); first | (go_simp; done) | (go_simp; with_reducible rfl)))
      try simp only [Act.put, List.setIfInBounds_toArray, List.set_cons_zero, List.set_cons_succ]
      refine held_take (i := 1) (v := ?_) rfl (by kernel_rfl) (by kernel_rfl) (by kernel_rfl) (fun _ _ _ h => h) (by rfl) (fun w hSw => ?_) (by assumption) ?_; rotate_left 1; focus (((try dsimp only at hSw); first | (go_simp; done) | (go_simp; with_reducible rfl)))
      try simp only [Act.put, List.setIfInBounds_toArray, List.set_cons_zero, List.set_cons_succ]
      refine held_take (i := 3) (v := ?_) rfl (by kernel_rfl) (by kernel_rfl) (by kernel_rfl) (fun _ _ _ h => h) (by rfl) (fun w hSw => ?_) (by assumption) ?_; rotate_left 1; focus (((try dsimp only at hSw); first | (go_simp; done) | (go_simp; with_reducible rfl)))
      try simp only [Act.put, List.setIfInBounds_toArray, List.set_cons_zero, List.set_cons_succ]
      refine held_take (i := 4) (v := ?_) rfl (by kernel_rfl) (by kernel_rfl) (by kernel_rfl) (fun _ _ _ h => h) (by rfl) (fun w hSw => ?_) (by assumption) ?_; rotate_left 1; focus (((try dsimp only at hSw); first | (go_simp; done) | (go_simp; with_reducible rfl)))
      try simp only [Act.put, List.setIfInBounds_toArray, List.set_cons_zero, List.set_cons_succ]
      refine held_take (i := 5) (v := ?_) rfl (by kernel_rfl) (by kernel_rfl) (by kernel_rfl) (fun _ _ _ h => h) (by rfl) (fun w hSw => ?_) (by assumption) ?_; rotate_left 1; focus (((try dsimp only at hSw); first | (go_simp; done) | (go_simp; with_reducible rfl)))
      try simp only [Act.put, List.setIfInBounds_toArray, List.set_cons_zero, List.set_cons_succ]
      refine held_take (i := 6) (v := ?_) rfl (by kernel_rfl) (by kernel_rfl) (by kernel_rfl) (fun _ _ _ h => h) (by rfl) (fun w hSw => ?_) (by assumption) ?_; rotate_left 1; focus (((try dsimp only at hSw); first | (go_simp; done) | (go_simp; with_reducible rfl)))
      try simp only [Act.put, List.setIfInBounds_toArray, List.set_cons_zero, List.set_cons_succ]
      refine held_take (i := 9) (v := ?_) rfl (by kernel_rfl) (by kernel_rfl) (by kernel_rfl) (fun _ _ _ h => h) (by rfl) (fun w hSw => ?_) (by assumption) ?_; rotate_left 1; focus (((try dsimp only at hSw); first | (go_simp; done) | (go_simp; with_reducible rfl)))
      try simp only [Act.put, List.setIfInBounds_toArray, List.set_cons_zero, List.set_cons_succ]
      refine held_take (i := 10) (v := ?_) rfl (by kernel_rfl) (by kernel_rfl) (by kernel_rfl) (fun _ _ _ h => h) (by rfl) (fun w hSw => ?_) (by assumption) ?_; rotate_left 1; focus (((try dsimp only at hSw); first | (go_simp; done) | (go_simp; with_reducible rfl)))
      try simp only [Act.put, List.setIfInBounds_toArray, List.set_cons_zero, List.set_cons_succ]
      refine held_take (i := 13) (v := ?_) rfl (by kernel_rfl) (by kernel_rfl) (by kernel_rfl) (fun _ _ _ h => h) (by rfl) (fun w hSw => ?_) (by assumption) ?_; rotate_left 1; focus (((try dsimp only at hSw); first | (go_simp; done) | (go_simp; with_reducible rfl)))
      try simp only [Act.put, List.setIfInBounds_toArray, List.set_cons_zero, List.set_cons_succ]
      refine held_take (i := 14) (v := ?_) rfl (by kernel_rfl) (by kernel_rfl) (by kernel_rfl) (fun _ _ _ h => h) (by rfl) (fun w hSw => ?_) (by assumption) ?_; rotate_left 1; focus (((try dsimp only at hSw); first | (go_simp; done) | (go_simp; with_reducible rfl)))
      try simp only [Act.put, List.setIfInBounds_toArray, List.set_cons_zero, List.set_cons_succ]
      refine held_take (i := 15) (v := ?_) rfl (by kernel_rfl) (by kernel_rfl) (by kernel_rfl) (fun _ _ _ h => h) (by rfl) (fun w hSw => ?_) (by assumption) ?_; rotate_left 1; focus (((try dsimp only at hSw); first | (go_simp; done) | (go_simp; with_reducible rfl)))
      try simp only [Act.put, List.setIfInBounds_toArray, List.set_cons_zero, List.set_cons_succ]
      refine held_two (i := 2) (j := 16) (by kernel_rfl) rfl rfl (by rfl) (by rfl) (fun K hK => ?_) (fun K hK => ?_)
      · go_simp
        (go_at_call 42; ((with_reducible refine (P1.out _).mono ?_); rintro e u2 ⟨rfl, hb2⟩))
        have B2 := Lib.hid (below_of (w := V) B0.out hb2)
        clear hb2
        refine hK.out _ _ (SX.out _ B2.out) (fun hHeld => ?_)
        try simp only [Act.put, List.setIfInBounds_toArray, List.set_cons_zero, List.set_cons_succ]
        refine held_two (i := 7) (j := 16) (by kernel_rfl) rfl rfl (by rfl) (by rfl) (fun K hK => ?_) (fun K hK => ?_)
        · go_simp
          (go_at_call 43; ((with_reducible refine (P2.out _).mono ?_); rintro e u7 ⟨rfl, hb7⟩))
          have B7 := Lib.hid (below_of (w := V) B2.out hb7)
          clear hb7
          refine hK.out _ _ (SX.out _ B7.out) (fun hHeld => ?_)
          try simp only [Act.put, List.setIfInBounds_toArray, List.set_cons_zero, List.set_cons_succ]
          refine held_take (i := 8) (v := ?_) rfl (by kernel_rfl) (by kernel_rfl) (by kernel_rfl) (fun _ _ _ h => h) (by rfl) (fun w hSw => ?_) (by assumption) ?_; rotate_left 1; focus (((try dsimp only at hSw); first | (go_simp; done) | (go_simp; with_reducible rfl)))
          try simp only [Act.put, List.setIfInBounds_toArray, List.set_cons_zero, List.set_cons_succ]
          refine held_two (i := 11) (j := 16) (by kernel_rfl) rfl rfl (by rfl) (by rfl) (fun K hK => ?_) (fun K hK => ?_)
          · go_simp
            (go_at_call 42; ((with_reducible refine (P3.out _).mono ?_); rintro e u11 ⟨rfl, hb11⟩))
            have B11 := Lib.hid (below_of (w := V) B7.out hb11)
            clear hb11
            refine hK.out _ _ (SX.out _ B11.out) (fun hHeld => ?_)
            try simp only [Act.put, List.setIfInBounds_toArray, List.set_cons_zero, List.set_cons_succ]
            refine held_take (i := 12) (v := ?_) rfl (by kernel_rfl) (by kernel_rfl) (by kernel_rfl) (fun _ _ _ h => h) (by rfl) (fun w hSw => ?_) (by assumption) ?_; rotate_left 1; focus (((try dsimp only at hSw); first | (go_simp; done) | (go_simp; with_reducible rfl)))
            try simp only [Act.put, List.setIfInBounds_toArray, List.set_cons_zero, List.set_cons_succ]
            refine held_call (i := 16) (by kernel_rfl) rfl (by rfl) (fun K hK => ?_)
            go_simp
            have B16' := Lib.hid (below_of (w := V) B11.out (below_alloc u11 (.cells #[.int .u8 (k : Int)] 5)))
            have c17' : (u11.alloc (.cells #[.int .u8 (k : Int)] 5)).cell? ⟨u11.heap.size, 0, none⟩ = some (.int .u8 (k : Int)) := by rw [World.cell?_alloc_new]; rfl
            obtain ⟨u16, hu16⟩ := named (u11.alloc (.cells #[.int .u8 (k : Int)] 5))
            rw [← hu16.out] at B16' c17'
            have B16 := B16'
            have c17 := c17'
            clear B16' c17'
            refine hK.out _ _ (by rw [← hu16.out]; exact SX.out _ B16.out) (fun hHeld => ?_)
            rw [← hu16.out] at hHeld ⊢
            try simp only [Act.put, List.setIfInBounds_toArray, List.set_cons_zero, List.set_cons_succ]
            refine held_call (i := 17) (by kernel_rfl) rfl (by rfl) (fun K hK => ?_)
            go_simp
            clear c17
            refine hK.out _ _ hHeld (fun hHeld => ?_)
            try simp only [Act.put, List.setIfInBounds_toArray, List.set_cons_zero, List.set_cons_succ]
            refine held_take (i := 18) (v := ?_) rfl (by kernel_rfl) (by kernel_rfl) (by kernel_rfl) (fun _ _ _ h => h) (by rfl) (fun w hSw => ?_) (by assumption) ?_; rotate_left 1; focus (((try dsimp only at hSw); first | (go_simp; done) | (go_simp; with_reducible rfl)))
            try simp only [Act.put, List.setIfInBounds_toArray, List.set_cons_zero, List.set_cons_succ]
            refine held_take (i := 19) (v := ?_) rfl (by kernel_rfl) (by kernel_rfl) (by kernel_rfl) (fun _ _ _ h => h) (by rfl) (fun w hSw => ?_) (by assumption) ?_; rotate_left 1; focus (((try dsimp only at hSw); first | (go_simp; done) | (go_simp; with_reducible rfl)))
            try simp only [Act.put, List.setIfInBounds_toArray, List.set_cons_zero, List.set_cons_succ]
            refine wpAnyH_done (by kernel_rfl) ?_ _
            go_wp2_with fail
            go_meet
            exact ⟨rfl, hHeld.2.out⟩
          · go_simp
            have B16' := Lib.hid (below_of (w := V) B7.out (below_alloc u7 (.cells #[.int .u8 (k : Int)] 5)))
            have c17' : (u7.alloc (.cells #[.int .u8 (k : Int)] 5)).cell? ⟨u7.heap.size, 0, none⟩ = some (.int .u8 (k : Int)) := by rw [World.cell?_alloc_new]; rfl
            obtain ⟨u16, hu16⟩ := named (u7.alloc (.cells #[.int .u8 (k : Int)] 5))
            rw [← hu16.out] at B16' c17'
            have B16 := B16'
            have c17 := c17'
            clear B16' c17'
            refine hK.out _ _ (by rw [← hu16.out]; exact SX.out _ B16.out) (fun hHeld => ?_)
            rw [← hu16.out] at hHeld ⊢
            try simp only [Act.put, List.setIfInBounds_toArray, List.set_cons_zero, List.set_cons_succ]
            refine held_two (i := 11) (j := 17) (by kernel_rfl) rfl rfl (by rfl) (by rfl) (fun K hK => ?_) (fun K hK => ?_)
            · go_simp
              (go_at_call 42; ((with_reducible refine (P3.out _).mono ?_); rintro e u11 ⟨rfl, hb11⟩))
              have B11 := Lib.hid (below_of (w := V) B16.out hb11)
              have c17 := cell_keep hb11 c17
              clear hb11
              refine hK.out _ _ (SX.out _ B11.out) (fun hHeld => ?_)
              try simp only [Act.put, List.setIfInBounds_toArray, List.set_cons_zero, List.set_cons_succ]
              refine held_take (i := 12) (v := ?_) rfl (by kernel_rfl) (by kernel_rfl) (by kernel_rfl) (fun _ _ _ h => h) (by rfl) (fun w hSw => ?_) (by assumption) ?_; rotate_left 1; focus (((try dsimp only at hSw); first | (go_simp; done) | (go_simp; with_reducible rfl)))
              try simp only [Act.put, List.setIfInBounds_toArray, List.set_cons_zero, List.set_cons_succ]
              refine held_call (i := 17) (by kernel_rfl) rfl (by rfl) (fun K hK => ?_)
              go_simp
              clear c17
              refine hK.out _ _ hHeld (fun hHeld => ?_)
              try simp only [Act.put, List.setIfInBounds_toArray, List.set_cons_zero, List.set_cons_succ]
              refine held_take (i := 18) (v := ?_) rfl (by kernel_rfl) (by kernel_rfl) (by kernel_rfl) (fun _ _ _ h => h) (by rfl) (fun w hSw => ?_) (by assumption) ?_; rotate_left 1; focus (((try dsimp only at hSw); first | (go_simp; done) | (go_simp; with_reducible rfl)))
              try simp only [Act.put, List.setIfInBounds_toArray, List.set_cons_zero, List.set_cons_succ]
              refine held_take (i := 19) (v := ?_) rfl (by kernel_rfl) (by kernel_rfl) (by kernel_rfl) (fun _ _ _ h => h) (by rfl) (fun w hSw => ?_) (by assumption) ?_; rotate_left 1; focus (((try dsimp only at hSw); first | (go_simp; done) | (go_simp; with_reducible rfl)))
              try simp only [Act.put, List.setIfInBounds_toArray, List.set_cons_zero, List.set_cons_succ]
              refine wpAnyH_done (by kernel_rfl) ?_ _
              go_wp2_with fail
              go_meet
              exact ⟨rfl, hHeld.2.out⟩
            · go_simp
              clear c17
              refine hK.out _ _ hHeld (fun hHeld => ?_)
              try simp only [Act.put, List.setIfInBounds_toArray, List.set_cons_zero, List.set_cons_succ]
              refine held_call (i := 11) (by kernel_rfl) rfl (by rfl) (fun K hK => ?_)
              go_simp
              (go_at_call 42; ((with_reducible refine (P3.out _).mono ?_); rintro e u11 ⟨rfl, hb11⟩))
              have B11 := Lib.hid (below_of (w := V) B16.out hb11)
              clear hb11
              refine hK.out _ _ (SX.out _ B11.out) (fun hHeld => ?_)
              try simp only [Act.put, List.setIfInBounds_toArray, List.set_cons_zero, List.set_cons_succ]
              refine held_take (i := 12) (v := ?_) rfl (by kernel_rfl) (by kernel_rfl) (by kernel_rfl) (fun _ _ _ h => h) (by rfl) (fun w hSw => ?_) (by assumption) ?_; rotate_left 1; focus (((try dsimp only at hSw); first | (go_simp; done) | (go_simp; with_reducible rfl)))
              try simp only [Act.put, List.setIfInBounds_toArray, List.set_cons_zero, List.set_cons_succ]
              refine held_take (i := 18) (v := ?_) rfl (by kernel_rfl) (by kernel_rfl) (by kernel_rfl) (fun _ _ _ h => h) (by rfl) (fun w hSw => ?_) (by assumption) ?_; rotate_left 1; focus (((try dsimp only at hSw); first | (go_simp; done) | (go_simp; with_reducible rfl)))
              try simp only [Act.put, List.setIfInBounds_toArray, List.set_cons_zero, List.set_cons_succ]
              refine held_take (i := 19) (v := ?_) rfl (by kernel_rfl) (by kernel_rfl) (by kernel_rfl) (fun _ _ _ h => h) (by rfl) (fun w hSw => ?_) (by assumption) ?_; rotate_left 1; focus (((try dsimp only at hSw); first | (go_simp; done) | (go_simp; with_reducible rfl)))
              try simp only [Act.put, List.setIfInBounds_toArray, List.set_cons_zero, List.set_cons_succ]
              refine wpAnyH_done (by kernel_rfl) ?_ _
              go_wp2_with fail
              go_meet
              exact ⟨rfl, hHeld.2.out⟩
        · go_simp
          have B16' := Lib.hid (below_of (w := V) B2.out (below_alloc u2 (.cells #[.int .u8 (k : Int)] 5)))
          have c17' : (u2.alloc (.cells #[.int .u8 (k : Int)] 5)).cell? ⟨u2.heap.size, 0, none⟩ = some (.int .u8 (k : Int)) := by rw [World.cell?_alloc_new]; rfl
          obtain ⟨u16, hu16⟩ := named (u2.alloc (.cells #[.int .u8 (k : Int)] 5))
          rw [← hu16.out] at B16' c17'
          have B16 := B16'
          have c17 := c17'
          clear B16' c17'
          refine hK.out _ _ (by rw [← hu16.out]; exact SX.out _ B16.out) (fun hHeld => ?_)
          rw [← hu16.out] at hHeld ⊢
          try simp only [Act.put, List.setIfInBounds_toArray, List.set_cons_zero, List.set_cons_succ]
          refine held_two (i := 7) (j := 17) (by kernel_rfl) rfl rfl (by rfl) (by rfl) (fun K hK => ?_) (fun K hK => ?_)
          · go_simp
            (go_at_call 43; ((with_reducible refine (P2.out _).mono ?_); rintro e u7 ⟨rfl, hb7⟩))
            have B7 := Lib.hid (below_of (w := V) B16.out hb7)
            have c17 := cell_keep hb7 c17
            clear hb7
            refine hK.out _ _ (SX.out _ B7.out) (fun hHeld => ?_)
            try simp only [Act.put, List.setIfInBounds_toArray, List.set_cons_zero, List.set_cons_succ]
            refine held_take (i := 8) (v := ?_) rfl (by kernel_rfl) (by kernel_rfl) (by kernel_rfl) (fun _ _ _ h => h) (by rfl) (fun w hSw => ?_) (by assumption) ?_; rotate_left 1; focus (((try dsimp only at hSw); first | (go_simp; done) | (go_simp; with_reducible rfl)))
            try simp only [Act.put, List.setIfInBounds_toArray, List.set_cons_zero, List.set_cons_succ]
            refine held_two (i := 11) (j := 17) (by kernel_rfl) rfl rfl (by rfl) (by rfl) (fun K hK => ?_) (fun K hK => ?_)
            · go_simp
              (go_at_call 42; ((with_reducible refine (P3.out _).mono ?_); rintro e u11 ⟨rfl, hb11⟩))
              have B11 := Lib.hid (below_of (w := V) B7.out hb11)
              have c17 := cell_keep hb11 c17
              clear hb11
              refine hK.out _ _ (SX.out _ B11.out) (fun hHeld => ?_)
              try simp only [Act.put, List.setIfInBounds_toArray, List.set_cons_zero, List.set_cons_succ]
              refine held_take (i := 12) (v := ?_) rfl (by kernel_rfl) (by kernel_rfl) (by kernel_rfl) (fun _ _ _ h => h) (by rfl) (fun w hSw => ?_) (by assumption) ?_; rotate_left 1; focus (((try dsimp only at hSw); first | (go_simp; done) | (go_simp; with_reducible rfl)))
              try simp only [Act.put, List.setIfInBounds_toArray, List.set_cons_zero, List.set_cons_succ]
              refine held_call (i := 17) (by kernel_rfl) rfl (by rfl) (fun K hK => ?_)
              go_simp
              clear c17
              refine hK.out _ _ hHeld (fun hHeld => ?_)
              try simp only [Act.put, List.setIfInBounds_toArray, List.set_cons_zero, List.set_cons_succ]
              refine held_take (i := 18) (v := ?_) rfl (by kernel_rfl) (by kernel_rfl) (by kernel_rfl) (fun _ _ _ h => h) (by rfl) (fun w hSw => ?_) (by assumption) ?_; rotate_left 1; focus (((try dsimp only at hSw); first | (go_simp; done) | (go_simp; with_reducible rfl)))
              try simp only [Act.put, List.setIfInBounds_toArray, List.set_cons_zero, List.set_cons_succ]
              refine held_take (i := 19) (v := ?_) rfl (by kernel_rfl) (by kernel_rfl) (by kernel_rfl) (fun _ _ _ h => h) (by rfl) (fun w hSw => ?_) (by assumption) ?_; rotate_left 1; focus (((try dsimp only at hSw); first | (go_simp; done) | (go_simp; with_reducible rfl)))
              try simp only [Act.put, List.setIfInBounds_toArray, List.set_cons_zero, List.set_cons_succ]
              refine wpAnyH_done (by kernel_rfl) ?_ _
              go_wp2_with fail
              go_meet
              exact ⟨rfl, hHeld.2.out⟩
            · go_simp
              clear c17
              refine hK.out _ _ hHeld (fun hHeld => ?_)
              try simp only [Act.put, List.setIfInBounds_toArray, List.set_cons_zero, List.set_cons_succ]
              refine held_call (i := 11) (by kernel_rfl) rfl (by rfl) (fun K hK => ?_)
              go_simp
              (go_at_call 42; ((with_reducible refine (P3.out _).mono ?_); rintro e u11 ⟨rfl, hb11⟩))
              have B11 := Lib.hid (below_of (w := V) B7.out hb11)
              clear hb11
              refine hK.out _ _ (SX.out _ B11.out) (fun hHeld => ?_)
              try simp only [Act.put, List.setIfInBounds_toArray, List.set_cons_zero, List.set_cons_succ]
              refine held_take (i := 12) (v := ?_) rfl (by kernel_rfl) (by kernel_rfl) (by kernel_rfl) (fun _ _ _ h => h) (by rfl) (fun w hSw => ?_) (by assumption) ?_; rotate_left 1; focus (((try dsimp only at hSw); first | (go_simp; done) | (go_simp; with_reducible rfl)))
              try simp only [Act.put, List.setIfInBounds_toArray, List.set_cons_zero, List.set_cons_succ]
              refine held_take (i := 18) (v := ?_) rfl (by kernel_rfl) (by kernel_rfl) (by kernel_rfl) (fun _ _ _ h => h) (by rfl) (fun w hSw => ?_) (by assumption) ?_; rotate_left 1; focus (((try dsimp only at hSw); first | (go_simp; done) | (go_simp; with_reducible rfl)))
              try simp only [Act.put, List.setIfInBounds_toArray, List.set_cons_zero, List.set_cons_succ]
              refine held_take (i := 19) (v := ?_) rfl (by kernel_rfl) (by kernel_rfl) (by kernel_rfl) (fun _ _ _ h => h) (by rfl) (fun w hSw => ?_) (by assumption) ?_; rotate_left 1; focus (((try dsimp only at hSw); first | (go_simp; done) | (go_simp; with_reducible rfl)))
              try simp only [Act.put, List.setIfInBounds_toArray, List.set_cons_zero, List.set_cons_succ]
              refine wpAnyH_done (by kernel_rfl) ?_ _
              go_wp2_with fail
              go_meet
              exact ⟨rfl, hHeld.2.out⟩
          · go_simp
            clear c17
            refine hK.out _ _ hHeld (fun hHeld => ?_)
            try simp only [Act.put, List.setIfInBounds_toArray, List.set_cons_zero, List.set_cons_succ]
            refine held_call (i := 7) (by kernel_rfl) rfl (by rfl) (fun K hK => ?_)
            go_simp
            (go_at_call 43; ((with_reducible refine (P2.out _).mono ?_); rintro e u7 ⟨rfl, hb7⟩))
            have B7 := Lib.hid (below_of (w := V) B16.out hb7)
            clear hb7
            refine hK.out _ _ (SX.out _ B7.out) (fun hHeld => ?_)
            try simp only [Act.put, List.setIfInBounds_toArray, List.set_cons_zero, List.set_cons_succ]
            refine held_take (i := 8) (v := ?_) rfl (by kernel_rfl) (by kernel_rfl) (by kernel_rfl) (fun _ _ _ h => h) (by rfl) (fun w hSw => ?_) (by assumption) ?_; rotate_left 1; focus (((try dsimp only at hSw); first | (go_simp; done) | (go_simp; with_reducible rfl)))
            try simp only [Act.put, List.setIfInBounds_toArray, List.set_cons_zero, List.set_cons_succ]
            refine held_call (i := 11) (by kernel_rfl) rfl (by rfl) (fun K hK => ?_)
            go_simp
            (go_at_call 42; ((with_reducible refine (P3.out _).mono ?_); rintro e u11 ⟨rfl, hb11⟩))
            have B11 := Lib.hid (below_of (w := V) B7.out hb11)
            clear hb11
            refine hK.out _ _ (SX.out _ B11.out) (fun hHeld => ?_)
            try simp only [Act.put, List.setIfInBounds_toArray, List.set_cons_zero, List.set_cons_succ]
            refine held_take (i := 12) (v := ?_) rfl (by kernel_rfl) (by kernel_rfl) (by kernel_rfl) (fun _ _ _ h => h) (by rfl) (fun w hSw => ?_) (by assumption) ?_; rotate_left 1; focus (((try dsimp only at hSw); first | (go_simp; done) | (go_simp; with_reducible rfl)))
            try simp only [Act.put, List.setIfInBounds_toArray, List.set_cons_zero, List.set_cons_succ]
            refine held_take (i := 18) (v := ?_) rfl (by kernel_rfl) (by kernel_rfl) (by kernel_rfl) (fun _ _ _ h => h) (by rfl) (fun w hSw => ?_) (by assumption) ?_; rotate_left 1; focus (((try dsimp only at hSw); first | (go_simp; done) | (go_simp; with_reducible rfl)))
            try simp only [Act.put, List.setIfInBounds_toArray, List.set_cons_zero, List.set_cons_succ]
            refine held_take (i := 19) (v := ?_) rfl (by kernel_rfl) (by kernel_rfl) (by kernel_rfl) (fun _ _ _ h => h) (by rfl) (fun w hSw => ?_) (by assumption) ?_; rotate_left 1; focus (((try dsimp only at hSw); first | (go_simp; done) | (go_simp; with_reducible rfl)))
            try simp only [Act.put, List.setIfInBounds_toArray, List.set_cons_zero, List.set_cons_succ]
            refine wpAnyH_done (by kernel_rfl) ?_ _
            go_wp2_with fail
            go_meet
            exact ⟨rfl, hHeld.2.out⟩
      · go_simp
        have B16' := Lib.hid (below_alloc V (.cells #[.int .u8 (k : Int)] 5)).drew
        have c17' : (V.alloc (.cells #[.int .u8 (k : Int)] 5)).drew.cell? ⟨V.heap.size, 0, none⟩ = some (.int .u8 (k : Int)) := by show (V.alloc (.cells #[.int .u8 (k : Int)] 5)).cell? _ = _; rw [World.cell?_alloc_new]; rfl
        obtain ⟨u16, hu16⟩ := named (V.alloc (.cells #[.int .u8 (k : Int)] 5)).drew
        rw [← hu16.out] at B16' c17'
        have B16 := B16'
        have c17 := c17'
        clear B16' c17'
        refine hK.out _ _ (by rw [← hu16.out]; exact SX.out _ B16.out) (fun hHeld => ?_)
        rw [← hu16.out] at hHeld ⊢
        try simp only [Act.put, List.setIfInBounds_toArray, List.set_cons_zero, List.set_cons_succ]
        refine held_two (i := 2) (j := 17) (by kernel_rfl) rfl rfl (by rfl) (by rfl) (fun K hK => ?_) (fun K hK => ?_)
        · go_simp
          (go_at_call 42; ((with_reducible refine (P1.out _).mono ?_); rintro e u2 ⟨rfl, hb2⟩))
          have B2 := Lib.hid (below_of (w := V) B16.out hb2)
          have c17 := cell_keep hb2 c17
          clear hb2
          refine hK.out _ _ (SX.out _ B2.out) (fun hHeld => ?_)
          try simp only [Act.put, List.setIfInBounds_toArray, List.set_cons_zero, List.set_cons_succ]
          refine held_two (i := 7) (j := 17) (by kernel_rfl) rfl rfl (by rfl) (by rfl) (fun K hK => ?_) (fun K hK => ?_)
          · go_simp
            (go_at_call 43; ((with_reducible refine (P2.out _).mono ?_); rintro e u7 ⟨rfl, hb7⟩))
            have B7 := Lib.hid (below_of (w := V) B2.out hb7)
            have c17 := cell_keep hb7 c17
            clear hb7
            refine hK.out _ _ (SX.out _ B7.out) (fun hHeld => ?_)
            try simp only [Act.put, List.setIfInBounds_toArray, List.set_cons_zero, List.set_cons_succ]
            refine held_take (i := 8) (v := ?_) rfl (by kernel_rfl) (by kernel_rfl) (by kernel_rfl) (fun _ _ _ h => h) (by rfl) (fun w hSw => ?_) (by assumption) ?_; rotate_left 1; focus (((try dsimp only at hSw); first | (go_simp; done) | (go_simp; with_reducible rfl)))
            try simp only [Act.put, List.setIfInBounds_toArray, List.set_cons_zero, List.set_cons_succ]
            refine held_two (i := 11) (j := 17) (by kernel_rfl) rfl rfl (by rfl) (by rfl) (fun K hK => ?_) (fun K hK => ?_)
            · go_simp
              (go_at_call 42; ((with_reducible refine (P3.out _).mono ?_); rintro e u11 ⟨rfl, hb11⟩))
              have B11 := Lib.hid (below_of (w := V) B7.out hb11)
              have c17 := cell_keep hb11 c17
              clear hb11
              refine hK.out _ _ (SX.out _ B11.out) (fun hHeld => ?_)
              try simp only [Act.put, List.setIfInBounds_toArray, List.set_cons_zero, List.set_cons_succ]
              refine held_take (i := 12) (v := ?_) rfl (by kernel_rfl) (by kernel_rfl) (by kernel_rfl) (fun _ _ _ h => h) (by rfl) (fun w hSw => ?_) (by assumption) ?_; rotate_left 1; focus (((try dsimp only at hSw); first | (go_simp; done) | (go_simp; with_reducible rfl)))
              try simp only [Act.put, List.setIfInBounds_toArray, List.set_cons_zero, List.set_cons_succ]
              refine held_call (i := 17) (by kernel_rfl) rfl (by rfl) (fun K hK => ?_)
              go_simp
              clear c17
              refine hK.out _ _ hHeld (fun hHeld => ?_)
              try simp only [Act.put, List.setIfInBounds_toArray, List.set_cons_zero, List.set_cons_succ]
              refine held_take (i := 18) (v := ?_) rfl (by kernel_rfl) (by kernel_rfl) (by kernel_rfl) (fun _ _ _ h => h) (by rfl) (fun w hSw => ?_) (by assumption) ?_; rotate_left 1; focus (((try dsimp only at hSw); first | (go_simp; done) | (go_simp; with_reducible rfl)))
              try simp only [Act.put, List.setIfInBounds_toArray, List.set_cons_zero, List.set_cons_succ]
              refine held_take (i := 19) (v := ?_) rfl (by kernel_rfl) (by kernel_rfl) (by kernel_rfl) (fun _ _ _ h => h) (by rfl) (fun w hSw => ?_) (by assumption) ?_; rotate_left 1; focus (((try dsimp only at hSw); first | (go_simp; done) | (go_simp; with_reducible rfl)))
              try simp only [Act.put, List.setIfInBounds_toArray, List.set_cons_zero, List.set_cons_succ]
              refine wpAnyH_done (by kernel_rfl) ?_ _
              go_wp2_with fail
              go_meet
              exact ⟨rfl, hHeld.2.out⟩
            · go_simp
              clear c17
              refine hK.out _ _ hHeld (fun hHeld => ?_)
              try simp only [Act.put, List.setIfInBounds_toArray, List.set_cons_zero, List.set_cons_succ]
              refine held_call (i := 11) (by kernel_rfl) rfl (by rfl) (fun K hK => ?_)
              go_simp
              (go_at_call 42; ((with_reducible refine (P3.out _).mono ?_); rintro e u11 ⟨rfl, hb11⟩))
              have B11 := Lib.hid (below_of (w := V) B7.out hb11)
              clear hb11
              refine hK.out _ _ (SX.out _ B11.out) (fun hHeld => ?_)
              try simp only [Act.put, List.setIfInBounds_toArray, List.set_cons_zero, List.set_cons_succ]
              refine held_take (i := 12) (v := ?_) rfl (by kernel_rfl) (by kernel_rfl) (by kernel_rfl) (fun _ _ _ h => h) (by rfl) (fun w hSw => ?_) (by assumption) ?_; rotate_left 1; focus (((try dsimp only at hSw); first | (go_simp; done) | (go_simp; with_reducible rfl)))
              try simp only [Act.put, List.setIfInBounds_toArray, List.set_cons_zero, List.set_cons_succ]
              refine held_take (i := 18) (v := ?_) rfl (by kernel_rfl) (by kernel_rfl) (by kernel_rfl) (fun _ _ _ h => h) (by rfl) (fun w hSw => ?_) (by assumption) ?_; rotate_left 1; focus (((try dsimp only at hSw); first | (go_simp; done) | (go_simp; with_reducible rfl)))
              try simp only [Act.put, List.setIfInBounds_toArray, List.set_cons_zero, List.set_cons_succ]
              refine held_take (i := 19) (v := ?_) rfl (by kernel_rfl) (by kernel_rfl) (by kernel_rfl) (fun _ _ _ h => h) (by rfl) (fun w hSw => ?_) (by assumption) ?_; rotate_left 1; focus (((try dsimp only at hSw); first | (go_simp; done) | (go_simp; with_reducible rfl)))
              try simp only [Act.put, List.setIfInBounds_toArray, List.set_cons_zero, List.set_cons_succ]
              refine wpAnyH_done (by kernel_rfl) ?_ _
              go_wp2_with fail
              go_meet
              exact ⟨rfl, hHeld.2.out⟩
          · go_simp
            clear c17
            refine hK.out _ _ hHeld (fun hHeld => ?_)
            try simp only [Act.put, List.setIfInBounds_toArray, List.set_cons_zero, List.set_cons_succ]
            refine held_call (i := 7) (by kernel_rfl) rfl (by rfl) (fun K hK => ?_)
            go_simp
            (go_at_call 43; ((with_reducible refine (P2.out _).mono ?_); rintro e u7 ⟨rfl, hb7⟩))
            have B7 := Lib.hid (below_of (w := V) B2.out hb7)
            clear hb7
            refine hK.out _ _ (SX.out _ B7.out) (fun hHeld => ?_)
            try simp only [Act.put, List.setIfInBounds_toArray, List.set_cons_zero, List.set_cons_succ]
            refine held_take (i := 8) (v := ?_) rfl (by kernel_rfl) (by kernel_rfl) (by kernel_rfl) (fun _ _ _ h => h) (by rfl) (fun w hSw => ?_) (by assumption) ?_; rotate_left 1; focus (((try dsimp only at hSw); first | (go_simp; done) | (go_simp; with_reducible rfl)))
            try simp only [Act.put, List.setIfInBounds_toArray, List.set_cons_zero, List.set_cons_succ]
            refine held_call (i := 11) (by kernel_rfl) rfl (by rfl) (fun K hK => ?_)
            go_simp
            (go_at_call 42; ((with_reducible refine (P3.out _).mono ?_); rintro e u11 ⟨rfl, hb11⟩))
            have B11 := Lib.hid (below_of (w := V) B7.out hb11)
            clear hb11
            refine hK.out _ _ (SX.out _ B11.out) (fun hHeld => ?_)
            try simp only [Act.put, List.setIfInBounds_toArray, List.set_cons_zero, List.set_cons_succ]
            refine held_take (i := 12) (v := ?_) rfl (by kernel_rfl) (by kernel_rfl) (by kernel_rfl) (fun _ _ _ h => h) (by rfl) (fun w hSw => ?_) (by assumption) ?_; rotate_left 1; focus (((try dsimp only at hSw); first | (go_simp; done) | (go_simp; with_reducible rfl)))
            try simp only [Act.put, List.setIfInBounds_toArray, List.set_cons_zero, List.set_cons_succ]
            refine held_take (i := 18) (v := ?_) rfl (by kernel_rfl) (by kernel_rfl) (by kernel_rfl) (fun _ _ _ h => h) (by rfl) (fun w hSw => ?_) (by assumption) ?_; rotate_left 1; focus (((try dsimp only at hSw); first | (go_simp; done) | (go_simp; with_reducible rfl)))
            try simp only [Act.put, List.setIfInBounds_toArray, List.set_cons_zero, List.set_cons_succ]
            refine held_take (i := 19) (v := ?_) rfl (by kernel_rfl) (by kernel_rfl) (by kernel_rfl) (fun _ _ _ h => h) (by rfl) (fun w hSw => ?_) (by assumption) ?_; rotate_left 1; focus (((try dsimp only at hSw); first | (go_simp; done) | (go_simp; with_reducible rfl)))
            try simp only [Act.put, List.setIfInBounds_toArray, List.set_cons_zero, List.set_cons_succ]
            refine wpAnyH_done (by kernel_rfl) ?_ _
            go_wp2_with fail
            go_meet
            exact ⟨rfl, hHeld.2.out⟩
        · go_simp
          clear c17
          refine hK.out _ _ hHeld (fun hHeld => ?_)
          try simp only [Act.put, List.setIfInBounds_toArray, List.set_cons_zero, List.set_cons_succ]
          refine held_call (i := 2) (by kernel_rfl) rfl (by rfl) (fun K hK => ?_)
          go_simp
          (go_at_call 42; ((with_reducible refine (P1.out _).mono ?_); rintro e u2 ⟨rfl, hb2⟩))
          have B2 := Lib.hid (below_of (w := V) B16.out hb2)
          clear hb2
          refine hK.out _ _ (SX.out _ B2.out) (fun hHeld => ?_)
          try simp only [Act.put, List.setIfInBounds_toArray, List.set_cons_zero, List.set_cons_succ]
          refine held_call (i := 7) (by kernel_rfl) rfl (by rfl) (fun K hK => ?_)
          go_simp
          (go_at_call 43; ((with_reducible refine (P2.out _).mono ?_); rintro e u7 ⟨rfl, hb7⟩))
          have B7 := Lib.hid (below_of (w := V) B2.out hb7)
          clear hb7
          refine hK.out _ _ (SX.out _ B7.out) (fun hHeld => ?_)
          try simp only [Act.put, List.setIfInBounds_toArray, List.set_cons_zero, List.set_cons_succ]
          refine held_take (i := 8) (v := ?_) rfl (by kernel_rfl) (by kernel_rfl) (by kernel_rfl) (fun _ _ _ h => h) (by rfl) (fun w hSw => ?_) (by assumption) ?_; rotate_left 1; focus (((try dsimp only at hSw); first | (go_simp; done) | (go_simp; with_reducible rfl)))
          try simp only [Act.put, List.setIfInBounds_toArray, List.set_cons_zero, List.set_cons_succ]
          refine held_call (i := 11) (by kernel_rfl) rfl (by rfl) (fun K hK => ?_)
          go_simp
          (go_at_call 42; ((with_reducible refine (P3.out _).mono ?_); rintro e u11 ⟨rfl, hb11⟩))
          have B11 := Lib.hid (below_of (w := V) B7.out hb11)
          clear hb11
          refine hK.out _ _ (SX.out _ B11.out) (fun hHeld => ?_)
          try simp only [Act.put, List.setIfInBounds_toArray, List.set_cons_zero, List.set_cons_succ]
          refine held_take (i := 12) (v := ?_) rfl (by kernel_rfl) (by kernel_rfl) (by kernel_rfl) (fun _ _ _ h => h) (by rfl) (fun w hSw => ?_) (by assumption) ?_; rotate_left 1; focus (((try dsimp only at hSw); first | (go_simp; done) | (go_simp; with_reducible rfl)))
          try simp only [Act.put, List.setIfInBounds_toArray, List.set_cons_zero, List.set_cons_succ]
          refine held_take (i := 18) (v := ?_) rfl (by kernel_rfl) (by kernel_rfl) (by kernel_rfl) (fun _ _ _ h => h) (by rfl) (fun w hSw => ?_) (by assumption) ?_; rotate_left 1; focus (((try dsimp only at hSw); first | (go_simp; done) | (go_simp; with_reducible rfl)))
          try simp only [Act.put, List.setIfInBounds_toArray, List.set_cons_zero, List.set_cons_succ]
          refine held_take (i := 19) (v := ?_) rfl (by kernel_rfl) (by kernel_rfl) (by kernel_rfl) (fun _ _ _ h => h) (by rfl) (fun w hSw => ?_) (by assumption) ?_; rotate_left 1; focus (((try dsimp only at hSw); first | (go_simp; done) | (go_simp; with_reducible rfl)))
          try simp only [Act.put, List.setIfInBounds_toArray, List.set_cons_zero, List.set_cons_succ]
          refine wpAnyH_done (by kernel_rfl) ?_ _
          go_wp2_with fail
          go_meet
          exact ⟨rfl, hHeld.2.out⟩
    case rest =>
      obtain ⟨rfl, hc2⟩ := hcut
      have RW := Lib.hid (RV.out.below hc2)
      have XW := XV.out.below hc2
      have BW := Lib.hid (BV.out.trans (But.of_below hc2 (Nat.le_refl _)))
      obtain ⟨⟨x0, x1, x2, x3⟩, _⟩ := XW.cells
      simp only at x0 x1 x2 x3
      clear XW XV RV BV hc2 B0 SX
      rcases hk12 with rfl | rfl
      · have hV3 := Lib.hid (hV1.out rfl)
        go_wp2_with (go_at_call 43; ((with_reducible refine (PV.out _).mono ?_); rintro e u9 ⟨rfl, hb9⟩))
        go_returns
        exact ⟨by rw [hE.out, hV3.out]; simp only [← List.append_assoc, ← cat_ba]; rfl, RW.out.below hb9, BW.out.trans (But.of_below hb9 (Nat.le_refl _))⟩
      · have hV3 := Lib.hid (hV2.out (by decide))
        go_wp2_with fail
        go_returns
        exact ⟨by rw [hE.out, hV3.out, List.append_nil]; simp only [← List.append_assoc, ← cat_ba]; rfl, RW.out, BW.out⟩
end Go.Proofs.Ytnmlifagchdphaa
