/-
  BlockBack: the rows of a block are read back; the same rows are told from any place on, whatever the number from restart to restart. Condition: at most 1100 rows (the law's own).
-/
import Derived.Test.YtpdjndnehcpeiaaBlockSeek
import Derived.Test.YtpdjndnehcpeiaaBlockAwake
import Derived.Test.YtpdjndnehcpeiaaLaidOut
import Derived.Test.YtpdjndnehcpeiaaBlockBuilt
namespace Go.Proofs.Ytpdjndnehcpeiaa
set_option maxRecDepth 100000
open Go.RowKit
theorem gtr_str (a b : ByteArray) (B : Bool) (h : (!(Op.bytesLess a.toList b.toList || a.toList == b.toList)) = B) (u : World) : (binOp .gtr 9 (.string a) (.string b)).run Try.prog u = .ok (.bool B) u := by
  have e : binOp .gtr 9 (.string a) (.string b) = pure (.bool (!(Op.bytesLess a.toList b.toList || a.toList == b.toList))) := by simp [binOp, Op.stringOp]
  rw [e, h]
  rfl
theorem behind_parts (x : Rw) (k : ByteArray) (q : Nat) :
    ((!(Op.bytesLess x.key.toList k.toList || x.key.toList == k.toList)) = !ahd x k q ∧ (x.key.toList == k.toList) = false) ∨ ((!(Op.bytesLess x.key.toList k.toList || x.key.toList == k.toList)) = false ∧ (x.key.toList == k.toList) = true ∧ decide (x.seq ≤ q) = !ahd x k q) := by
  by_cases e : x.key.toList = k.toList
  · right
    have e2 : (x.key.toList == k.toList) = true := by simpa using e
    refine ⟨by rw [e2]; simp, e2, ?_⟩
    unfold ahd
    rw [if_pos e]
    by_cases h : q < x.seq
    · simp [h]
    · simp [h]; omega
  · left
    have e2 : (x.key.toList == k.toList) = false := by simpa using e
    refine ⟨?_, e2⟩
    unfold ahd
    rw [if_neg e, e2, less_before]
    simp
set_option maxRecDepth 100000 in
set_option maxHeartbeats 8000000 in
theorem back_walk (a : Option Addr) (n c b o : Nat) (l : List Rw) (d1 : Int) (hd1 : (Lit.int .i64 d1).wf = true) (d2 : Int) (hd2 : (Lit.int .i64 d2).wf = true) (key : ByteArray) (hz : key.size ≤ reachBytes) (sq : Int) (hsq : (Lit.int .u64 sq).wf = true) (w : World) (h0 : Rs a n c b o l w ∧ ∀ v ∈ l, RwIn v) :
    Calls Try.prog 6 #[.slice a n c, .int .i64 d1, .int .i64 d2, .string key, .int .u64 sq] w fun e w' => e = .returned (.bool true) ∧ Below w.heap.size w w' := by
  have AW := Lib.hid (fun u => awake_any u)
  have h := h0.1
  have q0 := h.cap
  have m0 := h.most
  have hr : 0 ≤ sq ∧ sq ≤ 18446744073709551615 := by simpa [Lit.wf, IntKind.min, IntKind.max, IntKind.signed, IntKind.bits] using hsq
  obtain ⟨q, rfl⟩ := Int.eq_ofNat_of_zero_le hr.1
  clear h0 hsq hr hd1 hd2
  by_cases g1 : (1100 : Int) < (n : Int)
  · go_enter Try.func6, Try.ntmps6
    go_wp2_with (go_at_call 10; ((with_reducible refine (AW.out _).mono ?_); rintro e w1 ⟨rfl, hb1⟩))
    go_returns
    exact ⟨rfl, hb1⟩
  have B1 := Lib.hid (fun u hu => @build_any a n c b o l u d1 hu)
  have B2 := Lib.hid (fun u hu => @build_any a n c b o l u d2 hu)
  have hl := Lib.hid h.len
  have hErr1 := Lib.hid (@buildB_err l d1)
  have hErr2 := Lib.hid (@buildB_err l d2)
  have hIs1 := Lib.hid (@buildB_isB' l d1)
  have hIs2 := Lib.hid (@buildB_isB' l d2)
  obtain ⟨⟨S, e1⟩, hS⟩ := named (buildB l d1)
  obtain ⟨⟨T, e2⟩, hT⟩ := named (buildB l d2)
  rw [← hS.out] at B1 hErr1 hIs1
  rw [← hT.out] at B2 hErr2 hIs2
  simp only at B1 hErr1 hIs1 B2 hErr2 hIs2
  have h := Lib.hid h
  have bad : ∀ (S T : List UInt8) (e1 e2 : Nat), (e1 ≠ 0 ∨ e2 ≠ 0) → (e1 ≠ 0 → S = []) → (e2 ≠ 0 → T = []) →
      (∀ u, Rs a n c b o l u → Calls Try.prog 12 #[.slice a n c, .int .i64 d1] u fun e w' => e = .returned (.tuple #[.string ⟨S.toArray⟩, .int .i64 (e1 : Nat)]) ∧ Below u.heap.size u w') →
      (∀ u, Rs a n c b o l u → Calls Try.prog 12 #[.slice a n c, .int .i64 d2] u fun e w' => e = .returned (.tuple #[.string ⟨T.toArray⟩, .int .i64 (e2 : Nat)]) ∧ Below u.heap.size u w') →
      Calls Try.prog 6 #[.slice a n c, .int .i64 d1, .int .i64 d2, .string key, .int .u64 (q : Int)] w fun e w' => e = .returned (.bool true) ∧ Below w.heap.size w w' := by
    intro S T e1 e2 hee hs ht C1 C2
    have C1 := Lib.hid C1
    have C2 := Lib.hid C2
    by_cases z1 : e1 = 0
    · subst z1
      have z2 : e2 ≠ 0 := by rcases hee with e | e; exact absurd rfl e; exact e
      obtain rfl := ht z2
      have k2 : ((e2 : Int) != 0) = true := by rw [bne_iff_ne]; omega
      have k3 : ((e2 : Int) == 0) = false := by rw [beq_eq_false_iff_ne]; omega
      clear hee hs ht B1 B2 hErr1 hErr2 hIs1 hIs2 hS hT
      go_enter Try.func6, Try.ntmps6
      go_wp2_with (first
        | (go_at_call 12; ((with_reducible refine (C1.out _ h.out).mono ?_); rintro e w1 ⟨rfl, hb1⟩; have H1 := Lib.hid (h.out.below hb1 (Nat.le_refl _)); have W1 := Lib.hid hb1; clear hb1))
        | (go_at_call 12; ((with_reducible refine (C2.out _ H1.out).mono ?_); rintro e w2 ⟨rfl, hb2⟩; have W2 := Lib.hid (below_of W1.out hb2); clear hb2))
        | (go_at_call 10; ((with_reducible refine (AW.out _).mono ?_); rintro e w3 ⟨rfl, hb3⟩; have W3 := Lib.hid (below_of W2.out hb3); clear hb3)))
      go_returns
      exact ⟨rfl, W3.out⟩
    · obtain rfl := hs z1
      have k2 : ((e1 : Int) != 0) = true := by rw [bne_iff_ne]; omega
      have k3 : ((e1 : Int) == 0) = false := by rw [beq_eq_false_iff_ne]; omega
      by_cases z2 : e2 = 0
      · subst z2
        clear hee hs ht B1 B2 hErr1 hErr2 hIs1 hIs2 hS hT
        go_enter Try.func6, Try.ntmps6
        go_wp2_with (first
          | (go_at_call 12; ((with_reducible refine (C1.out _ h.out).mono ?_); rintro e w1 ⟨rfl, hb1⟩; have H1 := Lib.hid (h.out.below hb1 (Nat.le_refl _)); have W1 := Lib.hid hb1; clear hb1))
          | (go_at_call 12; ((with_reducible refine (C2.out _ H1.out).mono ?_); rintro e w2 ⟨rfl, hb2⟩; have W2 := Lib.hid (below_of W1.out hb2); clear hb2))
          | (go_at_call 10; ((with_reducible refine (AW.out _).mono ?_); rintro e w3 ⟨rfl, hb3⟩; have W3 := Lib.hid (below_of W2.out hb3); clear hb3)))
        go_returns
        exact ⟨rfl, W3.out⟩
      · obtain rfl := ht z2
        have k4 : ((e2 : Int) != 0) = true := by rw [bne_iff_ne]; omega
        have k5 : ((e2 : Int) == 0) = false := by rw [beq_eq_false_iff_ne]; omega
        clear hee hs ht B1 B2 hErr1 hErr2 hIs1 hIs2 hS hT
        go_enter Try.func6, Try.ntmps6
        go_wp2_with (first
          | (go_at_call 12; ((with_reducible refine (C1.out _ h.out).mono ?_); rintro e w1 ⟨rfl, hb1⟩; have H1 := Lib.hid (h.out.below hb1 (Nat.le_refl _)); have W1 := Lib.hid hb1; clear hb1))
          | (go_at_call 12; ((with_reducible refine (C2.out _ H1.out).mono ?_); rintro e w2 ⟨rfl, hb2⟩; have W2 := Lib.hid (below_of W1.out hb2); clear hb2))
          | (go_at_call 10; ((with_reducible refine (AW.out _).mono ?_); rintro e w3 ⟨rfl, hb3⟩; have W3 := Lib.hid (below_of W2.out hb3); clear hb3)))
        go_returns
        exact ⟨rfl, W3.out⟩
  by_cases he1 : e1 = 0
  case neg => exact bad S T e1 e2 (.inl he1) hErr1.out hErr2.out B1.out B2.out
  by_cases he2 : e2 = 0
  case neg => exact bad S T e1 e2 (.inr he2) hErr1.out hErr2.out B1.out B2.out
  clear bad
  subst he1 he2
  obtain ⟨D1, hD1, hB1⟩ := hIs1.out rfl
  obtain ⟨D2, hD2, hB2⟩ := hIs2.out rfl
  clear hD1 hD2
  have hB1 := Lib.hid hB1
  have hB2 := Lib.hid hB2
  have ho := Lib.hid (chkA_ok hB1.out.1).2.2.1
  have SL1 : S.length ≤ 1048576 := by have := hB1.out.2.2; omega
  have SL2 : T.length ≤ 1048576 := by have := hB2.out.2.2; omega
  have RW := Lib.hid (fun u => rows_any S SL1 u)
  have SC1 := Lib.hid (fun u => seek_any S SL1 key q u)
  have SC2 := Lib.hid (fun u => seek_any T SL2 key q u)
  have hpn : plc l key q ≤ n := by rw [← hl.out]; exact plc_le l key q
  obtain ⟨P, hP⟩ := named (plc l key q)
  rw [← hP.out] at hpn
  obtain ⟨N4, hN4⟩ := named (n - P)
  have hnP : (n : Int) - (N4 : Int) = (P : Int) := by rw [hN4.out]; omega
  clear hErr1 hErr2 hIs1 hIs2 hS hT SL1 SL2 hz
  go_enter Try.func6, Try.ntmps6
  go_wp2_with (first
    | (go_at_call 12; ((with_reducible refine (B1.out _ h.out).mono ?_); rintro e w1 ⟨rfl, hb1⟩; have H1 := Lib.hid (h.out.below hb1 (Nat.le_refl _)); have W1 := Lib.hid hb1; clear hb1))
    | (go_at_call 12; ((with_reducible refine (B2.out _ H1.out).mono ?_); rintro e w2 ⟨rfl, hb2⟩; have H2 := Lib.hid (H1.out.below hb2 (Nat.le_refl _)); have W2 := Lib.hid (below_of W1.out hb2); clear hb2))
    | (go_at_call 19; ((with_reducible refine (RW.out _).mono ?_); rintro e w3 hh; obtain ⟨a3, c3, b3, rfl, hR3, hb3⟩ := hh.yes hB1.out; rw [hl.out] at hR3 ⊢; have H3 := Lib.hid (H2.out.below hb3 (Nat.le_refl _)); have R3 := Lib.hid hR3; have W3 := Lib.hid (below_of W2.out hb3); clear hb3 hR3))
    | (go_at_call 22; ((with_reducible refine (SC1.out _).mono ?_); rintro e w4 hh; obtain ⟨a4, c4, b4, o4, rfl, hR4, hb4⟩ := hh.yes hB1.out; rw [hl.out, ← hP.out, ← hN4.out] at hR4 ⊢; have H4 := Lib.hid (H3.out.below hb4 (Nat.le_refl _)); have Q3 := Lib.hid (R3.out.below hb4 (Nat.le_refl _)); have R4 := Lib.hid hR4; have W4 := Lib.hid (below_of W3.out hb4); clear hb4 hR4))
    | (go_at_call 22; ((with_reducible refine (SC2.out _).mono ?_); rintro e w5 hh; obtain ⟨a5, c5, b5, o5, rfl, hR5, hb5⟩ := hh.yes hB2.out; rw [hl.out, ← hP.out, ← hN4.out] at hR5 ⊢; have H5 := Lib.hid (H4.out.below hb5 (Nat.le_refl _)); have QQ3 := Lib.hid (Q3.out.below hb5 (Nat.le_refl _)); have Q4 := Lib.hid (R4.out.below hb5 (Nat.le_refl _)); have R5 := Lib.hid hR5; have W5 := Lib.hid (below_of W4.out hb5); clear hb5 hR5))
    | (go_at_call 21; ((with_reducible refine (same_rowsB QQ3.out H5.out).mono ?_); rintro e w6 ⟨rfl, hb6⟩; have H6 := Lib.hid (H5.out.below hb6 (Nat.le_refl _)); have Q6 := Lib.hid (Q4.out.below hb6 (Nat.le_refl _)); have Q7 := Lib.hid (R5.out.below hb6 (Nat.le_refl _)); have W6 := Lib.hid (below_of W5.out hb6); clear hb6))
    | (go_at_call 21; ((with_reducible refine (same_rowsB Q6.out Q7.out).mono ?_); rintro e w7 ⟨rfl, hb7⟩; have H7 := Lib.hid (H6.out.below hb7 (Nat.le_refl _)); have Q8 := Lib.hid (Q6.out.below hb7 (Nat.le_refl _)); have W7 := Lib.hid (below_of W6.out hb7); clear hb7)))
  go_loopw [22] (fun i wr => ∃ j : Nat, j ≤ n ∧ i = .int .i64 (j : Int) ∧ Below w7.heap.size w7 wr) (fun i _ => n - (intOf i).toNat)
  case atStart => exact ⟨0, Nat.zero_le _, rfl, Below.refl _ _⟩
  case round =>
    obtain ⟨j, hj, rfl, hb⟩ := hrel
    have hb := Lib.hid hb
    have WW := Lib.hid (W7.out.trans (hb.out.mono W7.out.size))
    by_cases hlt : j < n
    · obtain ⟨x, hx, rfl, x0, x1, x2, x3⟩ := (H7.out.below hb.out (Nat.le_refl _)).at4 hlt
      have e0 : rwAt l j = x := rwAt_some hx
      have pi := place_iff ho.out (k := key) (q := q) (j := j) (by rw [hl.out]; exact hlt)
      rw [e0, ← hP.out] at pi
      have bp := behind_parts x key q
      have i0 : (j : Int) < (n : Int) := by omega
      have hx2 := Lib.hid hx
      obtain ⟨xk, xs, xi, xv⟩ := x
      simp only at x0 x1 x2 x3 bp
      obtain ⟨TT, hTT⟩ := named (ahd ⟨xk, xs, xi, xv⟩ key q)
      rw [← hTT.out] at pi bp
      have piH := Lib.hid pi
      clear pi e0 hx hTT
      have QB := Lib.hid (Q8.out.below hb.out (Nat.le_refl _))
      rcases bp with ⟨b1, b2⟩ | ⟨b1, b2, b3⟩
      · cases TT with
        | true =>
          have hjP : j < P := piH.out.1 rfl
          have p1 : decide (P ≤ j) = false := by rw [decide_eq_false_iff_not]; omega
          have p2 : decide ((P : Int) ≤ (j : Int)) = false := by rw [decide_eq_false_iff_not]; omega
          clear hjP QB
          have GT := gtr_str xk key false b1
          clear b1
          go_upto_region 17 with fail
          refine wp_region_held_drew (S := (fun v => (v.cell? ⟨b, o + j * 4, none⟩ = some (.string xk) ∧ v.cell? ⟨b, o + j * 4 + 1, none⟩ = some (.int .u64 (xs : Int)) ∧ v.cell? ⟨b, o + j * 4 + 2, none⟩ = some (.int .i64 xi) ∧ v.cell? ⟨b, o + j * 4 + 3, none⟩ = some (.string xv)))) (by kernel_rfl) (⟨x0, x1, x2, x3⟩) (fun hHeld => ?_)
          refine held_take (i := 0) (v := ?_) rfl (by kernel_rfl) (by kernel_rfl) (by kernel_rfl) (fun _ _ _ h => h) (by rfl) (fun w hSw => ?_) (by assumption) ?_; rotate_left 1; focus (((try dsimp only at hSw); first | (go_simp; done) | (go_simp; with_reducible rfl)))
          try simp only [Act.put, List.setIfInBounds_toArray, List.set_cons_zero, List.set_cons_succ]
          refine held_take (i := 1) (v := ?_) rfl (by kernel_rfl) (by kernel_rfl) (by kernel_rfl) (fun _ _ _ h => h) (by rfl) (fun w hSw => ?_) (by assumption) ?_; rotate_left 1; focus (((try dsimp only at hSw); first | (go_simp; done) | (go_simp; with_reducible rfl)))
          try simp only [Act.put, List.setIfInBounds_toArray, List.set_cons_zero, List.set_cons_succ]
          refine held_take (i := 2) (v := ?_) rfl (by kernel_rfl) (by kernel_rfl) (by kernel_rfl) (fun _ _ _ h => h) (by rfl) (fun w hSw => ?_) (by assumption) ?_; rotate_left 1; focus (((try dsimp only at hSw); first | (go_simp; done) | (go_simp; with_reducible rfl)))
          try simp only [Act.put, List.setIfInBounds_toArray, List.set_cons_zero, List.set_cons_succ]
          refine held_take (i := 3) (v := ?_) rfl (by kernel_rfl) (by kernel_rfl) (by kernel_rfl) (fun _ _ _ h => h) (by rfl) (fun w hSw => ?_) (by assumption) ?_; rotate_left 1; focus (((try dsimp only at hSw); first | (go_simp; done) | (go_simp; with_reducible rfl)))
          try simp only [Act.put, List.setIfInBounds_toArray, List.set_cons_zero, List.set_cons_succ]
          refine held_take (i := 4) (v := ?_) rfl (by kernel_rfl) (by kernel_rfl) (by kernel_rfl) (fun _ _ _ h => h) (by rfl) (fun w hSw => ?_) (by assumption) ?_; rotate_left 1; focus (((try dsimp only at hSw); first | (go_simp; done) | (go_simp; with_reducible rfl)))
          try simp only [Act.put, List.setIfInBounds_toArray, List.set_cons_zero, List.set_cons_succ]
          refine held_take (i := 5) (v := ?_) rfl (by kernel_rfl) (by kernel_rfl) (by kernel_rfl) (fun _ _ _ h => h) (by rfl) (fun w hSw => ?_) (by assumption) ?_; rotate_left 1; focus (((try dsimp only at hSw); first | (go_simp; done) | (go_simp; with_reducible rfl)))
          try simp only [Act.put, List.setIfInBounds_toArray, List.set_cons_zero, List.set_cons_succ]
          refine held_take (i := 6) (v := ?_) rfl (by kernel_rfl) (by kernel_rfl) (by kernel_rfl) (fun _ _ _ h => h) (by rfl) (fun w hSw => ?_) (by assumption) ?_; rotate_left 1; focus (((try dsimp only at hSw); first | (go_simp; done) | (go_simp; with_reducible rfl)))
          try simp only [Act.put, List.setIfInBounds_toArray, List.set_cons_zero, List.set_cons_succ]
          refine held_take (i := 7) (v := ?_) rfl (by kernel_rfl) (by kernel_rfl) (by kernel_rfl) (fun _ _ _ h => h) (by rfl) (fun w hSw => ?_) (by assumption) ?_; rotate_left 1; focus (((try dsimp only at hSw); first | (go_simp; done) | (go_simp; with_reducible rfl)))
          try simp only [Act.put, List.setIfInBounds_toArray, List.set_cons_zero, List.set_cons_succ]
          refine held_take (i := 8) (v := ?_) rfl (by kernel_rfl) (by kernel_rfl) (by kernel_rfl) (fun _ _ _ h => h) (by rfl) (fun w hSw => ?_) (by assumption) ?_; rotate_left 1; focus (((try dsimp only at hSw); first | (go_simp; done) | (go_simp; with_reducible rfl)))
          try simp only [Act.put, List.setIfInBounds_toArray, List.set_cons_zero, List.set_cons_succ]
          refine held_take (i := 9) (v := ?_) rfl (by kernel_rfl) (by kernel_rfl) (by kernel_rfl) (fun _ _ _ h => h) (by rfl) (fun w hSw => ?_) (by assumption) ?_; rotate_left 1; focus (((try dsimp only at hSw); first | (go_simp; done) | (go_simp; with_reducible rfl)))
          try simp only [Act.put, List.setIfInBounds_toArray, List.set_cons_zero, List.set_cons_succ]
          refine held_skip (i := 10) rfl (by kernel_rfl) (by kernel_rfl) (by kernel_rfl) (fun _ _ _ h => h) (by rfl) (by assumption) ?_
          try simp only [Act.put, List.setIfInBounds_toArray, List.set_cons_zero, List.set_cons_succ]
          refine held_skip (i := 11) rfl (by kernel_rfl) (by kernel_rfl) (by kernel_rfl) (fun _ _ _ h => h) (by rfl) (by assumption) ?_
          try simp only [Act.put, List.setIfInBounds_toArray, List.set_cons_zero, List.set_cons_succ]
          refine held_skip (i := 12) rfl (by kernel_rfl) (by kernel_rfl) (by kernel_rfl) (fun _ _ _ h => h) (by rfl) (by assumption) ?_
          try simp only [Act.put, List.setIfInBounds_toArray, List.set_cons_zero, List.set_cons_succ]
          refine held_skip (i := 13) rfl (by kernel_rfl) (by kernel_rfl) (by kernel_rfl) (fun _ _ _ h => h) (by rfl) (by assumption) ?_
          try simp only [Act.put, List.setIfInBounds_toArray, List.set_cons_zero, List.set_cons_succ]
          refine held_skip (i := 14) rfl (by kernel_rfl) (by kernel_rfl) (by kernel_rfl) (fun _ _ _ h => h) (by rfl) (by assumption) ?_
          try simp only [Act.put, List.setIfInBounds_toArray, List.set_cons_zero, List.set_cons_succ]
          refine held_skip (i := 15) rfl (by kernel_rfl) (by kernel_rfl) (by kernel_rfl) (fun _ _ _ h => h) (by rfl) (by assumption) ?_
          try simp only [Act.put, List.setIfInBounds_toArray, List.set_cons_zero, List.set_cons_succ]
          refine held_skip (i := 16) rfl (by kernel_rfl) (by kernel_rfl) (by kernel_rfl) (fun _ _ _ h => h) (by rfl) (by assumption) ?_
          try simp only [Act.put, List.setIfInBounds_toArray, List.set_cons_zero, List.set_cons_succ]
          refine held_skip (i := 17) rfl (by kernel_rfl) (by kernel_rfl) (by kernel_rfl) (fun _ _ _ h => h) (by rfl) (by assumption) ?_
          try simp only [Act.put, List.setIfInBounds_toArray, List.set_cons_zero, List.set_cons_succ]
          refine held_skip (i := 18) rfl (by kernel_rfl) (by kernel_rfl) (by kernel_rfl) (fun _ _ _ h => h) (by rfl) (by assumption) ?_
          try simp only [Act.put, List.setIfInBounds_toArray, List.set_cons_zero, List.set_cons_succ]
          refine held_skip (i := 19) rfl (by kernel_rfl) (by kernel_rfl) (by kernel_rfl) (fun _ _ _ h => h) (by rfl) (by assumption) ?_
          try simp only [Act.put, List.setIfInBounds_toArray, List.set_cons_zero, List.set_cons_succ]
          refine held_skip (i := 20) rfl (by kernel_rfl) (by kernel_rfl) (by kernel_rfl) (fun _ _ _ h => h) (by rfl) (by assumption) ?_
          try simp only [Act.put, List.setIfInBounds_toArray, List.set_cons_zero, List.set_cons_succ]
          refine held_take (i := 21) (v := ?_) rfl (by kernel_rfl) (by kernel_rfl) (by kernel_rfl) (fun _ _ _ h => h) (by rfl) (fun w hSw => ?_) (by assumption) ?_; rotate_left 1; focus (((try dsimp only at hSw); first | (go_simp; done) | (go_simp; with_reducible rfl)))
          try simp only [Act.put, List.setIfInBounds_toArray, List.set_cons_zero, List.set_cons_succ]
          refine held_take (i := 22) (v := ?_) rfl (by kernel_rfl) (by kernel_rfl) (by kernel_rfl) (fun _ _ _ h => h) (by rfl) (fun w hSw => ?_) (by assumption) ?_; rotate_left 1; focus (((try dsimp only at hSw); first | (go_simp; done) | (go_simp; with_reducible rfl)))
          try simp only [Act.put, List.setIfInBounds_toArray, List.set_cons_zero, List.set_cons_succ]
          refine wpAnyH_done (by kernel_rfl) ?_ _
          go_wp2_with fail
          go_roundw
          case rel => exact ⟨j + 1, by omega, by go_num, hb.out.drew⟩
          case measure => simp [intOf]; omega
        | false =>
          have hjP : P ≤ j := by rcases Nat.lt_or_ge j P with h | h; exact absurd (piH.out.2 h) (by decide); exact h
          have p1 : decide (P ≤ j) = true := by rw [decide_eq_true_eq]; omega
          have p2 : decide ((P : Int) ≤ (j : Int)) = true := by rw [decide_eq_true_eq]; omega
          obtain ⟨e, he⟩ := named (j - P)
          have heN : e < N4 := by rw [he.out, hN4.out]; omega
          have i1 : (e : Int) < (N4 : Int) := by omega
          have s1 : (j : Int) - (P : Int) = (e : Int) := by rw [he.out]; omega
          have s2 : wrap64 ((j : Int) - (P : Int)) = (e : Int) := by rw [s1]; unfold wrap64; omega
          have s3 := Lib.hid (wrapi_small (e : Int) (by omega) (by omega))
          obtain ⟨y, hy, rfl, y0, y1, y2, y3⟩ := QB.out.at4 heN
          have hyx : y = ⟨xk, xs, xi, xv⟩ := by
            rw [List.getElem?_drop, show P + e = j by rw [he.out]; omega, hx2.out] at hy
            exact (Option.some.inj hy).symm
          subst hyx
          simp only at y0 y1 y2 y3
          have NEQ : ∀ u : World, (binOp .neq 31 (.agg #[.string xk, .int .u64 (xs : Int), .int .i64 xi, .string xv]) (.agg #[.string xk, .int .u64 (xs : Int), .int .i64 xi, .string xv])).run Try.prog u = .ok (.bool false) u := fun u => neq_rw _ _ _ _ _ _ _ _ _ (by simp) u
          clear hy hjP QB
          have s4 : IntKind.i64.wrap ((j : Int) - (P : Int)) = (e : Int) := by rw [s1]; exact s3.out
          have s5 := s3.out
          have GT := gtr_str xk key true b1
          clear b1
          go_upto_region 17 with fail
          refine wp_region_held_drew (S := (fun v => (v.cell? ⟨b, o + j * 4, none⟩ = some (.string xk) ∧ v.cell? ⟨b, o + j * 4 + 1, none⟩ = some (.int .u64 (xs : Int)) ∧ v.cell? ⟨b, o + j * 4 + 2, none⟩ = some (.int .i64 xi) ∧ v.cell? ⟨b, o + j * 4 + 3, none⟩ = some (.string xv)) ∧ (v.cell? ⟨b4, o4 + e * 4, none⟩ = some (.string xk) ∧ v.cell? ⟨b4, o4 + e * 4 + 1, none⟩ = some (.int .u64 (xs : Int)) ∧ v.cell? ⟨b4, o4 + e * 4 + 2, none⟩ = some (.int .i64 xi) ∧ v.cell? ⟨b4, o4 + e * 4 + 3, none⟩ = some (.string xv)))) (by kernel_rfl) (⟨⟨x0, x1, x2, x3⟩, ⟨y0, y1, y2, y3⟩⟩) (fun hHeld => ?_)
          refine held_take (i := 0) (v := ?_) rfl (by kernel_rfl) (by kernel_rfl) (by kernel_rfl) (fun _ _ _ h => h) (by rfl) (fun w hSw => ?_) (by assumption) ?_; rotate_left 1; focus (((try dsimp only at hSw); first | (go_simp; done) | (go_simp; with_reducible rfl)))
          try simp only [Act.put, List.setIfInBounds_toArray, List.set_cons_zero, List.set_cons_succ]
          refine held_take (i := 1) (v := ?_) rfl (by kernel_rfl) (by kernel_rfl) (by kernel_rfl) (fun _ _ _ h => h) (by rfl) (fun w hSw => ?_) (by assumption) ?_; rotate_left 1; focus (((try dsimp only at hSw); first | (go_simp; done) | (go_simp; with_reducible rfl)))
          try simp only [Act.put, List.setIfInBounds_toArray, List.set_cons_zero, List.set_cons_succ]
          refine held_take (i := 2) (v := ?_) rfl (by kernel_rfl) (by kernel_rfl) (by kernel_rfl) (fun _ _ _ h => h) (by rfl) (fun w hSw => ?_) (by assumption) ?_; rotate_left 1; focus (((try dsimp only at hSw); first | (go_simp; done) | (go_simp; with_reducible rfl)))
          try simp only [Act.put, List.setIfInBounds_toArray, List.set_cons_zero, List.set_cons_succ]
          refine held_take (i := 3) (v := ?_) rfl (by kernel_rfl) (by kernel_rfl) (by kernel_rfl) (fun _ _ _ h => h) (by rfl) (fun w hSw => ?_) (by assumption) ?_; rotate_left 1; focus (((try dsimp only at hSw); first | (go_simp; done) | (go_simp; with_reducible rfl)))
          try simp only [Act.put, List.setIfInBounds_toArray, List.set_cons_zero, List.set_cons_succ]
          refine held_take (i := 4) (v := ?_) rfl (by kernel_rfl) (by kernel_rfl) (by kernel_rfl) (fun _ _ _ h => h) (by rfl) (fun w hSw => ?_) (by assumption) ?_; rotate_left 1; focus (((try dsimp only at hSw); first | (go_simp; done) | (go_simp; with_reducible rfl)))
          try simp only [Act.put, List.setIfInBounds_toArray, List.set_cons_zero, List.set_cons_succ]
          refine held_take (i := 5) (v := ?_) rfl (by kernel_rfl) (by kernel_rfl) (by kernel_rfl) (fun _ _ _ h => h) (by rfl) (fun w hSw => ?_) (by assumption) ?_; rotate_left 1; focus (((try dsimp only at hSw); first | (go_simp; done) | (go_simp; with_reducible rfl)))
          try simp only [Act.put, List.setIfInBounds_toArray, List.set_cons_zero, List.set_cons_succ]
          refine held_take (i := 6) (v := ?_) rfl (by kernel_rfl) (by kernel_rfl) (by kernel_rfl) (fun _ _ _ h => h) (by rfl) (fun w hSw => ?_) (by assumption) ?_; rotate_left 1; focus (((try dsimp only at hSw); first | (go_simp; done) | (go_simp; with_reducible rfl)))
          try simp only [Act.put, List.setIfInBounds_toArray, List.set_cons_zero, List.set_cons_succ]
          refine held_take (i := 7) (v := ?_) rfl (by kernel_rfl) (by kernel_rfl) (by kernel_rfl) (fun _ _ _ h => h) (by rfl) (fun w hSw => ?_) (by assumption) ?_; rotate_left 1; focus (((try dsimp only at hSw); first | (go_simp; done) | (go_simp; with_reducible rfl)))
          try simp only [Act.put, List.setIfInBounds_toArray, List.set_cons_zero, List.set_cons_succ]
          refine held_take (i := 8) (v := ?_) rfl (by kernel_rfl) (by kernel_rfl) (by kernel_rfl) (fun _ _ _ h => h) (by rfl) (fun w hSw => ?_) (by assumption) ?_; rotate_left 1; focus (((try dsimp only at hSw); first | (go_simp; done) | (go_simp; with_reducible rfl)))
          try simp only [Act.put, List.setIfInBounds_toArray, List.set_cons_zero, List.set_cons_succ]
          refine held_take (i := 9) (v := ?_) rfl (by kernel_rfl) (by kernel_rfl) (by kernel_rfl) (fun _ _ _ h => h) (by rfl) (fun w hSw => ?_) (by assumption) ?_; rotate_left 1; focus (((try dsimp only at hSw); first | (go_simp; done) | (go_simp; with_reducible rfl)))
          try simp only [Act.put, List.setIfInBounds_toArray, List.set_cons_zero, List.set_cons_succ]
          refine held_take (i := 10) (v := ?_) rfl (by kernel_rfl) (by kernel_rfl) (by kernel_rfl) (fun _ _ _ h => h) (by rfl) (fun w hSw => ?_) (by assumption) ?_; rotate_left 1; focus (((try dsimp only at hSw); first | (go_simp; done) | (go_simp; with_reducible rfl)))
          try simp only [Act.put, List.setIfInBounds_toArray, List.set_cons_zero, List.set_cons_succ]
          refine held_take (i := 11) (v := ?_) rfl (by kernel_rfl) (by kernel_rfl) (by kernel_rfl) (fun _ _ _ h => h) (by rfl) (fun w hSw => ?_) (by assumption) ?_; rotate_left 1; focus (((try dsimp only at hSw); first | (go_simp; done) | (go_simp; with_reducible rfl)))
          try simp only [Act.put, List.setIfInBounds_toArray, List.set_cons_zero, List.set_cons_succ]
          refine held_take (i := 12) (v := ?_) rfl (by kernel_rfl) (by kernel_rfl) (by kernel_rfl) (fun _ _ _ h => h) (by rfl) (fun w hSw => ?_) (by assumption) ?_; rotate_left 1; focus (((try dsimp only at hSw); first | (go_simp; done) | (go_simp; with_reducible rfl)))
          try simp only [Act.put, List.setIfInBounds_toArray, List.set_cons_zero, List.set_cons_succ]
          refine held_take (i := 13) (v := ?_) rfl (by kernel_rfl) (by kernel_rfl) (by kernel_rfl) (fun _ _ _ h => h) (by rfl) (fun w hSw => ?_) (by assumption) ?_; rotate_left 1; focus (((try dsimp only at hSw); first | (go_simp; done) | (go_simp; with_reducible rfl)))
          try simp only [Act.put, List.setIfInBounds_toArray, List.set_cons_zero, List.set_cons_succ]
          refine held_take (i := 14) (v := ?_) rfl (by kernel_rfl) (by kernel_rfl) (by kernel_rfl) (fun _ _ _ h => h) (by rfl) (fun w hSw => ?_) (by assumption) ?_; rotate_left 1; focus (((try dsimp only at hSw); first | (go_simp; done) | (go_simp; with_reducible rfl)))
          try simp only [Act.put, List.setIfInBounds_toArray, List.set_cons_zero, List.set_cons_succ]
          refine held_take (i := 15) (v := ?_) rfl (by kernel_rfl) (by kernel_rfl) (by kernel_rfl) (fun _ _ _ h => h) (by rfl) (fun w hSw => ?_) (by assumption) ?_; rotate_left 1; focus (((try dsimp only at hSw); first | (go_simp; done) | (go_simp; with_reducible rfl)))
          try simp only [Act.put, List.setIfInBounds_toArray, List.set_cons_zero, List.set_cons_succ]
          refine held_take (i := 16) (v := ?_) rfl (by kernel_rfl) (by kernel_rfl) (by kernel_rfl) (fun _ _ _ h => h) (by rfl) (fun w hSw => ?_) (by assumption) ?_; rotate_left 1; focus (((try dsimp only at hSw); first | (go_simp; done) | (go_simp; with_reducible rfl)))
          try simp only [Act.put, List.setIfInBounds_toArray, List.set_cons_zero, List.set_cons_succ]
          refine held_take (i := 17) (v := ?_) rfl (by kernel_rfl) (by kernel_rfl) (by kernel_rfl) (fun _ _ _ h => h) (by rfl) (fun w hSw => ?_) (by assumption) ?_; rotate_left 1; focus (((try dsimp only at hSw); first | (go_simp; done) | (go_simp; with_reducible rfl)))
          try simp only [Act.put, List.setIfInBounds_toArray, List.set_cons_zero, List.set_cons_succ]
          refine held_take (i := 18) (v := ?_) rfl (by kernel_rfl) (by kernel_rfl) (by kernel_rfl) (fun _ _ _ h => h) (by rfl) (fun w hSw => ?_) (by assumption) ?_; rotate_left 1; focus (((try dsimp only at hSw); first | (go_simp; done) | (go_simp; with_reducible rfl)))
          try simp only [Act.put, List.setIfInBounds_toArray, List.set_cons_zero, List.set_cons_succ]
          refine held_take (i := 19) (v := ?_) rfl (by kernel_rfl) (by kernel_rfl) (by kernel_rfl) (fun _ _ _ h => h) (by rfl) (fun w hSw => ?_) (by assumption) ?_; rotate_left 1; focus (((try dsimp only at hSw); first | (go_simp; done) | (go_simp; with_reducible rfl)))
          try simp only [Act.put, List.setIfInBounds_toArray, List.set_cons_zero, List.set_cons_succ]
          refine held_take (i := 20) (v := ?_) rfl (by kernel_rfl) (by kernel_rfl) (by kernel_rfl) (fun _ _ _ h => h) (by rfl) (fun w hSw => ?_) (by assumption) ?_; rotate_left 1; focus (((try dsimp only at hSw); first | (go_simp; done) | (go_simp; with_reducible rfl)))
          try simp only [Act.put, List.setIfInBounds_toArray, List.set_cons_zero, List.set_cons_succ]
          refine held_take (i := 21) (v := ?_) rfl (by kernel_rfl) (by kernel_rfl) (by kernel_rfl) (fun _ _ _ h => h) (by rfl) (fun w hSw => ?_) (by assumption) ?_; rotate_left 1; focus (((try dsimp only at hSw); first | (go_simp; done) | (go_simp; with_reducible rfl)))
          try simp only [Act.put, List.setIfInBounds_toArray, List.set_cons_zero, List.set_cons_succ]
          refine held_take (i := 22) (v := ?_) rfl (by kernel_rfl) (by kernel_rfl) (by kernel_rfl) (fun _ _ _ h => h) (by rfl) (fun w hSw => ?_) (by assumption) ?_; rotate_left 1; focus (((try dsimp only at hSw); first | (go_simp; done) | (go_simp; with_reducible rfl)))
          try simp only [Act.put, List.setIfInBounds_toArray, List.set_cons_zero, List.set_cons_succ]
          refine wpAnyH_done (by kernel_rfl) ?_ _
          clear s2 s4 s5
          go_wp2_with fail
          go_roundw
          case rel => exact ⟨j + 1, by omega, by go_num, hb.out.drew⟩
          case measure => simp [intOf]; omega
      · cases TT with
        | true =>
          have hjP : j < P := piH.out.1 rfl
          have p1 : decide (P ≤ j) = false := by rw [decide_eq_false_iff_not]; omega
          have p2 : decide ((P : Int) ≤ (j : Int)) = false := by rw [decide_eq_false_iff_not]; omega
          clear hjP QB
          have GT := gtr_str xk key false b1
          clear b1
          have b3 : decide (xs ≤ q) = false := b3
          have b3b : decide ((xs : Int) ≤ (q : Int)) = false := by rw [← b3]; congr 1; simp
          go_upto_region 17 with fail
          refine wp_region_held_drew (S := (fun v => (v.cell? ⟨b, o + j * 4, none⟩ = some (.string xk) ∧ v.cell? ⟨b, o + j * 4 + 1, none⟩ = some (.int .u64 (xs : Int)) ∧ v.cell? ⟨b, o + j * 4 + 2, none⟩ = some (.int .i64 xi) ∧ v.cell? ⟨b, o + j * 4 + 3, none⟩ = some (.string xv)))) (by kernel_rfl) (⟨x0, x1, x2, x3⟩) (fun hHeld => ?_)
          refine held_take (i := 0) (v := ?_) rfl (by kernel_rfl) (by kernel_rfl) (by kernel_rfl) (fun _ _ _ h => h) (by rfl) (fun w hSw => ?_) (by assumption) ?_; rotate_left 1; focus (((try dsimp only at hSw); first | (go_simp; done) | (go_simp; with_reducible rfl)))
          try simp only [Act.put, List.setIfInBounds_toArray, List.set_cons_zero, List.set_cons_succ]
          refine held_take (i := 1) (v := ?_) rfl (by kernel_rfl) (by kernel_rfl) (by kernel_rfl) (fun _ _ _ h => h) (by rfl) (fun w hSw => ?_) (by assumption) ?_; rotate_left 1; focus (((try dsimp only at hSw); first | (go_simp; done) | (go_simp; with_reducible rfl)))
          try simp only [Act.put, List.setIfInBounds_toArray, List.set_cons_zero, List.set_cons_succ]
          refine held_take (i := 2) (v := ?_) rfl (by kernel_rfl) (by kernel_rfl) (by kernel_rfl) (fun _ _ _ h => h) (by rfl) (fun w hSw => ?_) (by assumption) ?_; rotate_left 1; focus (((try dsimp only at hSw); first | (go_simp; done) | (go_simp; with_reducible rfl)))
          try simp only [Act.put, List.setIfInBounds_toArray, List.set_cons_zero, List.set_cons_succ]
          refine held_take (i := 3) (v := ?_) rfl (by kernel_rfl) (by kernel_rfl) (by kernel_rfl) (fun _ _ _ h => h) (by rfl) (fun w hSw => ?_) (by assumption) ?_; rotate_left 1; focus (((try dsimp only at hSw); first | (go_simp; done) | (go_simp; with_reducible rfl)))
          try simp only [Act.put, List.setIfInBounds_toArray, List.set_cons_zero, List.set_cons_succ]
          refine held_take (i := 4) (v := ?_) rfl (by kernel_rfl) (by kernel_rfl) (by kernel_rfl) (fun _ _ _ h => h) (by rfl) (fun w hSw => ?_) (by assumption) ?_; rotate_left 1; focus (((try dsimp only at hSw); first | (go_simp; done) | (go_simp; with_reducible rfl)))
          try simp only [Act.put, List.setIfInBounds_toArray, List.set_cons_zero, List.set_cons_succ]
          refine held_take (i := 5) (v := ?_) rfl (by kernel_rfl) (by kernel_rfl) (by kernel_rfl) (fun _ _ _ h => h) (by rfl) (fun w hSw => ?_) (by assumption) ?_; rotate_left 1; focus (((try dsimp only at hSw); first | (go_simp; done) | (go_simp; with_reducible rfl)))
          try simp only [Act.put, List.setIfInBounds_toArray, List.set_cons_zero, List.set_cons_succ]
          refine held_take (i := 6) (v := ?_) rfl (by kernel_rfl) (by kernel_rfl) (by kernel_rfl) (fun _ _ _ h => h) (by rfl) (fun w hSw => ?_) (by assumption) ?_; rotate_left 1; focus (((try dsimp only at hSw); first | (go_simp; done) | (go_simp; with_reducible rfl)))
          try simp only [Act.put, List.setIfInBounds_toArray, List.set_cons_zero, List.set_cons_succ]
          refine held_take (i := 7) (v := ?_) rfl (by kernel_rfl) (by kernel_rfl) (by kernel_rfl) (fun _ _ _ h => h) (by rfl) (fun w hSw => ?_) (by assumption) ?_; rotate_left 1; focus (((try dsimp only at hSw); first | (go_simp; done) | (go_simp; with_reducible rfl)))
          try simp only [Act.put, List.setIfInBounds_toArray, List.set_cons_zero, List.set_cons_succ]
          refine held_take (i := 8) (v := ?_) rfl (by kernel_rfl) (by kernel_rfl) (by kernel_rfl) (fun _ _ _ h => h) (by rfl) (fun w hSw => ?_) (by assumption) ?_; rotate_left 1; focus (((try dsimp only at hSw); first | (go_simp; done) | (go_simp; with_reducible rfl)))
          try simp only [Act.put, List.setIfInBounds_toArray, List.set_cons_zero, List.set_cons_succ]
          refine held_take (i := 9) (v := ?_) rfl (by kernel_rfl) (by kernel_rfl) (by kernel_rfl) (fun _ _ _ h => h) (by rfl) (fun w hSw => ?_) (by assumption) ?_; rotate_left 1; focus (((try dsimp only at hSw); first | (go_simp; done) | (go_simp; with_reducible rfl)))
          try simp only [Act.put, List.setIfInBounds_toArray, List.set_cons_zero, List.set_cons_succ]
          refine held_skip (i := 10) rfl (by kernel_rfl) (by kernel_rfl) (by kernel_rfl) (fun _ _ _ h => h) (by rfl) (by assumption) ?_
          try simp only [Act.put, List.setIfInBounds_toArray, List.set_cons_zero, List.set_cons_succ]
          refine held_skip (i := 11) rfl (by kernel_rfl) (by kernel_rfl) (by kernel_rfl) (fun _ _ _ h => h) (by rfl) (by assumption) ?_
          try simp only [Act.put, List.setIfInBounds_toArray, List.set_cons_zero, List.set_cons_succ]
          refine held_skip (i := 12) rfl (by kernel_rfl) (by kernel_rfl) (by kernel_rfl) (fun _ _ _ h => h) (by rfl) (by assumption) ?_
          try simp only [Act.put, List.setIfInBounds_toArray, List.set_cons_zero, List.set_cons_succ]
          refine held_skip (i := 13) rfl (by kernel_rfl) (by kernel_rfl) (by kernel_rfl) (fun _ _ _ h => h) (by rfl) (by assumption) ?_
          try simp only [Act.put, List.setIfInBounds_toArray, List.set_cons_zero, List.set_cons_succ]
          refine held_skip (i := 14) rfl (by kernel_rfl) (by kernel_rfl) (by kernel_rfl) (fun _ _ _ h => h) (by rfl) (by assumption) ?_
          try simp only [Act.put, List.setIfInBounds_toArray, List.set_cons_zero, List.set_cons_succ]
          refine held_skip (i := 15) rfl (by kernel_rfl) (by kernel_rfl) (by kernel_rfl) (fun _ _ _ h => h) (by rfl) (by assumption) ?_
          try simp only [Act.put, List.setIfInBounds_toArray, List.set_cons_zero, List.set_cons_succ]
          refine held_skip (i := 16) rfl (by kernel_rfl) (by kernel_rfl) (by kernel_rfl) (fun _ _ _ h => h) (by rfl) (by assumption) ?_
          try simp only [Act.put, List.setIfInBounds_toArray, List.set_cons_zero, List.set_cons_succ]
          refine held_skip (i := 17) rfl (by kernel_rfl) (by kernel_rfl) (by kernel_rfl) (fun _ _ _ h => h) (by rfl) (by assumption) ?_
          try simp only [Act.put, List.setIfInBounds_toArray, List.set_cons_zero, List.set_cons_succ]
          refine held_skip (i := 18) rfl (by kernel_rfl) (by kernel_rfl) (by kernel_rfl) (fun _ _ _ h => h) (by rfl) (by assumption) ?_
          try simp only [Act.put, List.setIfInBounds_toArray, List.set_cons_zero, List.set_cons_succ]
          refine held_skip (i := 19) rfl (by kernel_rfl) (by kernel_rfl) (by kernel_rfl) (fun _ _ _ h => h) (by rfl) (by assumption) ?_
          try simp only [Act.put, List.setIfInBounds_toArray, List.set_cons_zero, List.set_cons_succ]
          refine held_skip (i := 20) rfl (by kernel_rfl) (by kernel_rfl) (by kernel_rfl) (fun _ _ _ h => h) (by rfl) (by assumption) ?_
          try simp only [Act.put, List.setIfInBounds_toArray, List.set_cons_zero, List.set_cons_succ]
          refine held_take (i := 21) (v := ?_) rfl (by kernel_rfl) (by kernel_rfl) (by kernel_rfl) (fun _ _ _ h => h) (by rfl) (fun w hSw => ?_) (by assumption) ?_; rotate_left 1; focus (((try dsimp only at hSw); first | (go_simp; done) | (go_simp; with_reducible rfl)))
          try simp only [Act.put, List.setIfInBounds_toArray, List.set_cons_zero, List.set_cons_succ]
          refine held_take (i := 22) (v := ?_) rfl (by kernel_rfl) (by kernel_rfl) (by kernel_rfl) (fun _ _ _ h => h) (by rfl) (fun w hSw => ?_) (by assumption) ?_; rotate_left 1; focus (((try dsimp only at hSw); first | (go_simp; done) | (go_simp; with_reducible rfl)))
          try simp only [Act.put, List.setIfInBounds_toArray, List.set_cons_zero, List.set_cons_succ]
          refine wpAnyH_done (by kernel_rfl) ?_ _
          go_wp2_with fail
          go_roundw
          case rel => exact ⟨j + 1, by omega, by go_num, hb.out.drew⟩
          case measure => simp [intOf]; omega
        | false =>
          have hjP : P ≤ j := by rcases Nat.lt_or_ge j P with h | h; exact absurd (piH.out.2 h) (by decide); exact h
          have p1 : decide (P ≤ j) = true := by rw [decide_eq_true_eq]; omega
          have p2 : decide ((P : Int) ≤ (j : Int)) = true := by rw [decide_eq_true_eq]; omega
          obtain ⟨e, he⟩ := named (j - P)
          have heN : e < N4 := by rw [he.out, hN4.out]; omega
          have i1 : (e : Int) < (N4 : Int) := by omega
          have s1 : (j : Int) - (P : Int) = (e : Int) := by rw [he.out]; omega
          have s2 : wrap64 ((j : Int) - (P : Int)) = (e : Int) := by rw [s1]; unfold wrap64; omega
          have s3 := Lib.hid (wrapi_small (e : Int) (by omega) (by omega))
          obtain ⟨y, hy, rfl, y0, y1, y2, y3⟩ := QB.out.at4 heN
          have hyx : y = ⟨xk, xs, xi, xv⟩ := by
            rw [List.getElem?_drop, show P + e = j by rw [he.out]; omega, hx2.out] at hy
            exact (Option.some.inj hy).symm
          subst hyx
          simp only at y0 y1 y2 y3
          have NEQ : ∀ u : World, (binOp .neq 31 (.agg #[.string xk, .int .u64 (xs : Int), .int .i64 xi, .string xv]) (.agg #[.string xk, .int .u64 (xs : Int), .int .i64 xi, .string xv])).run Try.prog u = .ok (.bool false) u := fun u => neq_rw _ _ _ _ _ _ _ _ _ (by simp) u
          clear hy hjP QB
          have s4 : IntKind.i64.wrap ((j : Int) - (P : Int)) = (e : Int) := by rw [s1]; exact s3.out
          have s5 := s3.out
          have GT := gtr_str xk key false b1
          clear b1
          have b3 : decide (xs ≤ q) = true := b3
          have b3b : decide ((xs : Int) ≤ (q : Int)) = true := by rw [← b3]; congr 1; simp
          go_upto_region 17 with fail
          refine wp_region_held_drew (S := (fun v => (v.cell? ⟨b, o + j * 4, none⟩ = some (.string xk) ∧ v.cell? ⟨b, o + j * 4 + 1, none⟩ = some (.int .u64 (xs : Int)) ∧ v.cell? ⟨b, o + j * 4 + 2, none⟩ = some (.int .i64 xi) ∧ v.cell? ⟨b, o + j * 4 + 3, none⟩ = some (.string xv)) ∧ (v.cell? ⟨b4, o4 + e * 4, none⟩ = some (.string xk) ∧ v.cell? ⟨b4, o4 + e * 4 + 1, none⟩ = some (.int .u64 (xs : Int)) ∧ v.cell? ⟨b4, o4 + e * 4 + 2, none⟩ = some (.int .i64 xi) ∧ v.cell? ⟨b4, o4 + e * 4 + 3, none⟩ = some (.string xv)))) (by kernel_rfl) (⟨⟨x0, x1, x2, x3⟩, ⟨y0, y1, y2, y3⟩⟩) (fun hHeld => ?_)
          refine held_take (i := 0) (v := ?_) rfl (by kernel_rfl) (by kernel_rfl) (by kernel_rfl) (fun _ _ _ h => h) (by rfl) (fun w hSw => ?_) (by assumption) ?_; rotate_left 1; focus (((try dsimp only at hSw); first | (go_simp; done) | (go_simp; with_reducible rfl)))
          try simp only [Act.put, List.setIfInBounds_toArray, List.set_cons_zero, List.set_cons_succ]
          refine held_take (i := 1) (v := ?_) rfl (by kernel_rfl) (by kernel_rfl) (by kernel_rfl) (fun _ _ _ h => h) (by rfl) (fun w hSw => ?_) (by assumption) ?_; rotate_left 1; focus (((try dsimp only at hSw); first | (go_simp; done) | (go_simp; with_reducible rfl)))
          try simp only [Act.put, List.setIfInBounds_toArray, List.set_cons_zero, List.set_cons_succ]
          refine held_take (i := 2) (v := ?_) rfl (by kernel_rfl) (by kernel_rfl) (by kernel_rfl) (fun _ _ _ h => h) (by rfl) (fun w hSw => ?_) (by assumption) ?_; rotate_left 1; focus (((try dsimp only at hSw); first | (go_simp; done) | (go_simp; with_reducible rfl)))
          try simp only [Act.put, List.setIfInBounds_toArray, List.set_cons_zero, List.set_cons_succ]
          refine held_take (i := 3) (v := ?_) rfl (by kernel_rfl) (by kernel_rfl) (by kernel_rfl) (fun _ _ _ h => h) (by rfl) (fun w hSw => ?_) (by assumption) ?_; rotate_left 1; focus (((try dsimp only at hSw); first | (go_simp; done) | (go_simp; with_reducible rfl)))
          try simp only [Act.put, List.setIfInBounds_toArray, List.set_cons_zero, List.set_cons_succ]
          refine held_take (i := 4) (v := ?_) rfl (by kernel_rfl) (by kernel_rfl) (by kernel_rfl) (fun _ _ _ h => h) (by rfl) (fun w hSw => ?_) (by assumption) ?_; rotate_left 1; focus (((try dsimp only at hSw); first | (go_simp; done) | (go_simp; with_reducible rfl)))
          try simp only [Act.put, List.setIfInBounds_toArray, List.set_cons_zero, List.set_cons_succ]
          refine held_take (i := 5) (v := ?_) rfl (by kernel_rfl) (by kernel_rfl) (by kernel_rfl) (fun _ _ _ h => h) (by rfl) (fun w hSw => ?_) (by assumption) ?_; rotate_left 1; focus (((try dsimp only at hSw); first | (go_simp; done) | (go_simp; with_reducible rfl)))
          try simp only [Act.put, List.setIfInBounds_toArray, List.set_cons_zero, List.set_cons_succ]
          refine held_take (i := 6) (v := ?_) rfl (by kernel_rfl) (by kernel_rfl) (by kernel_rfl) (fun _ _ _ h => h) (by rfl) (fun w hSw => ?_) (by assumption) ?_; rotate_left 1; focus (((try dsimp only at hSw); first | (go_simp; done) | (go_simp; with_reducible rfl)))
          try simp only [Act.put, List.setIfInBounds_toArray, List.set_cons_zero, List.set_cons_succ]
          refine held_take (i := 7) (v := ?_) rfl (by kernel_rfl) (by kernel_rfl) (by kernel_rfl) (fun _ _ _ h => h) (by rfl) (fun w hSw => ?_) (by assumption) ?_; rotate_left 1; focus (((try dsimp only at hSw); first | (go_simp; done) | (go_simp; with_reducible rfl)))
          try simp only [Act.put, List.setIfInBounds_toArray, List.set_cons_zero, List.set_cons_succ]
          refine held_take (i := 8) (v := ?_) rfl (by kernel_rfl) (by kernel_rfl) (by kernel_rfl) (fun _ _ _ h => h) (by rfl) (fun w hSw => ?_) (by assumption) ?_; rotate_left 1; focus (((try dsimp only at hSw); first | (go_simp; done) | (go_simp; with_reducible rfl)))
          try simp only [Act.put, List.setIfInBounds_toArray, List.set_cons_zero, List.set_cons_succ]
          refine held_take (i := 9) (v := ?_) rfl (by kernel_rfl) (by kernel_rfl) (by kernel_rfl) (fun _ _ _ h => h) (by rfl) (fun w hSw => ?_) (by assumption) ?_; rotate_left 1; focus (((try dsimp only at hSw); first | (go_simp; done) | (go_simp; with_reducible rfl)))
          try simp only [Act.put, List.setIfInBounds_toArray, List.set_cons_zero, List.set_cons_succ]
          refine held_take (i := 10) (v := ?_) rfl (by kernel_rfl) (by kernel_rfl) (by kernel_rfl) (fun _ _ _ h => h) (by rfl) (fun w hSw => ?_) (by assumption) ?_; rotate_left 1; focus (((try dsimp only at hSw); first | (go_simp; done) | (go_simp; with_reducible rfl)))
          try simp only [Act.put, List.setIfInBounds_toArray, List.set_cons_zero, List.set_cons_succ]
          refine held_take (i := 11) (v := ?_) rfl (by kernel_rfl) (by kernel_rfl) (by kernel_rfl) (fun _ _ _ h => h) (by rfl) (fun w hSw => ?_) (by assumption) ?_; rotate_left 1; focus (((try dsimp only at hSw); first | (go_simp; done) | (go_simp; with_reducible rfl)))
          try simp only [Act.put, List.setIfInBounds_toArray, List.set_cons_zero, List.set_cons_succ]
          refine held_take (i := 12) (v := ?_) rfl (by kernel_rfl) (by kernel_rfl) (by kernel_rfl) (fun _ _ _ h => h) (by rfl) (fun w hSw => ?_) (by assumption) ?_; rotate_left 1; focus (((try dsimp only at hSw); first | (go_simp; done) | (go_simp; with_reducible rfl)))
          try simp only [Act.put, List.setIfInBounds_toArray, List.set_cons_zero, List.set_cons_succ]
          refine held_take (i := 13) (v := ?_) rfl (by kernel_rfl) (by kernel_rfl) (by kernel_rfl) (fun _ _ _ h => h) (by rfl) (fun w hSw => ?_) (by assumption) ?_; rotate_left 1; focus (((try dsimp only at hSw); first | (go_simp; done) | (go_simp; with_reducible rfl)))
          try simp only [Act.put, List.setIfInBounds_toArray, List.set_cons_zero, List.set_cons_succ]
          refine held_take (i := 14) (v := ?_) rfl (by kernel_rfl) (by kernel_rfl) (by kernel_rfl) (fun _ _ _ h => h) (by rfl) (fun w hSw => ?_) (by assumption) ?_; rotate_left 1; focus (((try dsimp only at hSw); first | (go_simp; done) | (go_simp; with_reducible rfl)))
          try simp only [Act.put, List.setIfInBounds_toArray, List.set_cons_zero, List.set_cons_succ]
          refine held_take (i := 15) (v := ?_) rfl (by kernel_rfl) (by kernel_rfl) (by kernel_rfl) (fun _ _ _ h => h) (by rfl) (fun w hSw => ?_) (by assumption) ?_; rotate_left 1; focus (((try dsimp only at hSw); first | (go_simp; done) | (go_simp; with_reducible rfl)))
          try simp only [Act.put, List.setIfInBounds_toArray, List.set_cons_zero, List.set_cons_succ]
          refine held_take (i := 16) (v := ?_) rfl (by kernel_rfl) (by kernel_rfl) (by kernel_rfl) (fun _ _ _ h => h) (by rfl) (fun w hSw => ?_) (by assumption) ?_; rotate_left 1; focus (((try dsimp only at hSw); first | (go_simp; done) | (go_simp; with_reducible rfl)))
          try simp only [Act.put, List.setIfInBounds_toArray, List.set_cons_zero, List.set_cons_succ]
          refine held_take (i := 17) (v := ?_) rfl (by kernel_rfl) (by kernel_rfl) (by kernel_rfl) (fun _ _ _ h => h) (by rfl) (fun w hSw => ?_) (by assumption) ?_; rotate_left 1; focus (((try dsimp only at hSw); first | (go_simp; done) | (go_simp; with_reducible rfl)))
          try simp only [Act.put, List.setIfInBounds_toArray, List.set_cons_zero, List.set_cons_succ]
          refine held_take (i := 18) (v := ?_) rfl (by kernel_rfl) (by kernel_rfl) (by kernel_rfl) (fun _ _ _ h => h) (by rfl) (fun w hSw => ?_) (by assumption) ?_; rotate_left 1; focus (((try dsimp only at hSw); first | (go_simp; done) | (go_simp; with_reducible rfl)))
          try simp only [Act.put, List.setIfInBounds_toArray, List.set_cons_zero, List.set_cons_succ]
          refine held_take (i := 19) (v := ?_) rfl (by kernel_rfl) (by kernel_rfl) (by kernel_rfl) (fun _ _ _ h => h) (by rfl) (fun w hSw => ?_) (by assumption) ?_; rotate_left 1; focus (((try dsimp only at hSw); first | (go_simp; done) | (go_simp; with_reducible rfl)))
          try simp only [Act.put, List.setIfInBounds_toArray, List.set_cons_zero, List.set_cons_succ]
          refine held_take (i := 20) (v := ?_) rfl (by kernel_rfl) (by kernel_rfl) (by kernel_rfl) (fun _ _ _ h => h) (by rfl) (fun w hSw => ?_) (by assumption) ?_; rotate_left 1; focus (((try dsimp only at hSw); first | (go_simp; done) | (go_simp; with_reducible rfl)))
          try simp only [Act.put, List.setIfInBounds_toArray, List.set_cons_zero, List.set_cons_succ]
          refine held_take (i := 21) (v := ?_) rfl (by kernel_rfl) (by kernel_rfl) (by kernel_rfl) (fun _ _ _ h => h) (by rfl) (fun w hSw => ?_) (by assumption) ?_; rotate_left 1; focus (((try dsimp only at hSw); first | (go_simp; done) | (go_simp; with_reducible rfl)))
          try simp only [Act.put, List.setIfInBounds_toArray, List.set_cons_zero, List.set_cons_succ]
          refine held_take (i := 22) (v := ?_) rfl (by kernel_rfl) (by kernel_rfl) (by kernel_rfl) (fun _ _ _ h => h) (by rfl) (fun w hSw => ?_) (by assumption) ?_; rotate_left 1; focus (((try dsimp only at hSw); first | (go_simp; done) | (go_simp; with_reducible rfl)))
          try simp only [Act.put, List.setIfInBounds_toArray, List.set_cons_zero, List.set_cons_succ]
          refine wpAnyH_done (by kernel_rfl) ?_ _
          clear s2 s4 s5
          go_wp2_with fail
          go_roundw
          case rel => exact ⟨j + 1, by omega, by go_num, hb.out.drew⟩
          case measure => simp [intOf]; omega
    · have i0 : ¬ (j : Int) < (n : Int) := by omega
      go_wp2_with (go_at_call 10; ((with_reducible refine (AW.out _).mono ?_); rintro e w9 ⟨rfl, hb9⟩; have W9 := Lib.hid (below_of WW.out hb9); clear hb9))
      go_returns
      exact ⟨rfl, W9.out⟩
--LAW freshetlaw11.BlockBack back_walk rows:ra int:d1 int:d2 string:key uint64:sq
--BEGIN
namespace BlockBackProof
open Go.ChangeShapes Go.WideShapes Go.ChangeAt Go.RowKit
open Go.ChangeMaps (open_string shut_string)
theorem own : ownKnob Try.prog.godebug = none := by kernel_rfl
set_option maxRecDepth 100000 in
theorem lifted (os : Os) (started : os.Started) (H : Type) (enc : TypeId × Value → H) :
    ReturnsInHanded {} Try.checked os 6 .any (Rows.blockBackSpec.pre6 enc Try.prog Try.f6 Rows.blockBackRow.domain false) (Rows.blockBackSpec.post enc Try.prog Try.f6 false true false false) := by
  refine returnsInHanded_of_change_sized (C := Try.checked) own started (by kernel_rfl) Try.func6
    (ChangeSpec.witness6 (enc := enc) (C := Try.checked) false ⟨#[], #[.slice none 0 0, .int .i64 0, .int .i64 0, .string .empty, .int .u64 0], []⟩ 8 (by kernel_rfl) (by kernel_rfl) (by kernel_rfl) (by kernel_rfl)) ?_
  intro W base args ds gs before hval0 hW _ hsz _
  have hval : ∀ (j : Nat) t v, Try.f6.params[j]? = some t → args[j]? = some v → Value.okWide Try.prog W .any base t v := hval0
  have hW' := hW
  obtain ⟨p, q, hA0, hV, rfl, hfz, hnd⟩ := hW
  have hA : DataW.TrodAll enc Try.prog W 0 (fun _ => true) true Try.f6.params.toList args.toList ds p := hA0
  rw [Try.params6] at hA hval hsz
  obtain ⟨v0, vs0, d0, ds0, p0, q0, hargs, rfl, rfl, h0, r0⟩ := trodAll_cons hA
  obtain ⟨v1, vs1, d1, ds1, p1, q1, rfl, rfl, rfl, h1, r1⟩ := trodAll_cons r0
  obtain ⟨v2, vs2, d2, ds2, p2, q2, rfl, rfl, rfl, h2, r2⟩ := trodAll_cons r1
  obtain ⟨v3, vs3, d3, ds3, p3, q3, rfl, rfl, rfl, h3, r3⟩ := trodAll_cons r2
  obtain ⟨v4, vs4, d4, ds4, p4, q4, rfl, rfl, rfl, h4, r4⟩ := trodAll_cons r3
  obtain ⟨rfl, rfl, rfl⟩ := trodAll_nil r4
  obtain rfl : args = #[v0, v1, v2, v3, v4] := by cases args; simp_all
  obtain ⟨rfl, rfl⟩ := trodVars_none hV
  obtain ⟨a0, n0, c0, rfl⟩ := okWide_slice Try.underlying22 (hval 0 22 v0 rfl rfl)
  have k0 := h0
  obtain ⟨fu0, hf0⟩ := h0
  obtain ⟨b0, o0, ra, ia0⟩ := open_rows hf0 hsz (j := 0) rfl rfl
  have lt0 : ∀ x ∈ p0, x.block < W.heap.size := fun x hx => hW'.lt x (by simp only [List.mem_append]; simp [hx])
  obtain ⟨d1, rfl, rfl, rfl, m1⟩ := open_int Try.underlying3 (hval 1 3 v1 rfl rfl) h1
  obtain ⟨d2, rfl, rfl, rfl, m2⟩ := open_int Try.underlying3 (hval 2 3 v2 rfl rfl) h2
  obtain ⟨key, rfl, rfl, rfl, m3⟩ := open_string Try.underlying9 (hval 3 9 v3 rfl rfl) h3
  obtain ⟨sq, rfl, rfl, rfl, m4⟩ := open_int Try.underlying29 (hval 4 29 v4 rfl rfl) h4
  have z3 : key.size ≤ reachBytes := by have := sized_string hsz (j := 3) (t := 9) (bytes := key.data.toList) rfl rfl; simpa using this
  clear hA0 hval0
  simp only [List.append_nil] at hW'
  refine (back_walk a0 n0 c0 b0 o0 ra d1 m1 d2 m2 key z3 sq m4 W ia0).mono fun e W' ⟨he, hg⟩ => ?_
  subst he
  exact ⟨_, rfl, _, _, _, [], _, [], hW', (trodAll_cons_mk (shut_bool Try.underlying4 _) trodAll_mk0), (trodAll_cons_mk (Below.trod laid_out (by kernel_rfl) (of_decide_eq_true (by kernel_rfl)) k0 hg lt0) (trodAll_cons_mk (shut_int Try.underlying3 m1) (trodAll_cons_mk (shut_int Try.underlying3 m2) (trodAll_cons_mk (shut_string Try.underlying9 m3) (trodAll_cons_mk (shut_int Try.underlying29 m4) trodAll_mk0))))), rfl, hg.frame _, fun h => by cases h⟩
theorem holds : Rows.BlockBackSaid :=
  OpenClaim.holds_of_wide 6 Try.f6 rfl rfl rfl rfl rfl rfl rfl ⟨rfl, rfl, rfl, rfl, rfl⟩ rfl rfl rfl rfl rfl (by kernel_rfl) Try.func6 (by kernel_rfl)
    (of_decide_eq_true (by kernel_rfl)) (by unfold Func.isWrapper; first | (rw [if_pos (by decide +kernel)]; kernel_rfl) | (rw [if_neg (by decide +kernel)]; exact ⟨rfl, rfl⟩))
    (fun os started H enc _ => lifted os started H enc)
end BlockBackProof
--END
end Go.Proofs.Ytpdjndnehcpeiaa
