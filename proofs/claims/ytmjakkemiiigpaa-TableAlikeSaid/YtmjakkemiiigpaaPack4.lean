/-
  The contracts of Order and checkAll. No condition.
-/
import Derived.Test.YtmjakkemiiigpaaPack3
import Derived.Deep.DrawnRows
import Derived.Deep.RegionHeld
import Derived.Deep.RegionWith
import Derived.Deep.Cut
import Derived.Deep.DeepCutAuto
import Derived.BigRegion
namespace Go.Proofs.Ytmjakkemiiigpaa
set_option maxRecDepth 100000
open Go.RowKit
theorem ordR_iff : ∀ l : List Rw, ordR l = true ↔ ∀ (j : Nat) x y, l[j]? = some x → l[j + 1]? = some y → ahd x y.key y.seq = true
  | [] => by simp [ordR]
  | [x] => by
    simp only [ordR, Bool.true_and, true_iff]
    intro j a b _ h
    simp at h
  | x :: y :: r => by
    have ih := ordR_iff (y :: r)
    rw [ordR, Bool.and_eq_true, ih]
    constructor
    · rintro ⟨h1, h2⟩ j a b ha hb
      cases j with
      | zero =>
        obtain rfl : x = a := by simpa using ha
        obtain rfl : y = b := by simpa using hb
        exact h1
      | succ j => exact h2 j a b (by simpa using ha) (by simpa using hb)
    · intro h
      exact ⟨h 0 x y rfl rfl, fun j a b ha hb => h (j + 1) a b (by simpa using ha) (by simpa using hb)⟩
set_option maxRecDepth 100000 in
set_option maxHeartbeats 4000000 in
theorem order_any {a : Option Addr} {n c b o : Nat} {l : List Rw} {w : World} (h : Rs a n c b o l w) :
    Calls Try.prog 36 #[.slice a n c] w fun e w' => e = .returned (.bool (ordR l)) ∧ Below w.heap.size w w' := by
  have e0 := Lib.hid h.len
  have m0 := h.most
  have q0 := h.cap
  obtain ⟨E, hE⟩ := named (ordR l)
  rw [← hE.out]
  have h := Lib.hid h
  go_enter Try.func36, Try.ntmps36
  go_wp2_with fail
  go_loopw [3] (fun i wr => ∃ j : Nat, (j + 1 ≤ n ∨ j = 0) ∧ i = .int .i64 ((j : Int) + 1) ∧ (∀ (k : Nat) x y, k < j → l[k]? = some x → l[k + 1]? = some y → ahd x y.key y.seq = true) ∧ Below w.heap.size w wr) (fun i _ => n + 1 - (intOf i).toNat)
  case atStart => exact ⟨0, .inr rfl, rfl, fun k _ _ hk => absurd hk (by omega), Below.refl _ _⟩
  case round =>
    obtain ⟨j, hj, rfl, ho, hb⟩ := hrel
    by_cases hlt : j + 1 < n
    · obtain ⟨x, hx, rfl, x0, x1, x2, x3⟩ := (h.out.below hb (Nat.le_refl _)).at4 (show j < n by omega)
      obtain ⟨y, hy, _, y0, y1, y2, y3⟩ := (h.out.below hb (Nat.le_refl _)).at4 hlt
      have AC := Lib.hid (fun u => before_any x y.key y.seq u)
      obtain ⟨T, hT⟩ := named (ahd x y.key y.seq)
      have AC : Hid (∀ u, Calls Try.prog 68 #[rowV x, .string y.key, .int .u64 (y.seq : Int)] u fun e w' => e = .returned (.bool T) ∧ Below u.heap.size u w') := Lib.hid (by rw [hT.out]; exact AC.out)
      have hbad : Hid (T = false → E = false) := Lib.hid (fun hf => by
        rw [hE.out]
        cases hc : ordR l with
        | false => rfl
        | true => rw [← (ordR_iff l).1 hc j x y hx hy, ← hT.out, hf])
      have hgood : Hid (T = true → ∀ (k : Nat) x y, k < j + 1 → l[k]? = some x → l[k + 1]? = some y → ahd x y.key y.seq = true) := Lib.hid (fun ht k a b hk ha hb => by
        by_cases hkj : k = j
        · subst hkj
          rw [hx] at ha
          rw [hy] at hb
          cases ha; cases hb
          rw [← hT.out, ht]
        · exact ho k a b (by omega) ha hb)
      have i1 : (j : Int) + 1 < (n : Int) := by omega
      have i0 : (j : Int) < (n : Int) := by omega
      have i2 : j < n := by omega
      have i3 : (0 : Int) ≤ (j : Int) + 1 := by omega
      have wr1 : wrap64 ((j : Int) + 1 - 1) = (j : Int) := by unfold wrap64; omega
      have wr2 : (j : Int) + 1 - 1 = (j : Int) := by omega
      have wr3 : wrap64 (j : Int) = (j : Int) := by unfold wrap64; omega
      have wr4 : IntKind.i64.wrap (j : Int) = (j : Int) := by simp [IntKind.wrap_i64]; omega
      have wr5 : IntKind.i64.wrap ((j : Int) + 1 - 1) = (j : Int) := by rw [wr2, wr4]
      obtain ⟨xk, xs, xi, xv⟩ := x
      obtain ⟨yk, ys, yi, yv⟩ := y
      simp only at x0 x1 x2 x3 y0 y1 y2 y3 AC
      have hb := Lib.hid hb.drew
      have m2 := Lib.hid (show wr.drew.cell? ⟨b, o + j * 4, none⟩ = some (.string xk) ∧ wr.drew.cell? ⟨b, o + j * 4 + 1, none⟩ = some (.int .u64 (xs : Int)) ∧ wr.drew.cell? ⟨b, o + j * 4 + 2, none⟩ = some (.int .i64 xi) ∧ wr.drew.cell? ⟨b, o + j * 4 + 3, none⟩ = some (.string xv) ∧ wr.drew.cell? ⟨b, o + (j + 1) * 4, none⟩ = some (.string yk) ∧ wr.drew.cell? ⟨b, o + (j + 1) * 4 + 1, none⟩ = some (.int .u64 (ys : Int)) from ⟨x0, x1, x2, x3, y0, y1⟩)
      have hkeep : Hid (∀ w2, Below wr.drew.heap.size wr.drew w2 → w2.cell? ⟨b, o + j * 4, none⟩ = some (.string xk) ∧ w2.cell? ⟨b, o + j * 4 + 1, none⟩ = some (.int .u64 (xs : Int)) ∧ w2.cell? ⟨b, o + j * 4 + 2, none⟩ = some (.int .i64 xi) ∧ w2.cell? ⟨b, o + j * 4 + 3, none⟩ = some (.string xv) ∧ w2.cell? ⟨b, o + (j + 1) * 4, none⟩ = some (.string yk) ∧ w2.cell? ⟨b, o + (j + 1) * 4 + 1, none⟩ = some (.int .u64 (ys : Int))) := Lib.hid (fun w2 hb2 => by
        obtain ⟨c0, c1, c2, c3, c4, c5⟩ := m2.out
        exact ⟨cell_keep hb2 c0, cell_keep hb2 c1, cell_keep hb2 c2, cell_keep hb2 c3, cell_keep hb2 c4, cell_keep hb2 c5⟩)
      clear hx hy hT ho x0 x1 x2 x3 y0 y1 y2 y3
      cases T with
      | true =>
        have hg := Lib.hid (hgood.out rfl)
        clear hgood hbad
        go_upto_region 4 with fail
        refine wp_region_held_drew (S := (fun v => v.cell? ⟨b, o + j * 4, none⟩ = some (.string xk) ∧ v.cell? ⟨b, o + j * 4 + 1, none⟩ = some (.int .u64 (xs : Int)) ∧ v.cell? ⟨b, o + j * 4 + 2, none⟩ = some (.int .i64 xi) ∧ v.cell? ⟨b, o + j * 4 + 3, none⟩ = some (.string xv) ∧ v.cell? ⟨b, o + (j + 1) * 4, none⟩ = some (.string yk) ∧ v.cell? ⟨b, o + (j + 1) * 4 + 1, none⟩ = some (.int .u64 (ys : Int)))) (by kernel_rfl) (m2.out) (fun hHeld => ?_)
        refine held_take (i := 0) (v := ?_) rfl (by kernel_rfl) (by kernel_rfl) (by kernel_rfl) (fun _ _ _ h => h) (by rfl) (fun w hSw => ?_) (by assumption) ?_; rotate_left 1; focus (((try dsimp only at hSw); first | (go_simp; done) | (go_simp; with_reducible rfl)))
        try simp only [Act.put, List.setIfInBounds_toArray, List.set_cons_zero, List.set_cons_succ]
        refine held_take (i := 1) (v := ?_) rfl (by kernel_rfl) (by kernel_rfl) (by kernel_rfl) (fun _ _ _ h => h) (by rfl) (fun w hSw => ?_) (by assumption) ?_; rotate_left 1; focus (((try dsimp only at hSw); first | (go_simp; done) | (go_simp; with_reducible rfl)))
        try simp only [Act.put, List.setIfInBounds_toArray, List.set_cons_zero, List.set_cons_succ]
        refine held_take (i := 2) (v := ?_) rfl (by kernel_rfl) (by kernel_rfl) (by kernel_rfl) (fun _ _ _ h => h) (by rfl) (fun w hSw => ?_) (by assumption) ?_; rotate_left 1; focus (((try dsimp only at hSw); first | (go_simp; done) | (go_simp; with_reducible rfl)))
        try simp only [Act.put, List.setIfInBounds_toArray, List.set_cons_zero, List.set_cons_succ]
        refine held_take (i := 3) (v := ?_) rfl (by kernel_rfl) (by kernel_rfl) (by kernel_rfl) (fun _ _ _ h => h) (by rfl) (fun w hSw => ?_) (by assumption) ?_; rotate_left 1; focus (((try dsimp only at hSw); first | (go_simp; done) | (go_simp; with_reducible rfl)))
        try simp only [Act.put, List.setIfInBounds_toArray, List.set_cons_zero, List.set_cons_succ]
        refine held_take (i := 4) (v := ?_) rfl (by kernel_rfl) (by kernel_rfl) (by kernel_rfl) (fun _ _ _ h => h) (by rfl) (fun w hSw => ?_) (by assumption) ?_; rotate_left 1; focus (((try dsimp only at hSw); first | (go_simp; done) | (go_simp; with_reducible rfl)))
        try simp only [Act.put, List.setIfInBounds_toArray, List.set_cons_zero, List.set_cons_succ]
        refine held_take (i := 5) (v := ?_) rfl (by kernel_rfl) (by kernel_rfl) (by kernel_rfl) (fun _ _ _ h => h) (by rfl) (fun w hSw => ?_) (by assumption) ?_; rotate_left 1; focus (((try dsimp only at hSw); first | (go_simp; done) | (go_simp; with_reducible rfl)))
        try simp only [Act.put, List.setIfInBounds_toArray, List.set_cons_zero, List.set_cons_succ]
        refine held_take (i := 6) (v := ?_) rfl (by kernel_rfl) (by kernel_rfl) (by kernel_rfl) (fun _ _ _ h => h) (by rfl) (fun w hSw => ?_) (by assumption) ?_; rotate_left 1; focus (((try dsimp only at hSw); first | (go_simp; done) | (go_simp; with_reducible rfl)))
        try simp only [Act.put, List.setIfInBounds_toArray, List.set_cons_zero, List.set_cons_succ]
        refine held_take (i := 7) (v := ?_) rfl (by kernel_rfl) (by kernel_rfl) (by kernel_rfl) (fun _ _ _ h => h) (by rfl) (fun w hSw => ?_) (by assumption) ?_; rotate_left 1; focus (((try dsimp only at hSw); first | (go_simp; done) | (go_simp; with_reducible rfl)))
        try simp only [Act.put, List.setIfInBounds_toArray, List.set_cons_zero, List.set_cons_succ]
        refine held_take (i := 8) (v := ?_) rfl (by kernel_rfl) (by kernel_rfl) (by kernel_rfl) (fun _ _ _ h => h) (by rfl) (fun w hSw => ?_) (by assumption) ?_; rotate_left 1; focus (((try dsimp only at hSw); first | (go_simp; done) | (go_simp; with_reducible rfl)))
        try simp only [Act.put, List.setIfInBounds_toArray, List.set_cons_zero, List.set_cons_succ]
        refine held_take (i := 9) (v := ?_) rfl (by kernel_rfl) (by kernel_rfl) (by kernel_rfl) (fun _ _ _ h => h) (by rfl) (fun w hSw => ?_) (by assumption) ?_; rotate_left 1; focus (((try dsimp only at hSw); first | (go_simp; done) | (go_simp; with_reducible rfl)))
        try simp only [Act.put, List.setIfInBounds_toArray, List.set_cons_zero, List.set_cons_succ]
        refine held_take (i := 10) (v := ?_) rfl (by kernel_rfl) (by kernel_rfl) (by kernel_rfl) (fun _ _ _ h => h) (by rfl) (fun w hSw => ?_) (by assumption) ?_; rotate_left 1; focus (((try dsimp only at hSw); first | (go_simp; done) | (go_simp; with_reducible rfl)))
        try simp only [Act.put, List.setIfInBounds_toArray, List.set_cons_zero, List.set_cons_succ]
        refine held_take (i := 11) (v := ?_) rfl (by kernel_rfl) (by kernel_rfl) (by kernel_rfl) (fun _ _ _ h => h) (by rfl) (fun w hSw => ?_) (by assumption) ?_; rotate_left 1; focus (((try dsimp only at hSw); first | (go_simp; done) | (go_simp; with_reducible rfl)))
        try simp only [Act.put, List.setIfInBounds_toArray, List.set_cons_zero, List.set_cons_succ]
        refine held_take (i := 12) (v := ?_) rfl (by kernel_rfl) (by kernel_rfl) (by kernel_rfl) (fun _ _ _ h => h) (by rfl) (fun w hSw => ?_) (by assumption) ?_; rotate_left 1; focus (((try dsimp only at hSw); first | (go_simp; done) | (go_simp; with_reducible rfl)))
        try simp only [Act.put, List.setIfInBounds_toArray, List.set_cons_zero, List.set_cons_succ]
        refine held_take (i := 13) (v := ?_) rfl (by kernel_rfl) (by kernel_rfl) (by kernel_rfl) (fun _ _ _ h => h) (by rfl) (fun w hSw => ?_) (by assumption) ?_; rotate_left 1; focus (((try dsimp only at hSw); first | (go_simp; done) | (go_simp; with_reducible rfl)))
        try simp only [Act.put, List.setIfInBounds_toArray, List.set_cons_zero, List.set_cons_succ]
        refine held_take (i := 14) (v := ?_) rfl (by kernel_rfl) (by kernel_rfl) (by kernel_rfl) (fun _ _ _ h => h) (by rfl) (fun w hSw => ?_) (by assumption) ?_; rotate_left 1; focus (((try dsimp only at hSw); first | (go_simp; done) | (go_simp; with_reducible rfl)))
        try simp only [Act.put, List.setIfInBounds_toArray, List.set_cons_zero, List.set_cons_succ]
        refine held_call (i := 15) (by kernel_rfl) rfl (by rfl) (fun K hK => ?_)
        go_simp
        (go_at_call 68; ((with_reducible refine (AC.out _).mono ?_); rintro e w2 ⟨rfl, hb2⟩))
        have m3 := Lib.hid (hkeep.out _ hb2)
        have B2 : Hid (Below w.heap.size w w2) := Lib.hid (below_of hb.out hb2)
        clear hb2
        refine hK.out _ _ (m3.out) (fun hHeld => ?_)
        try simp only [Act.put, List.setIfInBounds_toArray, List.set_cons_zero, List.set_cons_succ]
        refine held_take (i := 16) (v := ?_) rfl (by kernel_rfl) (by kernel_rfl) (by kernel_rfl) (fun _ _ _ h => h) (by rfl) (fun w hSw => ?_) (by assumption) ?_; rotate_left 1; focus (((try dsimp only at hSw); first | (go_simp; done) | (go_simp; with_reducible rfl)))
        try simp only [Act.put, List.setIfInBounds_toArray, List.set_cons_zero, List.set_cons_succ]
        refine wpAnyH_done (by kernel_rfl) ?_ _
        go_wp2_with fail
        go_roundw
        case rel => exact ⟨j + 1, by omega, by go_num, hg.out, B2.out⟩
        case measure => simp [intOf]; omega
      | false =>
        have hE2 := Lib.hid (hbad.out rfl)
        clear hgood hbad
        go_upto_region 4 with fail
        refine wp_region_held_drew (S := (fun v => v.cell? ⟨b, o + j * 4, none⟩ = some (.string xk) ∧ v.cell? ⟨b, o + j * 4 + 1, none⟩ = some (.int .u64 (xs : Int)) ∧ v.cell? ⟨b, o + j * 4 + 2, none⟩ = some (.int .i64 xi) ∧ v.cell? ⟨b, o + j * 4 + 3, none⟩ = some (.string xv) ∧ v.cell? ⟨b, o + (j + 1) * 4, none⟩ = some (.string yk) ∧ v.cell? ⟨b, o + (j + 1) * 4 + 1, none⟩ = some (.int .u64 (ys : Int)))) (by kernel_rfl) (m2.out) (fun hHeld => ?_)
        refine held_take (i := 0) (v := ?_) rfl (by kernel_rfl) (by kernel_rfl) (by kernel_rfl) (fun _ _ _ h => h) (by rfl) (fun w hSw => ?_) (by assumption) ?_; rotate_left 1; focus (((try dsimp only at hSw); first | (go_simp; done) | (go_simp; with_reducible rfl)))
        try simp only [Act.put, List.setIfInBounds_toArray, List.set_cons_zero, List.set_cons_succ]
        refine held_take (i := 1) (v := ?_) rfl (by kernel_rfl) (by kernel_rfl) (by kernel_rfl) (fun _ _ _ h => h) (by rfl) (fun w hSw => ?_) (by assumption) ?_; rotate_left 1; focus (((try dsimp only at hSw); first | (go_simp; done) | (go_simp; with_reducible rfl)))
        try simp only [Act.put, List.setIfInBounds_toArray, List.set_cons_zero, List.set_cons_succ]
        refine held_take (i := 2) (v := ?_) rfl (by kernel_rfl) (by kernel_rfl) (by kernel_rfl) (fun _ _ _ h => h) (by rfl) (fun w hSw => ?_) (by assumption) ?_; rotate_left 1; focus (((try dsimp only at hSw); first | (go_simp; done) | (go_simp; with_reducible rfl)))
        try simp only [Act.put, List.setIfInBounds_toArray, List.set_cons_zero, List.set_cons_succ]
        refine held_take (i := 3) (v := ?_) rfl (by kernel_rfl) (by kernel_rfl) (by kernel_rfl) (fun _ _ _ h => h) (by rfl) (fun w hSw => ?_) (by assumption) ?_; rotate_left 1; focus (((try dsimp only at hSw); first | (go_simp; done) | (go_simp; with_reducible rfl)))
        try simp only [Act.put, List.setIfInBounds_toArray, List.set_cons_zero, List.set_cons_succ]
        refine held_take (i := 4) (v := ?_) rfl (by kernel_rfl) (by kernel_rfl) (by kernel_rfl) (fun _ _ _ h => h) (by rfl) (fun w hSw => ?_) (by assumption) ?_; rotate_left 1; focus (((try dsimp only at hSw); first | (go_simp; done) | (go_simp; with_reducible rfl)))
        try simp only [Act.put, List.setIfInBounds_toArray, List.set_cons_zero, List.set_cons_succ]
        refine held_take (i := 5) (v := ?_) rfl (by kernel_rfl) (by kernel_rfl) (by kernel_rfl) (fun _ _ _ h => h) (by rfl) (fun w hSw => ?_) (by assumption) ?_; rotate_left 1; focus (((try dsimp only at hSw); first | (go_simp; done) | (go_simp; with_reducible rfl)))
        try simp only [Act.put, List.setIfInBounds_toArray, List.set_cons_zero, List.set_cons_succ]
        refine held_take (i := 6) (v := ?_) rfl (by kernel_rfl) (by kernel_rfl) (by kernel_rfl) (fun _ _ _ h => h) (by rfl) (fun w hSw => ?_) (by assumption) ?_; rotate_left 1; focus (((try dsimp only at hSw); first | (go_simp; done) | (go_simp; with_reducible rfl)))
        try simp only [Act.put, List.setIfInBounds_toArray, List.set_cons_zero, List.set_cons_succ]
        refine held_take (i := 7) (v := ?_) rfl (by kernel_rfl) (by kernel_rfl) (by kernel_rfl) (fun _ _ _ h => h) (by rfl) (fun w hSw => ?_) (by assumption) ?_; rotate_left 1; focus (((try dsimp only at hSw); first | (go_simp; done) | (go_simp; with_reducible rfl)))
        try simp only [Act.put, List.setIfInBounds_toArray, List.set_cons_zero, List.set_cons_succ]
        refine held_take (i := 8) (v := ?_) rfl (by kernel_rfl) (by kernel_rfl) (by kernel_rfl) (fun _ _ _ h => h) (by rfl) (fun w hSw => ?_) (by assumption) ?_; rotate_left 1; focus (((try dsimp only at hSw); first | (go_simp; done) | (go_simp; with_reducible rfl)))
        try simp only [Act.put, List.setIfInBounds_toArray, List.set_cons_zero, List.set_cons_succ]
        refine held_take (i := 9) (v := ?_) rfl (by kernel_rfl) (by kernel_rfl) (by kernel_rfl) (fun _ _ _ h => h) (by rfl) (fun w hSw => ?_) (by assumption) ?_; rotate_left 1; focus (((try dsimp only at hSw); first | (go_simp; done) | (go_simp; with_reducible rfl)))
        try simp only [Act.put, List.setIfInBounds_toArray, List.set_cons_zero, List.set_cons_succ]
        refine held_take (i := 10) (v := ?_) rfl (by kernel_rfl) (by kernel_rfl) (by kernel_rfl) (fun _ _ _ h => h) (by rfl) (fun w hSw => ?_) (by assumption) ?_; rotate_left 1; focus (((try dsimp only at hSw); first | (go_simp; done) | (go_simp; with_reducible rfl)))
        try simp only [Act.put, List.setIfInBounds_toArray, List.set_cons_zero, List.set_cons_succ]
        refine held_take (i := 11) (v := ?_) rfl (by kernel_rfl) (by kernel_rfl) (by kernel_rfl) (fun _ _ _ h => h) (by rfl) (fun w hSw => ?_) (by assumption) ?_; rotate_left 1; focus (((try dsimp only at hSw); first | (go_simp; done) | (go_simp; with_reducible rfl)))
        try simp only [Act.put, List.setIfInBounds_toArray, List.set_cons_zero, List.set_cons_succ]
        refine held_take (i := 12) (v := ?_) rfl (by kernel_rfl) (by kernel_rfl) (by kernel_rfl) (fun _ _ _ h => h) (by rfl) (fun w hSw => ?_) (by assumption) ?_; rotate_left 1; focus (((try dsimp only at hSw); first | (go_simp; done) | (go_simp; with_reducible rfl)))
        try simp only [Act.put, List.setIfInBounds_toArray, List.set_cons_zero, List.set_cons_succ]
        refine held_take (i := 13) (v := ?_) rfl (by kernel_rfl) (by kernel_rfl) (by kernel_rfl) (fun _ _ _ h => h) (by rfl) (fun w hSw => ?_) (by assumption) ?_; rotate_left 1; focus (((try dsimp only at hSw); first | (go_simp; done) | (go_simp; with_reducible rfl)))
        try simp only [Act.put, List.setIfInBounds_toArray, List.set_cons_zero, List.set_cons_succ]
        refine held_take (i := 14) (v := ?_) rfl (by kernel_rfl) (by kernel_rfl) (by kernel_rfl) (fun _ _ _ h => h) (by rfl) (fun w hSw => ?_) (by assumption) ?_; rotate_left 1; focus (((try dsimp only at hSw); first | (go_simp; done) | (go_simp; with_reducible rfl)))
        try simp only [Act.put, List.setIfInBounds_toArray, List.set_cons_zero, List.set_cons_succ]
        refine held_call (i := 15) (by kernel_rfl) rfl (by rfl) (fun K hK => ?_)
        go_simp
        (go_at_call 68; ((with_reducible refine (AC.out _).mono ?_); rintro e w2 ⟨rfl, hb2⟩))
        have m3 := Lib.hid (hkeep.out _ hb2)
        have B2 : Hid (Below w.heap.size w w2) := Lib.hid (below_of hb.out hb2)
        clear hb2
        refine hK.out _ _ (m3.out) (fun hHeld => ?_)
        try simp only [Act.put, List.setIfInBounds_toArray, List.set_cons_zero, List.set_cons_succ]
        refine held_take (i := 16) (v := ?_) rfl (by kernel_rfl) (by kernel_rfl) (by kernel_rfl) (fun _ _ _ h => h) (by rfl) (fun w hSw => ?_) (by assumption) ?_; rotate_left 1; focus (((try dsimp only at hSw); first | (go_simp; done) | (go_simp; with_reducible rfl)))
        try simp only [Act.put, List.setIfInBounds_toArray, List.set_cons_zero, List.set_cons_succ]
        refine wpAnyH_done (by kernel_rfl) ?_ _
        go_wp2_with fail
        go_returns
        exact ⟨by rw [hE2.out]; rfl, B2.out⟩
    · have i1 : ¬ ((j : Int) + 1 < (n : Int)) := by omega
      have hE2 : Hid (E = true) := Lib.hid (by
        rw [hE.out]
        exact (ordR_iff l).2 fun k x y hx hy => ho k x y (by have := (List.getElem?_eq_some_iff.1 hy).1; rw [e0.out] at this; omega) hx hy)
      have hb := Lib.hid hb
      clear ho
      go_wp2_with fail
      go_returns
      exact ⟨by rw [hE2.out]; rfl, hb.out⟩
end Go.Proofs.Ytmjakkemiiigpaa
/-
  The contracts of find. No condition.
-/
namespace Go.Proofs.Ytmjakkemiiigpaa
set_option maxRecDepth 100000
open Go.RowKit
/-- How many of the first n stand ahead. -/
def Cut (n : Nat) (P : Nat → Bool) (r : Nat) : Prop := r ≤ n ∧ ∀ j, j < n → (P j = true ↔ j < r)
end Go.Proofs.Ytmjakkemiiigpaa
/-
  The contracts of sort.Search and of find. No condition.
-/
namespace Go.Proofs.Ytmjakkemiiigpaa
set_option maxRecDepth 100000
open Go.RowKit
set_option maxRecDepth 100000 in
set_option maxHeartbeats 4000000 in
/-- Search over a closure that answers Q: the first place from which on Q stands. -/
theorem search_any (G : FuncId) (caps : Array Value) (hE : ∀ (args : Array Value) (w : World), (callFunc G args).run Try.prog w = .ok (.enter G args) w) (n : Nat) (hn : n ≤ 4611686018427387903) (Q : Nat → Bool) (w : World)
    (hQ : ∀ i j, i ≤ j → j < n → Q i = true → Q j = true)
    (hG : ∀ u, Below w.heap.size w u → ∀ j, j < n → Calls Try.prog G (#[.int .i64 (j : Int)] ++ caps) u fun e u' => e = .returned (.bool (Q j)) ∧ Below u.heap.size u u') :
    Calls Try.prog 41 #[.int .i64 (n : Int), .func (.func G) #[] caps] w fun e w' => ∃ r, Cut n (fun j => !Q j) r ∧ e = .returned (.int .i64 (r : Int)) ∧ Below w.heap.size w w' := by
  have hG := Lib.hid hG
  have hQ := Lib.hid hQ
  go_enter Try.func41, Try.ntmps41
  go_wp2_with fail
  go_loopw [5, 6] (fun a b' wr => ∃ lo hi : Nat, lo ≤ hi ∧ hi ≤ n ∧ a = .int .i64 (lo : Int) ∧ b' = .int .i64 (hi : Int) ∧ (∀ j, j < lo → Q j = false) ∧ (∀ j, hi ≤ j → j < n → Q j = true) ∧ Below w.heap.size w wr) (fun a b' _ => (intOf b' - intOf a).toNat)
  case atStart => exact ⟨0, n, Nat.zero_le _, Nat.le_refl _, rfl, rfl, fun j hj => absurd hj (by omega), fun j h1 h2 => absurd h1 (by omega), Below.refl _ _⟩
  case round =>
    obtain ⟨lo, hi, h1, h2, rfl, rfl, f1, f2, hb⟩ := hrel
    have f1 := Lib.hid f1
    have f2 := Lib.hid f2
    have hb := Lib.hid hb
    by_cases hlt : lo < hi
    · obtain ⟨m, hm⟩ := named ((lo + hi) / 2)
      have hm1 : lo ≤ m := by rw [hm.out]; omega
      have hm2 : m < hi := by rw [hm.out]; omega
      have AC := Lib.hid (hG.out wr hb.out m (by omega))
      have e1 : wrap64 ((lo : Int) + (hi : Int)) = (lo : Int) + (hi : Int) := by unfold wrap64; omega
      have e2 : IntKind.u64.wrap ((lo : Int) + (hi : Int)) = (lo : Int) + (hi : Int) := by rw [IntKind.wrap_u64]; omega
      have e3 : ((lo : Int) + (hi : Int)) / 2 = (m : Int) := by rw [hm.out]; omega
      have e4 : IntKind.i64.wrap (m : Int) = (m : Int) := by rw [IntKind.wrap_i64]; omega
      have i2 : (lo : Int) < (hi : Int) := by omega
      obtain ⟨T, hT⟩ := named (Q m)
      rw [← hT.out] at AC
      clear hm
      cases T with
      | false =>
        go_wp2_with fail
        refine AC.out.mono ?_
        rintro e w2 ⟨rfl, hb2⟩
        have B2 := Lib.hid (below_of hb.out hb2)
        clear hb2
        go_wp2_with fail
        go_roundw
        case rel => exact ⟨m + 1, hi, by omega, h2, by go_num, rfl, fun j hj => by
          cases hq : Q j with
          | false => rfl
          | true => have := hQ.out j m (by omega) (by omega) hq; rw [← hT.out] at this; exact this.symm, f2.out, B2.out⟩
        case measure => simp [intOf]; omega
      | true =>
        go_wp2_with fail
        refine AC.out.mono ?_
        rintro e w2 ⟨rfl, hb2⟩
        have B2 := Lib.hid (below_of hb.out hb2)
        clear hb2
        go_wp2_with fail
        go_roundw
        case rel => exact ⟨lo, m, hm1, by omega, rfl, rfl, f1.out, fun j h1 h2 => hQ.out m j h1 h2 (by rw [← hT.out]), B2.out⟩
        case measure => simp [intOf]; omega
    · have i2 : ¬ (lo : Int) < (hi : Int) := by omega
      have hlh : Hid (lo = hi) := Lib.hid (by omega)
      go_wp2_with fail
      go_returns
      refine ⟨lo, ⟨by omega, fun j hj => ?_⟩, rfl, hb.out⟩
      constructor
      · intro h
        replace h : (!Q j) = true := h
        by_cases hjl : j < lo
        · exact hjl
        · have := f2.out j (by have := hlh.out; omega) hj
          rw [this] at h; cases h
      · intro h; show (!Q j) = true; rw [f1.out j h]; rfl
theorem findClo_enters : ∀ (args : Array Value) (w : World), (callFunc 69 args).run Try.prog w = .ok (.enter 69 args) w := enters_of Try.func69 (by kernel_rfl) rfl
set_option maxRecDepth 100000 in
set_option maxHeartbeats 4000000 in
theorem findClo_any (H : FuncId) (caps : Array Value) (hE : ∀ (args : Array Value) (w : World), (callFunc H args).run Try.prog w = .ok (.enter H args) w) {p n c b : Nat} {F : List UInt8} {l : List Pt} (g2 g3 : Nat) {u : World} (j : Nat) (T : Bool)
    (h1 : u.heap[p]? = some (.cells #[.string ⟨F.toArray⟩, .slice (some ⟨b, 0, none⟩) n c] 73 (0, 0))) (h2 : Pts (some ⟨b, 0, none⟩) n c b 0 l u) (hj : j < n)
    (k2 : u.cell? ⟨g2, 0, none⟩ = some (.pointer (some ⟨p, 0, none⟩))) (k3 : u.cell? ⟨g3, 0, none⟩ = some (.func (.func H) #[] caps))
    (hH : ∀ x, l[j]? = some x → ∀ v, Below u.heap.size u v → Calls Try.prog H (#[enV x.en] ++ caps) v fun e v' => e = .returned (.bool T) ∧ Below v.heap.size v v') :
    Calls Try.prog 69 #[.int .i64 (j : Int), .pointer (some ⟨g3, 0, none⟩), .pointer (some ⟨g2, 0, none⟩)] u fun e u' => e = .returned (.bool !T) ∧ Below u.heap.size u u' := by
  obtain ⟨c0, c1⟩ := tab_cells h1
  obtain ⟨x, hx, _, x0, x1, x2, x3, x4⟩ := h2.at5 hj
  rw [Nat.zero_add] at x0 x1 x2 x3 x4
  have HC := Lib.hid (hH x hx)
  have m0 := h2.most
  have q0 := h2.cap
  obtain ⟨xb, ⟨xf, xl, xs, xc⟩⟩ := x
  simp only at x0 x1 x2 x3 x4 HC
  have i0 : (j : Int) < (n : Int) := by omega
  have B0 := (Below.refl u.heap.size u).drew
  clear h1 h2 hH hx
  go_enter Try.func69, Try.ntmps69
  go_upto_region 1 with fail
  refine wp_region_held_drew (S := (fun v => (v.cell? ⟨g2, 0, none⟩ = some (.pointer (some ⟨p, 0, none⟩)) ∧ v.cell? ⟨g3, 0, none⟩ = some (.func (.func H) #[] caps) ∧ v.cell? ⟨p, 1, none⟩ = some (.slice (some ⟨b, 0, none⟩) n c) ∧ v.cell? ⟨b, j * 5 + 1, none⟩ = some (.string xf) ∧ v.cell? ⟨b, j * 5 + 2, none⟩ = some (.string xl) ∧ v.cell? ⟨b, j * 5 + 3, none⟩ = some (.int .u64 (xs : Int)) ∧ v.cell? ⟨b, j * 5 + 4, none⟩ = some (.int .i64 (xc : Int))) ∧ Below u.heap.size u v)) (by kernel_rfl) (⟨⟨k2, k3, c1, x1, x2, x3, x4⟩, B0⟩) (fun hHeld => ?_)
  refine held_take (i := 0) (v := ?_) rfl (by kernel_rfl) (by kernel_rfl) (by kernel_rfl) (fun _ _ _ h => h) (by rfl) (fun w hSw => ?_) (by assumption) ?_; rotate_left 1; focus (((try dsimp only at hSw); first | (go_simp; done) | (go_simp; with_reducible rfl)))
  try simp only [Act.put, List.setIfInBounds_toArray, List.set_cons_zero, List.set_cons_succ]
  refine held_take (i := 1) (v := ?_) rfl (by kernel_rfl) (by kernel_rfl) (by kernel_rfl) (fun _ _ _ h => h) (by rfl) (fun w hSw => ?_) (by assumption) ?_; rotate_left 1; focus (((try dsimp only at hSw); first | (go_simp; done) | (go_simp; with_reducible rfl)))
  try simp only [Act.put, List.setIfInBounds_toArray, List.set_cons_zero, List.set_cons_succ]
  refine held_take (i := 2) (v := ?_) rfl (by kernel_rfl) (by kernel_rfl) (by kernel_rfl) (fun _ _ _ h => h) (by rfl) (fun w hSw => ?_) (by assumption) ?_; rotate_left 1; focus (((try dsimp only at hSw); first | (go_simp; done) | (go_simp; with_reducible rfl)))
  try simp only [Act.put, List.setIfInBounds_toArray, List.set_cons_zero, List.set_cons_succ]
  refine held_take (i := 3) (v := ?_) rfl (by kernel_rfl) (by kernel_rfl) (by kernel_rfl) (fun _ _ _ h => h) (by rfl) (fun w hSw => ?_) (by assumption) ?_; rotate_left 1; focus (((try dsimp only at hSw); first | (go_simp; done) | (go_simp; with_reducible rfl)))
  try simp only [Act.put, List.setIfInBounds_toArray, List.set_cons_zero, List.set_cons_succ]
  refine held_take (i := 4) (v := ?_) rfl (by kernel_rfl) (by kernel_rfl) (by kernel_rfl) (fun _ _ _ h => h) (by rfl) (fun w hSw => ?_) (by assumption) ?_; rotate_left 1; focus (((try dsimp only at hSw); first | (go_simp; done) | (go_simp; with_reducible rfl)))
  try simp only [Act.put, List.setIfInBounds_toArray, List.set_cons_zero, List.set_cons_succ]
  refine held_take (i := 5) (v := ?_) rfl (by kernel_rfl) (by kernel_rfl) (by kernel_rfl) (fun _ _ _ h => h) (by rfl) (fun w hSw => ?_) (by assumption) ?_; rotate_left 1; focus (((try dsimp only at hSw); first | (go_simp; done) | (go_simp; with_reducible rfl)))
  try simp only [Act.put, List.setIfInBounds_toArray, List.set_cons_zero, List.set_cons_succ]
  refine held_take (i := 6) (v := ?_) rfl (by kernel_rfl) (by kernel_rfl) (by kernel_rfl) (fun _ _ _ h => h) (by rfl) (fun w hSw => ?_) (by assumption) ?_; rotate_left 1; focus (((try dsimp only at hSw); first | (go_simp; done) | (go_simp; with_reducible rfl)))
  try simp only [Act.put, List.setIfInBounds_toArray, List.set_cons_zero, List.set_cons_succ]
  refine held_take (i := 7) (v := ?_) rfl (by kernel_rfl) (by kernel_rfl) (by kernel_rfl) (fun _ _ _ h => h) (by rfl) (fun w hSw => ?_) (by assumption) ?_; rotate_left 1; focus (((try dsimp only at hSw); first | (go_simp; done) | (go_simp; with_reducible rfl)))
  try simp only [Act.put, List.setIfInBounds_toArray, List.set_cons_zero, List.set_cons_succ]
  refine held_take (i := 8) (v := ?_) rfl (by kernel_rfl) (by kernel_rfl) (by kernel_rfl) (fun _ _ _ h => h) (by rfl) (fun w hSw => ?_) (by assumption) ?_; rotate_left 1; focus (((try dsimp only at hSw); first | (go_simp; done) | (go_simp; with_reducible rfl)))
  try simp only [Act.put, List.setIfInBounds_toArray, List.set_cons_zero, List.set_cons_succ]
  refine held_call (i := 9) (by kernel_rfl) rfl (by rfl) (fun K hK => ?_)
  go_simp
  refine (HC.out _ hHeld.2).mono ?_
  rintro e u1 ⟨rfl, hb1⟩
  refine hK.out _ _ (⟨⟨cell_keep hb1 hHeld.1.1, cell_keep hb1 hHeld.1.2.1, cell_keep hb1 hHeld.1.2.2.1, cell_keep hb1 hHeld.1.2.2.2.1, cell_keep hb1 hHeld.1.2.2.2.2.1, cell_keep hb1 hHeld.1.2.2.2.2.2.1, cell_keep hb1 hHeld.1.2.2.2.2.2.2⟩, below_of hHeld.2 hb1⟩) (fun hHeld => ?_)
  try simp only [Act.put, List.setIfInBounds_toArray, List.set_cons_zero, List.set_cons_succ]
  refine held_take (i := 10) (v := ?_) rfl (by kernel_rfl) (by kernel_rfl) (by kernel_rfl) (fun _ _ _ h => h) (by rfl) (fun w hSw => ?_) (by assumption) ?_; rotate_left 1; focus (((try dsimp only at hSw); first | (go_simp; done) | (go_simp; with_reducible rfl)))
  try simp only [Act.put, List.setIfInBounds_toArray, List.set_cons_zero, List.set_cons_succ]
  refine held_take (i := 11) (v := ?_) rfl (by kernel_rfl) (by kernel_rfl) (by kernel_rfl) (fun _ _ _ h => h) (by rfl) (fun w hSw => ?_) (by assumption) ?_; rotate_left 1; focus (((try dsimp only at hSw); first | (go_simp; done) | (go_simp; with_reducible rfl)))
  try simp only [Act.put, List.setIfInBounds_toArray, List.set_cons_zero, List.set_cons_succ]
  refine wpAnyH_done (by kernel_rfl) ?_ _
  go_wp2_with fail
  go_returns
  exact ⟨rfl, hHeld.2⟩
set_option maxRecDepth 100000 in
set_option maxHeartbeats 4000000 in
/-- find: how many parts stand ahead. -/
theorem find_any (H : FuncId) (caps : Array Value) (hE : ∀ (args : Array Value) (w : World), (callFunc H args).run Try.prog w = .ok (.enter H args) w) {p : Nat} {F : List UInt8} {l : List Pt} {w : World} (h : TabAt p F l w) (P : Nat → Bool)
    (hP : ∀ i j, i ≤ j → j < l.length → P j = true → P i = true)
    (hH : ∀ j x, l[j]? = some x → ∀ v, Below w.heap.size w v → Calls Try.prog H (#[enV x.en] ++ caps) v fun e v' => e = .returned (.bool (P j)) ∧ Below v.heap.size v v') :
    Calls Try.prog 37 #[.pointer (some ⟨p, 0, none⟩), .func (.func H) #[] caps] w fun e w' => ∃ r, Cut l.length P r ∧ e = .returned (.int .i64 (r : Int)) ∧ Below w.heap.size w w' := by
  obtain ⟨a, n, c, b, h1, h2⟩ := h
  have hlen := h2.len
  have m0 := h2.most
  have q0 := h2.cap
  obtain ⟨v1, hv1⟩ : ∃ v, v = (w.alloc (.cells #[.pointer (some ⟨p, 0, none⟩)] 30)).alloc (.cells #[.func (.func H) #[] caps] 84) := ⟨_, rfl⟩
  have hb1 : Below w.heap.size w v1 := by rw [hv1]; exact (below_alloc w _).alloc (by simp) _
  have k2 : v1.cell? ⟨w.heap.size, 0, none⟩ = some (.pointer (some ⟨p, 0, none⟩)) := by
    rw [hv1]; exact (World.cell?_alloc_lt _ _ _ (by simp)).trans (by rw [World.cell?_alloc_new]; rfl)
  have k3 : v1.cell? ⟨w.heap.size + 1, 0, none⟩ = some (.func (.func H) #[] caps) := by
    have b3 := Boxed.new (w.alloc (.cells #[.pointer (some ⟨p, 0, none⟩)] 30)) 84 (.func (.func H) #[] caps)
    rw [World.size_alloc] at b3
    rw [hv1]; exact b3.cell
  have h3 := (hb1.block p (Array.getElem?_eq_some_iff.1 h1).1).trans h1
  have h4 := h2.below hb1
  obtain ⟨c0, c1⟩ := tab_cells h3
  have SC := Lib.hid (search_any 69 #[.pointer (some ⟨w.heap.size + 1, 0, none⟩), .pointer (some ⟨w.heap.size, 0, none⟩)] findClo_enters n (by omega) (fun j => !P j) v1
    (fun i j h1 h2 h3 => by
      cases hp : P j with
      | false => rfl
      | true => have := hP i j h1 (by omega) hp; rw [this] at h3; cases h3)
    (fun u hu j hj => by
      obtain ⟨x, hx, rfl, _⟩ := h4.at5 hj
      exact findClo_any H caps hE (w.heap.size) (w.heap.size + 1) j (P j) ((hu.block p (Array.getElem?_eq_some_iff.1 h3).1).trans h3) (h4.below hu) hj (cell_keep hu k2) (cell_keep hu k3)
        (fun y hy v hv => hH j y hy v (below_of (below_of hb1 hu) hv))))
  clear h1 h2 h3 h4 hH hP
  have hmf := makes_func
  subst hv1
  go_enter Try.func37, Try.ntmps37
  go_wp2_with (go_at_call 41; ((with_reducible refine SC.out.mono ?_); rintro e w2 ⟨r, hr, rfl, hb2⟩; have B2 := Lib.hid (below_of hb1 hb2); clear hb2))
  go_returns
  refine ⟨r, ?_, rfl, B2.out⟩
  rw [hlen]
  simpa using hr
end Go.Proofs.Ytmjakkemiiigpaa
/-
  The contract of parts. Condition: at most 2^62 bytes.
-/
namespace Go.Proofs.Ytmjakkemiiigpaa
set_option maxRecDepth 100000
open Go.RowKit
/-- The number of four bytes. -/
def u4 (l : List UInt8) : Nat := (l.getD 0 0).toNat + 256 * (l.getD 1 0).toNat + 65536 * (l.getD 2 0).toNat + 16777216 * (l.getD 3 0).toNat
theorem u4_lt (l : List UInt8) : u4 l < 4294967296 := by
  have := UInt8.toNat_lt (l.getD 0 0)
  have := UInt8.toNat_lt (l.getD 1 0)
  have := UInt8.toNat_lt (l.getD 2 0)
  have := UInt8.toNat_lt (l.getD 3 0)
  unfold u4
  omega
/-- The rows' bytes, and the restart interval. -/
def ptB (L : List UInt8) : Option (List UInt8 × Nat) :=
  if L.length < 8 ∨ 65536 < L.length then none
  else if (L.length - 8) / 4 < u4 (L.drop (L.length - 8)) ∨ u4 (L.drop (L.length - 4)) < 1 ∨ 64 < u4 (L.drop (L.length - 4)) then none
  else some (L.take (L.length - 8 - 4 * u4 (L.drop (L.length - 8))), u4 (L.drop (L.length - 4)))
def ptV : Option (List UInt8 × Nat) → Value
  | none => .tuple #[.string ⟨#[]⟩, .int .i64 0, .bool false]
  | some (r, d) => .tuple #[.string ⟨r.toArray⟩, .int .i64 (d : Int), .bool true]
theorem numL_any (L : List UInt8) (h : 4 ≤ L.length) (w : World) : Calls Try.prog 95 #[.string ⟨L.toArray⟩] w fun e w' => e = .returned (.int .u32 (u4 L : Nat)) ∧ Below w.heap.size w w' := by
  have g : ∀ k, k < 4 → (⟨L.toArray⟩ : ByteArray).toList[k]? = some (L.getD k 0) := fun k hk => by
    rw [ofList_toList, List.getD_eq_getElem?_getD, List.getElem?_eq_getElem (by omega)]; rfl
  exact num4_any ⟨L.toArray⟩ _ _ _ _ (g 0 (by omega)) (g 1 (by omega)) (g 2 (by omega)) (g 3 (by omega)) w
set_option maxRecDepth 100000 in
set_option maxHeartbeats 4000000 in
theorem parts_any (L : List UInt8) (h : L.length ≤ 4611686018427387904) (w : World) :
    Calls Try.prog 84 #[.string ⟨L.toArray⟩] w fun e w' => e = .returned (ptV (ptB L)) ∧ Below w.heap.size w w' := by
  obtain ⟨n, hn⟩ := named L.length
  have hN : (L.length : Int) = (n : Int) := by rw [hn.out]
  have hN2 : L.length = n := by rw [hn.out]
  by_cases h1 : L.length < 8
  · have e : ptB L = none := by unfold ptB; rw [if_pos (.inl h1)]
    rw [e]
    have g1 : (n : Int) < 8 := by omega
    have g2 : n < 8 := by omega
    clear e
    go_enter Try.func84, Try.ntmps84
    go_wp2_with fail
    go_returns
    exact ⟨rfl, Below.refl _ _⟩
  by_cases h2 : 65536 < L.length
  · have e : ptB L = none := by unfold ptB; rw [if_pos (.inr h2)]
    rw [e]
    have g1 : decide (n < 8) = false := by rw [decide_eq_false_iff_not]; omega
    have g2 : 65536 < n := by omega
    clear e
    go_enter Try.func84, Try.ntmps84
    go_wp2_with fail
    go_returns
    exact ⟨rfl, Below.refl _ _⟩
  have hE : Hid (ptB L = if (n - 8) / 4 < u4 (L.drop (n - 8)) ∨ u4 (L.drop (n - 4)) < 1 ∨ 64 < u4 (L.drop (n - 4)) then none else some (L.take (n - 8 - 4 * u4 (L.drop (n - 8))), u4 (L.drop (n - 4)))) := Lib.hid (by unfold ptB; rw [if_neg (by omega), hN2])
  have g1 : decide (n < 8) = false := by rw [decide_eq_false_iff_not]; omega
  have g2 : decide (65536 < n) = false := by rw [decide_eq_false_iff_not]; omega
  obtain ⟨m, hm⟩ : ∃ m, n = m + 8 := ⟨n - 8, by omega⟩
  have N1 := Lib.hid (fun u => numL_any (L.drop (n - 8)) (by rw [List.length_drop]; omega) u)
  have N2 := Lib.hid (fun u => numL_any (L.drop (n - 4)) (by rw [List.length_drop]; omega) u)
  have S1 := slL_from L (n - 8) (by omega) (m : Int) (by omega)
  have S2 := slL_from L (n - 4) (by omega) ((m : Int) + 4) (by omega)
  have ha := u4_lt (L.drop (n - 8))
  have hb := u4_lt (L.drop (n - 4))
  obtain ⟨a, hA⟩ := named (u4 (L.drop (n - 8)))
  obtain ⟨b, hB⟩ := named (u4 (L.drop (n - 4)))
  rw [← hA.out] at N1 hE ha
  rw [← hB.out] at N2 hE hb
  obtain ⟨D1, hD1⟩ := named (L.drop (n - 8))
  obtain ⟨D2, hD2⟩ := named (L.drop (n - 4))
  rw [← hD1.out] at N1 S1
  rw [← hD2.out] at N2 S2
  subst hm
  rw [Nat.add_sub_cancel] at hE
  have S3 : Hid (a * 4 ≤ m → ∀ u : World, (Instr.slice 9 (.string ⟨L.toArray⟩) none (some (.int .i64 ((m : Int) - (a : Int) * 4))) none).run Try.prog u = .ok (.string ⟨(L.take (m - 4 * a)).toArray⟩) u) := Lib.hid (fun hle => slL_upto L (m - 4 * a) (by omega) _ (by omega))
  have hm2 : m ≤ 65528 := by omega
  have w1 : wrap64 ((m : Int) + 8 - 8) = (m : Int) := by unfold wrap64; omega
  have w2 : wrap64 ((m : Int) + 4) = (m : Int) + 4 := by unfold wrap64; omega
  have w4 : IntKind.i64.wrap ((m : Int) + 4) = (m : Int) + 4 := by rw [IntKind.wrap_i64]; omega
  have w5 : IntKind.i64.wrap ((m : Int) + 8 - 8) = (m : Int) := by rw [IntKind.wrap_i64]; omega
  have w6 : IntKind.i64.wrap (m : Int) = (m : Int) := by rw [IntKind.wrap_i64]; omega
  have w3 : IntKind.u32.wrap ((m : Int) / 4) = ((m / 4 : Nat) : Int) := by rw [IntKind.wrap_u32]; omega
  obtain ⟨P, hP⟩ := named (ptB L)
  rw [← hP.out] at hE ⊢
  have CB := Lib.hid (Below.refl w.heap.size w).drew
  clear hA hB hD1 hD2 hP h h1 h2 hn
  replace hN2 := Lib.hid hN2
  go_enter Try.func84, Try.ntmps84
  go_upto_region 4 with fail
  refine wp_region_held_drew (S := (fun v => Hid (Below w.heap.size w v))) (by kernel_rfl) (CB) (fun hHeld => ?_)
  refine held_take (i := 0) (v := ?_) rfl (by kernel_rfl) (by kernel_rfl) (by kernel_rfl) (fun _ _ _ h => h) (by rfl) (fun w hSw => ?_) (by assumption) ?_; rotate_left 1; focus (((try dsimp only at hSw); first | (go_simp; done) | (go_simp; with_reducible rfl)))
  try simp only [Act.put, List.setIfInBounds_toArray, List.set_cons_zero, List.set_cons_succ]
  refine held_take (i := 1) (v := ?_) rfl (by kernel_rfl) (by kernel_rfl) (by kernel_rfl) (fun _ _ _ h => h) (by rfl) (fun w hSw => ?_) (by assumption) ?_; rotate_left 1; focus (((try dsimp only at hSw); first | (go_simp; done) | (go_simp; with_reducible rfl)))
  try simp only [Act.put, List.setIfInBounds_toArray, List.set_cons_zero, List.set_cons_succ]
  refine held_take (i := 2) (v := ?_) rfl (by kernel_rfl) (by kernel_rfl) (by kernel_rfl) (fun _ _ _ h => h) (by rfl) (fun w hSw => ?_) (by assumption) ?_; rotate_left 1; focus (((try dsimp only at hSw); first | (go_simp; done) | (go_simp; with_reducible rfl)))
  try simp only [Act.put, List.setIfInBounds_toArray, List.set_cons_zero, List.set_cons_succ]
  refine held_take (i := 4) (v := ?_) rfl (by kernel_rfl) (by kernel_rfl) (by kernel_rfl) (fun _ _ _ h => h) (by rfl) (fun w hSw => ?_) (by assumption) ?_; rotate_left 1; focus (((try dsimp only at hSw); first | (go_simp; done) | (go_simp; with_reducible rfl)))
  try simp only [Act.put, List.setIfInBounds_toArray, List.set_cons_zero, List.set_cons_succ]
  refine held_take (i := 5) (v := ?_) rfl (by kernel_rfl) (by kernel_rfl) (by kernel_rfl) (fun _ _ _ h => h) (by rfl) (fun w hSw => ?_) (by assumption) ?_; rotate_left 1; focus (((try dsimp only at hSw); first | (go_simp; done) | (go_simp; with_reducible rfl)))
  try simp only [Act.put, List.setIfInBounds_toArray, List.set_cons_zero, List.set_cons_succ]
  refine held_take (i := 6) (v := ?_) rfl (by kernel_rfl) (by kernel_rfl) (by kernel_rfl) (fun _ _ _ h => h) (by rfl) (fun w hSw => ?_) (by assumption) ?_; rotate_left 1; focus (((try dsimp only at hSw); first | (go_simp; done) | (go_simp; with_reducible rfl)))
  try simp only [Act.put, List.setIfInBounds_toArray, List.set_cons_zero, List.set_cons_succ]
  refine held_take (i := 7) (v := ?_) rfl (by kernel_rfl) (by kernel_rfl) (by kernel_rfl) (fun _ _ _ h => h) (by rfl) (fun w hSw => ?_) (by assumption) ?_; rotate_left 1; focus (((try dsimp only at hSw); first | (go_simp; done) | (go_simp; with_reducible rfl)))
  try simp only [Act.put, List.setIfInBounds_toArray, List.set_cons_zero, List.set_cons_succ]
  refine held_call (i := 3) (by kernel_rfl) rfl (by rfl) (fun K hK => ?_)
  go_simp
  (go_at_call 95; ((with_reducible refine (N1.out _).mono ?_); rintro e u1 ⟨rfl, hb1⟩))
  have B1 := Lib.hid (below_of (w := w) hHeld.out hb1)
  clear hb1
  refine hK.out _ _ (B1) (fun hHeld => ?_)
  try simp only [Act.put, List.setIfInBounds_toArray, List.set_cons_zero, List.set_cons_succ]
  refine held_call (i := 8) (by kernel_rfl) rfl (by rfl) (fun K hK => ?_)
  go_simp
  (go_at_call 95; ((with_reducible refine (N2.out _).mono ?_); rintro e u2 ⟨rfl, hb2⟩))
  have B2 := Lib.hid (below_of (w := w) B1.out hb2)
  clear hb2
  refine hK.out _ _ (B2) (fun hHeld => ?_)
  try simp only [Act.put, List.setIfInBounds_toArray, List.set_cons_zero, List.set_cons_succ]
  refine held_take (i := 9) (v := ?_) rfl (by kernel_rfl) (by kernel_rfl) (by kernel_rfl) (fun _ _ _ h => h) (by rfl) (fun w hSw => ?_) (by assumption) ?_; rotate_left 1; focus (((try dsimp only at hSw); first | (go_simp; done) | (go_simp; with_reducible rfl)))
  try simp only [Act.put, List.setIfInBounds_toArray, List.set_cons_zero, List.set_cons_succ]
  refine held_take (i := 10) (v := ?_) rfl (by kernel_rfl) (by kernel_rfl) (by kernel_rfl) (fun _ _ _ h => h) (by rfl) (fun w hSw => ?_) (by assumption) ?_; rotate_left 1; focus (((try dsimp only at hSw); first | (go_simp; done) | (go_simp; with_reducible rfl)))
  try simp only [Act.put, List.setIfInBounds_toArray, List.set_cons_zero, List.set_cons_succ]
  refine wpAnyH_done (by kernel_rfl) ?_ _
  by_cases q1 : m / 4 < a
  · rw [if_pos (.inl q1)] at hE
    have g3 : decide (m / 4 < a) = true := by simpa using q1
    clear S3
    go_wp2_with fail
    go_returns
    exact ⟨by rw [hE.out]; rfl, B2.out⟩
  by_cases q2 : b < 1
  · rw [if_pos (.inr (.inl q2))] at hE
    have g3 : decide (m / 4 < a) = false := by simpa using q1
    have g4 : decide (b < 1) = true := by simpa using q2
    have g5 : (b : Int) < 1 := by omega
    clear S3
    go_wp2_with fail
    go_returns
    exact ⟨by rw [hE.out]; rfl, B2.out⟩
  by_cases q3 : 64 < b
  · rw [if_pos (.inr (.inr q3))] at hE
    have g3 : decide (m / 4 < a) = false := by simpa using q1
    have g4 : decide (b < 1) = false := by simpa using q2
    have g5 : ¬ (b : Int) < 1 := by omega
    have g6 : decide (64 < b) = true := by simpa using q3
    clear S3
    go_wp2_with fail
    go_returns
    exact ⟨by rw [hE.out]; rfl, B2.out⟩
  rw [if_neg (by omega)] at hE
  have S4 := S3.out (by omega)
  have g3 : decide (m / 4 < a) = false := by simpa using q1
  have g4 : decide (b < 1) = false := by simpa using q2
  have g5 : ¬ (b : Int) < 1 := by omega
  have g6 : decide (64 < b) = false := by simpa using q3
  have w7 : IntKind.i64.wrap (a : Int) = (a : Int) := by rw [IntKind.wrap_i64]; omega
  have w8 : IntKind.i64.wrap (b : Int) = (b : Int) := by rw [IntKind.wrap_i64]; omega
  obtain ⟨TK, hTK⟩ := named (L.take (m - 4 * a))
  rw [← hTK.out] at S4 hE
  clear S3 hTK
  go_wp2_with fail
  go_returns
  exact ⟨by rw [hE.out]; rfl, B2.out⟩
end Go.Proofs.Ytmjakkemiiigpaa
/-
  The contract of checkAll. No condition.
-/
namespace Go.Proofs.Ytmjakkemiiigpaa
set_option maxRecDepth 100000
open Go.RowKit
def sofR (long : Bool) (l : List Rw) : Nat := if long = true ∨ l.any longR = true then 3 else 0
theorem sofR_nil (long : Bool) : sofR long [] = if long = true then 3 else 0 := by simp [sofR]
theorem sofR_snoc {long : Bool} {l : List Rw} {x : Rw} (h : badR x = false) : sofR long (l ++ [x]) = if chkR x = 3 then 3 else sofR long l := by
  unfold sofR chkR
  rw [h]
  cases h2 : longR x <;> simp [h2]
theorem chkR_two {x : Rw} : chkR x = 2 ↔ badR x = true := by
  unfold chkR
  split
  · simp [*]
  · split <;> simp [*]
theorem chkR_zero {x : Rw} (h : badR x = false) : chkR x = 3 ∨ chkR x = 0 := by
  unfold chkR
  rw [h]
  cases longR x <;> simp
theorem chkA_arg {l : List Rw} {d : Int} (h : d < 1 ∨ 64 < d ∨ ordR l = false) : chkA l d = 2 := by unfold chkA; rw [if_pos h]
theorem chkA_bad {l : List Rw} {d : Int} (h : l.any badR = true) : chkA l d = 2 := by
  unfold chkA
  rw [if_pos h]
  split <;> rfl
theorem chkA_end {l : List Rw} {d : Int} (h : ¬ (d < 1 ∨ 64 < d ∨ ordR l = false)) (hb : l.any badR = false) : chkA l d = sofR (decide (1024 < l.length)) l := by
  unfold chkA sofR
  rw [if_neg h, hb]
  simp
set_option maxRecDepth 100000 in
set_option maxHeartbeats 2000000 in
theorem chkall_arg {a : Option Addr} {n c b o : Nat} {l : List Rw} {w : World} (d : Int) (h : Rs a n c b o l w) (hE : d < 1 ∨ 64 < d ∨ ordR l = false) :
    Calls Try.prog 55 #[.slice a n c, .int .i64 d] w fun e w' => e = .returned (.int .i64 2) ∧ Below w.heap.size w w' := by
  have OC := Lib.hid (order_any h)
  obtain ⟨T, hT⟩ := named (ordR l)
  rw [← hT.out] at OC hE
  by_cases h1 : d < 1
  · have g1 : decide (d < 1) = true := by simpa using h1
    go_enter Try.func55, Try.ntmps55
    go_wp2_with fail
    go_returns
    exact ⟨rfl, Below.refl _ _⟩
  · have g1 : decide (d < 1) = false := by simpa using h1
    by_cases h2 : 64 < d
    · have g2 : decide (64 < d) = true := by simpa using h2
      clear hE
      go_enter Try.func55, Try.ntmps55
      go_wp2_with fail
      go_returns
      exact ⟨rfl, Below.refl _ _⟩
    · have g2 : decide (64 < d) = false := by simpa using h2
      obtain rfl : T = false := by rcases hE with e | e | e; exact absurd e h1; exact absurd e h2; exact e
      clear hE
      go_enter Try.func55, Try.ntmps55
      go_wp2_with (go_at_call 36; ((with_reducible refine OC.out.mono ?_); rintro e w2 ⟨rfl, hb2⟩; have B2 := Lib.hid hb2; clear hb2))
      go_returns
      exact ⟨rfl, B2.out⟩
set_option maxRecDepth 100000 in
set_option maxHeartbeats 4000000 in
theorem chkall_main {a : Option Addr} {n c b o : Nat} {l : List Rw} {w : World} (d : Int) (h : Rs a n c b o l w) (h1 : 1 ≤ d) (h2 : d ≤ 64) (ho : ordR l = true) :
    Calls Try.prog 55 #[.slice a n c, .int .i64 d] w fun e w' => e = .returned (.int .i64 (chkA l d : Nat)) ∧ Below w.heap.size w w' := by
  have OC := Lib.hid (order_any h)
  rw [ho] at OC
  have hcap := h.cap
  have hmost := h.most
  have hE := Lib.hid (fun hb => chkA_end (l := l) (d := d) (by rw [ho]; simp; omega) hb)
  have hbad := Lib.hid (fun hb : l.any badR = true => chkA_bad (d := d) hb)
  have hlen := Lib.hid h.len
  obtain ⟨R, hR⟩ := named (chkA l d)
  rw [← hR.out] at hE hbad ⊢
  rw [hlen.out] at hE
  have h := Lib.hid h
  clear hR ho
  have q1 : decide (d < 1) = false := by simpa using h1
  have q2 : decide (64 < d) = false := by simpa using h2
  clear h1 h2
  obtain ⟨B64, q3⟩ : ∃ B, decide ((1024 : Int) < (n : Int)) = B := ⟨_, rfl⟩
  have h64 : Hid (decide (1024 < n) = B64) := Lib.hid (by rw [← q3]; congr 1; apply propext; omega)
  cases B64
  all_goals (
    go_enter Try.func55, Try.ntmps55
    go_wp2_with (go_at_call 36; ((with_reducible refine OC.out.mono ?_); rintro e w0 ⟨rfl, hb0⟩; have K := Lib.hid hb0; clear hb0))
    have hst := Lib.hid (h.out.below K.out (Nat.le_refl _))
    have st0 : Hid (sofR (decide (1024 < n)) [] = if 1024 < n then 3 else 0) := Lib.hid (by rw [sofR_nil]; simp)
    go_loopw [24, 5] (fun i e wr => ∃ j : Nat, j ≤ n ∧ i = .int .i64 (j : Int) ∧ e = .int .i64 (sofR (decide (1024 < n)) (l.take j) : Nat) ∧ (l.take j).any badR = false ∧ Below w.heap.size w wr) (fun i _ _ => n - (intOf i).toNat)
    case atStart => exact ⟨0, Nat.zero_le _, rfl, (by rw [List.take_zero, st0.out]; have := h64.out; simp only [decide_eq_true_eq, decide_eq_false_iff_not] at this; first | (rw [if_pos (by omega)]; rfl) | (rw [if_neg (by omega)]; rfl)), by simp, K.out⟩
    case round =>
      obtain ⟨j, hj, rfl, rfl, hany, hb⟩ := hrel
      have hb := Lib.hid hb
      have hany := Lib.hid hany
      obtain ⟨S, hS⟩ := named (sofR (decide (1024 < n)) (l.take j))
      rw [← hS.out]
      by_cases hlt : j < n
      · obtain ⟨x, hx, rfl, e0, e1, e2, e3⟩ := (h.out.keep (w' := wr) (fun h0 => hb.out.block b (h.out.addr h0).2) hb.out.size).at4 hlt
        have hx := Lib.hid hx
        obtain ⟨xk, xs, xi, xv⟩ := x
        obtain ⟨r, hr⟩ := named (chkR ⟨xk, xs, xi, xv⟩)
        have C : Hid (∀ u, Calls Try.prog 45 #[.agg #[.string xk, .int .u64 (xs : Int), .int .i64 xi, .string xv]] u fun e w' => e = .returned (.int .i64 (r : Nat)) ∧ Below u.heap.size u w') := Lib.hid fun u => by rw [hr.out]; exact chk_any ⟨xk, xs, xi, xv⟩ u
        simp only at e0 e1 e2 e3
        have take1 : Hid (l.take (j + 1) = l.take j ++ [⟨xk, xs, xi, xv⟩]) := Lib.hid (by rw [List.take_add_one, hx.out]; rfl)
        by_cases hxb : badR ⟨xk, xs, xi, xv⟩ = true
        · have r2 : r = 2 := by rw [hr.out]; exact chkR_two.2 hxb
          have hR2 := Lib.hid (hbad.out (List.any_eq_true.2 ⟨_, List.mem_of_getElem? hx.out, hxb⟩))
          subst r2
          clear hxb hr
          go_wp2_with (go_at_call 45; ((with_reducible refine (C.out _).mono ?_); rintro e w1 ⟨rfl, hb1⟩))
          go_returns
          exact ⟨by rw [hR2.out]; rfl, (hb.out.trans ((below_alloc _ _).mono hb.out.size)).trans (hb1.mono (by have := hb.out.size; simp; omega))⟩
        · have hxf : badR ⟨xk, xs, xi, xv⟩ = false := by simpa using hxb
          have any1 : Hid ((l.take (j + 1)).any badR = false) := Lib.hid (by rw [take1.out, List.any_append, hany.out]; simp [hxf])
          have so1 : Hid (sofR (decide (1024 < n)) (l.take (j + 1)) = if r = 3 then 3 else S) := Lib.hid (by rw [take1.out, sofR_snoc hxf, ← hr.out, ← hS.out])
          have r30 : r = 3 ∨ r = 0 := by rw [hr.out]; exact chkR_zero hxf
          clear hxb hr hxf hS hany take1
          rcases r30 with rfl | rfl
          all_goals (
            go_wp2_with (go_at_call 45; ((with_reducible refine (C.out _).mono ?_); rintro e w1 ⟨rfl, hb1⟩))
            have hb2 := Lib.hid ((hb.out.trans ((below_alloc _ _).mono hb.out.size)).trans (hb1.mono (by have := hb.out.size; simp; omega)))
            clear hb1
            go_roundw
            case rel => exact ⟨j + 1, by omega, by go_num, by rw [so1.out]; rfl, any1.out, hb2.out⟩
            case measure => simp [intOf]; omega)
      · have hjn : j = n := by omega
        subst hjn
        have hR0 : R = S := by
          have ht : l.take j = l := by rw [← hlen.out, List.take_length]
          have := hany.out
          rw [ht] at this
          rw [hE.out this, hS.out, ht]
        go_wp2_with fail
        go_returns
        exact ⟨by rw [hR0]; rfl, hb.out⟩)
theorem chkall_any {a : Option Addr} {n c b o : Nat} {l : List Rw} {w : World} (d : Int) (h : Rs a n c b o l w) :
    Calls Try.prog 55 #[.slice a n c, .int .i64 d] w fun e w' => e = .returned (.int .i64 (chkA l d : Nat)) ∧ Below w.heap.size w w' := by
  by_cases hE : d < 1 ∨ 64 < d ∨ ordR l = false
  · rw [chkA_arg hE]
    exact chkall_arg d h hE
  · exact chkall_main d h (by omega) (by omega) (by cases ho : ordR l; exact absurd (.inr (.inr ho)) hE; rfl)
end Go.Proofs.Ytmjakkemiiigpaa
/-
  Two texts that a call puts together side by side, each in a builder of its own. Condition: at most 2^47 bytes.
-/
namespace Go.Proofs.Ytmjakkemiiigpaa
set_option maxRecDepth 100000
open Go.RowKit
set_option maxHeartbeats 1000000 in
set_option maxRecDepth 100000 in
theorem bld_check2 {B b : Nat} {bs : List Value} {w : World} (h : Lib.IsBuilder 93 5 B b bs w) :
    Calls Try.prog 77 #[.pointer (some ⟨b, 0, none⟩)] w fun e w' => e = .returned (.tuple #[]) ∧ Lib.BuilderAt 93 5 B b (.pointer (some ⟨b, 0, none⟩)) bs w' ∧ But b w w' ∧ w'.cell? ⟨b, 1, none⟩ = w.cell? ⟨b, 1, none⟩ := by
  obtain ⟨j, hj, hjs⟩ := bld_info
  rcases h with h | h
  · have c0 := h.cell0
    have sh := h.shape
    have fz := h.frozen0
    have K : Hid (Lib.BuilderAt 93 5 B b (.pointer (some ⟨b, 0, none⟩)) bs (w.setCell ⟨b, 0, none⟩ (.pointer (some ⟨b, 0, none⟩))) ∧ But b w (w.setCell ⟨b, 0, none⟩ (.pointer (some ⟨b, 0, none⟩))) ∧ (w.setCell ⟨b, 0, none⟩ (.pointer (some ⟨b, 0, none⟩))).cell? ⟨b, 1, none⟩ = w.cell? ⟨b, 1, none⟩) := Lib.hid ⟨h.used _, (But.refl b w).setCell rfl _, World.cell?_setCell_other _ _ _ _ (by simp)⟩
    have r1 := Lib.run_to_unsafe (P := Try.prog) w ⟨b, 0, none⟩ Try.underlying91 Try.underlying138 hj hjs sh (Nat.zero_lt_succ 1)
    have r3 := Lib.run_from_unsafe (P := Try.prog) w ⟨b, 0, none⟩ Try.underlying138 Try.underlying91 hj sh (by kernel_rfl)
    clear h
    go_enter Try.func77, Try.ntmps77
    go_wp2
    rw [run_callFunc_extern Try.func89 (by kernel_rfl) (by kernel_rfl) (by kernel_rfl) (e := Extern.AbiNoEscape.same) (by kernel_rfl)]
    rw [Lib.run_noEscape]
    simp only [Result.andThen]
    rw [Oper.upon_value]
    go_wp2
    go_end0
    exact ⟨rfl, K.out⟩
  · have c0 := h.cell0
    have K := Lib.hid h
    have r1 := Lib.run_neq_ptr_same (P := Try.prog) w ⟨b, 0, none⟩ Try.underlying91 hj
    clear h
    go_enter Try.func77, Try.ntmps77
    go_wp2
    go_end0
    exact ⟨rfl, K.out, But.refl _ _, rfl⟩
/-- Where the bytes lie behind an append. -/
theorem append_where {w : World} {base : Nat} {t u ty e : TypeId} {i : TypeInfo} (ht : Try.prog.underlying t = some (.slice e)) (hu : Try.prog.underlying u = some .string) (hi : Try.prog.info? e = some i) (hz : i.zero = some (.int .u8 0))
    (hsize : i.size = 1) (hby : i.bytes = 1) {v : Value} {n : Nat} {xs : List Value} (hown : w.ownsRow base e 1 v n xs) {s : ByteArray} (h63 : n + s.size ≤ maxLen) (hbytes : n + s.size ≤ 140737488355328) (hbase : base ≤ w.heap.size)
    {v' : Value} {w' : World} (hr : (Builtin.append_ #[t, u] ty #[v, .string s]).run Try.prog w = .ok v' w') : v'.ownBlock = v.ownBlock ∨ v'.ownBlock = some w.heap.size := by
  have hsmall : n + s.size ≤ 9223372036854775807 := by simp only [maxLen] at h63; omega
  have hxl : xs.length = n := by simpa using hown.1
  rcases hown.2 with ⟨rfl, rfl⟩ | ⟨g, cap, cur, rfl, hbg, hg, hnc, hcm, hcs, htake⟩
  · by_cases hm : s.size = 0
    · obtain ⟨v2, w2, hr2, _, _, h4⟩ := Lib.run_append_own_string (P := Try.prog) w base t u ty e i ht hu hi hz hsize hby _ 0 xs hown s h63 hbytes hbase
      rw [hr] at hr2
      cases hr2
      rw [h4.2 ⟨rfl, hm⟩]
      exact .inl rfl
    · have hr2 := run_append_nil_string (P := Try.prog) w t u ty e i (.int .u8 0) ht hu hi hz s (by omega) (by omega) (by rw [hby]; omega)
      rw [hr] at hr2
      cases hr2
      exact .inr rfl
  · by_cases hroom : n + s.size ≤ cap
    · have hcs' : cur.size = cap := by simpa using hcs
      have hr2 := Lib.run_append_room_string (P := Try.prog) w t u ty e i ht hu hi hsize g n cap cur hg s hroom (by omega)
      rw [hr] at hr2
      cases hr2
      exact .inl rfl
    · have holds : ∀ j u, xs[j]? = some u → w.cell? ((⟨g, 0, none⟩ : Addr).add j) = some u := hown.cells (g := g) rfl
      have hr2 := Lib.run_append_grow_string (P := Try.prog) w t u ty e i (.int .u8 0) ht hu hi hz ⟨g, 0, none⟩ n cap xs (by rw [hsize]; simpa using hxl) holds s (by omega) (by omega) (by rw [hby]; exact growslice_fits (by omega) (by omega))
      rw [hr] at hr2
      cases hr2
      exact .inr rfl
theorem wpList_append_text_at {w : World} {ops : Array Oper} {rest : List Oper} {o : Oper} {a : Act} {Q : Exit → Act → World → Prop} (hgd : o.guard = none) (sl x : Operand) (t u : TypeId)
    (ho : o.op = .call { callee := .builtin .append, args := #[sl, x], argTypes := #[t, u] })
    (base : Nat) (e : TypeId) (i : TypeInfo) (ht : Try.prog.underlying t = some (.slice e)) (hu : Try.prog.underlying u = some .string) (hi : Try.prog.info? e = some i) (hz : i.zero = some (.int .u8 0))
    (hsize : i.size = 1) (hby : i.bytes = 1)
    (v : Value) (n : Nat) (xs : List Value) (hs : a.eval sl = v) (hown : w.ownsRow base e 1 v n xs) (s : ByteArray) (hx : a.eval x = .string s)
    (h63 : n + s.size ≤ maxLen) (hbytes : n + s.size ≤ 140737488355328) (hbase : base ≤ w.heap.size)
    (h : ∀ v' w', w'.ownsRow base e 1 v' (n + s.size) (xs ++ Lib.strCells s) → w.grownBy w' v.ownBlock → (v'.ownBlock = v.ownBlock ∨ v'.ownBlock = some w.heap.size) → wpList Try.prog ops Q rest (a.put o.dst v') w') : wpList Try.prog ops Q (o :: rest) a w := by
  refine wpList_plain hgd fun K hK => ?_
  obtain ⟨v', w', hr, h2, h3, _⟩ := Lib.run_append_own_string (P := Try.prog) w base t u o.type e i ht hu hi hz hsize hby v n xs hown s h63 hbytes hbase
  have h5 := append_where ht hu hi hz hsize hby hown h63 hbytes hbase hr
  unfold Oper.wp execOp
  simp only [ho, resolve, invoke, builtin, Sem.run_bind, Sem.run_pure, Result.andThen_ok, List.map_toArray, List.map_cons, List.map_nil, hs, hx, hr]
  exact hK _ _ (h v' w' h2 h3 h5)
/-- What a write into a builder leaves: all but its two blocks; its bytes lie where they lay, or in a new block. -/
def Fr (b : Nat) (w w' : World) : Prop := w.heap.size ≤ w'.heap.size ∧ ∀ v, w.cell? ⟨b, 1, none⟩ = some v → (∀ k, k < w.heap.size → k ≠ b → v.ownBlock ≠ some k → w'.heap[k]? = w.heap[k]?) ∧ ∃ v', w'.cell? ⟨b, 1, none⟩ = some v' ∧ (v'.ownBlock = v.ownBlock ∨ ∃ g, v'.ownBlock = some g ∧ w.heap.size ≤ g)
set_option maxHeartbeats 1000000 in
set_option maxRecDepth 100000 in
theorem bld_string_at {B b : Nat} {l : List UInt8} {w : World} (h : Bld B b l w) (hBw : B ≤ w.heap.size) (s : ByteArray) (hlen : l.length + s.size ≤ 140737488355328) :
    Calls Try.prog 51 #[.pointer (some ⟨b, 0, none⟩), .string s] w fun e w' => e = .returned (.tuple #[.int .i64 s.size, .nilIface]) ∧ Bld B b (l ++ s.data.toList) w' ∧ Below B w w' ∧ Fr b w w' := by
  obtain ⟨i0, hi, hz0, hz1, hz2⟩ := info_parts bld_u8
  have hb0 : B ≤ b := by rcases h with h | h <;> exact h.1
  have C := Lib.hid (bld_check2 h)
  clear h
  go_enter Try.func51, Try.ntmps51
  go_wp2_with fail
  refine C.out.mono ?_
  rintro e w1 ⟨rfl, h1, hm1, hc1⟩
  clear C
  have hb1 := hm1.below hb0 hBw
  obtain ⟨hB, v, hbk, hown, hne⟩ := h1
  have c1 : w1.cell? ⟨b, 1, none⟩ = some v := by rw [Lib.cell_of_heap hbk]; rfl
  have c1w := Lib.hid (hc1.symm.trans c1)
  have z1 := hb1.size
  have hbl := Lib.byteCells_length l
  replace hc1 := Lib.hid hc1
  go_wp2_with (at_builtin; refine wpList_append_text_at rfl _ _ 49 9 rfl B 5 i0 Try.underlying49 Try.underlying9 hi hz0 hz1 hz2 v _ _ (by rfl) hown s (by rfl) ?c3 ?c4 ?c5 ?_)
  case c3 => unfold maxLen; omega
  case c4 => omega
  case c5 => omega
  intro v' w2 hown' hgrow hat
  have hlt : b < w1.heap.size := (Array.getElem?_eq_some_iff.1 hbk).1
  have hb2 : w2.heap[b]? = some (.cells #[.pointer (some ⟨b, 0, none⟩), v] 93 (0, 0)) := by
    rw [hgrow.block b hlt (fun e => hne e.symm)]
    exact hbk
  have f1 : w2.frozen? ⟨b, 1, none⟩ = false := Lib.frozen_of_heap hb2 1
  have d1 : w2.cell? ⟨b, 1, none⟩ = some v := by rw [Lib.cell_of_heap hb2]; rfl
  have hput : Hid (Lib.BuilderAt 93 5 B b (.pointer (some ⟨b, 0, none⟩)) (Lib.byteCells l ++ Lib.strCells s) (w2.setCell ⟨b, 1, none⟩ v')) := Lib.hid (Lib.BuilderAt.put (T := 93) (e := 5) hB hb2 (bs' := Lib.byteCells l ++ Lib.strCells s) (by rw [List.length_append, Lib.strCells_length]; first | exact hown' | (rw [hbl]; exact hown')) (by decide))
  have hbel : Hid (Below B w (w2.setCell ⟨b, 1, none⟩ v')) := Lib.hid ((hb1.grown hgrow (by omega) (fun k hk => (hown.lt k hk).1)).setCell (p := ⟨b, 1, none⟩) hB _)
  have hcells : Lib.byteCells l ++ Lib.strCells s = Lib.byteCells (l ++ s.data.toList) := by simp [Lib.byteCells, Lib.strCells]
  rw [hcells] at hput
  have hfr : Hid (Fr b w (w2.setCell ⟨b, 1, none⟩ v')) := Lib.hid ⟨hbel.out.size, fun u hu => by
    rw [c1w.out] at hu
    cases hu
    refine ⟨fun k hk hkb hkg => ?_, v', World.cell?_setCell_same _ _ _ d1, ?_⟩
    · rw [Below.heap_setCell w2 ⟨b, 1, none⟩ v' k (by simpa using hkb), hgrow.block k (Nat.lt_of_lt_of_le hk z1) (fun e => hkg e.symm)]
      exact hm1.block k hk hkb
    · rcases hat with e | e
      · exact .inl e
      · exact .inr ⟨_, e, z1⟩⟩
  obtain ⟨pa, pn, pc, rfl⟩ : ∃ pa pn pc, v' = .slice pa pn pc := by
    rcases hown'.2 with ⟨e, _⟩ | ⟨g, cap, cur, e, _⟩
    · exact ⟨_, _, _, e⟩
    · exact ⟨_, _, _, e⟩
  clear hown' hgrow hown hb1 hbk hb2 hcells hat hm1 c1w hc1
  go_wp2
  go_returns
  exact ⟨rfl, .inr hput.out, hbel.out, hfr.out⟩
/-- A builder stands where its two blocks stand. -/
theorem Bld.keep {B b : Nat} {l : List UInt8} {w w' : World} (h : Bld B b l w) (hb : w'.heap[b]? = w.heap[b]?) (hg : ∀ v g, w.cell? ⟨b, 1, none⟩ = some v → v.ownBlock = some g → w'.heap[g]? = w.heap[g]?) : Bld B b l w' := by
  have K : ∀ p, Lib.BuilderAt 93 5 B b p (Lib.byteCells l) w → Lib.BuilderAt 93 5 B b p (Lib.byteCells l) w' := fun p h => by
    obtain ⟨hB, v, hbk, hown, hne⟩ := h
    have c1 : w.cell? ⟨b, 1, none⟩ = some v := by rw [Lib.cell_of_heap hbk]; rfl
    refine ⟨hB, v, hb.trans hbk, ⟨hown.1, ?_⟩, hne⟩
    rcases hown.2 with e | ⟨g, cap, cur, e, a1, a2, a3⟩
    · exact .inl e
    · exact .inr ⟨g, cap, cur, e, a1, (hg v g c1 (by rw [e]; rfl)).trans a2, a3⟩
  rcases h with h | h
  · exact .inl (K _ h)
  · exact .inr (K _ h)
/-- What a builder's cell holds, and where its bytes lie. -/
theorem Bld.own {B b : Nat} {l : List UInt8} {w : World} (h : Bld B b l w) : ∃ v, w.cell? ⟨b, 1, none⟩ = some v ∧ v.ownBlock ≠ some b ∧ ∀ g, v.ownBlock = some g → g < w.heap.size ∧ ∃ cs, w.heap[g]? = some (.cells cs 5 (0, 0)) := by
  have K : ∀ p, Lib.BuilderAt 93 5 B b p (Lib.byteCells l) w → ∃ v, w.cell? ⟨b, 1, none⟩ = some v ∧ v.ownBlock ≠ some b ∧ ∀ g, v.ownBlock = some g → g < w.heap.size ∧ ∃ cs, w.heap[g]? = some (.cells cs 5 (0, 0)) := fun p h => by
    obtain ⟨hB, v, hbk, hown, hne⟩ := h
    refine ⟨v, by rw [Lib.cell_of_heap hbk]; rfl, hne, fun g hg => ?_⟩
    rcases hown.2 with ⟨rfl, _⟩ | ⟨g', cap, cur, rfl, a1, a2, a3⟩
    · cases hg
    · have : g' = g := by simpa [Value.ownBlock] using hg
      subst this
      exact ⟨(Array.getElem?_eq_some_iff.1 a2).1, cur, a2⟩
  rcases h with h | h <;> exact K _ h
theorem Bld.at' {B b : Nat} {l : List UInt8} {w : World} (h : Bld B b l w) : ∃ cs, w.heap[b]? = some (.cells cs 93 (0, 0)) := by
  rcases h with ⟨_, v, hbk, _⟩ | ⟨_, v, hbk, _⟩ <;> exact ⟨_, hbk⟩
/-- Two builders side by side. -/
structure Pr (B b1 b2 : Nat) (l1 l2 : List UInt8) (w : World) : Prop where
  one : Bld B b1 l1 w
  two : Bld B b2 l2 w
  ne : b1 ≠ b2
  apart : ∀ v1 v2, w.cell? ⟨b1, 1, none⟩ = some v1 → w.cell? ⟨b2, 1, none⟩ = some v2 → v1.ownBlock = none ∨ v1.ownBlock ≠ v2.ownBlock
  lo : B ≤ w.heap.size
theorem Pr.swap {B b1 b2 : Nat} {l1 l2 : List UInt8} {w : World} (h : Pr B b1 b2 l1 l2 w) : Pr B b2 b1 l2 l1 w := ⟨h.two, h.one, h.ne.symm, fun v1 v2 e1 e2 => by
  by_cases hn : v1.ownBlock = none
  · exact .inl hn
  · refine .inr fun e => ?_
    rcases h.apart v2 v1 e2 e1 with k | k
    · exact hn (e.trans k)
    · exact k e.symm, h.lo⟩
theorem Pr.types {B b1 b2 : Nat} {l1 l2 : List UInt8} {w : World} (h : Pr B b1 b2 l1 l2 w) {v1 : Value} (e1 : w.cell? ⟨b1, 1, none⟩ = some v1) : v1.ownBlock ≠ some b2 := fun e => by
  obtain ⟨v, c, _, hg⟩ := h.one.own
  rw [e1] at c
  cases c
  obtain ⟨_, cs, hc⟩ := hg b2 e
  obtain ⟨ds, hd⟩ := h.two.at'
  rw [hc] at hd
  simp only [Option.some.injEq, Obj.cells.injEq] at hd
  exact absurd hd.2.1 (by decide)
theorem Pr.keep {B b1 b2 : Nat} {l1 l2 : List UInt8} {w w' : World} (h : Pr B b1 b2 l1 l2 w) (hb : Below w.heap.size w w') : Pr B b1 b2 l1 l2 w' :=
  ⟨h.one.below hb, h.two.below hb, h.ne, fun v1 v2 e1 e2 => by
    obtain ⟨u1, c1, _⟩ := h.one.own
    obtain ⟨u2, c2, _⟩ := h.two.own
    rw [(hb.cell (p := ⟨b1, 1, none⟩) (World.block_lt_of_cell? _ _ c1))] at e1
    rw [(hb.cell (p := ⟨b2, 1, none⟩) (World.block_lt_of_cell? _ _ c2))] at e2
    exact h.apart v1 v2 e1 e2, Nat.le_trans h.lo hb.size⟩
theorem Pr.but {B b1 b2 p : Nat} {l1 l2 : List UInt8} {w w' : World} (h : Pr B b1 b2 l1 l2 w) (hb : But p w w') {cs : Array Value} {t : TypeId} {m : Nat × Nat} (hp : w.heap[p]? = some (.cells cs t m)) (ht1 : t ≠ 93) (ht2 : t ≠ 5) : Pr B b1 b2 l1 l2 w' := by
  have nb : ∀ {b l}, Bld B b l w → b ≠ p := fun k e => by
    obtain ⟨ds, hd⟩ := k.at'
    rw [e, hp] at hd
    simp only [Option.some.injEq, Obj.cells.injEq] at hd
    exact ht1 hd.2.1
  have sb : ∀ {b l}, Bld B b l w → w'.heap[b]? = w.heap[b]? := fun k => hb.block _ (by obtain ⟨ds, hd⟩ := k.at'; exact (Array.getElem?_eq_some_iff.1 hd).1) (nb k)
  have kb : ∀ {b l}, Bld B b l w → Bld B b l w' := fun {b l} k => k.keep (sb k) (fun v g hv hg => by
    obtain ⟨u, c, _, ho⟩ := k.own
    rw [hv] at c
    cases c
    obtain ⟨hlt, ds, hd⟩ := ho g hg
    refine hb.block g hlt fun e => ?_
    rw [e, hp] at hd
    simp only [Option.some.injEq, Obj.cells.injEq] at hd
    exact ht2 hd.2.1)
  refine ⟨kb h.one, kb h.two, h.ne, fun v1 v2 e1 e2 => ?_, Nat.le_trans h.lo hb.size⟩
  rw [World.cell?_of_block (a := ⟨b1, 1, none⟩) (sb h.one)] at e1
  rw [World.cell?_of_block (a := ⟨b2, 1, none⟩) (sb h.two)] at e2
  exact h.apart v1 v2 e1 e2
/-- A write into the first one. -/
theorem Pr.wrote {B b1 b2 : Nat} {l1 l2 l1' : List UInt8} {w w' : World} (h : Pr B b1 b2 l1 l2 w) (h1 : Bld B b1 l1' w') (hb : Below B w w') (hf : Fr b1 w w') : Pr B b1 b2 l1' l2 w' := by
  obtain ⟨v1, c1, _, o1⟩ := h.one.own
  obtain ⟨v2, c2, _, o2⟩ := h.two.own
  obtain ⟨hk, v1', c1', hat⟩ := hf.2 v1 c1
  have n2 := h.types c1
  obtain ⟨ds, hd⟩ := h.two.at'
  have s2 := hk b2 (Array.getElem?_eq_some_iff.1 hd).1 h.ne.symm n2
  refine ⟨h1, h.two.keep s2 (fun v g hv hg => ?_), h.ne, fun u1 u2 e1 e2 => ?_, Nat.le_trans h.lo hf.1⟩
  · rw [c2] at hv
    cases hv
    refine hk g (o2 g hg).1 (fun e => ?_) (fun e => ?_)
    · exact h.swap.types c2 (hg.trans (by rw [e]))
    · rcases h.apart v1 v2 c1 c2 with k | k
      · rw [k] at e; cases e
      · exact k (e.trans hg.symm)
  · rw [c1'] at e1
    cases e1
    rw [World.cell?_of_block (a := ⟨b2, 1, none⟩) s2, c2] at e2
    cases e2
    rcases hat with e | ⟨g, e, hlo⟩
    · rw [e]; exact h.apart v1 v2 c1 c2
    · refine .inr fun e3 => ?_
      have := (o2 g (by rw [← e3, e])).1
      omega
theorem pr_new (w : World) : Pr w.heap.size w.heap.size (w.heap.size + 1) [] [] ((w.alloc (.cells #[.pointer none, .slice none 0 0] 93)).alloc (.cells #[.pointer none, .slice none 0 0] 93)) := by
  have h1 := (bld_new w).below (below_alloc (w.alloc (.cells #[.pointer none, .slice none 0 0] 93)) (.cells #[.pointer none, .slice none 0 0] 93))
  have h2 := bld_new (w.alloc (.cells #[.pointer none, .slice none 0 0] 93))
  rw [World.size_alloc] at h2
  have h2 : Bld w.heap.size (w.heap.size + 1) [] ((w.alloc (.cells #[.pointer none, .slice none 0 0] 93)).alloc (.cells #[.pointer none, .slice none 0 0] 93)) := by
    rcases h2 with ⟨hB, v, hbk, ⟨ho, ho2⟩, hne⟩ | ⟨hB, v, hbk, ⟨ho, ho2⟩, hne⟩
    · exact .inl ⟨by omega, v, hbk, ⟨ho, ho2.imp id (fun ⟨g, cap, cur, e, a1, a2⟩ => ⟨g, cap, cur, e, by omega, a2⟩)⟩, hne⟩
    · exact .inr ⟨by omega, v, hbk, ⟨ho, ho2.imp id (fun ⟨g, cap, cur, e, a1, a2⟩ => ⟨g, cap, cur, e, by omega, a2⟩)⟩, hne⟩
  refine ⟨h1, h2, by omega, fun v1 v2 e1 e2 => .inl ?_, by simp; omega⟩
  have : ((w.alloc (.cells #[.pointer none, .slice none 0 0] 93)).alloc (.cells #[.pointer none, .slice none 0 0] 93)).cell? ⟨w.heap.size, 1, none⟩ = some (.slice none 0 0) := by
    rw [((below_alloc (w.alloc (.cells #[.pointer none, .slice none 0 0] 93)) _).cell (p := ⟨w.heap.size, 1, none⟩) (by simp)), World.cell?_alloc_new]
    rfl
  rw [this] at e1
  cases e1
  rfl
end Go.Proofs.Ytmjakkemiiigpaa
/-
  Reading one builder leaves the other one. No condition.
-/
namespace Go.Proofs.Ytmjakkemiiigpaa
set_option maxRecDepth 100000
open Go.RowKit
/-- What a reading of a builder leaves: all blocks but that of its bytes. -/
def Rd (b : Nat) (w w' : World) : Prop := w.heap.size ≤ w'.heap.size ∧ ∀ v, w.cell? ⟨b, 1, none⟩ = some v → ∀ k, k < w.heap.size → v.ownBlock ≠ some k → w'.heap[k]? = w.heap[k]?
theorem rd_drew (b : Nat) (w : World) : Rd b w w.drew := ⟨Nat.le_refl _, fun _ _ _ _ _ => rfl⟩
theorem rd_freeze {b g : Nat} (w : World) (h : ∀ v, w.cell? ⟨b, 1, none⟩ = some v → v.ownBlock = some g) (n : Nat) : Rd b w (w.drew.freeze ⟨g, 0, none⟩ n) := by
  unfold World.freeze
  split
  · exact rd_drew b w
  · refine ⟨by simp, fun v hv k hk hne => ?_⟩
    have : k ≠ g := fun e => hne (by rw [h v hv, e])
    simp only [Array.getElem?_modify]
    rw [if_neg (by simpa using fun e => this e.symm)]
    rfl
set_option maxRecDepth 100000 in
set_option maxHeartbeats 4000000 in
theorem bld_read {B b : Nat} {l : List UInt8} {w : World} (h : Bld B b l w) (hBw : B ≤ w.heap.size) :
    Calls Try.prog 52 #[.pointer (some ⟨b, 0, none⟩)] w fun e w' => e = .returned (.string ⟨l.toArray⟩) ∧ Below B w w' ∧ Rd b w w' := by
  have hbl := Lib.byteCells_length l
  have K : ∃ v, w.cell? ⟨b, 1, none⟩ = some v ∧ w.ownsRow B 5 1 v l.length (Lib.byteCells l) := by
    rcases h with h | h
    all_goals (
      obtain ⟨hB, v, hbk, hown, hne⟩ := h
      rw [hbl] at hown
      exact ⟨v, by rw [Lib.cell_of_heap hbk]; rfl, hown⟩)
  obtain ⟨v, c1, hown⟩ := K
  have hp : Try.prog.underlying 127 = some (.pointer 5) := Try.underlying127
  have hc : Try.prog.cellsOf 5 = 1 := by kernel_rfl
  clear h
  rcases hown.2 with ⟨rfl, hz⟩ | ⟨g, cap, cur, rfl, hbg, hg, hnc, hcm, hcs, htake⟩
  · have hl : l = [] := List.length_eq_zero_iff.1 hz
    subst hl
    have R1 := fun (u : World) ts ty => Lib.run_unsafeSliceData_nil (P := Try.prog) u ts ty 0 0
    have R2 := fun (u : World) pt it ty => Lib.run_unsafeString_none (P := Try.prog) u pt it ty none
    clear hown hbl
    go_enter Try.func52, Try.ntmps52
    go_upto_region 1 with fail
    go_region
    all_goals go_wp2_with fail
    all_goals go_returns
    all_goals exact ⟨rfl, (Below.refl B w).drew, rd_drew b w⟩
  · have c1g : ∀ v, w.cell? ⟨b, 1, none⟩ = some v → v.ownBlock = some g := fun v hv => by rw [c1] at hv; cases hv; rfl
    by_cases hl : l = []
    · subst hl
      have R2 := fun (u : World) pt it ty p => Lib.run_unsafeString_none (P := Try.prog) u pt it ty p
      by_cases hcap : cap = 0
      · subst hcap
        have sh : w.shape? g = some (5, cur.size) := by simp [World.shape?, hg]
        have R1 := Lib.run_unsafeSliceData_zero (P := Try.prog) w.drew #[49] 127 5 hp ⟨g, 0, none⟩ 0 (5, cur.size) sh
        have e2 : Hid (Below B w (w.drew.alloc (.view ⟨g, 0, none⟩ 5)) ∧ Rd b w (w.drew.alloc (.view ⟨g, 0, none⟩ 5))) := Lib.hid ⟨(Below.refl B w).drew.alloc hBw _, by simp, fun v _ k hk _ => heap_alloc_old _ _ hk⟩
        have d1 : (w.alloc (.view ⟨g, 0, none⟩ 5)).drew.cell? ⟨b, 1, none⟩ = some (.slice (some ⟨g, 0, none⟩) 0 0) := ((below_alloc w (.view ⟨g, 0, none⟩ 5)).cell (p := ⟨b, 1, none⟩) (World.block_lt_of_cell? _ _ c1)).trans c1
        clear hown hbl c1g hcs htake hg hcm hnc
        go_enter Try.func52, Try.ntmps52
        go_upto_region 1 with fail
        go_region
        all_goals go_wp2_with fail
        all_goals go_returns
        all_goals exact ⟨rfl, e2.out⟩
      · have R1 := fun (u : World) ts ty => Lib.run_unsafeSliceData_row (P := Try.prog) u ts ty ⟨g, 0, none⟩ 0 cap hcap
        clear hown hbl c1g hcs htake hg hcm hnc
        go_enter Try.func52, Try.ntmps52
        go_upto_region 1 with fail
        go_region
        all_goals go_wp2_with fail
        all_goals go_returns
        all_goals exact ⟨rfl, (Below.refl B w).drew, rd_drew b w⟩
    · have hl0 : 0 < l.length := List.length_pos_iff.2 hl
      have R1 := fun (u : World) ts ty => Lib.run_unsafeSliceData_row (P := Try.prog) u ts ty ⟨g, 0, none⟩ l.length cap (by omega)
      have sh : w.shape? g = some (5, cur.size) := by simp [World.shape?, hg]
      have R2 := fun it ty => Lib.run_unsafeString_row (P := Try.prog) w.drew 127 it ty 5 hp hc g cur.size sh l hl (by omega) (by unfold maxLen at hcm; omega) (fun j x hx => by
        have := hown.cells (g := g) rfl j (.int .u8 (x.toNat : Int)) (by unfold Lib.byteCells; rw [List.getElem?_map, hx]; rfl)
        exact this)
      have e2 : Hid (Below B w (w.drew.freeze ⟨g, 0, none⟩ l.length) ∧ Rd b w (w.drew.freeze ⟨g, 0, none⟩ l.length)) := Lib.hid ⟨Lib.below_freeze (Below.refl B w).drew hbg _, rd_freeze w c1g l.length⟩
      clear hown hbl c1g hcs htake hg hcm hnc sh
      go_enter Try.func52, Try.ntmps52
      go_upto_region 1 with fail
      go_region
      all_goals go_wp2_with fail
      all_goals go_returns
      all_goals exact ⟨rfl, e2.out⟩
/-- The other builder stands. -/
theorem Pr.read {B b1 b2 : Nat} {l1 l2 : List UInt8} {w w' : World} (h : Pr B b1 b2 l1 l2 w) (hr : Rd b1 w w') : Bld B b2 l2 w' := by
  obtain ⟨v1, c1, _, o1⟩ := h.one.own
  obtain ⟨v2, c2, _, o2⟩ := h.two.own
  obtain ⟨ds, hd⟩ := h.two.at'
  refine h.two.keep (hr.2 v1 c1 b2 (Array.getElem?_eq_some_iff.1 hd).1 (h.types c1)) (fun v g hv hg => ?_)
  rw [c2] at hv
  cases hv
  refine hr.2 v1 c1 g (o2 g hg).1 (fun e => ?_)
  rcases h.apart v1 v2 c1 c2 with k | k
  · rw [k] at e; cases e
  · exact k (e.trans hg.symm)
end Go.Proofs.Ytmjakkemiiigpaa
/-
  The contract of Build. No condition.
-/
namespace Go.Proofs.Ytmjakkemiiigpaa
set_option maxRecDepth 100000
open Go.RowKit
theorem chkA_ok {l : List Rw} {d : Int} (h : chkA l d = 0) : 1 ≤ d ∧ d ≤ 64 ∧ ordR l = true ∧ (∀ x ∈ l, chkR x = 0) ∧ l.length ≤ 1024 := by
  unfold chkA at h
  split at h
  · cases h
  rename_i h1
  split at h
  · cases h
  rename_i h2
  split at h
  · cases h
  rename_i h3
  refine ⟨by omega, by omega, by cases ho : ordR l; exact absurd (.inr (.inr ho)) h1; rfl, fun x hx => ?_, by omega⟩
  unfold chkR
  have a1 : badR x = false := by
    cases hb : badR x with
    | false => rfl
    | true => exact absurd (List.any_eq_true.2 ⟨x, hx, hb⟩) h2
  have a2 : longR x = false := by
    cases hb : longR x with
    | false => rfl
    | true => exact absurd (.inr (List.any_eq_true.2 ⟨x, hx, hb⟩)) h3
  simp [a1, a2]
theorem encX_le (p : List UInt8) {x : Rw} (h : chkR x = 0) : (encX p x).length ≤ 2700 := by
  obtain ⟨_, _, _, hs2, _, hkl, hvl⟩ := chkR_ok h
  have c := (com_le p x.key.toList).2
  rw [toL_len] at c
  have u1 := Code.uvar_ten (n := com p x.key.toList) (by omega)
  have u2 := Code.uvar_ten (n := (x.key.toList.drop (com p x.key.toList)).length) (by rw [List.length_drop, toL_len]; omega)
  have u3 := Code.uvar_ten (n := x.seq) (by omega)
  have u4 := Code.uvar_ten (n := x.val.size) (by omega)
  have hd : (x.key.toList.drop (com p x.key.toList)).length ≤ 520 := by rw [List.length_drop, toL_len]; omega
  have hv : (valB x).length ≤ 2058 := by
    unfold valB
    split
    · rw [List.length_append, toL_len]; omega
    · simp
  unfold encX
  simp only [List.length_append, List.length_cons, List.length_nil] at *
  omega
theorem bodB_le (d : Nat) {l : List Rw} (h : ∀ x ∈ l, chkR x = 0) : ∀ n, n ≤ l.length → (bodB d l n).length ≤ 2700 * n
  | 0, _ => by simp [bodB]
  | n + 1, hn => by
    have ih := bodB_le d h n (by omega)
    have hx : chkR (rwAt l n) = 0 := by
      rw [rwAt_some (List.getElem?_eq_getElem (show n < l.length by omega))]
      exact h _ (List.getElem_mem _)
    have := encX_le (prvB d l n) hx
    rw [bodB_snoc, List.length_append]
    unfold encI
    omega
theorem tailB_len (r : List UInt8) (d : Nat) : (tailB r d).length = r.length + 8 := by simp [tailB, le4_len]
set_option maxRecDepth 100000 in
set_option maxHeartbeats 2000000 in
theorem build_bad {a : Option Addr} {n c b o : Nat} {l : List Rw} {w : World} (d : Int) (h : Rs a n c b o l w) (hc : chkA l d ≠ 0) :
    Calls Try.prog 24 #[.slice a n c, .int .i64 d] w fun e w' => e = .returned (.tuple #[.string ⟨#[]⟩, .int .i64 (chkA l d : Nat)]) ∧ Below w.heap.size w w' := by
  have C := Lib.hid (chkall_any d h)
  obtain ⟨R, hR⟩ := named (chkA l d)
  rw [← hR.out] at C hc ⊢
  have hcb : ((R : Int) != 0) = true := by simpa using hc
  clear h hR
  go_enter Try.func24, Try.ntmps24
  go_wp2_with (go_at_call 55; ((with_reducible refine C.out.mono ?_); rintro e w1 ⟨rfl, hb1⟩))
  go_returns
  exact ⟨rfl, hb1⟩
theorem rowAt_spares {b g : Nat} {x : Rw} {w w' : World} (h : RowAt b x w) (hf : Fr g w w') {B : Nat} {T : List UInt8} (hB : Bld B g T w) : RowAt b x w' := by
  obtain ⟨v, c, _, ho⟩ := hB.own
  obtain ⟨ds, hd⟩ := hB.at'
  refine ((hf.2 v c).1 b (Array.getElem?_eq_some_iff.1 h).1 (fun e => ?_) (fun e => ?_)).trans h
  · subst e
    unfold RowAt at h
    rw [h] at hd
    simp only [Option.some.injEq, Obj.cells.injEq] at hd
    exact absurd hd.2.1 (by decide)
  · obtain ⟨_, cs, hc⟩ := ho b e
    unfold RowAt at h
    rw [h] at hc
    simp only [Option.some.injEq, Obj.cells.injEq] at hc
    exact absurd hc.2.1 (by decide)
theorem RowAt.c4 {b xs : Nat} {xk xv : ByteArray} {xi : Int} {w : World} (h : RowAt b ⟨xk, xs, xi, xv⟩ w) : w.cell? ⟨b, 0, none⟩ = some (.string xk) ∧ w.cell? ⟨b, 1, none⟩ = some (.int .u64 (xs : Int)) ∧ w.cell? ⟨b, 2, none⟩ = some (.int .i64 xi) ∧ w.cell? ⟨b, 3, none⟩ = some (.string xv) := h.cells.1
/-- Build under way. -/
structure BuI (N : Nat) (w1 : World) (d : Nat) (l : List Rw) (T1 T2 : List UInt8) (p : Rw) (V : World) : Prop where
  pr : Pr N N (N + 1) T1 T2 V
  row : RowAt (N + 2) p V
  bel : Below N w1 V
  lo : N ≤ w1.heap.size
theorem BuI.keep {N : Nat} {w1 : World} {d : Nat} {l : List Rw} {T1 T2 : List UInt8} {p : Rw} {V V' : World} (h : BuI N w1 d l T1 T2 p V) (hb : Below V.heap.size V V') : BuI N w1 d l T1 T2 p V' :=
  ⟨h.pr.keep hb, h.row.below hb, h.bel.trans (hb.mono h.pr.lo), h.lo⟩
theorem BuI.wrote1 {N : Nat} {w1 : World} {d : Nat} {l : List Rw} {T1 T2 T : List UInt8} {p : Rw} {V V' : World} (h : BuI N w1 d l T1 T2 p V) (b : Bld N N T V') (hb : Below N V V') (hf : Fr N V V') : BuI N w1 d l T T2 p V' :=
  ⟨h.pr.wrote b hb hf, rowAt_spares h.row hf h.pr.one, h.bel.trans hb, h.lo⟩
theorem BuI.wrote2 {N : Nat} {w1 : World} {d : Nat} {l : List Rw} {T1 T2 T : List UInt8} {p : Rw} {V V' : World} (h : BuI N w1 d l T1 T2 p V) (b : Bld N (N + 1) T V') (hb : Below N V V') (hf : Fr (N + 1) V V') : BuI N w1 d l T1 T p V' :=
  ⟨(h.pr.swap.wrote b hb hf).swap, rowAt_spares h.row hf h.pr.two, h.bel.trans hb, h.lo⟩
theorem BuI.turned {N : Nat} {w1 : World} {d : Nat} {l : List Rw} {T1 T2 : List UInt8} {p x : Rw} {V V' : World} (h : BuI N w1 d l T1 T2 p V) (r : RowAt (N + 2) x V') (hb : But (N + 2) V V') : BuI N w1 d l T1 T2 x V' :=
  ⟨h.pr.but hb h.row (by decide) (by decide), r, h.bel.trans (hb.below (by omega) h.pr.lo), h.lo⟩
theorem bui_new (w1 : World) (d : Nat) (l : List Rw) : BuI w1.heap.size w1 d l [] [] rwZ (((w1.alloc (.cells #[.pointer none, .slice none 0 0] 93)).alloc (.cells #[.pointer none, .slice none 0 0] 93)).alloc (.cells #[.string ⟨#[]⟩, .int .u64 0, .int .i64 0, .string ⟨#[]⟩] 39)) := by
  have r := RowAt.new rwZ ((w1.alloc (.cells #[.pointer none, .slice none 0 0] 93)).alloc (.cells #[.pointer none, .slice none 0 0] 93))
  simp only [World.size_alloc] at r
  refine ⟨(pr_new w1).keep (below_alloc _ _), r, ?_, Nat.le_refl _⟩
  exact below_of (below_of (below_alloc _ _) (below_alloc _ _)) (below_alloc _ _)
set_option maxRecDepth 100000 in
set_option maxHeartbeats 4000000 in
theorem writer_new (w : World) : Calls Try.prog 56 #[] w fun e w' => e = .returned (.func (.func 80) #[] #[.pointer (some ⟨w.heap.size, 0, none⟩)]) ∧ w' = w.alloc (.cells #[.string ⟨#[]⟩, .int .u64 0, .int .i64 0, .string ⟨#[]⟩] 39) := by
  have hmf := makes_func
  go_enter Try.func56, Try.ntmps56
  go_wp2_with fail
  go_returns
  exact ⟨rfl, rfl⟩
theorem writer_enters : ∀ (args : Array Value) (w : World), (callFunc 80 args).run Try.prog w = .ok (.enter 80 args) w := enters_of Try.func80 (by kernel_rfl) rfl
set_option maxRecDepth 100000 in
set_option maxHeartbeats 4000000 in
theorem build_good {a : Option Addr} {n c b o : Nat} {l : List Rw} {w : World} (d : Nat) (h : Rs a n c b o l w) (hc : chkA l d = 0) :
    Calls Try.prog 24 #[.slice a n c, .int .i64 (d : Int)] w fun e w' => e = .returned (.tuple #[.string ⟨(buildB l d).1.toArray⟩, .int .i64 ((buildB l d).2 : Nat)]) ∧ Below w.heap.size w w' := by
  obtain ⟨k1, k2, _, k3, k4⟩ := chkA_ok hc
  have hE : Hid (buildB l d = if 65536 < (blkB d l).length then ([], 3) else (blkB d l, 0)) := Lib.hid (by unfold buildB; rw [if_neg (by simpa using hc)]; rfl)
  obtain ⟨R, hR⟩ := named (buildB l (d : Int))
  rw [← hR.out] at hE ⊢
  have C := Lib.hid (chkall_any d h)
  rw [hc] at C
  have hW := writer_new
  have hWE := writer_enters
  have PN := Lib.hid (fun k hk u => putnum_any k hk u)
  have BH := Lib.hid (fun r hr u => behind_any r hr d (by omega) u)
  have hlen := Lib.hid h.len
  have m0 := h.most
  have q0 := h.cap
  rw [h.len] at k4
  have d0 : (d : Int) ≠ 0 := by omega
  have k3 := Lib.hid k3
  have h := Lib.hid h
  clear hc
  go_enter Try.func24, Try.ntmps24
  go_wp2_with (first
    | (go_at_call 55; ((with_reducible refine C.out.mono ?_); rintro e w1 ⟨rfl, hb1⟩; have h1 := Lib.hid (h.out.below hb1 (Nat.le_refl _)); have hb1 := Lib.hid hb1))
    | (go_at_call 56; ((with_reducible refine (hW _).mono ?_); rintro e w2 ⟨rfl, rfl⟩)))
  have I0 := Lib.hid (bui_new w1 d l)
  generalize ((w1.alloc (.cells #[.pointer none, .slice none 0 0] 93)).alloc (.cells #[.pointer none, .slice none 0 0] 93)).alloc (.cells #[.string ⟨#[]⟩, .int .u64 0, .int .i64 0, .string ⟨#[]⟩] 39) = V0 at *
  go_loopw [23] (fun i wr => ∃ (j : Nat) (p : Rw), j ≤ n ∧ i = .int .i64 (j : Int) ∧ p.key.size ≤ 520 ∧ (j ≠ 0 → p = rwAt l (j - 1)) ∧ BuI w1.heap.size w1 d l (bodB d l j) (rstB d l j) p wr) (fun i _ => n - (intOf i).toNat)
  case atStart => exact ⟨0, rwZ, Nat.zero_le _, rfl, by decide, fun e => absurd rfl e, I0.out⟩
  case round =>
    clear I0
    obtain ⟨j, p, hj, rfl, hpk, hpj, hI⟩ := hrel
    by_cases hlt : j < n
    · obtain ⟨x, hx, rfl, x0, x1, x2, x3⟩ := (h1.out.below hI.bel (Nat.le_refl _)).at4 hlt
      have hx := Lib.hid hx
      have hxc := Lib.hid (k3.out x (List.mem_of_getElem? hx.out))
      have hxk : Hid (x.key.size ≤ 520) := Lib.hid (chkR_ok hxc.out).2.2.2.2.2.1
      have I1 := Lib.hid (hI.keep (below_alloc wr (.cells #[.string x.key, .int .u64 (x.seq : Int), .int .i64 x.kind, .string x.val] 39)))
      have X1 := Lib.hid (RowAt.new x wr)
      obtain ⟨K, hK⟩ := named (bodB d l j).length
      have hbo : Hid ((bodB d l j).length ≤ 2764800) := Lib.hid (by have := bodB_le d k3.out j (by rw [hlen.out]; omega); omega)
      have hbl : Hid (K < 4294967296) := Lib.hid (by rw [hK.out]; have := hbo.out; omega)
      have hln2 : Hid ((rstB d l j).length + (⟨(le4 K).toArray⟩ : ByteArray).size ≤ 140737488355328) := Lib.hid (by have := rstB_le d l j; show (rstB d l j).length + (le4 K).toArray.size ≤ _; rw [List.size_toArray, le4_len]; omega)
      have KL : ((bodB d l j).length : Int) = (K : Int) := by rw [hK.out]
      clear hI
      obtain ⟨xk, xs, xi, xv⟩ := x
      simp only at x0 x1 x2 x3
      by_cases hm : j % d = 0
      · obtain ⟨Z, hZ⟩ := named (encX (if (true : Bool) = true then [] else p.key.toList) ⟨xk, xs, xi, xv⟩)
        have hZl : Hid (Z.length ≤ 2700) := Lib.hid (by rw [hZ.out]; exact encX_le _ hxc.out)
        have WC : Hid (∀ V, RowAt (w1.heap.size + 1 + 1) p V → Calls Try.prog 80 #[.agg #[.string xk, .int .u64 (xs : Int), .int .i64 xi, .string xv], .bool true, .pointer (some ⟨w1.heap.size + 1 + 1, 0, none⟩)] V fun e w' => e = .returned (.string ⟨Z.toArray⟩) ∧ RowAt (w1.heap.size + 1 + 1) ⟨xk, xs, xi, xv⟩ w' ∧ But (w1.heap.size + 1 + 1) V w') := Lib.hid (fun V hV => by rw [hZ.out]; exact writer_any ⟨xk, xs, xi, xv⟩ p true _ V hV hxc.out hpk)
        have hrs : Hid (rstB d l (j + 1) = rstB d l j ++ le4 K) := Lib.hid (by rw [rstB_snoc, if_pos hm, ← hK.out])
        have hbs : Hid (bodB d l (j + 1) = bodB d l j ++ Z) := Lib.hid (by rw [bodB_snoc, hZ.out]; unfold encI prvB; rw [if_pos hm, rwAt_some hx.out]; rfl)
        have g2 : (((j : Int) % (d : Int)) == 0) = true := by rw [← Int.natCast_emod, hm]; rfl
        go_wp2_with (first
          | (go_at_call 50; ((with_reducible refine (bld_len I1.out.pr.one).mono ?_); rintro e v1 ⟨rfl, hb2⟩; have I2 := Lib.hid (I1.out.keep hb2); have X2 := Lib.hid (X1.out.below hb2); clear hb2))
          | (go_at_call 57; ((with_reducible refine (PN.out K hbl.out _).mono ?_); rintro e v2 ⟨rfl, hb3⟩; have I3 := Lib.hid (I2.out.keep hb3); have X3 := Lib.hid (X2.out.below hb3); clear hb3))
          | (go_at_call 51; ((with_reducible refine (bld_string_at I3.out.pr.two I3.out.pr.lo ⟨(le4 K).toArray⟩ hln2.out).mono ?_); rintro e v3 ⟨rfl, hB4, hb4, hf4⟩; have I4 := Lib.hid (I3.out.wrote2 hB4 hb4 hf4); have X4 := Lib.hid (rowAt_spares X3.out hf4 I3.out.pr.two); clear hB4 hb4 hf4; obtain ⟨y0, y1, y2, y3⟩ := X4.out.c4)))
        refine (WC.out _ I4.out.row).mono ?_
        rintro e v4 ⟨rfl, hr5, hb5⟩
        have I5 := Lib.hid (I4.out.turned hr5 hb5)
        clear hr5 hb5 y0 y1 y2 y3
        have hln1 : Hid ((bodB d l j).length + (⟨Z.toArray⟩ : ByteArray).size ≤ 140737488355328) := Lib.hid (by have := hZl.out; have := hbo.out; show (bodB d l j).length + Z.toArray.size ≤ _; rw [List.size_toArray]; omega)
        go_wp2_with (go_at_call 51; ((with_reducible refine (bld_string_at I5.out.pr.one I5.out.pr.lo ⟨Z.toArray⟩ hln1.out).mono ?_); rintro e v5 ⟨rfl, hB6, hb6, hf6⟩; have I6 := Lib.hid (I5.out.wrote1 hB6 hb6 hf6); clear hB6 hb6 hf6))
        go_roundw
        case rel =>
          refine ⟨j + 1, ⟨xk, xs, xi, xv⟩, by omega, by go_num, hxk.out, fun _ => ?_, ?_⟩
          · rw [Nat.add_sub_cancel, rwAt_some hx.out]
          · rw [hbs.out, hrs.out]; exact I6.out
        case measure => simp [intOf]; omega
      · obtain ⟨Z, hZ⟩ := named (encX (if (false : Bool) = true then [] else p.key.toList) ⟨xk, xs, xi, xv⟩)
        have hZl : Hid (Z.length ≤ 2700) := Lib.hid (by rw [hZ.out]; exact encX_le _ hxc.out)
        have WC : Hid (∀ V, RowAt (w1.heap.size + 1 + 1) p V → Calls Try.prog 80 #[.agg #[.string xk, .int .u64 (xs : Int), .int .i64 xi, .string xv], .bool false, .pointer (some ⟨w1.heap.size + 1 + 1, 0, none⟩)] V fun e w' => e = .returned (.string ⟨Z.toArray⟩) ∧ RowAt (w1.heap.size + 1 + 1) ⟨xk, xs, xi, xv⟩ w' ∧ But (w1.heap.size + 1 + 1) V w') := Lib.hid (fun V hV => by rw [hZ.out]; exact writer_any ⟨xk, xs, xi, xv⟩ p false _ V hV hxc.out hpk)
        have hrs : Hid (rstB d l (j + 1) = rstB d l j) := Lib.hid (by rw [rstB_snoc, if_neg hm, List.append_nil])
        have hbs : Hid (bodB d l (j + 1) = bodB d l j ++ Z) := Lib.hid (by
          have hj0 : j ≠ 0 := fun e => hm (by rw [e]; exact Nat.zero_mod d)
          rw [bodB_snoc, hZ.out]; unfold encI prvB; rw [if_neg hm, rwAt_some hx.out, ← (hpj hj0)]; rfl)
        have g2 : (((j : Int) % (d : Int)) == 0) = false := by rw [← Int.natCast_emod, beq_eq_false_iff_ne]; omega
        obtain ⟨y0, y1, y2, y3⟩ := X1.out.c4
        go_wp2_with fail
        refine (WC.out _ I1.out.row).mono ?_
        rintro e v4 ⟨rfl, hr5, hb5⟩
        have I5 := Lib.hid (I1.out.turned hr5 hb5)
        clear hr5 hb5 y0 y1 y2 y3
        have hln1 : Hid ((bodB d l j).length + (⟨Z.toArray⟩ : ByteArray).size ≤ 140737488355328) := Lib.hid (by have := hZl.out; have := hbo.out; show (bodB d l j).length + Z.toArray.size ≤ _; rw [List.size_toArray]; omega)
        go_wp2_with (go_at_call 51; ((with_reducible refine (bld_string_at I5.out.pr.one I5.out.pr.lo ⟨Z.toArray⟩ hln1.out).mono ?_); rintro e v5 ⟨rfl, hB6, hb6, hf6⟩; have I6 := Lib.hid (I5.out.wrote1 hB6 hb6 hf6); clear hB6 hb6 hf6))
        go_roundw
        case rel =>
          refine ⟨j + 1, ⟨xk, xs, xi, xv⟩, by omega, by go_num, hxk.out, fun _ => ?_, ?_⟩
          · rw [Nat.add_sub_cancel, rwAt_some hx.out]
          · rw [hbs.out, hrs.out]; exact I6.out
        case measure => simp [intOf]; omega
    · have hjn : j = n := by omega
      subst hjn
      have PR := Lib.hid hI.pr
      have BE := Lib.hid hI.bel
      have hbo : Hid ((bodB d l j).length ≤ 2764800) := Lib.hid (by have := bodB_le d k3.out j (by rw [hlen.out]; omega); omega)
      have hro : Hid ((rstB d l j).length ≤ 4096) := Lib.hid (by have := rstB_le d l j; omega)
      have hEl : Hid (blkB d l = bodB d l j ++ tailB (rstB d l j) d) := Lib.hid (by unfold blkB; rw [hlen.out])
      obtain ⟨Y, hY⟩ := named (bodB d l j)
      obtain ⟨Z, hZ⟩ := named (rstB d l j)
      rw [← hY.out, ← hZ.out] at PR hEl
      rw [← hY.out] at hbo
      rw [← hZ.out] at hro
      obtain ⟨T, hT⟩ := named (tailB Z d)
      have BH2 := Lib.hid (BH.out Z (by have := hro.out; omega))
      rw [← hT.out] at hEl BH2
      have hTl : T.length = Z.length + 8 := by rw [hT.out, tailB_len]
      have z1 : ¬ 9223372036854775807 < Y.length + T.length := by have := hbo.out; have := hro.out; omega
      rw [hEl.out] at hE
      rw [List.length_append] at hE
      clear hI hpj hY hZ hT hEl BH hbo hro hpk
      replace hTl := Lib.hid hTl
      by_cases hbig : 65536 < Y.length + T.length
      · rw [if_pos hbig] at hE
        have g1 : decide ((65536 : Int) < ((Y.length + T.length : Nat) : Int)) = true := by rw [decide_eq_true_eq]; omega
        have g2 : (65536 : Int) < (Y.length : Int) + (T.length : Int) := by omega
        go_wp2_with (first
          | (go_at_call 52; ((with_reducible refine (bld_read PR.out.one PR.out.lo).mono ?_); rintro e v1 ⟨rfl, hb2, hr2⟩; have B2 := Lib.hid (PR.out.read hr2); have BE2 := Lib.hid (BE.out.trans hb2); have lo2 := Lib.hid (Nat.le_trans PR.out.lo hr2.1); clear hb2 hr2))
          | (go_at_call 52; ((with_reducible refine (bld_text B2.out lo2.out).mono ?_); rintro e v2 ⟨rfl, hb3⟩; have BE3 := Lib.hid (BE2.out.trans hb3); clear hb3))
          | (go_at_call 58; ((with_reducible refine (BH2.out _).mono ?_); rintro e v3 ⟨rfl, hb4⟩; have BE4 := Lib.hid (BE3.out.trans (hb4.mono BE3.out.size)); clear hb4)))
        go_returns
        exact ⟨by rw [hE.out]; rfl, hb1.out.trans (BE4.out.mono hb1.out.size)⟩
      · rw [if_neg hbig] at hE
        have g1 : ¬ (65536 : Int) < (Y.length : Int) + (T.length : Int) := by omega
        go_wp2_with (first
          | (go_at_call 52; ((with_reducible refine (bld_read PR.out.one PR.out.lo).mono ?_); rintro e v1 ⟨rfl, hb2, hr2⟩; have B2 := Lib.hid (PR.out.read hr2); have BE2 := Lib.hid (BE.out.trans hb2); have lo2 := Lib.hid (Nat.le_trans PR.out.lo hr2.1); clear hb2 hr2))
          | (go_at_call 52; ((with_reducible refine (bld_text B2.out lo2.out).mono ?_); rintro e v2 ⟨rfl, hb3⟩; have BE3 := Lib.hid (BE2.out.trans hb3); clear hb3))
          | (go_at_call 58; ((with_reducible refine (BH2.out _).mono ?_); rintro e v3 ⟨rfl, hb4⟩; have BE4 := Lib.hid (BE3.out.trans (hb4.mono BE3.out.size)); clear hb4)))
        go_returns
        exact ⟨by rw [hE.out, ← cat_ba]; rfl, hb1.out.trans (BE4.out.mono hb1.out.size)⟩
theorem build_any {a : Option Addr} {n c b o : Nat} {l : List Rw} {w : World} (d : Int) (h : Rs a n c b o l w) :
    Calls Try.prog 24 #[.slice a n c, .int .i64 d] w fun e w' => e = .returned (.tuple #[.string ⟨(buildB l d).1.toArray⟩, .int .i64 ((buildB l d).2 : Nat)]) ∧ Below w.heap.size w w' := by
  by_cases hc : chkA l d = 0
  · obtain ⟨k1, _⟩ := chkA_ok hc
    obtain ⟨D, rfl⟩ : ∃ D : Nat, d = (D : Int) := ⟨d.toNat, by omega⟩
    exact build_good D h hc
  · have := build_bad d h hc
    unfold buildB
    rw [if_pos hc]
    exact this
end Go.Proofs.Ytmjakkemiiigpaa
/-
  Plain mathematics of blocks: what is read is what was built, and nothing else. No model's run in this text. No condition.
-/
namespace Go.Proofs.Ytmjakkemiiigpaa
set_option maxRecDepth 100000
open Go.RowKit
theorem chkA_zero {l : List Rw} {d : Nat} (h1 : 1 ≤ d) (h2 : d ≤ 64) (ho : ordR l = true) (hv : ∀ x ∈ l, chkR x = 0) (hn : l.length ≤ 1024) : chkA l (d : Int) = 0 := by
  have hb : l.any badR = false := by
    cases h : l.any badR with
    | false => rfl
    | true =>
      obtain ⟨x, hx, hb⟩ := List.any_eq_true.1 h
      have := hv x hx
      rw [chkR_two.2 hb] at this
      cases this
  have hl : l.any longR = false := by
    cases h : l.any longR with
    | false => rfl
    | true =>
      obtain ⟨x, hx, hb⟩ := List.any_eq_true.1 h
      have := hv x hx
      unfold chkR at this
      rw [hb] at this
      split at this
      · cases this
      · cases this
  unfold chkA
  rw [if_neg (by rw [ho]; simp; omega), hb, hl]
  simp
  omega
theorem u4_le4 (n : Nat) (h : n < 4294967296) (t : List UInt8) : u4 (le4 n ++ t) = n := by
  show (UInt8.ofNat n).toNat + 256 * (UInt8.ofNat (n / 256)).toNat + 65536 * (UInt8.ofNat (n / 65536)).toNat + 16777216 * (UInt8.ofNat (n / 16777216)).toNat = n
  rw [UInt8.toNat_ofNat', UInt8.toNat_ofNat', UInt8.toNat_ofNat', UInt8.toNat_ofNat']
  omega
theorem ptB_isB {L : List UInt8} {l : List Rw} {d : Nat} (h : IsB L l d) : ptB L = some (bodB d l l.length, d) := by
  obtain ⟨hc, hL, hz⟩ := h
  obtain ⟨k1, k2, _, _, k4⟩ := chkA_ok hc
  have hm := rstB_mod d l l.length
  have hle := rstB_le d l l.length
  obtain ⟨R, hR⟩ : ∃ R, R = rstB d l l.length := ⟨_, rfl⟩
  obtain ⟨Y, hY⟩ : ∃ Y, Y = bodB d l l.length := ⟨_, rfl⟩
  have eL : L = Y ++ R ++ (le4 (R.length / 4) ++ le4 d) := by rw [hL, hY, hR]; unfold blkB tailB; simp
  rw [← hR] at hm hle
  have len : L.length = Y.length + R.length + 8 := by rw [eL]; simp only [List.length_append, le4_len]; try omega
  have d8 : L.drop (L.length - 8) = le4 (R.length / 4) ++ le4 d := by
    rw [eL, List.drop_append_of_le_length (by simp only [List.length_append, le4_len]; omega), List.drop_eq_nil_of_le (by simp only [List.length_append, le4_len]; omega), List.nil_append]
  have d4 : L.drop (L.length - 4) = le4 d := by
    have : L = (Y ++ R ++ le4 (R.length / 4)) ++ le4 d := by rw [eL]; simp
    rw [this, List.drop_append_of_le_length (by simp only [List.length_append, le4_len]; omega), List.drop_eq_nil_of_le (by simp only [List.length_append, le4_len]; omega), List.nil_append]
  have e1 : u4 (L.drop (L.length - 8)) = R.length / 4 := by rw [d8]; exact u4_le4 _ (by omega) _
  have e2 : u4 (L.drop (L.length - 4)) = d := by rw [d4, ← List.append_nil (le4 d)]; exact u4_le4 _ (by omega) _
  unfold ptB
  rw [if_neg (by omega), e1, e2, if_neg (by omega), ← hY]
  congr 2
  have : L.length - 8 - 4 * (R.length / 4) = Y.length := by omega
  rw [this, eL, List.append_assoc, List.take_left]
theorem ptB_some {L r : List UInt8} {d : Nat} (h : ptB L = some (r, d)) : 8 ≤ L.length ∧ L.length ≤ 65536 ∧ 1 ≤ d ∧ d ≤ 64 ∧ r.length ≤ L.length ∧ L = r ++ L.drop r.length := by
  unfold ptB at h
  split at h
  · cases h
  rename_i h1
  split at h
  · cases h
  rename_i h2
  simp only [Option.some.injEq, Prod.mk.injEq] at h
  obtain ⟨rfl, rfl⟩ := h
  refine ⟨by omega, by omega, by omega, by omega, by rw [List.length_take]; omega, ?_⟩
  rw [List.length_take, Nat.min_eq_left (by omega), List.take_append_drop]
theorem bodB_split (d : Nat) (l : List Rw) (n : Nat) : ∀ k, ∃ z, bodB d l (n + 1 + k) = bodB d l n ++ (encI d l n ++ z)
  | 0 => ⟨[], by rw [Nat.add_zero, bodB_snoc, List.append_nil]⟩
  | k + 1 => by
    obtain ⟨z, hz⟩ := bodB_split d l n k
    exact ⟨z ++ encI d l (n + 1 + k), by rw [← Nat.add_assoc, bodB_snoc, hz]; simp⟩
theorem prvB_take {d : Nat} {l l' : List Rw} {n : Nat} (h : l'.take n = l) : prvB d l' n = prvB d l n := by
  unfold prvB
  split
  · rfl
  · rename_i hm
    have hn : n ≠ 0 := fun e => hm (by rw [e]; exact Nat.zero_mod d)
    rw [← h, rwAt_take l' (by omega)]
theorem prvB_le {d : Nat} {l : List Rw} (hv : ∀ x ∈ l, chkR x = 0) {n : Nat} (hn : n ≤ l.length) : (prvB d l n).length ≤ 520 := by
  unfold prvB
  split
  · simp
  · rename_i hm
    have hn0 : n ≠ 0 := fun e => hm (by rw [e]; exact Nat.zero_mod d)
    have hlt : n - 1 < l.length := by omega
    rw [rwAt_some (List.getElem?_eq_getElem hlt), toL_len]
    exact (chkR_ok (hv _ (List.getElem_mem _))).2.2.2.2.2.1
/-- What stands at the loop's head when bytes are read. -/
def DeP (L rows : List UInt8) (d : Nat) (l : List Rw) (r : List UInt8) : Prop :=
  rows = bodB d l l.length ++ r ∧ (∀ x ∈ l, chkR x = 0) ∧ l.length ≤ 1024 ∧ ∀ l', IsB L l' d → l'.take l.length = l
theorem DeP.zero (L rows : List UInt8) (d : Nat) : DeP L rows d [] rows := ⟨by simp [bodB], (fun x hx => by cases hx), by simp, fun l' _ => rfl⟩
theorem DeP.next {L rows r t : List UInt8} {d : Nat} {l : List Rw} {x : Rw} (hp : ptB L = some (rows, d)) (h : DeP L rows d l r) (hc : cutX r (prvB d l l.length) = some (x, t)) (hn : l.length ≠ 1024) : DeP L rows d (l ++ [x]) t := by
  obtain ⟨h1, h2, h3, h4⟩ := h
  obtain ⟨hr, hx⟩ := cutX_only hc
  have tk : (l ++ [x]).take l.length = l := by simp
  have hlen : (l ++ [x]).length = l.length + 1 := by simp
  refine ⟨?_, ?_, by rw [hlen]; omega, fun l' hB => ?_⟩
  · rw [hlen, bodB_snoc, ← bodB_take d (l ++ [x]) (Nat.le_refl l.length), tk]
    unfold encI
    rw [prvB_take tk, rwAt_some (by simp : (l ++ [x])[l.length]? = some x), h1, hr, List.append_assoc]
  · intro y hy
    rw [List.mem_append, List.mem_singleton] at hy
    rcases hy with hy | rfl
    · exact h2 y hy
    · exact hx
  · have e := h4 l' hB
    have hrows := ptB_isB hB
    rw [hp] at hrows
    simp only [Option.some.injEq, Prod.mk.injEq, and_true] at hrows
    have hge : l.length ≤ l'.length := by rw [← e, List.length_take]; omega
    have hb : bodB d l' l.length = bodB d l l.length := by rw [← bodB_take d l' (Nat.le_refl l.length), e]
    by_cases hlt : l.length < l'.length
    · obtain ⟨z, hz⟩ := bodB_split d l' l.length (l'.length - l.length - 1)
      rw [show l.length + 1 + (l'.length - l.length - 1) = l'.length by omega, ← hrows, h1, hb] at hz
      have hz := List.append_cancel_left hz
      have hy : l'[l.length]? = some l'[l.length] := List.getElem?_eq_getElem hlt
      unfold encI at hz
      rw [prvB_take e, rwAt_some hy] at hz
      have hok : chkR l'[l.length] = 0 := (chkA_ok hB.1).2.2.2.1 _ (List.getElem_mem _)
      have := cutX_enc (prvB d l l.length) l'[l.length] hok z (prvB_le h2 (Nat.le_refl _))
      rw [← hz, hc] at this
      simp only [Option.some.injEq, Prod.mk.injEq] at this
      rw [hlen, List.take_add_one, e, hy, ← this.1]; rfl
    · have : l'.length = l.length := by omega
      rw [this, hb, h1] at hrows
      have : r = [] := by
        have h0 := congrArg List.length hrows
        rw [List.length_append] at h0
        exact List.length_eq_zero_iff.1 (by omega)
      rw [this] at hr
      have h0 := congrArg List.length hr
      have := encX_pos (prvB d l l.length) x
      rw [List.length_append] at h0
      simp only [List.length_nil] at h0
      omega
theorem DeP.fail {L rows r : List UInt8} {d : Nat} {l : List Rw} (hp : ptB L = some (rows, d)) (h : DeP L rows d l r) (hr : r ≠ []) (hc : cutX r (prvB d l l.length) = none ∨ l.length = 1024) (l' : List Rw) (d' : Nat) : ¬ IsB L l' d' := by
  intro hB
  have hrows := ptB_isB hB
  rw [hp] at hrows
  simp only [Option.some.injEq, Prod.mk.injEq] at hrows
  obtain ⟨hrows, rfl⟩ := hrows
  obtain ⟨h1, h2, h3, h4⟩ := h
  have e := h4 l' hB
  have hge : l.length ≤ l'.length := by rw [← e, List.length_take]; omega
  have hb : bodB d l' l.length = bodB d l l.length := by rw [← bodB_take d l' (Nat.le_refl l.length), e]
  have hlt : l.length < l'.length := by
    rcases Nat.lt_or_ge l.length l'.length with h | h
    · exact h
    · have : l'.length = l.length := by omega
      rw [this, hb, h1] at hrows
      have h0 := congrArg List.length hrows
      rw [List.length_append] at h0
      exact absurd (List.length_eq_zero_iff.1 (by omega)) hr
  rcases hc with hc | hc
  · obtain ⟨z, hz⟩ := bodB_split d l' l.length (l'.length - l.length - 1)
    rw [show l.length + 1 + (l'.length - l.length - 1) = l'.length by omega, ← hrows, h1, hb] at hz
    have hz := List.append_cancel_left hz
    have hy : l'[l.length]? = some l'[l.length] := List.getElem?_eq_getElem hlt
    unfold encI at hz
    rw [prvB_take e, rwAt_some hy] at hz
    have hok : chkR l'[l.length] = 0 := (chkA_ok hB.1).2.2.2.1 _ (List.getElem_mem _)
    have := cutX_enc (prvB d l l.length) l'[l.length] hok z (prvB_le h2 (Nat.le_refl _))
    rw [← hz, hc] at this
    cases this
  · have := (chkA_ok hB.1).2.2.2.2
    omega
theorem DeP.good {L rows : List UInt8} {d : Nat} {l : List Rw} (hp : ptB L = some (rows, d)) (h : DeP L rows d l []) (ho : ordR l = true) (ht : L.drop rows.length = tailB (rstB d l l.length) d) : IsB L l d := by
  obtain ⟨p1, p2, p3, p4, p5, p6⟩ := ptB_some hp
  obtain ⟨h1, h2, h3, h4⟩ := h
  refine ⟨chkA_zero p3 p4 ho h2 h3, ?_, p2⟩
  rw [p6, ht, h1, List.append_nil]
  rfl
theorem DeP.bad {L rows : List UInt8} {d : Nat} {l : List Rw} (hp : ptB L = some (rows, d)) (h : DeP L rows d l []) (hn : ordR l = false ∨ L.drop rows.length ≠ tailB (rstB d l l.length) d) (l' : List Rw) (d' : Nat) : ¬ IsB L l' d' := by
  intro hB
  have hrows := ptB_isB hB
  rw [hp] at hrows
  simp only [Option.some.injEq, Prod.mk.injEq] at hrows
  obtain ⟨hrows, rfl⟩ := hrows
  obtain ⟨h1, h2, h3, h4⟩ := h
  have e := h4 l' hB
  have hge : l.length ≤ l'.length := by rw [← e, List.length_take]; omega
  have hb : bodB d l' l.length = bodB d l l.length := by rw [← bodB_take d l' (Nat.le_refl l.length), e]
  have hel : l' = l := by
    have := bodB_mono d l' l.length (l'.length - l.length)
    rw [show l.length + (l'.length - l.length) = l'.length by omega, ← hrows, h1, hb] at this
    simp only [List.append_nil] at this
    rw [← e, List.take_of_length_le (by omega)]
  subst hel
  rcases hn with hn | hn
  · rw [(chkA_ok hB.1).2.2.1] at hn; cases hn
  · refine hn ?_
    have hL := hB.2.1
    unfold blkB at hL
    rw [hrows]
    conv => lhs; rw [hL]
    exact List.drop_left
theorem isB_one {L : List UInt8} {l l' : List Rw} {d d' : Nat} (h : IsB L l d) (h' : IsB L l' d') : l = l' ∧ d = d' := by
  have e := ptB_isB h
  rw [ptB_isB h'] at e
  simp only [Option.some.injEq, Prod.mk.injEq] at e
  obtain ⟨e, rfl⟩ := e
  refine ⟨?_, rfl⟩
  have v := (chkA_ok h.1).2.2.2.1
  have v' := (chkA_ok h'.1).2.2.2.1
  have m := (chkA_ok h.1).2.2.2.2
  have m' := (chkA_ok h'.1).2.2.2.2
  have K : ∀ n, n ≤ l.length → n ≤ l'.length → l.take n = l'.take n := by
    intro n
    induction n with
    | zero => intro _ _; rfl
    | succ n ih =>
      intro a b
      have ih := ih (by omega) (by omega)
      have hb : bodB d' l n = bodB d' l' n := by rw [← bodB_take d' l (Nat.le_refl n), ih, bodB_take d' l' (Nat.le_refl n)]
      obtain ⟨z, hz⟩ := bodB_split d' l n (l.length - n - 1)
      obtain ⟨z', hz'⟩ := bodB_split d' l' n (l'.length - n - 1)
      rw [show n + 1 + (l.length - n - 1) = l.length by omega] at hz
      rw [show n + 1 + (l'.length - n - 1) = l'.length by omega, e, hz, hb] at hz'
      have hz' := List.append_cancel_left hz'
      have hy : l[n]? = some l[n] := List.getElem?_eq_getElem (by omega)
      have hy' : l'[n]? = some l'[n] := List.getElem?_eq_getElem (by omega)
      have hpv : prvB d' l n = prvB d' l' n := by
        have a1 := prvB_take (d := d') (l := l.take n) (l' := l) (n := n) rfl
        have a2 := prvB_take (d := d') (l := l'.take n) (l' := l') (n := n) rfl
        rw [a1, a2, ih]
      unfold encI at hz'
      rw [rwAt_some hy, rwAt_some hy', hpv] at hz'
      have c1 := cutX_enc (prvB d' l' n) l[n] (v _ (List.getElem_mem _)) z (prvB_le v' (by omega))
      have c2 := cutX_enc (prvB d' l' n) l'[n] (v' _ (List.getElem_mem _)) z' (prvB_le v' (by omega))
      rw [hz', c2] at c1
      simp only [Option.some.injEq, Prod.mk.injEq] at c1
      rw [List.take_add_one, List.take_add_one, ih, hy, hy', c1.1]
  have hlen : l.length = l'.length := by
    rcases Nat.lt_trichotomy l.length l'.length with hlt | heq | hgt
    · have t := K l.length (Nat.le_refl _) (by omega)
      rw [List.take_length] at t
      have := bodB_mono d' l' l.length (l'.length - l.length)
      rw [show l.length + (l'.length - l.length) = l'.length by omega, ← bodB_take d' l' (Nat.le_refl l.length), ← t] at this
      rw [e] at this
      omega
    · exact heq
    · have t := K l'.length (by omega) (Nat.le_refl _)
      rw [List.take_length] at t
      have := bodB_mono d' l l'.length (l.length - l'.length)
      rw [show l'.length + (l.length - l'.length) = l.length by omega, ← bodB_take d' l (Nat.le_refl l'.length), t] at this
      rw [e] at this
      omega
  have := K l.length (Nat.le_refl _) (by omega)
  rw [List.take_length, hlen, List.take_length] at this
  exact this
end Go.Proofs.Ytmjakkemiiigpaa
/-
  Plain mathematics of Seek: where the place is. No model's run in this text. No condition.
-/
namespace Go.Proofs.Ytmjakkemiiigpaa
set_option maxRecDepth 100000
open Go.RowKit
theorem sorted_of {l : List Rw} (h : ordR l = true) : SortedR l := by
  unfold SortedR
  rw [List.pairwise_iff_getElem]
  have K : ∀ k i, (hi : i < l.length) → (hk : i + 1 + k < l.length) → ahd l[i] l[i + 1 + k].key l[i + 1 + k].seq = true := by
    intro k
    induction k with
    | zero => intro i hi hk; exact (ordR_iff l).1 h i _ _ (List.getElem?_eq_getElem hi) (List.getElem?_eq_getElem hk)
    | succ k ih =>
      intro i hi hk
      have h1 := ih i hi (by omega)
      have h2 := (ordR_iff l).1 h (i + 1 + k) _ _ (List.getElem?_eq_getElem (by omega)) (List.getElem?_eq_getElem (show i + 1 + k + 1 < l.length by omega))
      exact ahd_trans h1 h2
  intro i j hi hj hij
  obtain ⟨k, rfl⟩ : ∃ k, j = i + 1 + k := ⟨j - i - 1, by omega⟩
  exact K k i hi hj
theorem place_iff {l : List Rw} (h : ordR l = true) {k : ByteArray} {q j : Nat} (hj : j < l.length) : ahd (rwAt l j) k q = true ↔ j < plc l k q := by
  have hx := List.getElem?_eq_getElem hj
  rw [rwAt_some hx]
  exact plc_iff (sorted_of h) hx
theorem place_anti {l : List Rw} (h : ordR l = true) {k : ByteArray} {q i j : Nat} (hij : i ≤ j) (hj : j < l.length) (hp : ahd (rwAt l j) k q = true) : ahd (rwAt l i) k q = true := by
  rw [place_iff h hj] at hp
  rw [place_iff h (by omega)]
  omega
theorem seek_at {l : List Rw} (h : ordR l = true) {k : ByteArray} {q d K m r F U : Nat} (hd : 1 ≤ d) (hK1 : l.length ≤ K * d) (hK2 : ∀ j, j < K → j * d < l.length) (hm : Cut K (fun j => ahd (rwAt l (j * d)) k q) m)
    (hF : F = (m - 1) * d) (hU : U = min (m * d) l.length) (hr : Cut (U - F) (fun j => ahd (rwAt l (F + j)) k q) r) : F + r = plc l k q := by
  obtain ⟨hm1, hm2⟩ := hm
  obtain ⟨hr1, hr2⟩ := hr
  have hp := plc_le l k q
  have hm3 : ∀ j, j < K → (j * d < plc l k q ↔ j < m) := fun j hj => by rw [← place_iff h (hK2 j hj)]; exact hm2 j hj
  have hUl0 : U ≤ l.length := by rw [hU]; exact Nat.min_le_right _ _
  have hr3 : ∀ j, j < U - F → (F + j < plc l k q ↔ j < r) := fun j hj => by rw [← place_iff h (by omega)]; exact hr2 j hj
  have hFU : F ≤ plc l k q := by
    rcases Nat.eq_zero_or_pos m with e | e
    · subst e; rw [hF]; simp
    · have := (hm3 (m - 1) (by omega)).2 (by omega)
      rw [hF]
      exact Nat.le_of_lt this
  have hPU : plc l k q ≤ U := by
    rw [hU]
    refine Nat.le_min.2 ⟨?_, hp⟩
    rcases Nat.lt_or_ge m K with e | e
    · exact Nat.le_of_not_lt fun hh => Nat.lt_irrefl m ((hm3 m e).1 hh)
    · have : m = K := Nat.le_antisymm hm1 e
      rw [this]
      exact Nat.le_trans hp hK1
  have hUl : U ≤ l.length := by rw [hU]; exact Nat.min_le_right _ _
  clear hF hU hm3 hm2 hK2 hK1 hr2
  rcases Nat.lt_trichotomy (F + r) (plc l k q) with e | e | e
  · exact absurd ((hr3 r (by omega)).1 e) (Nat.lt_irrefl r)
  · exact e
  · have := (hr3 (plc l k q - F) (by omega)).2 (by omega)
    omega
end Go.Proofs.Ytmjakkemiiigpaa
/-
  The contracts of cutNumber and cutField. Condition: texts of at most 2^20 bytes.
-/
namespace Go.Proofs.Ytmjakkemiiigpaa
set_option maxRecDepth 100000
open Go.RowKit
theorem uint_list (L : List UInt8) (h : L.length ≤ 1048576) (w : World) :
    Calls Try.prog 86 #[.string ⟨L.toArray⟩] w fun e w' => e = .returned (.tuple #[.int .u64 ((Code.rd 0 L).1 : Int), .int .i64 ((Code.rd 0 L).2.1 : Int), .int .i64 ((Code.rd 0 L).2.2 : Int)]) ∧ Below w.heap.size w w' :=
  uint_any ⟨L.toArray⟩ (by rw [ofList_size]; unfold maxLen; omega) w
theorem field_list' (L : List UInt8) (h : L.length ≤ 1048576) (x : Int) (hx : 0 ≤ x ∧ x ≤ 4096) (w : World) :
    Calls Try.prog 83 #[.string ⟨L.toArray⟩, .int .i64 x] w fun e w' => e = .returned (.tuple #[.string ⟨(Code.rdField L x).1.toArray⟩, .int .i64 ((Code.rdField L x).2.1 : Int), .int .i64 ((Code.rdField L x).2.2 : Int)]) ∧ Below w.heap.size w w' :=
  field_any ⟨L.toArray⟩ (by rw [ofList_size]; unfold reachBytes; omega) x (by omega) w
set_option maxRecDepth 100000 in
set_option maxHeartbeats 2000000 in
theorem cutnum_any (L : List UInt8) (h : L.length ≤ 1048576) (w : World) :
    Calls Try.prog 96 #[.string ⟨L.toArray⟩] w fun e w' => e = .returned (.tuple #[.int .u64 ((Code.rd 0 L).1 : Int), .string ⟨(L.drop (Code.rd 0 L).2.1).toArray⟩, .bool (decide ((Code.rd 0 L).2.2 = 0))]) ∧ Below w.heap.size w w' := by
  have U := Lib.hid (uint_list L h w)
  have S := slL_from L (Code.rd 0 L).2.1 (Code.rd_size L) _ rfl
  obtain ⟨⟨n, k, e⟩, hR⟩ := named (Code.rd 0 L)
  rw [← hR.out] at U S ⊢
  simp only at U S ⊢
  obtain ⟨T, hT⟩ := named (L.drop k)
  rw [← hT.out] at S ⊢
  obtain ⟨B, hB⟩ := named (decide (e = 0))
  rw [← hB.out]
  have g : (((e : Nat) : Int) == 0) = B := by rw [hB.out, Bool.eq_iff_iff]; simp
  go_enter Try.func96, Try.ntmps96
  go_wp2_with (go_at_call 86; ((with_reducible refine U.out.mono ?_); rintro e w1 ⟨rfl, hb1⟩))
  go_quiet (fail)
  go_wp2_with fail
  go_returns
  exact ⟨rfl, below_drewN hb1⟩
theorem rdField_size (L : List UInt8) (x : Int) : (Code.rdField L x).2.1 ≤ L.length := by
  rcases Code.rdField_err L x with h | ⟨_, _, h⟩
  · exact (Code.put_field L x h).2.1
  · rw [h]; omega
set_option maxRecDepth 100000 in
set_option maxHeartbeats 2000000 in
theorem cutfld_any (L : List UInt8) (h : L.length ≤ 1048576) (x : Int) (hx : 0 ≤ x ∧ x ≤ 4096) (w : World) :
    Calls Try.prog 97 #[.string ⟨L.toArray⟩, .int .i64 x] w fun e w' => e = .returned (.tuple #[.string ⟨(Code.rdField L x).1.toArray⟩, .string ⟨(L.drop (Code.rdField L x).2.1).toArray⟩, .bool (decide ((Code.rdField L x).2.2 = 0))]) ∧ Below w.heap.size w w' := by
  have U := Lib.hid (field_list' L h x hx w)
  have S := slL_from L (Code.rdField L x).2.1 (rdField_size L x) _ rfl
  obtain ⟨⟨n, k, e⟩, hR⟩ := named (Code.rdField L x)
  rw [← hR.out] at U S ⊢
  simp only at U S ⊢
  obtain ⟨T, hT⟩ := named (L.drop k)
  rw [← hT.out] at S ⊢
  obtain ⟨B, hB⟩ := named (decide (e = 0))
  rw [← hB.out]
  have g : (((e : Nat) : Int) == 0) = B := by rw [hB.out, Bool.eq_iff_iff]; simp
  go_enter Try.func97, Try.ntmps97
  go_wp2_with (go_at_call 83; ((with_reducible refine U.out.mono ?_); rintro e w1 ⟨rfl, hb1⟩))
  go_quiet (fail)
  go_wp2_with fail
  go_returns
  exact ⟨rfl, below_drewN hb1⟩
end Go.Proofs.Ytmjakkemiiigpaa
