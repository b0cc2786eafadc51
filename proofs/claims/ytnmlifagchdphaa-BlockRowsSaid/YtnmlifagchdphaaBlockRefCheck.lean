/-
  The document's Check. No condition.
-/
import Derived.Test.YtnmlifagchdphaaBlockCheck
namespace Go.Proofs.Ytnmlifagchdphaa
set_option maxRecDepth 100000
open Go.RowKit
theorem chkR_bad {x : Rw} (h : (x.kind ≠ 1 ∧ x.kind ≠ 2) ∨ x.key.size = 0 ∨ x.seq < 1 ∨ 72057594037927936 ≤ x.seq ∨ (x.kind = 2 ∧ x.val.size ≠ 0)) : chkR x = 2 := by unfold chkR badR; rw [if_pos (decide_eq_true h)]
theorem chkR_long {x : Rw} (h : ¬ ((x.kind ≠ 1 ∧ x.kind ≠ 2) ∨ x.key.size = 0 ∨ x.seq < 1 ∨ 72057594037927936 ≤ x.seq ∨ (x.kind = 2 ∧ x.val.size ≠ 0))) (hl : 520 < x.key.size ∨ 2048 < x.val.size) : chkR x = 3 := by unfold chkR badR longR; rw [if_neg (by rw [decide_eq_true_eq]; exact h), if_pos (decide_eq_true hl)]
theorem chkR_fine {x : Rw} (h : ¬ ((x.kind ≠ 1 ∧ x.kind ≠ 2) ∨ x.key.size = 0 ∨ x.seq < 1 ∨ 72057594037927936 ≤ x.seq ∨ (x.kind = 2 ∧ x.val.size ≠ 0))) (hl : ¬ (520 < x.key.size ∨ 2048 < x.val.size)) : chkR x = 0 := by unfold chkR badR longR; rw [if_neg (by rw [decide_eq_true_eq]; exact h), if_neg (by rw [decide_eq_true_eq]; exact hl)]
set_option maxRecDepth 100000 in
set_option maxHeartbeats 4000000 in
theorem refchk_any (x : Rw) (w : World) : Calls Try.prog 35 #[rowV x] w fun e w' => e = .returned (.int .i64 (chkR x : Nat)) ∧ Below w.heap.size w w' := by
  have R0 := (RowAt.new x w).cells
  obtain ⟨xk, xs, xi, xv⟩ := x
  simp only at R0
  obtain ⟨⟨c0, c1, c2, c3⟩, _⟩ := R0
  by_cases h1 : xi = 1 ∨ xi = 2
  case neg =>
    have nk1 : (xi != 1) = true := by rw [bne_iff_ne]; omega
    have nk2 : (xi != 2) = true := by rw [bne_iff_ne]; omega
    have hv := Lib.hid (show chkR ⟨xk, xs, xi, xv⟩ = 2 from chkR_bad (.inl ⟨fun e => h1 (.inl e), fun e => h1 (.inr e)⟩))
    rw [hv.out]
    clear h1
    go_enter Try.func35, Try.ntmps35
    go_wp2_with fail
    go_returns
    exact ⟨rfl, below_alloc _ _⟩
  by_cases h2 : xk.size = 0
  case pos =>
    have be : (((xk.size : Nat) : Int) == 0) = true := by rw [beq_iff_eq]; omega
    rcases h1 with rfl | rfl
    · have hv := Lib.hid (show chkR ⟨xk, xs, 1, xv⟩ = 2 from chkR_bad (.inr (.inl h2)))
      rw [hv.out]
      clear h2
      go_enter Try.func35, Try.ntmps35
      go_wp2_with fail
      go_returns
      exact ⟨rfl, below_alloc _ _⟩
    · have hv := Lib.hid (show chkR ⟨xk, xs, 2, xv⟩ = 2 from chkR_bad (.inr (.inl h2)))
      rw [hv.out]
      clear h2
      go_enter Try.func35, Try.ntmps35
      go_wp2_with fail
      go_returns
      exact ⟨rfl, below_alloc _ _⟩
  have be : (((xk.size : Nat) : Int) == 0) = false := by rw [beq_eq_false_iff_ne]; omega
  replace h2 := Lib.hid h2
  rcases h1 with rfl | rfl
  · by_cases h4 : xs = 0
    case pos =>
      have bs : (((xs : Nat) : Int) == 0) = true := by rw [beq_iff_eq]; omega
      have hv := Lib.hid (show chkR ⟨xk, xs, 1, xv⟩ = 2 from chkR_bad (.inr (.inr (.inl (by show xs < 1; omega)))))
      rw [hv.out]
      clear h4
      go_enter Try.func35, Try.ntmps35
      go_wp2_with fail
      go_returns
      exact ⟨rfl, below_alloc _ _⟩
    have bs : (((xs : Nat) : Int) == 0) = false := by rw [beq_eq_false_iff_ne]; omega
    replace h4 := Lib.hid h4
    by_cases h5 : 72057594037927935 < xs
    case pos =>
      have ds : (decide ((72057594037927935 : Int) < ((xs : Nat) : Int))) = true := by rw [decide_eq_true_eq]; omega
      have dsn : (decide (72057594037927935 < xs)) = true := by rw [decide_eq_true_eq]; omega
      have hv := Lib.hid (show chkR ⟨xk, xs, 1, xv⟩ = 2 from chkR_bad (.inr (.inr (.inr (.inl (by show 72057594037927936 ≤ xs; omega))))))
      rw [hv.out]
      go_enter Try.func35, Try.ntmps35
      go_wp2_with fail
      go_returns
      exact ⟨rfl, below_alloc _ _⟩
    have ds : (decide ((72057594037927935 : Int) < ((xs : Nat) : Int))) = false := by rw [decide_eq_false_iff_not]; omega
    have dsn : (decide (72057594037927935 < xs)) = false := by rw [decide_eq_false_iff_not]; omega
    replace h5 := Lib.hid h5
    have hN := Lib.hid (show ¬ (((⟨xk, xs, 1, xv⟩ : Rw).kind ≠ 1 ∧ (⟨xk, xs, 1, xv⟩ : Rw).kind ≠ 2) ∨ (⟨xk, xs, 1, xv⟩ : Rw).key.size = 0 ∨ (⟨xk, xs, 1, xv⟩ : Rw).seq < 1 ∨ 72057594037927936 ≤ (⟨xk, xs, 1, xv⟩ : Rw).seq ∨ ((⟨xk, xs, 1, xv⟩ : Rw).kind = 2 ∧ (⟨xk, xs, 1, xv⟩ : Rw).val.size ≠ 0)) from by rintro (⟨a, b⟩ | hh | hh | hh | ⟨a, b⟩); exact absurd rfl a; exact h2.out hh; (have := h4.out; have hh : xs < 1 := hh; omega); (have := h5.out; have hh : 72057594037927936 ≤ xs := hh; omega); exact absurd a (by show ¬ (1 : Int) = 2; decide))
    by_cases h6 : 520 < xk.size
    case pos =>
      have dl : (decide ((520 : Int) < ((xk.size : Nat) : Int))) = true := by rw [decide_eq_true_eq]; omega
      have hv := Lib.hid (show chkR ⟨xk, xs, 1, xv⟩ = 3 from chkR_long hN.out (.inl h6))
      rw [hv.out]
      go_enter Try.func35, Try.ntmps35
      go_wp2_with fail
      go_returns
      exact ⟨rfl, below_alloc _ _⟩
    have dl : (decide ((520 : Int) < ((xk.size : Nat) : Int))) = false := by rw [decide_eq_false_iff_not]; omega
    have dln : (decide (520 < xk.size)) = false := by rw [decide_eq_false_iff_not]; omega
    replace h6 := Lib.hid h6
    by_cases h7 : 2048 < xv.size
    case pos =>
      have dm : (decide ((2048 : Int) < ((xv.size : Nat) : Int))) = true := by rw [decide_eq_true_eq]; omega
      have hv := Lib.hid (show chkR ⟨xk, xs, 1, xv⟩ = 3 from chkR_long hN.out (.inr h7))
      rw [hv.out]
      go_enter Try.func35, Try.ntmps35
      go_wp2_with fail
      go_returns
      exact ⟨rfl, below_alloc _ _⟩
    have dm : (decide ((2048 : Int) < ((xv.size : Nat) : Int))) = false := by rw [decide_eq_false_iff_not]; omega
    have dmn : (decide (2048 < xv.size)) = false := by rw [decide_eq_false_iff_not]; omega
    replace h7 := Lib.hid h7
    have hv := Lib.hid (show chkR ⟨xk, xs, 1, xv⟩ = 0 from chkR_fine hN.out (fun hh => by rcases hh with hh | hh; exact h6.out hh; exact h7.out hh))
    rw [hv.out]
    go_enter Try.func35, Try.ntmps35
    go_wp2_with fail
    go_returns
    exact ⟨rfl, below_alloc _ _⟩
  · by_cases h3 : xv.size = 0
    case neg =>
      have dz : (decide ((0 : Int) < ((xv.size : Nat) : Int))) = true := by rw [decide_eq_true_eq]; omega
      have dzn : (decide (0 < xv.size)) = true := by rw [decide_eq_true_eq]; omega
      have pz : 0 < xv.size := by omega
      have hv := Lib.hid (show chkR ⟨xk, xs, 2, xv⟩ = 2 from chkR_bad (.inr (.inr (.inr (.inr ⟨rfl, h3⟩)))))
      rw [hv.out]
      clear h3
      go_enter Try.func35, Try.ntmps35
      go_wp2_with fail
      go_returns
      exact ⟨rfl, below_alloc _ _⟩
    have dz : (decide ((0 : Int) < ((xv.size : Nat) : Int))) = false := by rw [decide_eq_false_iff_not]; omega
    have dzn : (decide (0 < xv.size)) = false := by rw [decide_eq_false_iff_not]; omega
    replace h3 := Lib.hid h3
    by_cases h4 : xs = 0
    case pos =>
      have bs : (((xs : Nat) : Int) == 0) = true := by rw [beq_iff_eq]; omega
      have hv := Lib.hid (show chkR ⟨xk, xs, 2, xv⟩ = 2 from chkR_bad (.inr (.inr (.inl (by show xs < 1; omega)))))
      rw [hv.out]
      clear h4
      go_enter Try.func35, Try.ntmps35
      go_wp2_with fail
      go_returns
      exact ⟨rfl, below_alloc _ _⟩
    have bs : (((xs : Nat) : Int) == 0) = false := by rw [beq_eq_false_iff_ne]; omega
    replace h4 := Lib.hid h4
    by_cases h5 : 72057594037927935 < xs
    case pos =>
      have ds : (decide ((72057594037927935 : Int) < ((xs : Nat) : Int))) = true := by rw [decide_eq_true_eq]; omega
      have dsn : (decide (72057594037927935 < xs)) = true := by rw [decide_eq_true_eq]; omega
      have hv := Lib.hid (show chkR ⟨xk, xs, 2, xv⟩ = 2 from chkR_bad (.inr (.inr (.inr (.inl (by show 72057594037927936 ≤ xs; omega))))))
      rw [hv.out]
      go_enter Try.func35, Try.ntmps35
      go_wp2_with fail
      go_returns
      exact ⟨rfl, below_alloc _ _⟩
    have ds : (decide ((72057594037927935 : Int) < ((xs : Nat) : Int))) = false := by rw [decide_eq_false_iff_not]; omega
    have dsn : (decide (72057594037927935 < xs)) = false := by rw [decide_eq_false_iff_not]; omega
    replace h5 := Lib.hid h5
    have hN := Lib.hid (show ¬ (((⟨xk, xs, 2, xv⟩ : Rw).kind ≠ 1 ∧ (⟨xk, xs, 2, xv⟩ : Rw).kind ≠ 2) ∨ (⟨xk, xs, 2, xv⟩ : Rw).key.size = 0 ∨ (⟨xk, xs, 2, xv⟩ : Rw).seq < 1 ∨ 72057594037927936 ≤ (⟨xk, xs, 2, xv⟩ : Rw).seq ∨ ((⟨xk, xs, 2, xv⟩ : Rw).kind = 2 ∧ (⟨xk, xs, 2, xv⟩ : Rw).val.size ≠ 0)) from by rintro (⟨a, b⟩ | hh | hh | hh | ⟨a, b⟩); exact absurd rfl b; exact h2.out hh; (have := h4.out; have hh : xs < 1 := hh; omega); (have := h5.out; have hh : 72057594037927936 ≤ xs := hh; omega); exact b h3.out)
    by_cases h6 : 520 < xk.size
    case pos =>
      have dl : (decide ((520 : Int) < ((xk.size : Nat) : Int))) = true := by rw [decide_eq_true_eq]; omega
      have hv := Lib.hid (show chkR ⟨xk, xs, 2, xv⟩ = 3 from chkR_long hN.out (.inl h6))
      rw [hv.out]
      go_enter Try.func35, Try.ntmps35
      go_wp2_with fail
      go_returns
      exact ⟨rfl, below_alloc _ _⟩
    have dl : (decide ((520 : Int) < ((xk.size : Nat) : Int))) = false := by rw [decide_eq_false_iff_not]; omega
    have dln : (decide (520 < xk.size)) = false := by rw [decide_eq_false_iff_not]; omega
    replace h6 := Lib.hid h6
    by_cases h7 : 2048 < xv.size
    case pos =>
      have dm : (decide ((2048 : Int) < ((xv.size : Nat) : Int))) = true := by rw [decide_eq_true_eq]; omega
      have hv := Lib.hid (show chkR ⟨xk, xs, 2, xv⟩ = 3 from chkR_long hN.out (.inr h7))
      rw [hv.out]
      go_enter Try.func35, Try.ntmps35
      go_wp2_with fail
      go_returns
      exact ⟨rfl, below_alloc _ _⟩
    have dm : (decide ((2048 : Int) < ((xv.size : Nat) : Int))) = false := by rw [decide_eq_false_iff_not]; omega
    have dmn : (decide (2048 < xv.size)) = false := by rw [decide_eq_false_iff_not]; omega
    replace h7 := Lib.hid h7
    have hv := Lib.hid (show chkR ⟨xk, xs, 2, xv⟩ = 0 from chkR_fine hN.out (fun hh => by rcases hh with hh | hh; exact h6.out hh; exact h7.out hh))
    rw [hv.out]
    go_enter Try.func35, Try.ntmps35
    go_wp2_with fail
    go_returns
    exact ⟨rfl, below_alloc _ _⟩
end Go.Proofs.Ytnmlifagchdphaa
