/-
  Where a sequence of frames is cut: plain mathematics. No model's run in this text. No condition.
-/
import Derived.Test.YtdhomindchjoiaaFrameMath
namespace Go.Proofs.Ytdhomindchjoiaa.Frame
open Go.Proofs.Ytdhomindchjoiaa.Code
theorem puts_take_mono (l : List Bs) {i j : Nat} (h : i ≤ j) : (puts (l.take i)).length ≤ (puts (l.take j)).length := by
  obtain ⟨d, rfl⟩ : ∃ d, j = i + d := ⟨j - i, by omega⟩
  rw [List.take_add]
  unfold puts
  rw [List.flatMap_append, List.length_append]; omega
theorem puts_snoc (l : List Bs) (p : Bs) : puts (l ++ [p]) = puts l ++ put p := by simp [puts]
/-- The place where the cut falls, told by counting frames. -/
theorem cut_at (l : List Bs) (k : Nat) (hp : ∀ p ∈ l, p.length ≤ 65536) (hk : k ≤ (puts l).length) (j : Nat) (hj : j ≤ l.length) (h1 : (puts (l.take j)).length ≤ k) (h2 : j < l.length → k < (puts (l.take (j + 1))).length) :
    alls ((puts l).take k) = (l.take j, (puts (l.take j)).length, if (puts (l.take j)).length = k then 0 else 6) := by
  obtain ⟨n, n1, n2, n3, n4⟩ := alls_cut l k hp hk
  rcases Nat.lt_trichotomy n j with h | h | h
  · have a := n3 (by omega)
    have b := puts_take_mono l (show n + 1 ≤ j by omega)
    omega
  · subst h; exact n4
  · have a := h2 (by omega)
    have b := puts_take_mono l (show j + 1 ≤ n by omega)
    omega
end Go.Proofs.Ytdhomindchjoiaa.Frame
