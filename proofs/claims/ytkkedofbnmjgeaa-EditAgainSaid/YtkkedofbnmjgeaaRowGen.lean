/-
  A slice that a call owns, of elements of k cells, whatever they are: as cells, and as a slice that is read. No condition.
-/
import Derived.Test.YtkkedofbnmjgeaaSliceArg
import Derived.Test.YtkkedofbnmjgeaaStays
namespace Go.Proofs.Ytkkedofbnmjgeaa
set_option maxRecDepth 100000
open Go Go.RowKit
section
variable {α : Type} {k : Nat} {cells : α → List Value}
theorem rowG_len (hcl : ∀ x, (cells x).length = k) (l : List α) : (l.flatMap cells).length = l.length * k := by
  induction l with
  | nil => simp
  | cons x r ih => rw [List.flatMap_cons, List.length_append, ih, hcl, List.length_cons, Nat.add_mul, Nat.one_mul, Nat.add_comm]
theorem rowG_at (hcl : ∀ x, (cells x).length = k) : ∀ (l : List α) (j m : Nat) {x : α}, l[j]? = some x → m < k → (l.flatMap cells)[j * k + m]? = (cells x)[m]?
  | [], _, _, _, h, _ => by cases h
  | y :: r, 0, m, x, h, hm => by
    obtain rfl : y = x := by simpa using h
    rw [List.flatMap_cons, Nat.zero_mul, Nat.zero_add, List.getElem?_append_left (by rw [hcl]; exact hm)]
  | y :: r, j + 1, m, x, h, hm => by
    have h1 := rowG_at hcl r j m (x := x) (by simpa using h) hm
    rw [List.flatMap_cons, List.getElem?_append_right (by rw [hcl, Nat.add_mul]; omega), hcl, ← h1]
    congr 1
    rw [Nat.add_mul]; omega
theorem rowG_snoc (l : List α) (x : α) : (l ++ [x]).flatMap cells = l.flatMap cells ++ cells x := by simp
/-- An own row is a slice. -/
theorem sl_of_rowG (hcl : ∀ x, (cells x).length = k) {w : World} {B : Nat} {e : TypeId} {v : Value} {l : List α} {n : Nat} (hn : l.length = n) (h : w.ownsRow B e k v n (l.flatMap cells)) : ∃ a c b, v = .slice a n c ∧ SlOf k cells a n c b 0 l w ∧ (0 < n → B ≤ b) ∧ (a = none → n = 0 ∧ c = 0) := by
  subst hn
  rcases h.2 with ⟨rfl, hz⟩ | ⟨g, cap, cur, rfl, hg, hb, hn, hm, hs, ht⟩
  · have : l = [] := List.length_eq_zero_iff.1 hz
    subst this
    exact ⟨none, 0, 0, rfl, ⟨rfl, Nat.le_refl _, by omega, fun h => absurd h (by simp), fun j x h => by simp at h⟩, fun h => absurd h (by simp), fun _ => ⟨rfl, rfl⟩⟩
  · refine ⟨_, _, g, rfl, ⟨rfl, hn, hm, fun _ => ⟨rfl, (Array.getElem?_eq_some_iff.1 hb).1⟩, fun j x hx m u hu => ?_⟩, fun _ => hg, fun h => by cases h⟩
    have hj : j < l.length := (List.getElem?_eq_some_iff.1 hx).1
    have hmk : m < k := by have := (List.getElem?_eq_some_iff.1 hu).1; rw [hcl] at this; exact this
    rw [Nat.zero_add]
    have hlt : j * k + m < l.length * k := by
      have := Nat.mul_le_mul_right k (show j + 1 ≤ l.length by omega)
      rw [Nat.add_mul, Nat.one_mul] at this; omega
    exact (World.ownsRow.cellAt h _ hlt).trans ((rowG_at hcl l j m hx hmk).trans hu)
end
end Go.Proofs.Ytkkedofbnmjgeaa
