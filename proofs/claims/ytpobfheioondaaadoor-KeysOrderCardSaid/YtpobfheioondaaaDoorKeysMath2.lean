/-
  Ranges of state's keys: plain mathematics. No model's run in this text. No condition.
-/
import Derived.Test.YtpobfheioondaaaDoorKeysMath
namespace Go.Proofs.YtpobfheioondaaaDoor.Keys
open Go.Proofs.YtpobfheioondaaaDoor.Code
theorem check_lt (k : SK) : check k < 10 := by
  unfold check
  split
  · omega
  · split <;> omega
/-- A state's key without the fields that are not selected. -/
def cut (k : SK) (n : Int) : SK := ⟨k.st, if 2 ≤ n then k.gr else 0, if 3 ≤ n then k.key else [], if 4 ≤ n then k.space else [], []⟩
theorem first_of_cut (k : SK) (n : Int) : first (cut k n) n = first k n := by
  unfold first cut
  congr 1
  · congr 1
    · congr 1
      split <;> simp_all
    · split <;> simp_all
  · split <;> simp_all
/-- The range of the first fields: from, to, and the error's number. -/
def rng (k : SK) (n : Int) : Bs × Bs × Nat :=
  if ¬ (1 ≤ n ∧ n ≤ 4) then ([], [], 2) else if check (cut k n) ≠ 0 then ([], [], check (cut k n)) else (first k n, up (first k n), 0)
theorem low_split : ∀ l : Bs, Low l → ∃ a c, l = a ++ [c] ∧ c.toNat < 255 ∧ up l = a ++ [c + 1]
  | [], h => absurd h (by simp [Low])
  | [c], h => ⟨[], c, rfl, h, rfl⟩
  | x :: y :: l, h => by
    obtain ⟨a, c, h1, h2, h3⟩ := low_split (y :: l) h
    exact ⟨x :: a, c, by rw [h1]; rfl, h2, by show x :: up (y :: l) = _; rw [h3]; rfl⟩
theorem fit_of {k : SK} {n : Int} (hn : 1 ≤ n ∧ n ≤ 4) (h : check (cut k n) = 0) : Fit k n := by
  have v := valid_check h
  exact ⟨hn, v.st, fun h2 => by have := v.gr; simpa [cut, h2] using this⟩
theorem rng_ok {k : SK} {n : Int} (h : (rng k n).2.2 = 0) : Fit k n ∧ (rng k n).1 = first k n ∧ (rng k n).2.1 = up (first k n) ∧ check (cut k n) = 0 := by
  unfold rng at h ⊢
  by_cases h1 : 1 ≤ n ∧ n ≤ 4
  · rw [if_neg (by simpa using h1)] at h ⊢
    by_cases h2 : check (cut k n) = 0
    · rw [if_neg (by simpa using h2)] at h ⊢
      exact ⟨fit_of h1 h2, rfl, rfl, h2⟩
    · rw [if_pos h2] at h
      exact absurd h h2
  · rw [if_pos h1] at h
    cases h
theorem esc_len' (l : Bs) : (txt l).length ≤ 2 * l.length + 2 := by
  unfold txt
  have := esc_len l
  rw [List.length_append]; show _ + 2 ≤ _; omega
theorem first_len {k : SK} (h1 : k.key.length ≤ 64) (h2 : k.space.length ≤ 64) (n : Int) : (first k n).length ≤ 262 := by
  unfold first
  have a := esc_len' k.key
  have b := esc_len' k.space
  simp only [List.length_append]
  split <;> split <;> split <;> simp <;> omega
theorem up_len : ∀ l : Bs, (up l).length = l.length
  | [] => rfl
  | [_] => rfl
  | x :: y :: l => by show (up (y :: l)).length + 1 = _; rw [up_len (y :: l)]; rfl
theorem rng_len {k : SK} {n : Int} : (rng k n).1.length ≤ 262 ∧ (rng k n).2.1.length ≤ 262 := by
  unfold rng
  split
  · simp
  · split
    · simp
    · rename_i _ h
      have v := valid_check (Decidable.of_not_not h)
      rw [up_len, ← first_of_cut]
      exact ⟨first_len v.key v.space n, first_len v.key v.space n⟩
/-- What is written of a state's key: its text, and the error's number. -/
def encode (k : SK) : Bs × Nat := if check k ≠ 0 then ([], check k) else (enc k, 0)
theorem encode_ok {k : SK} (h : check k = 0) : encode k = (enc k, 0) := by unfold encode; rw [if_neg (by simpa using h)]
theorem encode_no {k : SK} (h : check k ≠ 0) : encode k = ([], check k) := by unfold encode; rw [if_pos h]
theorem enc_len {k : SK} (v : Valid k) : (enc k).length ≤ 326 := by
  have a := first_len v.key v.space 4
  have b := v.sub
  unfold enc
  rw [List.length_append]; omega
end Go.Proofs.YtpobfheioondaaaDoor.Keys
