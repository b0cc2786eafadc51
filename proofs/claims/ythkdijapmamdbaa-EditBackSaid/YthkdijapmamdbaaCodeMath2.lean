/-
  What is put is read back; what is cut ends too early; what is read is put; the order: plain mathematics. No model's run in this text. No condition.
-/
import Derived.Test.YthkdijapmamdbaaCodeMath
namespace Go.Proofs.Ythkdijapmamdbaa.Code
theorem rdOrd_be (U : Nat) (hU : U < 2 ^ 64) (t : List UInt8) : rdOrd (be 8 U ++ t) = ((U : Int) - 9223372036854775808, 0) := by
  unfold rdOrd
  have h8 := be_length 8 U
  rw [if_neg (by rw [List.length_append]; omega), List.take_append_of_le_length (by omega), List.take_of_length_le (by omega), unbe_be, Nat.mod_eq_of_lt hU]
theorem untxt_txt : ∀ (t b : List UInt8), untxt (txt t ++ b) = (t, (txt t).length, 0)
  | [], b => by simp [txt, esc, untxt]
  | c :: t, b => by
    have ih := untxt_txt t b
    have h0 := liftT_zero (txt (c :: t) ++ b)
    by_cases hc : c = 0
    · subst hc
      have e : txt (0 :: t) ++ b = 0 :: 255 :: (txt t ++ b) := by simp [txt, esc]
      rw [e, ← liftT_zero, liftT_zero_byte, ih]
      simp [liftT, txt, esc]
    · have e : txt (c :: t) ++ b = c :: (txt t ++ b) := by simp [txt, esc, hc]
      rw [e, ← liftT_zero, liftT_byte _ _ _ hc, ih]
      simp [liftT, txt, esc, hc]
theorem rdField_fld (t b : List UInt8) (ht : t.length < 2 ^ 64) (x : Int) (hx : (t.length : Int) ≤ x) : rdField (uvar t.length ++ t ++ b) x = (t, (uvar t.length ++ t).length, 0) := by
  have h := rd_uvar t.length 0 (t ++ b) (by omega) (by omega) (by simpa using ht)
  unfold rdField
  rw [List.append_assoc, h]
  rw [if_neg (by simp), if_neg (by show ¬ x < (t.length : Int); omega), if_neg (by simp [List.length_append])]
  simp [List.length_append]
theorem untxt_cut : ∀ (t : List UInt8) (k : Nat), k < (txt t).length → untxt ((txt t).take k) = ([], 0, 6)
  | [], k, h => by
    have : k < 2 := by simpa [txt, esc] using h
    rcases (show k = 0 ∨ k = 1 by omega) with rfl | rfl <;> rfl
  | c :: t, k, h => by
    by_cases hc : c = 0
    · subst hc
      have e : txt (0 :: t) = 0 :: 255 :: txt t := by simp [txt, esc]
      rw [e] at h ⊢
      match k, h with
      | 0, _ => rfl
      | 1, _ => rfl
      | k + 2, h =>
        rw [List.take_succ_cons, List.take_succ_cons, ← liftT_zero, liftT_zero_byte, untxt_cut t k (by simpa using h)]
        rfl
    · have e : txt (c :: t) = c :: txt t := by simp [txt, esc, hc]
      rw [e] at h ⊢
      match k, h with
      | 0, _ => rfl
      | k + 1, h =>
        rw [List.take_succ_cons, ← liftT_zero, liftT_byte _ _ _ hc, untxt_cut t k (by simpa using h)]
        rfl
theorem rdField_cut (t : List UInt8) (ht : t.length < 2 ^ 64) (x : Int) (hx : (t.length : Int) ≤ x) (k : Nat) (hk : k < (uvar t.length ++ t).length) : rdField ((uvar t.length ++ t).take k) x = ([], 0, 6) := by
  unfold rdField
  by_cases h : k < (uvar t.length).length
  · rw [List.take_append_of_le_length (by omega), rd_cut t.length 0 k (by have := uvar_ten ht; omega) h]
    rw [if_pos (by simp)]
  · have e : (uvar t.length ++ t).take k = uvar t.length ++ t.take (k - (uvar t.length).length) := by rw [List.take_append, List.take_of_length_le (by omega)]
    have h1 := rd_uvar t.length 0 (t.take (k - (uvar t.length).length)) (by omega) (by omega) (by simpa using ht)
    rw [List.length_append] at hk
    rw [e, h1, if_neg (by simp), if_neg (by show ¬ x < (t.length : Int); omega), if_pos (by simp only [List.length_append, List.length_take]; omega)]
/-! ### What is read is put -/
theorem put_uint (l : List UInt8) (h : (rd 0 l).2.2 = 0) : uvar (rd 0 l).1 = l.take (rd 0 l).2.1 := (uvar_rd l 0 (by omega) h).2.2.1.symm
theorem txt_untxt : ∀ l : List UInt8, (untxt l).2.2 = 0 → 2 ≤ (untxt l).2.1 ∧ (untxt l).2.1 ≤ l.length ∧ txt (untxt l).1 = l.take (untxt l).2.1
  | [], h => by simp [untxt] at h
  | [_], h => by simp [untxt] at h
  | b :: c :: l, h => by
    rw [untxt] at h ⊢
    by_cases hb : b ≠ 0
    · rw [if_pos hb] at h ⊢
      by_cases h0 : (untxt (c :: l)).2.2 = 0
      · rw [if_pos h0]
        obtain ⟨g1, g2, g3⟩ := txt_untxt (c :: l) h0
        refine ⟨by show 2 ≤ (untxt (c :: l)).2.1 + 1; omega, by show (untxt (c :: l)).2.1 + 1 ≤ _; simp at g2 ⊢; omega, ?_⟩
        show txt (b :: (untxt (c :: l)).1) = (b :: c :: l).take ((untxt (c :: l)).2.1 + 1)
        rw [List.take_succ_cons, ← g3]
        simp [txt, esc, hb]
      · rw [if_neg h0] at h; exact absurd h h0
    · have hb0 : b = 0 := by simpa using hb
      subst hb0
      rw [if_neg hb] at h ⊢
      by_cases h1 : c = 1
      · subst h1
        rw [if_pos rfl]
        exact ⟨by simp, by simp, by simp [txt, esc]⟩
      · rw [if_neg h1] at h ⊢
        by_cases h2 : c = 255
        · subst h2
          rw [if_pos rfl] at h ⊢
          by_cases h0 : (untxt l).2.2 = 0
          · rw [if_pos h0]
            obtain ⟨g1, g2, g3⟩ := txt_untxt l h0
            refine ⟨by show 2 ≤ (untxt l).2.1 + 2; omega, by show (untxt l).2.1 + 2 ≤ _; simp; omega, ?_⟩
            show txt (0 :: (untxt l).1) = (0 :: 255 :: l).take ((untxt l).2.1 + 2)
            rw [List.take_succ_cons, List.take_succ_cons, ← g3]
            simp [txt, esc]
          · rw [if_neg h0] at h; exact absurd h h0
        · rw [if_neg h2] at h; simp at h
theorem put_field (l : List UInt8) (x : Int) (h : (rdField l x).2.2 = 0) : 1 ≤ (rdField l x).2.1 ∧ (rdField l x).2.1 ≤ l.length ∧ uvar (rdField l x).1.length ++ (rdField l x).1 = l.take (rdField l x).2.1 := by
  unfold rdField at h ⊢
  by_cases h1 : (rd 0 l).2.2 ≠ 0
  · rw [if_pos h1] at h; exact absurd h h1
  · rw [if_neg h1] at h ⊢
    have h0 : (rd 0 l).2.2 = 0 := by simpa using h1
    obtain ⟨g1, g2, g3, _, _⟩ := uvar_rd l 0 (by omega) h0
    by_cases h2 : x < (rd 0 l).1
    · rw [if_pos h2] at h; simp at h
    · rw [if_neg h2] at h ⊢
      by_cases h3 : l.length - (rd 0 l).2.1 < (rd 0 l).1
      · rw [if_pos h3] at h; simp at h
      · rw [if_neg h3]
        refine ⟨by show 1 ≤ (rd 0 l).2.1 + _; omega, by show (rd 0 l).2.1 + (rd 0 l).1 ≤ _; omega, ?_⟩
        show uvar ((l.drop (rd 0 l).2.1).take (rd 0 l).1).length ++ (l.drop (rd 0 l).2.1).take (rd 0 l).1 = l.take ((rd 0 l).2.1 + (rd 0 l).1)
        have e : ((l.drop (rd 0 l).2.1).take (rd 0 l).1).length = (rd 0 l).1 := by rw [List.length_take, List.length_drop]; omega
        rw [e, ← g3, List.take_add]
theorem rdField_err (l : List UInt8) (x : Int) : (rdField l x).2.2 = 0 ∨ ((rdField l x).2.2 = 3 ∨ (rdField l x).2.2 = 6 ∨ (rdField l x).2.2 = 7) ∧ (rdField l x).1 = [] ∧ (rdField l x).2.1 = 0 := by
  unfold rdField
  by_cases h1 : (rd 0 l).2.2 ≠ 0
  · rw [if_pos h1]
    rcases rd_err 0 l with h | ⟨h, _⟩
    · exact absurd h h1
    · exact Or.inr ⟨Or.inr h, rfl, rfl⟩
  · rw [if_neg h1]
    by_cases h2 : x < (rd 0 l).1
    · rw [if_pos h2]; exact Or.inr ⟨Or.inl rfl, rfl, rfl⟩
    · rw [if_neg h2]
      by_cases h3 : l.length - (rd 0 l).2.1 < (rd 0 l).1
      · rw [if_pos h3]; exact Or.inr ⟨Or.inr (Or.inl rfl), rfl, rfl⟩
      · rw [if_neg h3]; exact Or.inl rfl
end Go.Proofs.Ythkdijapmamdbaa.Code
