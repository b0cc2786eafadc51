/-
  Plain mathematics of the short numbers, the ordered numbers, the ordered texts and the fields: what is written, what is read, and how the one comes to the other. No model's run in this text. No condition.
-/
import Derived.Lib.ReplaceLaws
import Derived.Lib.Index
import Derived.Lib.IndexBytes
namespace Go.Proofs.Ytkkedofbnmjgeaa.Code
/-- The short number of n. -/
def uvar (n : Nat) : List UInt8 := if n < 128 then [UInt8.ofNat n] else UInt8.ofNat (n % 128 + 128) :: uvar (n / 128)
termination_by n
decreasing_by omega
theorem uvar_small {n : Nat} (h : n < 128) : uvar n = [UInt8.ofNat n] := by rw [uvar, if_pos h]
theorem uvar_great {n : Nat} (h : ¬ n < 128) : uvar n = UInt8.ofNat (n % 128 + 128) :: uvar (n / 128) := by rw [uvar, if_neg h]
/-- What is read at place i of a short number: the number, its bytes, the error. -/
def rd : Nat → List UInt8 → Nat × Nat × Nat
  | _, [] => (0, 0, 6)
  | i, b :: l =>
    if (b.toNat = 0 ∧ 0 < i) ∨ (1 < b.toNat ∧ i = 9) then (0, 0, 7)
    else if b.toNat < 128 then (b.toNat, 1, 0)
    else if (rd (i + 1) l).2.2 = 0 then (b.toNat % 128 + 128 * (rd (i + 1) l).1, (rd (i + 1) l).2.1 + 1, 0) else (0, 0, (rd (i + 1) l).2.2)
theorem rd_nil (i : Nat) : rd i [] = (0, 0, 6) := by simp [rd]
theorem rd_form {i : Nat} {b : UInt8} (l : List UInt8) (h : (b.toNat = 0 ∧ 0 < i) ∨ (1 < b.toNat ∧ i = 9)) : rd i (b :: l) = (0, 0, 7) := by rw [rd, if_pos h]
theorem rd_last {i : Nat} {b : UInt8} (l : List UInt8) (h : ¬ ((b.toNat = 0 ∧ 0 < i) ∨ (1 < b.toNat ∧ i = 9))) (hb : b.toNat < 128) : rd i (b :: l) = (b.toNat, 1, 0) := by rw [rd, if_neg h, if_pos hb]
theorem rd_more {i : Nat} {b : UInt8} (l : List UInt8) (h : i ≠ 9) (hb : ¬ b.toNat < 128) :
    rd i (b :: l) = if (rd (i + 1) l).2.2 = 0 then (b.toNat % 128 + 128 * (rd (i + 1) l).1, (rd (i + 1) l).2.1 + 1, 0) else (0, 0, (rd (i + 1) l).2.2) := by
  rw [rd, if_neg (by omega), if_neg hb]
theorem rd_err (i : Nat) (l : List UInt8) : (rd i l).2.2 = 0 ∨ ((rd i l).2.2 = 6 ∨ (rd i l).2.2 = 7) ∧ (rd i l).1 = 0 ∧ (rd i l).2.1 = 0 := by
  induction l generalizing i with
  | nil => rw [rd_nil]; simp
  | cons b l ih =>
    rw [rd]
    split
    · simp
    · split
      · simp
      · split
        · simp
        · rename_i h; rcases ih (i + 1) with h0 | ⟨h1, _, _⟩
          · exact absurd h0 h
          · exact Or.inr ⟨h1, rfl, rfl⟩
/-- Of what place i on is read, with i bytes read ahead that told acc: the whole. -/
def lift (i acc : Nat) (r : Nat × Nat × Nat) : Nat × Nat × Nat := if r.2.2 = 0 then (acc + 128 ^ i * r.1, r.2.1 + i, 0) else (0, 0, r.2.2)
theorem lift_zero (l : List UInt8) : lift 0 0 (rd 0 l) = rd 0 l := by
  unfold lift
  rcases rd_err 0 l with h | ⟨h, h1, h2⟩
  · rw [if_pos h]; simp [Prod.ext_iff, h]
  · rw [if_neg (by omega)]; simp [Prod.ext_iff, h1, h2]
theorem lift_more (i acc : Nat) {b : UInt8} (l : List UInt8) (h : i ≠ 9) (hb : ¬ b.toNat < 128) : lift i acc (rd i (b :: l)) = lift (i + 1) (acc + 128 ^ i * (b.toNat % 128)) (rd (i + 1) l) := by
  rw [rd_more l h hb]
  unfold lift
  by_cases h0 : (rd (i + 1) l).2.2 = 0
  · rw [if_pos h0, if_pos h0, if_pos rfl]
    rw [Nat.mul_add, Nat.pow_succ, Nat.mul_assoc]
    simp [Nat.add_assoc, Nat.add_comm 1 i]
  · rw [if_neg h0, if_neg h0, if_neg h0]
theorem lift_last (i acc : Nat) {b : UInt8} (l : List UInt8) (h : ¬ ((b.toNat = 0 ∧ 0 < i) ∨ (1 < b.toNat ∧ i = 9))) (hb : b.toNat < 128) : lift i acc (rd i (b :: l)) = (acc + 128 ^ i * b.toNat, i + 1, 0) := by
  rw [rd_last l h hb]; unfold lift; simp [Nat.add_comm]
theorem lift_form (i acc : Nat) {b : UInt8} (l : List UInt8) (h : (b.toNat = 0 ∧ 0 < i) ∨ (1 < b.toNat ∧ i = 9)) : lift i acc (rd i (b :: l)) = (0, 0, 7) := by
  rw [rd_form l h]; rfl
theorem lift_nil (i acc : Nat) : lift i acc (rd i []) = (0, 0, 6) := by rw [rd_nil]; rfl
theorem pow_le {i j : Nat} (h : i ≤ j) : 128 ^ i ≤ 128 ^ j := Nat.pow_le_pow_right (by omega) h
theorem rd_uvar (n : Nat) : ∀ (i : Nat) (t : List UInt8), i ≤ 9 → (0 < i → n ≠ 0) → n * 128 ^ i < 2 ^ 64 → rd i (uvar n ++ t) = (n, (uvar n).length, 0) := by
  induction n using Nat.strongRecOn with
  | ind n ih =>
    intro i t hi h0 hn
    have h9 : i = 9 → n < 2 := fun e => by subst e; simp at hn; omega
    by_cases hs : n < 128
    · rw [uvar_small hs]
      have e : (UInt8.ofNat n).toNat = n := by rw [UInt8.toNat_ofNat']; omega
      rw [List.singleton_append, rd_last t (by rw [e]; rintro (⟨a, b⟩ | ⟨a, b⟩); exact h0 b a; exact absurd (h9 b) (by omega)) (by rw [e]; exact hs), e]
      rfl
    · have hlt : i < 9 := by
        rcases Nat.lt_or_ge i 9 with h | h
        · exact h
        · exact absurd (h9 (by omega)) (by omega)
      rw [uvar_great hs]
      have e : (UInt8.ofNat (n % 128 + 128)).toNat = n % 128 + 128 := by rw [UInt8.toNat_ofNat']; omega
      have hpow : n / 128 * 128 ^ (i + 1) ≤ n * 128 ^ i := by
        rw [Nat.pow_succ, Nat.mul_comm (128 ^ i), ← Nat.mul_assoc]
        exact Nat.mul_le_mul_right _ (Nat.div_mul_le_self n 128)
      rw [List.cons_append, rd_more _ (by omega) (by rw [e]; omega), ih (n / 128) (by omega) (i + 1) t (by omega) (by omega) (by omega)]
      simp only [if_pos, e, List.length_cons]
      rw [Prod.ext_iff]
      refine ⟨?_, rfl⟩
      show (n % 128 + 128) % 128 + 128 * (n / 128) = n
      omega
theorem uvar_rd (l : List UInt8) : ∀ i, i ≤ 9 → (rd i l).2.2 = 0 → 1 ≤ (rd i l).2.1 ∧ (rd i l).2.1 ≤ l.length ∧ l.take (rd i l).2.1 = uvar (rd i l).1 ∧ (rd i l).1 * 128 ^ i < 2 ^ 64 ∧ (0 < i → (rd i l).1 ≠ 0) := by
  induction l with
  | nil => intro i _ h; rw [rd_nil] at h; simp at h
  | cons b l ih =>
    intro i hi h
    by_cases hf : (b.toNat = 0 ∧ 0 < i) ∨ (1 < b.toNat ∧ i = 9)
    · rw [rd_form l hf] at h; simp at h
    by_cases hb : b.toNat < 128
    · rw [rd_last l hf hb]
      refine ⟨Nat.le_refl _, by simp, ?_, ?_, fun h0 e => hf (Or.inl ⟨e, h0⟩)⟩
      · show [b] = uvar b.toNat
        rw [uvar_small hb]; simp
      · show b.toNat * 128 ^ i < 2 ^ 64
        by_cases h9 : i = 9
        · subst h9
          have : b.toNat ≤ 1 := by omega
          have := Nat.mul_le_mul_right (128 ^ 9) this
          omega
        · have h8 := pow_le (i := i) (j := 8) (by omega)
          have := Nat.mul_le_mul (show b.toNat ≤ 127 by omega) h8
          omega
    · have h9 : i ≠ 9 := by omega
      rw [rd_more l h9 hb] at h ⊢
      by_cases h0 : (rd (i + 1) l).2.2 = 0
      · rw [if_pos h0]
        obtain ⟨g1, g2, g3, g4, g5⟩ := ih (i + 1) (by omega) h0
        have g6 := g5 (by omega)
        have hbl := UInt8.toNat_lt b
        refine ⟨by simp, by simp; omega, ?_, ?_, fun _ => by show b.toNat % 128 + 128 * (rd (i + 1) l).1 ≠ 0; omega⟩
        · show (b :: l).take ((rd (i + 1) l).2.1 + 1) = uvar (b.toNat % 128 + 128 * (rd (i + 1) l).1)
          rw [List.take_succ_cons, g3, uvar_great (n := b.toNat % 128 + 128 * (rd (i + 1) l).1) (by omega)]
          have e1 : (b.toNat % 128 + 128 * (rd (i + 1) l).1) % 128 + 128 = b.toNat := by omega
          have e2 : (b.toNat % 128 + 128 * (rd (i + 1) l).1) / 128 = (rd (i + 1) l).1 := by omega
          rw [e1, e2]; simp
        · show (b.toNat % 128 + 128 * (rd (i + 1) l).1) * 128 ^ i < 2 ^ 64
          rw [Nat.pow_succ, Nat.mul_comm (128 ^ i), ← Nat.mul_assoc] at g4
          -- (r * 128) * p < 2^64 and both sides multiples of p = 128^i
          have hd : ∃ c, 2 ^ 64 = c * 128 ^ i ∧ c % 128 = 0 ∨ i = 9 := by
            rcases (show i = 0 ∨ i = 1 ∨ i = 2 ∨ i = 3 ∨ i = 4 ∨ i = 5 ∨ i = 6 ∨ i = 7 ∨ i = 8 ∨ i = 9 by omega) with rfl | rfl | rfl | rfl | rfl | rfl | rfl | rfl | rfl | rfl
            · exact ⟨2 ^ 64, by decide⟩
            · exact ⟨2 ^ 57, by decide⟩
            · exact ⟨2 ^ 50, by decide⟩
            · exact ⟨2 ^ 43, by decide⟩
            · exact ⟨2 ^ 36, by decide⟩
            · exact ⟨2 ^ 29, by decide⟩
            · exact ⟨2 ^ 22, by decide⟩
            · exact ⟨2 ^ 15, by decide⟩
            · exact ⟨2 ^ 8, by decide⟩
            · exact ⟨0, Or.inr rfl⟩
          obtain ⟨c, ⟨hc, hm⟩ | hc⟩ := hd
          · rw [hc] at g4 ⊢
            have hp : 0 < 128 ^ i := Nat.pow_pos (by omega)
            have := Nat.lt_of_mul_lt_mul_right g4
            exact Nat.mul_lt_mul_of_pos_right (by omega) hp
          · exact absurd hc h9
      · rw [if_neg h0] at h; exact absurd h h0
theorem rd_fits (l : List UInt8) : (rd 0 l).1 < 2 ^ 64 := by
  rcases rd_err 0 l with h | ⟨_, h, _⟩
  · have := (uvar_rd l 0 (by omega) h).2.2.2.1; simpa using this
  · rw [h]; decide
theorem rd_size (l : List UInt8) : (rd 0 l).2.1 ≤ l.length := by
  rcases rd_err 0 l with h | ⟨_, _, h⟩
  · exact (uvar_rd l 0 (by omega) h).2.1
  · rw [h]; omega
theorem uvar_len (n : Nat) : 1 ≤ (uvar n).length := by
  by_cases h : n < 128
  · rw [uvar_small h]; simp
  · rw [uvar_great h]; simp
theorem uvar_mono (n : Nat) : ∀ m, m ≤ n → (uvar m).length ≤ (uvar n).length := by
  induction n using Nat.strongRecOn with
  | ind n ih =>
    intro m hm
    by_cases h : m < 128
    · rw [uvar_small h]; exact uvar_len n
    · rw [uvar_great h, uvar_great (n := n) (by omega)]
      have := ih (n / 128) (by omega) (m / 128) (by omega)
      simpa using this
theorem uvar_pow (k : Nat) : ∀ n, n < 128 ^ (k + 1) → (uvar n).length ≤ k + 1 := by
  induction k with
  | zero => intro n h; rw [uvar_small (by simpa using h)]; simp
  | succ k ih =>
    intro n h
    by_cases hs : n < 128
    · rw [uvar_small hs]; simp
    · rw [uvar_great hs]
      have := ih (n / 128) (by rw [Nat.pow_succ] at h; omega)
      simpa using this
theorem uvar_ten {n : Nat} (h : n < 2 ^ 64) : (uvar n).length ≤ 10 := uvar_pow 9 n (by
  have : (2 : Nat) ^ 64 ≤ 128 ^ (9 + 1) := by decide
  omega)
theorem rd_cut (n : Nat) : ∀ (i k : Nat), i + (uvar n).length ≤ 10 → k < (uvar n).length → rd i ((uvar n).take k) = (0, 0, 6) := by
  induction n using Nat.strongRecOn with
  | ind n ih =>
    intro i k hi hk
    by_cases hs : n < 128
    · rw [uvar_small hs] at hk
      have : k = 0 := by simpa using hk
      subst this
      rw [List.take_zero, rd_nil]
    · have hl := uvar_great hs
      rw [hl] at hk hi ⊢
      have hl1 := uvar_len (n / 128)
      simp only [List.length_cons] at hk hi
      cases k with
      | zero => rw [List.take_zero, rd_nil]
      | succ k =>
        have e : (UInt8.ofNat (n % 128 + 128)).toNat = n % 128 + 128 := by rw [UInt8.toNat_ofNat']; omega
        rw [List.take_succ_cons, rd_more _ (by omega) (by rw [e]; omega), ih (n / 128) (by omega) (i + 1) k (by omega) (by omega)]
        rfl
def accOf (l : List UInt8) : Nat → Nat
  | 0 => 0
  | k + 1 => accOf l k + 128 ^ k * ((l.getD k 0).toNat % 128)
theorem rd_lead (l : List UInt8) : ∀ k, k ≤ 9 → k ≤ l.length → (∀ i, i < k → 128 ≤ (l.getD i 0).toNat) → rd 0 l = lift k (accOf l k) (rd k (l.drop k)) := by
  intro k
  induction k with
  | zero => intro _ _ _; rw [List.drop_zero, accOf, lift_zero]
  | succ k ih =>
    intro h9 hl hb
    rw [ih (by omega) (by omega) (fun i hi => hb i (by omega))]
    have hk := hb k (by omega)
    have e : l.drop k = l.getD k 0 :: l.drop (k + 1) := by
      rw [List.drop_eq_getElem_cons (by omega : k < l.length)]
      simp [List.getD_eq_getElem?_getD, List.getElem?_eq_getElem (by omega : k < l.length)]
    rw [e, lift_more _ _ _ (by omega) (by omega), accOf]
/-- What is read of a field. -/
def rdField (l : List UInt8) (most : Int) : List UInt8 × Nat × Nat :=
  if (rd 0 l).2.2 ≠ 0 then ([], 0, (rd 0 l).2.2)
  else if most < (rd 0 l).1 then ([], 0, 3)
  else if l.length - (rd 0 l).2.1 < (rd 0 l).1 then ([], 0, 6)
  else ((l.drop (rd 0 l).2.1).take (rd 0 l).1, (rd 0 l).2.1 + (rd 0 l).1, 0)
/-! ### Ordered numbers -/
/-- The last i bytes of u, the highest first. -/
def be : Nat → Nat → List UInt8
  | 0, _ => []
  | i + 1, u => be i (u / 256) ++ [UInt8.ofNat u]
def unbe (l : List UInt8) : Nat := l.foldl (fun a b => a * 256 + b.toNat) 0
theorem be_length (i : Nat) : ∀ u, (be i u).length = i := by
  induction i with
  | zero => intro u; rfl
  | succ i ih => intro u; simp [be, ih]
theorem be_front (i : Nat) : ∀ u, be (i + 1) u = UInt8.ofNat (u / 256 ^ i) :: be i u := by
  induction i with
  | zero => intro u; simp [be]
  | succ i ih =>
    intro u
    rw [be, ih, be, List.cons_append, Nat.div_div_eq_div_mul, Nat.pow_succ, Nat.mul_comm 256]
theorem unbe_snoc (l : List UInt8) (b : UInt8) : unbe (l ++ [b]) = unbe l * 256 + b.toNat := by unfold unbe; rw [List.foldl_append]; rfl
theorem unbe_be (i : Nat) : ∀ u, unbe (be i u) = u % 256 ^ i := by
  induction i with
  | zero => intro u; simp [be, unbe, Nat.mod_one]
  | succ i ih =>
    intro u
    have e : u % 256 ^ (i + 1) = u % 256 + 256 * (u / 256 % 256 ^ i) := by rw [Nat.pow_succ, Nat.mul_comm (256 ^ i) 256, Nat.mod_mul]
    rw [be, unbe_snoc, ih, UInt8.toNat_ofNat', e]
    omega
theorem snoc_of {i : Nat} (l : List UInt8) (h : l.length = i + 1) : ∃ l' b, l = l' ++ [b] ∧ l'.length = i := by
  rcases List.eq_nil_or_concat l with rfl | ⟨l', b, rfl⟩
  · simp at h
  · exact ⟨l', b, by simp, by simpa using h⟩
theorem unbe_lt (i : Nat) : ∀ l : List UInt8, l.length = i → unbe l < 256 ^ i := by
  induction i with
  | zero => intro l h; rw [List.length_eq_zero_iff.1 h]; simp [unbe]
  | succ i ih =>
    intro l h
    obtain ⟨l', b, rfl, hl⟩ := snoc_of l h
    have := ih l' hl
    have := UInt8.toNat_lt b
    rw [unbe_snoc, Nat.pow_succ]
    omega
theorem be_unbe (i : Nat) : ∀ l : List UInt8, l.length = i → be i (unbe l) = l := by
  induction i with
  | zero => intro l h; rw [List.length_eq_zero_iff.1 h]; rfl
  | succ i ih =>
    intro l h
    obtain ⟨l', b, rfl, hl⟩ := snoc_of l h
    have hb := UInt8.toNat_lt b
    rw [be, unbe_snoc]
    have e1 : (unbe l' * 256 + b.toNat) / 256 = unbe l' := by omega
    have e2 : UInt8.ofNat (unbe l' * 256 + b.toNat) = b := by
      apply UInt8.toNat_inj.1
      rw [UInt8.toNat_ofNat']; omega
    rw [e1, e2, ih l' hl]
/-- What is read of an ordered number: it, the error. -/
def rdOrd (l : List UInt8) : Int × Nat := if l.length < 8 then (0, 6) else ((unbe (l.take 8) : Int) - 9223372036854775808, 0)
theorem take_snoc (l : List UInt8) (i : Nat) (h : i < l.length) : l.take (i + 1) = l.take i ++ [l[i]] := List.take_succ_eq_append_getElem h
/-! ### Ordered texts -/
def esc : List UInt8 → List UInt8
  | [] => []
  | b :: l => if b = 0 then 0 :: 255 :: esc l else b :: esc l
def txt (t : List UInt8) : List UInt8 := esc t ++ [0, 1]
/-- What is read of a text: it, its bytes, the error. -/
def untxt : List UInt8 → List UInt8 × Nat × Nat
  | [] => ([], 0, 6)
  | [_] => ([], 0, 6)
  | b :: c :: l =>
    if b ≠ 0 then (if (untxt (c :: l)).2.2 = 0 then (b :: (untxt (c :: l)).1, (untxt (c :: l)).2.1 + 1, 0) else ([], 0, (untxt (c :: l)).2.2))
    else if c = 1 then ([], 2, 0)
    else if c = 255 then (if (untxt l).2.2 = 0 then (0 :: (untxt l).1, (untxt l).2.1 + 2, 0) else ([], 0, (untxt l).2.2))
    else ([], 0, 7)
theorem esc_app (a b : List UInt8) : esc (a ++ b) = esc a ++ esc b := by
  induction a with
  | nil => rfl
  | cons x a ih =>
    by_cases h : x = 0
    · simp [esc, h, ih]
    · simp [esc, h, ih]
theorem esc_len (l : List UInt8) : (esc l).length ≤ 2 * l.length := by
  induction l with
  | nil => simp [esc]
  | cons b l ih => by_cases h : b = 0 <;> simp [esc, h] <;> omega
/-- Of what is read behind k bytes that told pre: the whole. -/
def liftT (k : Nat) (pre : List UInt8) (r : List UInt8 × Nat × Nat) : List UInt8 × Nat × Nat := if r.2.2 = 0 then (pre ++ r.1, r.2.1 + k, 0) else ([], 0, r.2.2)
theorem untxt_err : ∀ l : List UInt8, (untxt l).2.2 = 0 ∨ ((untxt l).2.2 = 6 ∨ (untxt l).2.2 = 7) ∧ (untxt l).1 = [] ∧ (untxt l).2.1 = 0
  | [] => Or.inr ⟨Or.inl rfl, rfl, rfl⟩
  | [_] => Or.inr ⟨Or.inl rfl, rfl, rfl⟩
  | b :: c :: l => by
    rw [untxt]
    split
    · split
      · exact Or.inl rfl
      · rename_i h; rcases untxt_err (c :: l) with h0 | ⟨h1, _, _⟩
        · exact absurd h0 h
        · exact Or.inr ⟨h1, rfl, rfl⟩
    · split
      · exact Or.inl rfl
      · split
        · split
          · exact Or.inl rfl
          · rename_i h; rcases untxt_err l with h0 | ⟨h1, _, _⟩
            · exact absurd h0 h
            · exact Or.inr ⟨h1, rfl, rfl⟩
        · exact Or.inr ⟨Or.inr rfl, rfl, rfl⟩
theorem liftT_zero (l : List UInt8) : liftT 0 [] (untxt l) = untxt l := by
  unfold liftT
  rcases untxt_err l with h | ⟨h, h1, h2⟩
  · rw [if_pos h]; simp [Prod.ext_iff, h]
  · rw [if_neg (by omega)]; simp [Prod.ext_iff, h1, h2]
theorem liftT_nil (k : Nat) (pre : List UInt8) : liftT k pre (untxt []) = ([], 0, 6) := rfl
theorem liftT_one (k : Nat) (pre : List UInt8) (b : UInt8) : liftT k pre (untxt [b]) = ([], 0, 6) := rfl
theorem liftT_byte (k : Nat) (pre : List UInt8) {b : UInt8} (l : List UInt8) (hb : b ≠ 0) : liftT k pre (untxt (b :: l)) = liftT (k + 1) (pre ++ [b]) (untxt l) := by
  cases l with
  | nil => rfl
  | cons c l =>
    rw [untxt, if_pos hb]
    unfold liftT
    by_cases h : (untxt (c :: l)).2.2 = 0
    · rw [if_pos h, if_pos rfl, if_pos h]; simp [Nat.add_assoc, Nat.add_comm 1 k]
    · rw [if_neg h, if_neg h, if_neg h]
theorem liftT_zero_byte (k : Nat) (pre : List UInt8) (l : List UInt8) : liftT k pre (untxt (0 :: 255 :: l)) = liftT (k + 2) (pre ++ [0]) (untxt l) := by
  rw [untxt, if_neg (by decide), if_neg (by decide), if_pos rfl]
  unfold liftT
  by_cases h : (untxt l).2.2 = 0
  · rw [if_pos h, if_pos rfl, if_pos h]; simp [Nat.add_assoc, Nat.add_comm 2 k]
  · rw [if_neg h, if_neg h, if_neg h]
theorem liftT_end (k : Nat) (pre : List UInt8) (l : List UInt8) : liftT k pre (untxt (0 :: 1 :: l)) = (pre, k + 2, 0) := by
  rw [untxt, if_neg (by decide), if_pos rfl]; unfold liftT; simp [Nat.add_comm]
theorem liftT_form (k : Nat) (pre : List UInt8) {c : UInt8} (l : List UInt8) (h1 : c ≠ 1) (h2 : c ≠ 255) : liftT k pre (untxt (0 :: c :: l)) = ([], 0, 7) := by
  rw [untxt, if_neg (by decide), if_neg h1, if_neg h2]; rfl
theorem index_zero : ∀ s : List UInt8, (Go.Lib.index s [0] = -1 ∧ esc s = s) ∨ ∃ i : Nat, Go.Lib.index s [0] = (i : Int) ∧ i < s.length ∧ esc s = s.take i ++ [0, 255] ++ esc (s.drop (i + 1))
  | [] => Or.inl ⟨rfl, rfl⟩
  | b :: l => by
    by_cases hb : b = 0
    · subst hb
      refine Or.inr ⟨0, ?_, by simp, ?_⟩
      · unfold Go.Lib.index; rw [if_pos (by simp)]; rfl
      · simp [esc]
    · have hp : ¬ ([0].isPrefixOf (b :: l) = true) := by simp [List.isPrefixOf]; exact fun h => hb h.symm
      have he : esc (b :: l) = b :: esc l := by simp [esc, hb]
      rcases index_zero l with ⟨h1, h2⟩ | ⟨i, h1, h2, h3⟩
      · refine Or.inl ⟨?_, by rw [he, h2]⟩
        unfold Go.Lib.index; rw [if_neg hp, h1]; rfl
      · refine Or.inr ⟨i + 1, ?_, by simp; omega, ?_⟩
        · unfold Go.Lib.index
          rw [if_neg hp, h1, if_neg (by simp; try omega)]
          try omega
        · rw [he, h3]; simp
theorem replaceK_esc (n : Nat) : ∀ s : List UInt8, s.length ≤ n → Go.Lib.replaceK [0] [0, 255] (Go.Lib.count s [0]) s = esc s := by
  induction n with
  | zero => intro s h; obtain rfl := List.length_eq_zero_iff.1 (Nat.le_zero.1 h); rfl
  | succ n ih =>
    intro s h
    rcases index_zero s with ⟨h1, h2⟩ | ⟨i, h1, h2, h3⟩
    · rw [Go.Lib.count_miss h1, h2]; rfl
    · rw [Go.Lib.count_hit (by simp) h1, Nat.add_comm, Go.Lib.replaceK_hit _ _ _ _ _ h1, h3]
      congr 1
      exact ih _ (by simp; omega)
theorem replaceAll_esc (s : List UInt8) : Go.Lib.replaceAll s [0] [0, 255] = esc s := by
  unfold Go.Lib.replaceAll Go.Lib.replace Go.Lib.replaceNum
  rw [if_neg (by decide), if_pos (Or.inl (by decide))]
  exact replaceK_esc _ s (Nat.le_refl _)
end Go.Proofs.Ytkkedofbnmjgeaa.Code
