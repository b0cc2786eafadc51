/-
  Plain mathematics of the short numbers, the ordered numbers, the ordered texts and the fields: what is written, what is read, and how the one comes to the other. No model's run in this text. No condition.
-/
import Derived.Lib.ReplaceLaws
import Derived.Lib.Index
import Derived.Lib.IndexBytes
import Derived.WalkKit
import Derived.IntWalk
import Derived.Lib.Hide
import Derived.SizedLaws
import Derived.Laws.NewBlocks
import Derived.Deep.Draws
import Derived.Test.YtlnklpnldmcopaaRows
import Derived.Laws.OwnMore
import Derived.Handy
import Derived.Deep.QuietTactic
import Derived.BigQuiet
import Derived.Deep.Cut
import Derived.Deep.DeepCutAuto
import Derived.WideAt
import Derived.WideShapes
namespace Go.Proofs.Ytlnklpnldmcopaa.Code
/-- The short number of n. -/
def uvar (n : Nat) : List UInt8 := if n < 128 then [UInt8.ofNat n] else UInt8.ofNat (n % 128 + 128) :: uvar (n / 128)
termination_by n
decreasing_by omega
theorem uvar_small {n : Nat} (h : n < 128) : uvar n = [UInt8.ofNat n] := by rw [uvar, if_pos h]
theorem uvar_great {n : Nat} (h : ¬ n < 128) : uvar n = UInt8.ofNat (n % 128 + 128) :: uvar (n / 128) := by rw [uvar, if_neg h]
/-- What is read at place i of a short number: the number, its bytes, the error. -/
def rd : Nat → List UInt8 → Nat × Nat × Nat
  | _, [] => (0, 0, 6)
  | i, b :: l =>
    if (b.toNat = 0 ∧ 0 < i) ∨ (1 < b.toNat ∧ i = 9) then (0, 0, 7)
    else if b.toNat < 128 then (b.toNat, 1, 0)
    else if (rd (i + 1) l).2.2 = 0 then (b.toNat % 128 + 128 * (rd (i + 1) l).1, (rd (i + 1) l).2.1 + 1, 0) else (0, 0, (rd (i + 1) l).2.2)
theorem rd_nil (i : Nat) : rd i [] = (0, 0, 6) := by simp [rd]
theorem rd_form {i : Nat} {b : UInt8} (l : List UInt8) (h : (b.toNat = 0 ∧ 0 < i) ∨ (1 < b.toNat ∧ i = 9)) : rd i (b :: l) = (0, 0, 7) := by rw [rd, if_pos h]
theorem rd_last {i : Nat} {b : UInt8} (l : List UInt8) (h : ¬ ((b.toNat = 0 ∧ 0 < i) ∨ (1 < b.toNat ∧ i = 9))) (hb : b.toNat < 128) : rd i (b :: l) = (b.toNat, 1, 0) := by rw [rd, if_neg h, if_pos hb]
theorem rd_more {i : Nat} {b : UInt8} (l : List UInt8) (h : i ≠ 9) (hb : ¬ b.toNat < 128) :
    rd i (b :: l) = if (rd (i + 1) l).2.2 = 0 then (b.toNat % 128 + 128 * (rd (i + 1) l).1, (rd (i + 1) l).2.1 + 1, 0) else (0, 0, (rd (i + 1) l).2.2) := by
  rw [rd, if_neg (by omega), if_neg hb]
theorem rd_err (i : Nat) (l : List UInt8) : (rd i l).2.2 = 0 ∨ ((rd i l).2.2 = 6 ∨ (rd i l).2.2 = 7) ∧ (rd i l).1 = 0 ∧ (rd i l).2.1 = 0 := by
  induction l generalizing i with
  | nil => rw [rd_nil]; simp
  | cons b l ih =>
    rw [rd]
    split
    · simp
    · split
      · simp
      · split
        · simp
        · rename_i h; rcases ih (i + 1) with h0 | ⟨h1, _, _⟩
          · exact absurd h0 h
          · exact Or.inr ⟨h1, rfl, rfl⟩
/-- Of what place i on is read, with i bytes read ahead that told acc: the whole. -/
def lift (i acc : Nat) (r : Nat × Nat × Nat) : Nat × Nat × Nat := if r.2.2 = 0 then (acc + 128 ^ i * r.1, r.2.1 + i, 0) else (0, 0, r.2.2)
theorem lift_zero (l : List UInt8) : lift 0 0 (rd 0 l) = rd 0 l := by
  unfold lift
  rcases rd_err 0 l with h | ⟨h, h1, h2⟩
  · rw [if_pos h]; simp [Prod.ext_iff, h]
  · rw [if_neg (by omega)]; simp [Prod.ext_iff, h1, h2]
theorem lift_more (i acc : Nat) {b : UInt8} (l : List UInt8) (h : i ≠ 9) (hb : ¬ b.toNat < 128) : lift i acc (rd i (b :: l)) = lift (i + 1) (acc + 128 ^ i * (b.toNat % 128)) (rd (i + 1) l) := by
  rw [rd_more l h hb]
  unfold lift
  by_cases h0 : (rd (i + 1) l).2.2 = 0
  · rw [if_pos h0, if_pos h0, if_pos rfl]
    rw [Nat.mul_add, Nat.pow_succ, Nat.mul_assoc]
    simp [Nat.add_assoc, Nat.add_comm 1 i]
  · rw [if_neg h0, if_neg h0, if_neg h0]
theorem lift_last (i acc : Nat) {b : UInt8} (l : List UInt8) (h : ¬ ((b.toNat = 0 ∧ 0 < i) ∨ (1 < b.toNat ∧ i = 9))) (hb : b.toNat < 128) : lift i acc (rd i (b :: l)) = (acc + 128 ^ i * b.toNat, i + 1, 0) := by
  rw [rd_last l h hb]; unfold lift; simp [Nat.add_comm]
theorem lift_form (i acc : Nat) {b : UInt8} (l : List UInt8) (h : (b.toNat = 0 ∧ 0 < i) ∨ (1 < b.toNat ∧ i = 9)) : lift i acc (rd i (b :: l)) = (0, 0, 7) := by
  rw [rd_form l h]; rfl
theorem lift_nil (i acc : Nat) : lift i acc (rd i []) = (0, 0, 6) := by rw [rd_nil]; rfl
theorem pow_le {i j : Nat} (h : i ≤ j) : 128 ^ i ≤ 128 ^ j := Nat.pow_le_pow_right (by omega) h
theorem rd_uvar (n : Nat) : ∀ (i : Nat) (t : List UInt8), i ≤ 9 → (0 < i → n ≠ 0) → n * 128 ^ i < 2 ^ 64 → rd i (uvar n ++ t) = (n, (uvar n).length, 0) := by
  induction n using Nat.strongRecOn with
  | ind n ih =>
    intro i t hi h0 hn
    have h9 : i = 9 → n < 2 := fun e => by subst e; simp at hn; omega
    by_cases hs : n < 128
    · rw [uvar_small hs]
      have e : (UInt8.ofNat n).toNat = n := by rw [UInt8.toNat_ofNat']; omega
      rw [List.singleton_append, rd_last t (by rw [e]; rintro (⟨a, b⟩ | ⟨a, b⟩); exact h0 b a; exact absurd (h9 b) (by omega)) (by rw [e]; exact hs), e]
      rfl
    · have hlt : i < 9 := by
        rcases Nat.lt_or_ge i 9 with h | h
        · exact h
        · exact absurd (h9 (by omega)) (by omega)
      rw [uvar_great hs]
      have e : (UInt8.ofNat (n % 128 + 128)).toNat = n % 128 + 128 := by rw [UInt8.toNat_ofNat']; omega
      have hpow : n / 128 * 128 ^ (i + 1) ≤ n * 128 ^ i := by
        rw [Nat.pow_succ, Nat.mul_comm (128 ^ i), ← Nat.mul_assoc]
        exact Nat.mul_le_mul_right _ (Nat.div_mul_le_self n 128)
      rw [List.cons_append, rd_more _ (by omega) (by rw [e]; omega), ih (n / 128) (by omega) (i + 1) t (by omega) (by omega) (by omega)]
      simp only [if_pos, e, List.length_cons]
      rw [Prod.ext_iff]
      refine ⟨?_, rfl⟩
      show (n % 128 + 128) % 128 + 128 * (n / 128) = n
      omega
theorem uvar_rd (l : List UInt8) : ∀ i, i ≤ 9 → (rd i l).2.2 = 0 → 1 ≤ (rd i l).2.1 ∧ (rd i l).2.1 ≤ l.length ∧ l.take (rd i l).2.1 = uvar (rd i l).1 ∧ (rd i l).1 * 128 ^ i < 2 ^ 64 ∧ (0 < i → (rd i l).1 ≠ 0) := by
  induction l with
  | nil => intro i _ h; rw [rd_nil] at h; simp at h
  | cons b l ih =>
    intro i hi h
    by_cases hf : (b.toNat = 0 ∧ 0 < i) ∨ (1 < b.toNat ∧ i = 9)
    · rw [rd_form l hf] at h; simp at h
    by_cases hb : b.toNat < 128
    · rw [rd_last l hf hb]
      refine ⟨Nat.le_refl _, by simp, ?_, ?_, fun h0 e => hf (Or.inl ⟨e, h0⟩)⟩
      · show [b] = uvar b.toNat
        rw [uvar_small hb]; simp
      · show b.toNat * 128 ^ i < 2 ^ 64
        by_cases h9 : i = 9
        · subst h9
          have : b.toNat ≤ 1 := by omega
          have := Nat.mul_le_mul_right (128 ^ 9) this
          omega
        · have h8 := pow_le (i := i) (j := 8) (by omega)
          have := Nat.mul_le_mul (show b.toNat ≤ 127 by omega) h8
          omega
    · have h9 : i ≠ 9 := by omega
      rw [rd_more l h9 hb] at h ⊢
      by_cases h0 : (rd (i + 1) l).2.2 = 0
      · rw [if_pos h0]
        obtain ⟨g1, g2, g3, g4, g5⟩ := ih (i + 1) (by omega) h0
        have g6 := g5 (by omega)
        have hbl := UInt8.toNat_lt b
        refine ⟨by simp, by simp; omega, ?_, ?_, fun _ => by show b.toNat % 128 + 128 * (rd (i + 1) l).1 ≠ 0; omega⟩
        · show (b :: l).take ((rd (i + 1) l).2.1 + 1) = uvar (b.toNat % 128 + 128 * (rd (i + 1) l).1)
          rw [List.take_succ_cons, g3, uvar_great (n := b.toNat % 128 + 128 * (rd (i + 1) l).1) (by omega)]
          have e1 : (b.toNat % 128 + 128 * (rd (i + 1) l).1) % 128 + 128 = b.toNat := by omega
          have e2 : (b.toNat % 128 + 128 * (rd (i + 1) l).1) / 128 = (rd (i + 1) l).1 := by omega
          rw [e1, e2]; simp
        · show (b.toNat % 128 + 128 * (rd (i + 1) l).1) * 128 ^ i < 2 ^ 64
          rw [Nat.pow_succ, Nat.mul_comm (128 ^ i), ← Nat.mul_assoc] at g4
          -- (r * 128) * p < 2^64 and both sides multiples of p = 128^i
          have hd : ∃ c, 2 ^ 64 = c * 128 ^ i ∧ c % 128 = 0 ∨ i = 9 := by
            rcases (show i = 0 ∨ i = 1 ∨ i = 2 ∨ i = 3 ∨ i = 4 ∨ i = 5 ∨ i = 6 ∨ i = 7 ∨ i = 8 ∨ i = 9 by omega) with rfl | rfl | rfl | rfl | rfl | rfl | rfl | rfl | rfl | rfl
            · exact ⟨2 ^ 64, by decide⟩
            · exact ⟨2 ^ 57, by decide⟩
            · exact ⟨2 ^ 50, by decide⟩
            · exact ⟨2 ^ 43, by decide⟩
            · exact ⟨2 ^ 36, by decide⟩
            · exact ⟨2 ^ 29, by decide⟩
            · exact ⟨2 ^ 22, by decide⟩
            · exact ⟨2 ^ 15, by decide⟩
            · exact ⟨2 ^ 8, by decide⟩
            · exact ⟨0, Or.inr rfl⟩
          obtain ⟨c, ⟨hc, hm⟩ | hc⟩ := hd
          · rw [hc] at g4 ⊢
            have hp : 0 < 128 ^ i := Nat.pow_pos (by omega)
            have := Nat.lt_of_mul_lt_mul_right g4
            exact Nat.mul_lt_mul_of_pos_right (by omega) hp
          · exact absurd hc h9
      · rw [if_neg h0] at h; exact absurd h h0
theorem rd_fits (l : List UInt8) : (rd 0 l).1 < 2 ^ 64 := by
  rcases rd_err 0 l with h | ⟨_, h, _⟩
  · have := (uvar_rd l 0 (by omega) h).2.2.2.1; simpa using this
  · rw [h]; decide
theorem rd_size (l : List UInt8) : (rd 0 l).2.1 ≤ l.length := by
  rcases rd_err 0 l with h | ⟨_, _, h⟩
  · exact (uvar_rd l 0 (by omega) h).2.1
  · rw [h]; omega
theorem uvar_len (n : Nat) : 1 ≤ (uvar n).length := by
  by_cases h : n < 128
  · rw [uvar_small h]; simp
  · rw [uvar_great h]; simp
theorem uvar_mono (n : Nat) : ∀ m, m ≤ n → (uvar m).length ≤ (uvar n).length := by
  induction n using Nat.strongRecOn with
  | ind n ih =>
    intro m hm
    by_cases h : m < 128
    · rw [uvar_small h]; exact uvar_len n
    · rw [uvar_great h, uvar_great (n := n) (by omega)]
      have := ih (n / 128) (by omega) (m / 128) (by omega)
      simpa using this
theorem uvar_pow (k : Nat) : ∀ n, n < 128 ^ (k + 1) → (uvar n).length ≤ k + 1 := by
  induction k with
  | zero => intro n h; rw [uvar_small (by simpa using h)]; simp
  | succ k ih =>
    intro n h
    by_cases hs : n < 128
    · rw [uvar_small hs]; simp
    · rw [uvar_great hs]
      have := ih (n / 128) (by rw [Nat.pow_succ] at h; omega)
      simpa using this
theorem uvar_ten {n : Nat} (h : n < 2 ^ 64) : (uvar n).length ≤ 10 := uvar_pow 9 n (by
  have : (2 : Nat) ^ 64 ≤ 128 ^ (9 + 1) := by decide
  omega)
theorem rd_cut (n : Nat) : ∀ (i k : Nat), i + (uvar n).length ≤ 10 → k < (uvar n).length → rd i ((uvar n).take k) = (0, 0, 6) := by
  induction n using Nat.strongRecOn with
  | ind n ih =>
    intro i k hi hk
    by_cases hs : n < 128
    · rw [uvar_small hs] at hk
      have : k = 0 := by simpa using hk
      subst this
      rw [List.take_zero, rd_nil]
    · have hl := uvar_great hs
      rw [hl] at hk hi ⊢
      have hl1 := uvar_len (n / 128)
      simp only [List.length_cons] at hk hi
      cases k with
      | zero => rw [List.take_zero, rd_nil]
      | succ k =>
        have e : (UInt8.ofNat (n % 128 + 128)).toNat = n % 128 + 128 := by rw [UInt8.toNat_ofNat']; omega
        rw [List.take_succ_cons, rd_more _ (by omega) (by rw [e]; omega), ih (n / 128) (by omega) (i + 1) k (by omega) (by omega)]
        rfl
def accOf (l : List UInt8) : Nat → Nat
  | 0 => 0
  | k + 1 => accOf l k + 128 ^ k * ((l.getD k 0).toNat % 128)
theorem rd_lead (l : List UInt8) : ∀ k, k ≤ 9 → k ≤ l.length → (∀ i, i < k → 128 ≤ (l.getD i 0).toNat) → rd 0 l = lift k (accOf l k) (rd k (l.drop k)) := by
  intro k
  induction k with
  | zero => intro _ _ _; rw [List.drop_zero, accOf, lift_zero]
  | succ k ih =>
    intro h9 hl hb
    rw [ih (by omega) (by omega) (fun i hi => hb i (by omega))]
    have hk := hb k (by omega)
    have e : l.drop k = l.getD k 0 :: l.drop (k + 1) := by
      rw [List.drop_eq_getElem_cons (by omega : k < l.length)]
      simp [List.getD_eq_getElem?_getD, List.getElem?_eq_getElem (by omega : k < l.length)]
    rw [e, lift_more _ _ _ (by omega) (by omega), accOf]
/-- What is read of a field. -/
def rdField (l : List UInt8) (most : Int) : List UInt8 × Nat × Nat :=
  if (rd 0 l).2.2 ≠ 0 then ([], 0, (rd 0 l).2.2)
  else if most < (rd 0 l).1 then ([], 0, 3)
  else if l.length - (rd 0 l).2.1 < (rd 0 l).1 then ([], 0, 6)
  else ((l.drop (rd 0 l).2.1).take (rd 0 l).1, (rd 0 l).2.1 + (rd 0 l).1, 0)
/-! ### Ordered numbers -/
/-- The last i bytes of u, the highest first. -/
def be : Nat → Nat → List UInt8
  | 0, _ => []
  | i + 1, u => be i (u / 256) ++ [UInt8.ofNat u]
def unbe (l : List UInt8) : Nat := l.foldl (fun a b => a * 256 + b.toNat) 0
theorem be_length (i : Nat) : ∀ u, (be i u).length = i := by
  induction i with
  | zero => intro u; rfl
  | succ i ih => intro u; simp [be, ih]
theorem be_front (i : Nat) : ∀ u, be (i + 1) u = UInt8.ofNat (u / 256 ^ i) :: be i u := by
  induction i with
  | zero => intro u; simp [be]
  | succ i ih =>
    intro u
    rw [be, ih, be, List.cons_append, Nat.div_div_eq_div_mul, Nat.pow_succ, Nat.mul_comm 256]
theorem unbe_snoc (l : List UInt8) (b : UInt8) : unbe (l ++ [b]) = unbe l * 256 + b.toNat := by unfold unbe; rw [List.foldl_append]; rfl
theorem unbe_be (i : Nat) : ∀ u, unbe (be i u) = u % 256 ^ i := by
  induction i with
  | zero => intro u; simp [be, unbe, Nat.mod_one]
  | succ i ih =>
    intro u
    have e : u % 256 ^ (i + 1) = u % 256 + 256 * (u / 256 % 256 ^ i) := by rw [Nat.pow_succ, Nat.mul_comm (256 ^ i) 256, Nat.mod_mul]
    rw [be, unbe_snoc, ih, UInt8.toNat_ofNat', e]
    omega
theorem snoc_of {i : Nat} (l : List UInt8) (h : l.length = i + 1) : ∃ l' b, l = l' ++ [b] ∧ l'.length = i := by
  rcases List.eq_nil_or_concat l with rfl | ⟨l', b, rfl⟩
  · simp at h
  · exact ⟨l', b, by simp, by simpa using h⟩
theorem unbe_lt (i : Nat) : ∀ l : List UInt8, l.length = i → unbe l < 256 ^ i := by
  induction i with
  | zero => intro l h; rw [List.length_eq_zero_iff.1 h]; simp [unbe]
  | succ i ih =>
    intro l h
    obtain ⟨l', b, rfl, hl⟩ := snoc_of l h
    have := ih l' hl
    have := UInt8.toNat_lt b
    rw [unbe_snoc, Nat.pow_succ]
    omega
theorem be_unbe (i : Nat) : ∀ l : List UInt8, l.length = i → be i (unbe l) = l := by
  induction i with
  | zero => intro l h; rw [List.length_eq_zero_iff.1 h]; rfl
  | succ i ih =>
    intro l h
    obtain ⟨l', b, rfl, hl⟩ := snoc_of l h
    have hb := UInt8.toNat_lt b
    rw [be, unbe_snoc]
    have e1 : (unbe l' * 256 + b.toNat) / 256 = unbe l' := by omega
    have e2 : UInt8.ofNat (unbe l' * 256 + b.toNat) = b := by
      apply UInt8.toNat_inj.1
      rw [UInt8.toNat_ofNat']; omega
    rw [e1, e2, ih l' hl]
/-- What is read of an ordered number: it, the error. -/
def rdOrd (l : List UInt8) : Int × Nat := if l.length < 8 then (0, 6) else ((unbe (l.take 8) : Int) - 9223372036854775808, 0)
theorem take_snoc (l : List UInt8) (i : Nat) (h : i < l.length) : l.take (i + 1) = l.take i ++ [l[i]] := List.take_succ_eq_append_getElem h
/-! ### Ordered texts -/
def esc : List UInt8 → List UInt8
  | [] => []
  | b :: l => if b = 0 then 0 :: 255 :: esc l else b :: esc l
def txt (t : List UInt8) : List UInt8 := esc t ++ [0, 1]
/-- What is read of a text: it, its bytes, the error. -/
def untxt : List UInt8 → List UInt8 × Nat × Nat
  | [] => ([], 0, 6)
  | [_] => ([], 0, 6)
  | b :: c :: l =>
    if b ≠ 0 then (if (untxt (c :: l)).2.2 = 0 then (b :: (untxt (c :: l)).1, (untxt (c :: l)).2.1 + 1, 0) else ([], 0, (untxt (c :: l)).2.2))
    else if c = 1 then ([], 2, 0)
    else if c = 255 then (if (untxt l).2.2 = 0 then (0 :: (untxt l).1, (untxt l).2.1 + 2, 0) else ([], 0, (untxt l).2.2))
    else ([], 0, 7)
theorem esc_app (a b : List UInt8) : esc (a ++ b) = esc a ++ esc b := by
  induction a with
  | nil => rfl
  | cons x a ih =>
    by_cases h : x = 0
    · simp [esc, h, ih]
    · simp [esc, h, ih]
theorem esc_len (l : List UInt8) : (esc l).length ≤ 2 * l.length := by
  induction l with
  | nil => simp [esc]
  | cons b l ih => by_cases h : b = 0 <;> simp [esc, h] <;> omega
/-- Of what is read behind k bytes that told pre: the whole. -/
def liftT (k : Nat) (pre : List UInt8) (r : List UInt8 × Nat × Nat) : List UInt8 × Nat × Nat := if r.2.2 = 0 then (pre ++ r.1, r.2.1 + k, 0) else ([], 0, r.2.2)
theorem untxt_err : ∀ l : List UInt8, (untxt l).2.2 = 0 ∨ ((untxt l).2.2 = 6 ∨ (untxt l).2.2 = 7) ∧ (untxt l).1 = [] ∧ (untxt l).2.1 = 0
  | [] => Or.inr ⟨Or.inl rfl, rfl, rfl⟩
  | [_] => Or.inr ⟨Or.inl rfl, rfl, rfl⟩
  | b :: c :: l => by
    rw [untxt]
    split
    · split
      · exact Or.inl rfl
      · rename_i h; rcases untxt_err (c :: l) with h0 | ⟨h1, _, _⟩
        · exact absurd h0 h
        · exact Or.inr ⟨h1, rfl, rfl⟩
    · split
      · exact Or.inl rfl
      · split
        · split
          · exact Or.inl rfl
          · rename_i h; rcases untxt_err l with h0 | ⟨h1, _, _⟩
            · exact absurd h0 h
            · exact Or.inr ⟨h1, rfl, rfl⟩
        · exact Or.inr ⟨Or.inr rfl, rfl, rfl⟩
theorem liftT_zero (l : List UInt8) : liftT 0 [] (untxt l) = untxt l := by
  unfold liftT
  rcases untxt_err l with h | ⟨h, h1, h2⟩
  · rw [if_pos h]; simp [Prod.ext_iff, h]
  · rw [if_neg (by omega)]; simp [Prod.ext_iff, h1, h2]
theorem liftT_nil (k : Nat) (pre : List UInt8) : liftT k pre (untxt []) = ([], 0, 6) := rfl
theorem liftT_one (k : Nat) (pre : List UInt8) (b : UInt8) : liftT k pre (untxt [b]) = ([], 0, 6) := rfl
theorem liftT_byte (k : Nat) (pre : List UInt8) {b : UInt8} (l : List UInt8) (hb : b ≠ 0) : liftT k pre (untxt (b :: l)) = liftT (k + 1) (pre ++ [b]) (untxt l) := by
  cases l with
  | nil => rfl
  | cons c l =>
    rw [untxt, if_pos hb]
    unfold liftT
    by_cases h : (untxt (c :: l)).2.2 = 0
    · rw [if_pos h, if_pos rfl, if_pos h]; simp [Nat.add_assoc, Nat.add_comm 1 k]
    · rw [if_neg h, if_neg h, if_neg h]
theorem liftT_zero_byte (k : Nat) (pre : List UInt8) (l : List UInt8) : liftT k pre (untxt (0 :: 255 :: l)) = liftT (k + 2) (pre ++ [0]) (untxt l) := by
  rw [untxt, if_neg (by decide), if_neg (by decide), if_pos rfl]
  unfold liftT
  by_cases h : (untxt l).2.2 = 0
  · rw [if_pos h, if_pos rfl, if_pos h]; simp [Nat.add_assoc, Nat.add_comm 2 k]
  · rw [if_neg h, if_neg h, if_neg h]
theorem liftT_end (k : Nat) (pre : List UInt8) (l : List UInt8) : liftT k pre (untxt (0 :: 1 :: l)) = (pre, k + 2, 0) := by
  rw [untxt, if_neg (by decide), if_pos rfl]; unfold liftT; simp [Nat.add_comm]
theorem liftT_form (k : Nat) (pre : List UInt8) {c : UInt8} (l : List UInt8) (h1 : c ≠ 1) (h2 : c ≠ 255) : liftT k pre (untxt (0 :: c :: l)) = ([], 0, 7) := by
  rw [untxt, if_neg (by decide), if_neg h1, if_neg h2]; rfl
theorem index_zero : ∀ s : List UInt8, (Go.Lib.index s [0] = -1 ∧ esc s = s) ∨ ∃ i : Nat, Go.Lib.index s [0] = (i : Int) ∧ i < s.length ∧ esc s = s.take i ++ [0, 255] ++ esc (s.drop (i + 1))
  | [] => Or.inl ⟨rfl, rfl⟩
  | b :: l => by
    by_cases hb : b = 0
    · subst hb
      refine Or.inr ⟨0, ?_, by simp, ?_⟩
      · unfold Go.Lib.index; rw [if_pos (by simp)]; rfl
      · simp [esc]
    · have hp : ¬ ([0].isPrefixOf (b :: l) = true) := by simp [List.isPrefixOf]; exact fun h => hb h.symm
      have he : esc (b :: l) = b :: esc l := by simp [esc, hb]
      rcases index_zero l with ⟨h1, h2⟩ | ⟨i, h1, h2, h3⟩
      · refine Or.inl ⟨?_, by rw [he, h2]⟩
        unfold Go.Lib.index; rw [if_neg hp, h1]; rfl
      · refine Or.inr ⟨i + 1, ?_, by simp; omega, ?_⟩
        · unfold Go.Lib.index
          rw [if_neg hp, h1, if_neg (by simp; try omega)]
          try omega
        · rw [he, h3]; simp
theorem replaceK_esc (n : Nat) : ∀ s : List UInt8, s.length ≤ n → Go.Lib.replaceK [0] [0, 255] (Go.Lib.count s [0]) s = esc s := by
  induction n with
  | zero => intro s h; obtain rfl := List.length_eq_zero_iff.1 (Nat.le_zero.1 h); rfl
  | succ n ih =>
    intro s h
    rcases index_zero s with ⟨h1, h2⟩ | ⟨i, h1, h2, h3⟩
    · rw [Go.Lib.count_miss h1, h2]; rfl
    · rw [Go.Lib.count_hit (by simp) h1, Nat.add_comm, Go.Lib.replaceK_hit _ _ _ _ _ h1, h3]
      congr 1
      exact ih _ (by simp; omega)
theorem replaceAll_esc (s : List UInt8) : Go.Lib.replaceAll s [0] [0, 255] = esc s := by
  unfold Go.Lib.replaceAll Go.Lib.replace Go.Lib.replaceNum
  rw [if_neg (by decide), if_pos (Or.inl (by decide))]
  exact replaceK_esc _ s (Nat.le_refl _)
end Go.Proofs.Ytlnklpnldmcopaa.Code
/-
  What is put is read back; what is cut ends too early; what is read is put; the order: plain mathematics. No model's run in this text. No condition.
-/
namespace Go.Proofs.Ytlnklpnldmcopaa.Code
theorem rdOrd_be (U : Nat) (hU : U < 2 ^ 64) (t : List UInt8) : rdOrd (be 8 U ++ t) = ((U : Int) - 9223372036854775808, 0) := by
  unfold rdOrd
  have h8 := be_length 8 U
  rw [if_neg (by rw [List.length_append]; omega), List.take_append_of_le_length (by omega), List.take_of_length_le (by omega), unbe_be, Nat.mod_eq_of_lt hU]
theorem untxt_txt : ∀ (t b : List UInt8), untxt (txt t ++ b) = (t, (txt t).length, 0)
  | [], b => by simp [txt, esc, untxt]
  | c :: t, b => by
    have ih := untxt_txt t b
    have h0 := liftT_zero (txt (c :: t) ++ b)
    by_cases hc : c = 0
    · subst hc
      have e : txt (0 :: t) ++ b = 0 :: 255 :: (txt t ++ b) := by simp [txt, esc]
      rw [e, ← liftT_zero, liftT_zero_byte, ih]
      simp [liftT, txt, esc]
    · have e : txt (c :: t) ++ b = c :: (txt t ++ b) := by simp [txt, esc, hc]
      rw [e, ← liftT_zero, liftT_byte _ _ _ hc, ih]
      simp [liftT, txt, esc, hc]
theorem rdField_fld (t b : List UInt8) (ht : t.length < 2 ^ 64) (x : Int) (hx : (t.length : Int) ≤ x) : rdField (uvar t.length ++ t ++ b) x = (t, (uvar t.length ++ t).length, 0) := by
  have h := rd_uvar t.length 0 (t ++ b) (by omega) (by omega) (by simpa using ht)
  unfold rdField
  rw [List.append_assoc, h]
  rw [if_neg (by simp), if_neg (by show ¬ x < (t.length : Int); omega), if_neg (by simp [List.length_append])]
  simp [List.length_append]
theorem untxt_cut : ∀ (t : List UInt8) (k : Nat), k < (txt t).length → untxt ((txt t).take k) = ([], 0, 6)
  | [], k, h => by
    have : k < 2 := by simpa [txt, esc] using h
    rcases (show k = 0 ∨ k = 1 by omega) with rfl | rfl <;> rfl
  | c :: t, k, h => by
    by_cases hc : c = 0
    · subst hc
      have e : txt (0 :: t) = 0 :: 255 :: txt t := by simp [txt, esc]
      rw [e] at h ⊢
      match k, h with
      | 0, _ => rfl
      | 1, _ => rfl
      | k + 2, h =>
        rw [List.take_succ_cons, List.take_succ_cons, ← liftT_zero, liftT_zero_byte, untxt_cut t k (by simpa using h)]
        rfl
    · have e : txt (c :: t) = c :: txt t := by simp [txt, esc, hc]
      rw [e] at h ⊢
      match k, h with
      | 0, _ => rfl
      | k + 1, h =>
        rw [List.take_succ_cons, ← liftT_zero, liftT_byte _ _ _ hc, untxt_cut t k (by simpa using h)]
        rfl
theorem rdField_cut (t : List UInt8) (ht : t.length < 2 ^ 64) (x : Int) (hx : (t.length : Int) ≤ x) (k : Nat) (hk : k < (uvar t.length ++ t).length) : rdField ((uvar t.length ++ t).take k) x = ([], 0, 6) := by
  unfold rdField
  by_cases h : k < (uvar t.length).length
  · rw [List.take_append_of_le_length (by omega), rd_cut t.length 0 k (by have := uvar_ten ht; omega) h]
    rw [if_pos (by simp)]
  · have e : (uvar t.length ++ t).take k = uvar t.length ++ t.take (k - (uvar t.length).length) := by rw [List.take_append, List.take_of_length_le (by omega)]
    have h1 := rd_uvar t.length 0 (t.take (k - (uvar t.length).length)) (by omega) (by omega) (by simpa using ht)
    rw [List.length_append] at hk
    rw [e, h1, if_neg (by simp), if_neg (by show ¬ x < (t.length : Int); omega), if_pos (by simp only [List.length_append, List.length_take]; omega)]
/-! ### What is read is put -/
theorem put_uint (l : List UInt8) (h : (rd 0 l).2.2 = 0) : uvar (rd 0 l).1 = l.take (rd 0 l).2.1 := (uvar_rd l 0 (by omega) h).2.2.1.symm
theorem txt_untxt : ∀ l : List UInt8, (untxt l).2.2 = 0 → 2 ≤ (untxt l).2.1 ∧ (untxt l).2.1 ≤ l.length ∧ txt (untxt l).1 = l.take (untxt l).2.1
  | [], h => by simp [untxt] at h
  | [_], h => by simp [untxt] at h
  | b :: c :: l, h => by
    rw [untxt] at h ⊢
    by_cases hb : b ≠ 0
    · rw [if_pos hb] at h ⊢
      by_cases h0 : (untxt (c :: l)).2.2 = 0
      · rw [if_pos h0]
        obtain ⟨g1, g2, g3⟩ := txt_untxt (c :: l) h0
        refine ⟨by show 2 ≤ (untxt (c :: l)).2.1 + 1; omega, by show (untxt (c :: l)).2.1 + 1 ≤ _; simp at g2 ⊢; omega, ?_⟩
        show txt (b :: (untxt (c :: l)).1) = (b :: c :: l).take ((untxt (c :: l)).2.1 + 1)
        rw [List.take_succ_cons, ← g3]
        simp [txt, esc, hb]
      · rw [if_neg h0] at h; exact absurd h h0
    · have hb0 : b = 0 := by simpa using hb
      subst hb0
      rw [if_neg hb] at h ⊢
      by_cases h1 : c = 1
      · subst h1
        rw [if_pos rfl]
        exact ⟨by simp, by simp, by simp [txt, esc]⟩
      · rw [if_neg h1] at h ⊢
        by_cases h2 : c = 255
        · subst h2
          rw [if_pos rfl] at h ⊢
          by_cases h0 : (untxt l).2.2 = 0
          · rw [if_pos h0]
            obtain ⟨g1, g2, g3⟩ := txt_untxt l h0
            refine ⟨by show 2 ≤ (untxt l).2.1 + 2; omega, by show (untxt l).2.1 + 2 ≤ _; simp; omega, ?_⟩
            show txt (0 :: (untxt l).1) = (0 :: 255 :: l).take ((untxt l).2.1 + 2)
            rw [List.take_succ_cons, List.take_succ_cons, ← g3]
            simp [txt, esc]
          · rw [if_neg h0] at h; exact absurd h h0
        · rw [if_neg h2] at h; simp at h
theorem put_field (l : List UInt8) (x : Int) (h : (rdField l x).2.2 = 0) : 1 ≤ (rdField l x).2.1 ∧ (rdField l x).2.1 ≤ l.length ∧ uvar (rdField l x).1.length ++ (rdField l x).1 = l.take (rdField l x).2.1 := by
  unfold rdField at h ⊢
  by_cases h1 : (rd 0 l).2.2 ≠ 0
  · rw [if_pos h1] at h; exact absurd h h1
  · rw [if_neg h1] at h ⊢
    have h0 : (rd 0 l).2.2 = 0 := by simpa using h1
    obtain ⟨g1, g2, g3, _, _⟩ := uvar_rd l 0 (by omega) h0
    by_cases h2 : x < (rd 0 l).1
    · rw [if_pos h2] at h; simp at h
    · rw [if_neg h2] at h ⊢
      by_cases h3 : l.length - (rd 0 l).2.1 < (rd 0 l).1
      · rw [if_pos h3] at h; simp at h
      · rw [if_neg h3]
        refine ⟨by show 1 ≤ (rd 0 l).2.1 + _; omega, by show (rd 0 l).2.1 + (rd 0 l).1 ≤ _; omega, ?_⟩
        show uvar ((l.drop (rd 0 l).2.1).take (rd 0 l).1).length ++ (l.drop (rd 0 l).2.1).take (rd 0 l).1 = l.take ((rd 0 l).2.1 + (rd 0 l).1)
        have e : ((l.drop (rd 0 l).2.1).take (rd 0 l).1).length = (rd 0 l).1 := by rw [List.length_take, List.length_drop]; omega
        rw [e, ← g3, List.take_add]
theorem rdField_err (l : List UInt8) (x : Int) : (rdField l x).2.2 = 0 ∨ ((rdField l x).2.2 = 3 ∨ (rdField l x).2.2 = 6 ∨ (rdField l x).2.2 = 7) ∧ (rdField l x).1 = [] ∧ (rdField l x).2.1 = 0 := by
  unfold rdField
  by_cases h1 : (rd 0 l).2.2 ≠ 0
  · rw [if_pos h1]
    rcases rd_err 0 l with h | ⟨h, _⟩
    · exact absurd h h1
    · exact Or.inr ⟨Or.inr h, rfl, rfl⟩
  · rw [if_neg h1]
    by_cases h2 : x < (rd 0 l).1
    · rw [if_pos h2]; exact Or.inr ⟨Or.inl rfl, rfl, rfl⟩
    · rw [if_neg h2]
      by_cases h3 : l.length - (rd 0 l).2.1 < (rd 0 l).1
      · rw [if_pos h3]; exact Or.inr ⟨Or.inr (Or.inl rfl), rfl, rfl⟩
      · rw [if_neg h3]; exact Or.inl rfl
end Go.Proofs.Ytlnklpnldmcopaa.Code
/-
  Small words of our own that every text of this seat uses: what a law's walk says of the world; integers of 32 bits; naming. No condition.
-/
namespace Go.Proofs.Ytlnklpnldmcopaa
set_option maxRecDepth 100000
open Go.RowKit
theorem named {α : Type} (a : α) : ∃ x, Hid (x = a) := ⟨a, Lib.hid rfl⟩
theorem below_of {w w1 w2 : World} (h1 : Below w.heap.size w w1) (h2 : Below w1.heap.size w1 w2) : Below w.heap.size w w2 := h1.trans (h2.mono h1.size)
theorem below_alloc (w : World) (o : Obj) : Below w.heap.size w (w.alloc o) := (Below.refl _ _).alloc (Nat.le_refl _) o
theorem u32_bv {x : Int} (h : (Lit.int .u32 x).wf = true) : ∃ v : BitVec 32, x = (v.toNat : Int) := by
  have hx : 0 ≤ x ∧ x ≤ 4294967295 := by simpa [Lit.wf, IntKind.min, IntKind.max, IntKind.signed, IntKind.bits] using h
  refine ⟨BitVec.ofInt 32 x, ?_⟩
  obtain ⟨n, rfl⟩ := Int.eq_ofNat_of_zero_le hx.1
  rw [BitVec.ofInt_natCast, BitVec.toNat_ofNat]
  omega
theorem u8_byte {x : Int} (h : (Lit.int .u8 x).wf = true) : ∃ v : UInt8, x = (v.toNat : Int) := by
  have hx : 0 ≤ x ∧ x ≤ 255 := by simpa [Lit.wf, IntKind.min, IntKind.max, IntKind.signed, IntKind.bits] using h
  obtain ⟨n, rfl⟩ := Int.eq_ofNat_of_zero_le hx.1
  refine ⟨UInt8.ofNat n, ?_⟩
  rw [UInt8.toNat_ofNat']
  omega
theorem i64_range {x : Int} (h : (Lit.int .i64 x).wf = true) : -9223372036854775808 ≤ x ∧ x ≤ 9223372036854775807 := by
  simpa [Lit.wf, IntKind.min, IntKind.max, IntKind.signed, IntKind.bits] using h
theorem reach_max {n : Nat} (h : n ≤ reachBytes) : n ≤ maxLen := by
  unfold reachBytes at h; unfold maxLen; omega
end Go.Proofs.Ytlnklpnldmcopaa
/-
  What a call leaves that writes into one block of cells alone: of what there was, all else stands. No condition.
-/
namespace Go.Proofs.Ytlnklpnldmcopaa
set_option maxRecDepth 100000
open Go.RowKit
/-- Of what there was, block b alone may have turned; more may have been made. -/
structure But (b : Nat) (w w' : World) : Prop where
  os : w'.os = w.os
  tape : w'.tape = w.tape
  output : w'.output = w.output
  size : w.heap.size ≤ w'.heap.size
  block : ∀ k : Nat, k < w.heap.size → k ≠ b → w'.heap[k]? = w.heap[k]?
theorem But.refl (b : Nat) (w : World) : But b w w := ⟨rfl, rfl, rfl, Nat.le_refl _, fun _ _ _ => rfl⟩
theorem But.trans {b : Nat} {x y z : World} (h : But b x y) (k : But b y z) : But b x z :=
  ⟨k.os.trans h.os, k.tape.trans h.tape, k.output.trans h.output, Nat.le_trans h.size k.size, fun j hj hb => (k.block j (Nat.lt_of_lt_of_le hj h.size) hb).trans (h.block j hj hb)⟩
theorem But.of_below {B b : Nat} {w w' : World} (h : Below B w w') (hB : w.heap.size ≤ B) : But b w w' := ⟨h.os, h.tape, h.output, h.size, fun k hk _ => h.block k (Nat.lt_of_lt_of_le hk hB)⟩
theorem But.below {B b : Nat} {w w' : World} (h : But b w w') (hB : B ≤ b) (hs : B ≤ w.heap.size) : Below B w w' := ⟨h.os, h.tape, h.output, h.size, fun k hk => h.block k (Nat.lt_of_lt_of_le hk hs) (by omega)⟩
theorem But.drew {b : Nat} {w w' : World} (h : But b w w') : But b w w'.drew := ⟨h.os, h.tape, h.output, h.size, h.block⟩
theorem But.drewN {b n : Nat} {w w' : World} (h : But b w w') : But b w (w'.drewN n) := ⟨h.os, h.tape, h.output, h.size, h.block⟩
theorem But.setCell {b : Nat} {w w' : World} (h : But b w w') {p : Addr} (hp : p.block = b) (u : Value) : But b w (w'.setCell p u) :=
  have g : Below 0 w' (w'.setCell p u) := (Below.refl 0 w').setCell (Nat.zero_le _) u
  ⟨g.os.trans h.os, g.tape.trans h.tape, g.output.trans h.output, Nat.le_trans h.size g.size, fun k hk hb => (Below.heap_setCell w' p u k (by rw [hp]; exact hb)).trans (h.block k hk hb)⟩
theorem But.alloc {b : Nat} {w w' : World} (h : But b w w') (o : Obj) : But b w (w'.alloc o) :=
  ⟨h.os, h.tape, h.output, by rw [World.size_alloc]; exact Nat.le_succ_of_le h.size, fun k hk hb => (Below.heap_alloc w' o k (Nat.lt_of_lt_of_le hk h.size)).trans (h.block k hk hb)⟩
theorem But.cell {b : Nat} {w w' : World} (h : But b w w') {p : Addr} (hp : p.block < w.heap.size) (hb : p.block ≠ b) : w'.cell? p = w.cell? p := by
  unfold World.cell?
  rw [h.block p.block hp hb]
theorem But.frozen {b : Nat} {w w' : World} (h : But b w w') {p : Addr} (hp : p.block < w.heap.size) (hb : p.block ≠ b) : w'.frozen? p = w.frozen? p := by
  unfold World.frozen?
  rw [h.block p.block hp hb]
theorem below_drewN {B n : Nat} {w w' : World} (h : Below B w w') : Below B w (w'.drewN n) := ⟨h.os, h.tape, h.output, h.size, h.block⟩
end Go.Proofs.Ytlnklpnldmcopaa
/-
  How rows (api.Row) lie in memory, and the contract of the document's SameRows. No condition.
-/
namespace Go.Proofs.Ytlnklpnldmcopaa
set_option maxRecDepth 100000
open Go.RowKit
theorem bytes_inj {s t : ByteArray} (h : s.toList = t.toList) : s = t := by
  rw [ByteArray.toList_eq, ByteArray.toList_eq] at h
  exact ByteArray.ext (Array.toList_inj.1 h)
/-- A row. -/
structure Rw where
  key : ByteArray
  seq : Nat
  kind : Int
  val : ByteArray
/-- Rows as cells. -/
def rowR (l : List Rw) : List Value := l.flatMap fun x => [.string x.key, .int .u64 (x.seq : Int), .int .i64 x.kind, .string x.val]
theorem rowR_len (l : List Rw) : (rowR l).length = l.length * 4 := by
  induction l with
  | nil => rfl
  | cons x r ih => show ([_, _, _, _] ++ rowR r).length = _; rw [List.length_append, ih]; simp; omega
theorem rowR_snoc (l : List Rw) (x : Rw) : rowR (l ++ [x]) = rowR l ++ [.string x.key, .int .u64 (x.seq : Int), .int .i64 x.kind, .string x.val] := by simp [rowR]
theorem rowR_app (l k : List Rw) : rowR (l ++ k) = rowR l ++ rowR k := by simp [rowR]
theorem rowR_at : ∀ (l : List Rw) (j : Nat) {x : Rw}, l[j]? = some x → (rowR l)[j * 4]? = some (.string x.key) ∧ (rowR l)[j * 4 + 1]? = some (.int .u64 (x.seq : Int)) ∧ (rowR l)[j * 4 + 2]? = some (.int .i64 x.kind) ∧ (rowR l)[j * 4 + 3]? = some (.string x.val)
  | [], _, _, h => by cases h
  | y :: r, 0, x, h => by
    obtain rfl : y = x := by simpa using h
    exact ⟨rfl, rfl, rfl, rfl⟩
  | y :: r, j + 1, x, h => by
    obtain ⟨h1, h2, h3, h4⟩ := rowR_at r j (x := x) (by simpa using h)
    refine ⟨?_, ?_, ?_, ?_⟩
    · show (_ :: _ :: _ :: _ :: rowR r)[(j + 1) * 4]? = _
      rw [show (j + 1) * 4 = j * 4 + 1 + 1 + 1 + 1 by omega]; simpa using h1
    · show (_ :: _ :: _ :: _ :: rowR r)[(j + 1) * 4 + 1]? = _
      rw [show (j + 1) * 4 + 1 = j * 4 + 1 + 1 + 1 + 1 + 1 by omega]; simpa using h2
    · show (_ :: _ :: _ :: _ :: rowR r)[(j + 1) * 4 + 2]? = _
      rw [show (j + 1) * 4 + 2 = j * 4 + 2 + 1 + 1 + 1 + 1 by omega]; simpa using h3
    · show (_ :: _ :: _ :: _ :: rowR r)[(j + 1) * 4 + 3]? = _
      rw [show (j + 1) * 4 + 3 = j * 4 + 3 + 1 + 1 + 1 + 1 by omega]; simpa using h4
/-- The rows lie one behind the other from ⟨b, o⟩ on. -/
def RwsAt (b o : Nat) (l : List Rw) (w : World) : Prop :=
  ∀ (j : Nat) x, l[j]? = some x → w.cell? ⟨b, o + j * 4, none⟩ = some (.string x.key) ∧ w.cell? ⟨b, o + j * 4 + 1, none⟩ = some (.int .u64 (x.seq : Int)) ∧ w.cell? ⟨b, o + j * 4 + 2, none⟩ = some (.int .i64 x.kind) ∧ w.cell? ⟨b, o + j * 4 + 3, none⟩ = some (.string x.val)
/-- A slice of rows. -/
structure Rs (a : Option Addr) (n c b o : Nat) (l : List Rw) (w : World) : Prop where
  len : l.length = n
  cap : n ≤ c
  most : c ≤ 9223372036854775807
  addr : 0 < n → a = some ⟨b, o, none⟩ ∧ b < w.heap.size
  at' : RwsAt b o l w
theorem RwsAt.keep {b o : Nat} {l : List Rw} {w w' : World} (h : RwsAt b o l w) (hk : w'.heap[b]? = w.heap[b]?) : RwsAt b o l w' := fun j x hx => by
  have e : ∀ a, w'.cell? ⟨b, a, none⟩ = w.cell? ⟨b, a, none⟩ := fun a => World.cell?_of_block (a := ⟨b, a, none⟩) hk
  rw [e, e, e, e]; exact h j x hx
theorem RwsAt.nil (b o : Nat) (w : World) : RwsAt b o [] w := fun j x h => by cases h
theorem Rs.keep {a : Option Addr} {n c b o : Nat} {l : List Rw} {w w' : World} (h : Rs a n c b o l w) (hk : 0 < n → w'.heap[b]? = w.heap[b]?) (hs : w.heap.size ≤ w'.heap.size) : Rs a n c b o l w' := by
  refine ⟨h.len, h.cap, h.most, fun h0 => ⟨(h.addr h0).1, Nat.lt_of_lt_of_le (h.addr h0).2 hs⟩, ?_⟩
  by_cases h0 : 0 < n
  · exact h.at'.keep (hk h0)
  · have : l = [] := List.length_eq_zero_iff.1 (by rw [h.len]; omega)
    subst this
    exact RwsAt.nil _ _ _
theorem Rs.below {B : Nat} {a : Option Addr} {n c b o : Nat} {l : List Rw} {w w' : World} (h : Rs a n c b o l w) (hb : Below B w w') (hB : w.heap.size ≤ B) : Rs a n c b o l w' := h.keep (fun h0 => hb.block b (Nat.lt_of_lt_of_le (h.addr h0).2 hB)) hb.size
theorem Rs.at4 {a : Option Addr} {n c b o : Nat} {l : List Rw} {w : World} (h : Rs a n c b o l w) {j : Nat} (hj : j < n) : ∃ x, l[j]? = some x ∧ a = some ⟨b, o, none⟩ ∧ w.cell? ⟨b, o + j * 4, none⟩ = some (.string x.key) ∧ w.cell? ⟨b, o + j * 4 + 1, none⟩ = some (.int .u64 (x.seq : Int)) ∧ w.cell? ⟨b, o + j * 4 + 2, none⟩ = some (.int .i64 x.kind) ∧ w.cell? ⟨b, o + j * 4 + 3, none⟩ = some (.string x.val) := by
  obtain ⟨x, hx⟩ : ∃ x, l[j]? = some x := ⟨_, List.getElem?_eq_getElem (by rw [h.len]; exact hj)⟩
  exact ⟨x, hx, (h.addr (by omega)).1, h.at' j x hx⟩
/-- An own row of rows is a slice of rows. -/
theorem rs_of_row {w : World} {B : Nat} {v : Value} {l : List Rw} (h : w.ownsRow B 38 4 v l.length (rowR l)) : ∃ a c b, v = .slice a l.length c ∧ Rs a l.length c b 0 l w ∧ (0 < l.length → B ≤ b) := by
  rcases h.2 with ⟨rfl, hz⟩ | ⟨g, cap, cur, rfl, hg, hb, hn, hm, hs, ht⟩
  · have : l = [] := List.length_eq_zero_iff.1 hz
    subst this
    exact ⟨none, 0, 0, rfl, ⟨rfl, Nat.le_refl _, by omega, fun h => absurd h (by simp), RwsAt.nil _ _ _⟩, fun h => absurd h (by simp)⟩
  · refine ⟨_, _, g, rfl, ⟨rfl, hn, hm, fun _ => ⟨rfl, (Array.getElem?_eq_some_iff.1 hb).1⟩, fun j x hx => ?_⟩, fun _ => hg⟩
    have hj : j < l.length := (List.getElem?_eq_some_iff.1 hx).1
    obtain ⟨e0, e1, e2, e3⟩ := rowR_at l j hx
    rw [Nat.zero_add]
    exact ⟨(World.ownsRow.cellAt h _ (by omega)).trans e0, (World.ownsRow.cellAt h _ (by omega)).trans e1, (World.ownsRow.cellAt h _ (by omega)).trans e2, (World.ownsRow.cellAt h _ (by omega)).trans e3⟩
theorem rw_eq {s1 s2 : Nat} {k1 k2 : Int} {a1 a2 v1 v2 : ByteArray} : (⟨a1, s1, k1, v1⟩ : Rw) = ⟨a2, s2, k2, v2⟩ ↔ a1.toList = a2.toList ∧ (s1 : Int) = (s2 : Int) ∧ k1 = k2 ∧ v1.toList = v2.toList := by
  simp only [Rw.mk.injEq]
  exact ⟨fun ⟨h1, h2, h3, h4⟩ => ⟨by rw [h1], by omega, h3, by rw [h4]⟩, fun ⟨h1, h2, h3, h4⟩ => ⟨bytes_inj h1, by omega, h3, bytes_inj h4⟩⟩
theorem neq_rw (xs ys : ByteArray) (xn yn : Nat) (xk yk : Int) (xv yv : ByteArray) (B : Bool) (hB : B = true ↔ ¬ (⟨xs, xn, xk, xv⟩ : Rw) = ⟨ys, yn, yk, yv⟩) (u : World) : (binOp .neq 38 (.agg #[.string xs, .int .u64 (xn : Int), .int .i64 xk, .string xv]) (.agg #[.string ys, .int .u64 (yn : Int), .int .i64 yk, .string yv])).run Try.prog u = .ok (.bool B) u := by
  rw [rw_eq] at hB
  go_simp
  by_cases h1 : xs.toList = ys.toList
  · by_cases h2 : (xn : Int) = (yn : Int)
    · by_cases h3 : xk = yk
      · by_cases h4 : xv.toList = yv.toList
        · have : B = false := by cases B <;> simp_all
          simp [h1, h2, h3, h4, this]
        · have : B = true := hB.2 (fun h => h4 h.2.2.2)
          simp [h1, h2, h3, h4, this]
      · have : B = true := hB.2 (fun h => h3 h.2.2.1)
        simp [h1, h2, h3, this]
    · have : B = true := hB.2 (fun h => h2 h.2.1)
      simp [h1, h2, this]
  · have : B = true := hB.2 (fun h => h1 h.1)
    simp [h1, this]
open Classical in
set_option maxRecDepth 100000 in
set_option maxHeartbeats 4000000 in
theorem samerows_any {p1 p2 : Option Addr} {n1 c1 b1 o1 n2 c2 b2 o2 : Nat} {l1 l2 : List Rw} {w : World} (h1 : Rs p1 n1 c1 b1 o1 l1 w) (h2 : Rs p2 n2 c2 b2 o2 l2 w) :
    Calls Try.prog 11 #[.slice p1 n1 c1, .slice p2 n2 c2] w fun e w' => e = .returned (.bool (decide (l1 = l2))) ∧ Below w.heap.size w w' := by
  have m1 := h1.most
  have m2 := h2.most
  have q1 := h1.cap
  have q2 := h2.cap
  by_cases hn : n1 = n2
  · subst hn
    have g2 : (((n1 : Nat) : Int) != ((n1 : Nat) : Int)) = false := by rw [bne_eq_false_iff_eq]
    obtain ⟨R, hR⟩ := named (decide (l1 = l2))
    rw [← hR.out]
    have e1 := Lib.hid h1.len
    have e2 := Lib.hid h2.len
    have h1 := Lib.hid h1
    have h2 := Lib.hid h2
    go_enter Try.func11, Try.ntmps11
    go_wp2_with fail
    go_loopw [5] (fun i wr => ∃ j : Nat, j ≤ n1 ∧ i = .int .i64 (j : Int) ∧ l1.take j = l2.take j ∧ Below w.heap.size w wr) (fun i _ => n1 - (intOf i).toNat)
    case atStart => exact ⟨0, Nat.zero_le _, rfl, rfl, Below.refl _ _⟩
    case round =>
      obtain ⟨j, hj, rfl, ht, hb⟩ := hrel
      by_cases hlt : j < n1
      · obtain ⟨x, hx, rfl, a0, a1, a2, a3⟩ := (h1.out.below hb (Nat.le_refl _)).at4 hlt
        obtain ⟨y, hy, rfl, d0, d1, d2, d3⟩ := (h2.out.below hb (Nat.le_refl _)).at4 hlt
        obtain ⟨xs, xn, xk, xv⟩ := x
        obtain ⟨ys, yn, yk, yv⟩ := y
        simp only at a0 a1 a2 a3 d0 d1 d2 d3
        have hx := Lib.hid hx
        have hy := Lib.hid hy
        have ht := Lib.hid ht
        have hb := Lib.hid hb
        by_cases hxy : (⟨xs, xn, xk, xv⟩ : Rw) = ⟨ys, yn, yk, yv⟩
        · have NEQ : ∀ u : World, (binOp .neq 38 (.agg #[.string xs, .int .u64 (xn : Int), .int .i64 xk, .string xv]) (.agg #[.string ys, .int .u64 (yn : Int), .int .i64 yk, .string yv])).run Try.prog u = .ok (.bool false) u := fun u => neq_rw _ _ _ _ _ _ _ _ _ (by simp [hxy]) u
          have ht2 : Hid (l1.take (j + 1) = l2.take (j + 1)) := Lib.hid (by rw [List.take_add_one, List.take_add_one, ht.out, hx.out, hy.out, hxy])
          clear hxy ht
          go_upto_region 6 with fail
          go_quiet (fail)
          go_wp2_with fail
          go_roundw
          case rel => exact ⟨j + 1, by omega, by go_num, ht2.out, below_drewN hb.out⟩
          case measure => simp [intOf]; omega
        · have NEQ : ∀ u : World, (binOp .neq 38 (.agg #[.string xs, .int .u64 (xn : Int), .int .i64 xk, .string xv]) (.agg #[.string ys, .int .u64 (yn : Int), .int .i64 yk, .string yv])).run Try.prog u = .ok (.bool true) u := fun u => neq_rw _ _ _ _ _ _ _ _ _ (by simpa using hxy) u
          have hR0 : R = false := by
            rw [hR.out, decide_eq_false_iff_not]
            intro e
            have h1 := hx.out
            rw [e, hy.out] at h1
            exact hxy (Option.some.inj h1).symm
          subst hR0
          clear hxy ht
          go_upto_region 6 with fail
          go_quiet (fail)
          go_wp2_with fail
          go_returns
          exact ⟨rfl, below_drewN hb.out⟩
      · have hjn : j = n1 := by omega
        subst hjn
        have hR1 : R = true := by
          rw [hR.out, decide_eq_true_eq]
          rw [← e1.out, List.take_length] at ht
          rw [ht, e1.out, ← e2.out, List.take_length]
        subst hR1
        go_wp2_with fail
        go_returns
        exact ⟨rfl, hb⟩
  · have hR : decide (l1 = l2) = false := by
      rw [decide_eq_false_iff_not]
      intro e
      rw [e] at h1
      exact hn (h1.len.symm.trans h2.len)
    rw [hR]
    have g2 : (((n1 : Nat) : Int) != ((n2 : Nat) : Int)) = true := by rw [bne_iff_ne]; omega
    clear h1 h2 hR
    go_enter Try.func11, Try.ntmps11
    go_wp2_with fail
    go_returns
    exact ⟨rfl, Below.refl _ _⟩
end Go.Proofs.Ytlnklpnldmcopaa
/-
  A skip list as plain data: rows in order, each with a height; where a search comes to; what inserting makes of it. No condition.
-/
namespace Go.Proofs.Ytlnklpnldmcopaa
set_option maxRecDepth 100000
open Go.RowKit
theorem less_before : ∀ a b : List UInt8, Op.bytesLess a b = bytesBefore a b := by
  intro a
  induction a with
  | nil => intro b; cases b <;> simp [Op.bytesLess, bytesBefore]
  | cons x r ih => intro b; cases b <;> simp [Op.bytesLess, bytesBefore, ih]
/-- The row x stands ahead of the place of k and q. -/
def ahd (x : Rw) (k : ByteArray) (q : Nat) : Bool := if x.key.toList = k.toList then decide (q < x.seq) else bytesBefore x.key.toList k.toList
def sameP (x : Rw) (k : ByteArray) (q : Nat) : Prop := x.key.toList = k.toList ∧ x.seq = q
theorem ahd_irrefl {x : Rw} {k : ByteArray} {q : Nat} (h : sameP x k q) : ahd x k q = false := by
  unfold ahd; rw [if_pos h.1, h.2]; simp
theorem ahd_trans {x y : Rw} {k : ByteArray} {q : Nat} (h1 : ahd x y.key y.seq = true) (h2 : ahd y k q = true) : ahd x k q = true := by
  unfold ahd at *
  by_cases e1 : x.key.toList = y.key.toList
  · rw [if_pos e1] at h1
    by_cases e2 : y.key.toList = k.toList
    · rw [if_pos e2] at h2
      rw [if_pos (e1.trans e2)]
      simp only [decide_eq_true_eq] at *
      omega
    · rw [if_neg e2] at h2
      rw [if_neg (by rw [e1]; exact e2), e1]; exact h2
  · rw [if_neg e1] at h1
    by_cases e2 : y.key.toList = k.toList
    · rw [if_neg (by rw [← e2]; exact e1), ← e2]; exact h1
    · rw [if_neg e2] at h2
      have h3 := WideShapes.bytes_trans _ _ _ h1 h2
      rw [if_neg (fun e => by rw [e, WideAt.bytes_irrefl] at h3; cases h3)]; exact h3
theorem ahd_total {x y : Rw} (h : ¬ sameP x y.key y.seq) : ahd x y.key y.seq = true ∨ ahd y x.key x.seq = true := by
  unfold ahd
  by_cases e : x.key.toList = y.key.toList
  · rw [if_pos e, if_pos e.symm]
    have : x.seq ≠ y.seq := fun e2 => h ⟨e, e2⟩
    simp only [decide_eq_true_eq]
    omega
  · rw [if_neg e, if_neg (fun e2 => e e2.symm)]
    exact WideAt.bytes_total _ _ e
/-- The place of a row counts alone. -/
theorem ahd_same {x y : Rw} {k : ByteArray} {q : Nat} (h : sameP y k q) : ahd x y.key y.seq = ahd x k q := by
  unfold ahd; rw [h.1, h.2]
theorem ahd_left {x y : Rw} {k : ByteArray} {q : Nat} (h : sameP x y.key y.seq) : ahd x k q = ahd y k q := by
  unfold ahd; rw [h.1, h.2]
def SortedR (l : List Rw) : Prop := l.Pairwise fun x y => ahd x y.key y.seq = true
/-- How many rows stand ahead of a place. -/
def plc (l : List Rw) (k : ByteArray) (q : Nat) : Nat := (l.takeWhile fun x => ahd x k q).length
theorem plc_le (l : List Rw) (k : ByteArray) (q : Nat) : plc l k q ≤ l.length := (List.takeWhile_prefix _).length_le
theorem plc_iff : ∀ {l : List Rw}, SortedR l → ∀ {k : ByteArray} {q j : Nat} {x : Rw}, l[j]? = some x → (ahd x k q = true ↔ j < plc l k q)
  | [], _, _, _, _, _, h => by cases h
  | y :: r, hs, k, q, j, x, hx => by
    have hs' := List.pairwise_cons.1 hs
    unfold plc
    rw [List.takeWhile_cons]
    by_cases hy : ahd y k q = true
    · rw [if_pos hy]
      cases j with
      | zero =>
        obtain rfl : y = x := by simpa using hx
        simp [hy]
      | succ j =>
        have := plc_iff hs'.2 (k := k) (q := q) (j := j) (x := x) (by simpa using hx)
        rw [this]; unfold plc; simp
    · rw [if_neg hy]
      have : ahd x k q = false := by
        cases j with
        | zero =>
          obtain rfl : y = x := by simpa using hx
          simpa using hy
        | succ j =>
          have hm : x ∈ r := List.mem_of_getElem? (i := j) (by simpa using hx)
          cases e : ahd x k q with
          | false => rfl
          | true => exact absurd (ahd_trans (hs'.1 x hm) e) hy
      simp [this]
theorem plc_front {l : List Rw} {k : ByteArray} {q : Nat} {x : Rw} (hx : x ∈ l.take (plc l k q)) : ahd x k q = true := by
  have e : l.take (plc l k q) = l.takeWhile fun x => ahd x k q := by
    have := List.prefix_iff_eq_take.1 (List.takeWhile_prefix (l := l) fun x => ahd x k q)
    exact this.symm
  rw [e] at hx
  have : ∀ (l : List Rw), ∀ y ∈ l.takeWhile (fun x => ahd x k q), ahd y k q = true := by
    intro l
    induction l with
    | nil => intro y hy; cases hy
    | cons z r ih =>
      intro y hy
      rw [List.takeWhile_cons] at hy
      split at hy
      · rcases List.mem_cons.1 hy with rfl | h
        · assumption
        · exact ih y h
      · cases hy
  exact this l x hx
theorem plc_back {l : List Rw} (hs : SortedR l) {k : ByteArray} {q : Nat} {x : Rw} (hx : x ∈ l.drop (plc l k q)) : ahd x k q = false := by
  obtain ⟨j, hj⟩ := List.mem_iff_getElem?.1 hx
  rw [List.getElem?_drop] at hj
  have := plc_iff hs (k := k) (q := q) hj
  cases e : ahd x k q with
  | false => rfl
  | true => exact absurd (this.1 e) (by omega)
/-- There is a row of that place. -/
def thr (l : List Rw) (k : ByteArray) (q : Nat) : Bool := match l[plc l k q]? with | some x => decide (x.key.toList = k.toList) && decide (x.seq = q) | none => false
theorem thr_iff {l : List Rw} (hs : SortedR l) {k : ByteArray} {q : Nat} : thr l k q = true ↔ ∃ x ∈ l, sameP x k q := by
  unfold thr
  constructor
  · intro h
    split at h
    · rename_i x hx
      rw [Bool.and_eq_true, decide_eq_true_eq, decide_eq_true_eq] at h
      exact ⟨x, List.mem_of_getElem? hx, h⟩
    · cases h
  · rintro ⟨x, hm, hx⟩
    obtain ⟨j, hj⟩ := List.mem_iff_getElem?.1 hm
    have h1 := plc_iff hs (k := k) (q := q) hj
    rw [ahd_irrefl hx] at h1
    have h2 : plc l k q ≤ j := by
      rcases Nat.lt_or_ge j (plc l k q) with h | h
      · exact absurd (h1.2 h) (by simp)
      · exact h
    have hjl : j < l.length := (List.getElem?_eq_some_iff.1 hj).1
    obtain ⟨y, hy⟩ : ∃ y, l[plc l k q]? = some y := ⟨_, List.getElem?_eq_getElem (by omega)⟩
    rw [hy]
    rcases Nat.eq_or_lt_of_le h2 with e | hlt
    · rw [e, hj] at hy
      cases hy
      simp only [Bool.and_eq_true, decide_eq_true_eq]
      exact hx
    · have h3 : ahd y x.key x.seq = true := by
        have := List.pairwise_iff_getElem.1 hs _ _ (by omega) hjl hlt
        rw [(List.getElem?_eq_some_iff.1 hy).2, (List.getElem?_eq_some_iff.1 hj).2] at this
        exact this
      rw [ahd_same hx] at h3
      exact absurd ((plc_iff hs hy).1 h3) (by omega)
/-- A row put in. -/
def insR (l : List Rw) (x : Rw) : List Rw := l.take (plc l x.key x.seq) ++ x :: l.drop (plc l x.key x.seq)
theorem insR_sorted {l : List Rw} (hs : SortedR l) {x : Rw} (ht : thr l x.key x.seq = false) : SortedR (insR l x) := by
  unfold insR SortedR
  have hsp : SortedR (l.take (plc l x.key x.seq) ++ l.drop (plc l x.key x.seq)) := by rw [List.take_append_drop]; exact hs
  rw [SortedR, List.pairwise_append] at hsp
  rw [List.pairwise_append, List.pairwise_cons]
  refine ⟨hsp.1, ⟨fun y hy => ?_, hsp.2.1⟩, fun a ha b hb => ?_⟩
  · have h1 := plc_back hs hy
    have h2 : ¬ sameP y x.key x.seq := fun e => by
      have := (thr_iff hs (k := x.key) (q := x.seq)).2 ⟨y, List.mem_of_mem_drop hy, e⟩
      rw [ht] at this; cases this
    rcases ahd_total h2 with h | h
    · rw [h1] at h; cases h
    · exact h
  · rcases List.mem_cons.1 hb with rfl | h
    · exact plc_front ha
    · exact hsp.2.2 a ha b h
theorem insR_perm (l : List Rw) (x : Rw) : (insR l x).Perm (x :: l) := by
  unfold insR
  have h : (l.take (plc l x.key x.seq) ++ x :: l.drop (plc l x.key x.seq)).Perm (x :: (l.take (plc l x.key x.seq) ++ l.drop (plc l x.key x.seq))) := List.perm_middle
  rwa [List.take_append_drop] at h
theorem insR_len (l : List Rw) (x : Rw) : (insR l x).length = l.length + 1 := (insR_perm l x).length_eq
/-- Heights: how far one goes at level h, and in how many steps. -/
def hopI (h : Nat) : List Nat → Nat
  | [] => 0
  | x :: r => if hopI h r = 0 then (if h < x then 1 else 0) else hopI h r + 1
theorem hopI_cons (h x : Nat) (r : List Nat) : hopI h (x :: r) = if hopI h r = 0 then (if h < x then 1 else 0) else hopI h r + 1 := rfl
def hopC (h : Nat) (l : List Nat) : Nat := l.countP fun x => decide (h < x)
theorem hop_le (h : Nat) : ∀ l : List Nat, hopC h l ≤ hopI h l ∧ hopI h l ≤ l.length
  | [] => by simp [hopC, hopI]
  | x :: r => by
    obtain ⟨h1, h2⟩ := hop_le h r
    unfold hopC at *
    rw [List.countP_cons]
    rw [hopI_cons]
    simp only [List.length_cons, decide_eq_true_eq]
    by_cases hx : h < x
    · by_cases h0 : hopI h r = 0
      · simp only [hx, h0, if_true]; omega
      · simp only [hx, h0, if_true, if_false]; omega
    · by_cases h0 : hopI h r = 0
      · simp only [hx, h0, if_true, if_false]; omega
      · simp only [hx, h0, if_false]; omega
theorem hop_low (h : Nat) : ∀ l : List Nat, (∀ x ∈ l, x ≤ h) → hopI h l = 0 ∧ hopC h l = 0
  | [], _ => by simp [hopC, hopI]
  | x :: r, hl => by
    obtain ⟨h1, h2⟩ := hop_low h r fun y hy => hl y (List.mem_cons_of_mem _ hy)
    have hx : ¬ h < x := by have := hl x (by simp); omega
    unfold hopC at *
    rw [List.countP_cons]
    rw [hopI_cons]
    simp [h1, h2, hx]
theorem hop_hit (h x : Nat) (r : List Nat) (hx : h < x) : ∀ a : List Nat, (∀ y ∈ a, y ≤ h) → hopI h (a ++ x :: r) = a.length + 1 + hopI h r ∧ hopC h (a ++ x :: r) = 1 + hopC h r
  | [], _ => by
    unfold hopC
    rw [List.nil_append, List.countP_cons]
    rw [hopI_cons]
    simp only [hx, decide_true, if_true, List.length_nil]
    constructor
    · split <;> omega
    · omega
  | y :: a, ha => by
    obtain ⟨h1, h2⟩ := hop_hit h x r hx a fun z hz => ha z (List.mem_cons_of_mem _ hz)
    have hy : ¬ h < y := by have := ha y (by simp); omega
    unfold hopC at *
    rw [List.cons_append, List.countP_cons]
    rw [hopI_cons, h1, h2]
    simp only [hy, decide_false, List.length_cons]
    constructor
    · rw [if_neg (by omega)]; omega
    · simp
theorem hop_snoc (h x : Nat) : ∀ l : List Nat, hopI h (l ++ [x]) = (if h < x then l.length + 1 else hopI h l) ∧ hopC h (l ++ [x]) = hopC h l + (if h < x then 1 else 0)
  | [] => by
    unfold hopC
    by_cases hx : h < x <;> simp [hopI, hx]
  | y :: r => by
    obtain ⟨h1, h2⟩ := hop_snoc h x r
    unfold hopC at *
    rw [List.cons_append, List.countP_cons, List.countP_cons, h2]
    rw [hopI_cons, hopI_cons, h1]
    constructor
    · by_cases hx : h < x
      · simp only [hx, if_true, List.length_cons]; rw [if_neg (by omega)]
      · simp only [hx, if_false]
    · omega
theorem hop_rest (h : Nat) : ∀ l : List Nat, ∀ x ∈ l.drop (hopI h l), x ≤ h
  | [], x, hx => by simp at hx
  | y :: r, x, hx => by
    rw [hopI_cons] at hx
    by_cases h0 : hopI h r = 0
    · have hr := hop_rest h r
      rw [h0, List.drop_zero] at hr
      rw [if_pos h0] at hx
      by_cases hy : h < y
      · rw [if_pos hy, List.drop_succ_cons, List.drop_zero] at hx
        exact hr x hx
      · rw [if_neg hy, List.drop_zero] at hx
        rcases List.mem_cons.1 hx with rfl | hx
        · omega
        · exact hr x hx
    · rw [if_neg h0, List.drop_succ_cons] at hx
      exact hop_rest h r x hx
theorem hop_last (h : Nat) : ∀ l : List Nat, hopI h l ≠ 0 → ∃ x, l[hopI h l - 1]? = some x ∧ h < x
  | [], h0 => absurd rfl h0
  | y :: r, h0 => by
    rw [hopI_cons] at h0 ⊢
    by_cases h1 : hopI h r = 0
    · rw [if_pos h1] at h0 ⊢
      by_cases hy : h < y
      · rw [if_pos hy]; exact ⟨y, by simp, hy⟩
      · rw [if_neg hy] at h0; exact absurd rfl h0
    · rw [if_neg h1]
      obtain ⟨x, hx, hlt⟩ := hop_last h r h1
      refine ⟨x, ?_, hlt⟩
      have : hopI h r + 1 - 1 = (hopI h r - 1) + 1 := by omega
      rw [this, List.getElem?_cons_succ]; exact hx
/-- Behind k levels, from the highest one down: how far, and in how many steps. -/
def dn (hs : List Nat) : Nat → Nat × Nat
  | 0 => (0, 0)
  | k + 1 => ((dn hs k).1 + hopI (11 - k) (hs.drop (dn hs k).1), (dn hs k).2 + hopC (11 - k) (hs.drop (dn hs k).1))
theorem dn_le (hs : List Nat) : ∀ k, (dn hs k).1 ≤ hs.length ∧ (dn hs k).2 ≤ (dn hs k).1
  | 0 => ⟨Nat.zero_le _, Nat.le_refl _⟩
  | k + 1 => by
    obtain ⟨h1, h2⟩ := dn_le hs k
    obtain ⟨h3, h4⟩ := hop_le (11 - k) (hs.drop (dn hs k).1)
    rw [List.length_drop] at h4
    simp only [dn]
    omega
theorem dn_last {hs : List Nat} (hh : ∀ x ∈ hs, x ≤ 12) : ∀ k, k ≤ 12 → ((dn hs k).1 = 0 ∨ ∃ x, hs[(dn hs k).1 - 1]? = some x ∧ 12 - k < x) ∧ ∀ x ∈ hs.drop (dn hs k).1, x ≤ 12 - k
  | 0, _ => ⟨.inl rfl, fun x hx => by have := hh x (List.mem_of_mem_drop hx); omega⟩
  | k + 1, hk => by
    obtain ⟨h1, h2⟩ := dn_last hh k (by omega)
    have e : 12 - (k + 1) = 11 - k := by omega
    rw [e]
    simp only [dn]
    have h3 := hop_rest (11 - k) (hs.drop (dn hs k).1)
    rw [List.drop_drop] at h3
    refine ⟨?_, h3⟩
    by_cases h0 : hopI (11 - k) (hs.drop (dn hs k).1) = 0
    · rw [h0, Nat.add_zero]
      rcases h1 with h | ⟨x, hx, hlt⟩
      · exact .inl h
      · exact .inr ⟨x, hx, by omega⟩
    · obtain ⟨x, hx, hlt⟩ := hop_last _ _ h0
      rw [List.getElem?_drop] at hx
      refine .inr ⟨x, ?_, hlt⟩
      rw [show (dn hs k).1 + hopI (11 - k) (hs.drop (dn hs k).1) - 1 = (dn hs k).1 + (hopI (11 - k) (hs.drop (dn hs k).1) - 1) by omega]
      exact hx
def stp (hs : List Nat) : Nat := (dn hs 12).2
theorem stp_le (hs : List Nat) : stp hs ≤ hs.length := Nat.le_trans (dn_le hs 12).2 (dn_le hs 12).1
theorem stp_one {hs : List Nat} (h : ∀ x ∈ hs, x = 1) : stp hs = hs.length := by
  have low : ∀ k, k ≤ 11 → dn hs k = (0, 0) := by
    intro k
    induction k with
    | zero => intro _; rfl
    | succ k ih =>
      intro hk
      have e := hop_low (11 - k) hs fun x hx => by have := h x hx; omega
      simp [dn, ih (by omega), e.1, e.2]
  have : hopC 0 hs = hs.length := by
    unfold hopC
    rw [List.countP_eq_length]
    intro x hx
    rw [h x hx]; simp
  unfold stp
  show (dn hs 11).2 + hopC (11 - 11) (hs.drop (dn hs 11).1) = _
  rw [low 11 (by omega)]
  simp [this]
/-- A height as it counts. -/
def hgtOf (h : Int) : Nat := if h < 1 then 1 else if 12 < h then 12 else h.toNat
theorem hgtOf_range (h : Int) : 1 ≤ hgtOf h ∧ hgtOf h ≤ 12 := by unfold hgtOf; split <;> (try split) <;> omega
/-- The greatest of heights. -/
def topH (hs : List Nat) : Nat := hs.foldl max 0
theorem foldl_max : ∀ (hs : List Nat) (a : Nat), hs.foldl max a = max a (topH hs)
  | [], a => by simp [topH]
  | x :: r, a => by unfold topH; rw [List.foldl_cons, List.foldl_cons, foldl_max r, foldl_max r (max 0 x)]; omega
theorem topH_cons (x : Nat) (r : List Nat) : topH (x :: r) = max x (topH r) := by
  show (x :: r).foldl max 0 = _
  rw [List.foldl_cons, foldl_max]; omega
theorem topH_app (a b : List Nat) : topH (a ++ b) = max (topH a) (topH b) := by
  show (a ++ b).foldl max 0 = _
  rw [List.foldl_append, foldl_max]; rfl
theorem topH_le {hs : List Nat} (h : ∀ x ∈ hs, x ≤ 12) : topH hs ≤ 12 := by
  induction hs with
  | nil => simp [topH]
  | cons x r ih =>
    rw [topH_cons]
    have := h x (by simp)
    have := ih fun y hy => h y (List.mem_cons_of_mem _ hy)
    omega
/-- A list: rows in order, each with its height. -/
abbrev SL := List (Rw × Nat)
def rowsL (l : SL) : List Rw := l.map (·.1)
def hgtsL (l : SL) : List Nat := l.map (·.2)
def plL (l : SL) (k : ByteArray) (q : Nat) : Nat := plc (rowsL l) k q
def insL (l : SL) (x : Rw) (h : Nat) : SL := l.take (plL l x.key x.seq) ++ (x, h) :: l.drop (plL l x.key x.seq)
def thrL (l : SL) (k : ByteArray) (q : Nat) : Bool := thr (rowsL l) k q
def putL (l : SL) (x : Rw) (h : Nat) : SL := if thrL l x.key x.seq = true then l else insL l x h
def stepsL (l : SL) (k : ByteArray) (q : Nat) : Nat := stp ((hgtsL l).take (plL l k q))
theorem rows_insL (l : SL) (x : Rw) (h : Nat) : rowsL (insL l x h) = insR (rowsL l) x := by
  unfold insL insR plL rowsL
  rw [List.map_append, List.map_cons, List.map_take, List.map_drop]
theorem hgts_insL (l : SL) (x : Rw) (h : Nat) : hgtsL (insL l x h) = (hgtsL l).take (plL l x.key x.seq) ++ h :: (hgtsL l).drop (plL l x.key x.seq) := by
  unfold insL hgtsL
  rw [List.map_append, List.map_cons, List.map_take, List.map_drop]
theorem top_insL (l : SL) (x : Rw) (h : Nat) : topH (hgtsL (insL l x h)) = max (topH (hgtsL l)) h := by
  rw [hgts_insL, topH_app, topH_cons]
  have e : topH (hgtsL l) = max (topH ((hgtsL l).take (plL l x.key x.seq))) (topH ((hgtsL l).drop (plL l x.key x.seq))) := by
    rw [← topH_app, List.take_append_drop]
  rw [e]; omega
theorem rows_len (l : SL) : (rowsL l).length = l.length := by unfold rowsL; simp
theorem hgts_len (l : SL) : (hgtsL l).length = l.length := by unfold hgtsL; simp
end Go.Proofs.Ytlnklpnldmcopaa
