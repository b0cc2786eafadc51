/-
  Plain mathematics of the short numbers, the ordered numbers, the ordered texts and the fields: what is written, what is read, and how the one comes to the other. No model's run in this text. No condition.
-/
import Derived.Test.YtnmjfdejgfmoiaaPack7
import Derived.Lib.ReplaceLaws
import Derived.Lib.Index
import Derived.Lib.IndexBytes
import Derived.WalkMore
import Derived.ScopeJumps
import Derived.Test.YtnmjfdejgfmoiaaRows
import Derived.Shelf.Abstract
import Derived.WalkKit
import Derived.IntWalk
import Derived.RegionTactic
import Derived.BigQuiet
import Derived.ChangeAlike
import Derived.Deep.QuietTactic
import Derived.Handy
import Derived.Laws.IdiomStrings
import Derived.Outline
import Derived.Test.YtnmjfdejgfmoiaaShelf
import Derived.Deep.RegionWith
import Derived.Laws.AppendOwn
import Derived.OwnWalk
import Derived.Laws.DeepStrings4
import Derived.Deep.RegionHeld3
namespace Go.Proofs.Ytnmjfdejgfmoiaa.Code
/-- The short number of n. -/
def uvar (n : Nat) : List UInt8 := if n < 128 then [UInt8.ofNat n] else UInt8.ofNat (n % 128 + 128) :: uvar (n / 128)
termination_by n
decreasing_by omega
theorem uvar_small {n : Nat} (h : n < 128) : uvar n = [UInt8.ofNat n] := by rw [uvar, if_pos h]
theorem uvar_great {n : Nat} (h : ¬ n < 128) : uvar n = UInt8.ofNat (n % 128 + 128) :: uvar (n / 128) := by rw [uvar, if_neg h]
/-- What is read at place i of a short number: the number, its bytes, the error. -/
def rd : Nat → List UInt8 → Nat × Nat × Nat
  | _, [] => (0, 0, 6)
  | i, b :: l =>
    if (b.toNat = 0 ∧ 0 < i) ∨ (1 < b.toNat ∧ i = 9) then (0, 0, 7)
    else if b.toNat < 128 then (b.toNat, 1, 0)
    else if (rd (i + 1) l).2.2 = 0 then (b.toNat % 128 + 128 * (rd (i + 1) l).1, (rd (i + 1) l).2.1 + 1, 0) else (0, 0, (rd (i + 1) l).2.2)
theorem rd_nil (i : Nat) : rd i [] = (0, 0, 6) := by simp [rd]
theorem rd_form {i : Nat} {b : UInt8} (l : List UInt8) (h : (b.toNat = 0 ∧ 0 < i) ∨ (1 < b.toNat ∧ i = 9)) : rd i (b :: l) = (0, 0, 7) := by rw [rd, if_pos h]
theorem rd_last {i : Nat} {b : UInt8} (l : List UInt8) (h : ¬ ((b.toNat = 0 ∧ 0 < i) ∨ (1 < b.toNat ∧ i = 9))) (hb : b.toNat < 128) : rd i (b :: l) = (b.toNat, 1, 0) := by rw [rd, if_neg h, if_pos hb]
theorem rd_more {i : Nat} {b : UInt8} (l : List UInt8) (h : i ≠ 9) (hb : ¬ b.toNat < 128) :
    rd i (b :: l) = if (rd (i + 1) l).2.2 = 0 then (b.toNat % 128 + 128 * (rd (i + 1) l).1, (rd (i + 1) l).2.1 + 1, 0) else (0, 0, (rd (i + 1) l).2.2) := by
  rw [rd, if_neg (by omega), if_neg hb]
theorem rd_err (i : Nat) (l : List UInt8) : (rd i l).2.2 = 0 ∨ ((rd i l).2.2 = 6 ∨ (rd i l).2.2 = 7) ∧ (rd i l).1 = 0 ∧ (rd i l).2.1 = 0 := by
  induction l generalizing i with
  | nil => rw [rd_nil]; simp
  | cons b l ih =>
    rw [rd]
    split
    · simp
    · split
      · simp
      · split
        · simp
        · rename_i h; rcases ih (i + 1) with h0 | ⟨h1, _, _⟩
          · exact absurd h0 h
          · exact Or.inr ⟨h1, rfl, rfl⟩
/-- Of what place i on is read, with i bytes read ahead that told acc: the whole. -/
def lift (i acc : Nat) (r : Nat × Nat × Nat) : Nat × Nat × Nat := if r.2.2 = 0 then (acc + 128 ^ i * r.1, r.2.1 + i, 0) else (0, 0, r.2.2)
theorem lift_zero (l : List UInt8) : lift 0 0 (rd 0 l) = rd 0 l := by
  unfold lift
  rcases rd_err 0 l with h | ⟨h, h1, h2⟩
  · rw [if_pos h]; simp [Prod.ext_iff, h]
  · rw [if_neg (by omega)]; simp [Prod.ext_iff, h1, h2]
theorem lift_more (i acc : Nat) {b : UInt8} (l : List UInt8) (h : i ≠ 9) (hb : ¬ b.toNat < 128) : lift i acc (rd i (b :: l)) = lift (i + 1) (acc + 128 ^ i * (b.toNat % 128)) (rd (i + 1) l) := by
  rw [rd_more l h hb]
  unfold lift
  by_cases h0 : (rd (i + 1) l).2.2 = 0
  · rw [if_pos h0, if_pos h0, if_pos rfl]
    rw [Nat.mul_add, Nat.pow_succ, Nat.mul_assoc]
    simp [Nat.add_assoc, Nat.add_comm 1 i]
  · rw [if_neg h0, if_neg h0, if_neg h0]
theorem lift_last (i acc : Nat) {b : UInt8} (l : List UInt8) (h : ¬ ((b.toNat = 0 ∧ 0 < i) ∨ (1 < b.toNat ∧ i = 9))) (hb : b.toNat < 128) : lift i acc (rd i (b :: l)) = (acc + 128 ^ i * b.toNat, i + 1, 0) := by
  rw [rd_last l h hb]; unfold lift; simp [Nat.add_comm]
theorem lift_form (i acc : Nat) {b : UInt8} (l : List UInt8) (h : (b.toNat = 0 ∧ 0 < i) ∨ (1 < b.toNat ∧ i = 9)) : lift i acc (rd i (b :: l)) = (0, 0, 7) := by
  rw [rd_form l h]; rfl
theorem lift_nil (i acc : Nat) : lift i acc (rd i []) = (0, 0, 6) := by rw [rd_nil]; rfl
theorem pow_le {i j : Nat} (h : i ≤ j) : 128 ^ i ≤ 128 ^ j := Nat.pow_le_pow_right (by omega) h
theorem rd_uvar (n : Nat) : ∀ (i : Nat) (t : List UInt8), i ≤ 9 → (0 < i → n ≠ 0) → n * 128 ^ i < 2 ^ 64 → rd i (uvar n ++ t) = (n, (uvar n).length, 0) := by
  induction n using Nat.strongRecOn with
  | ind n ih =>
    intro i t hi h0 hn
    have h9 : i = 9 → n < 2 := fun e => by subst e; simp at hn; omega
    by_cases hs : n < 128
    · rw [uvar_small hs]
      have e : (UInt8.ofNat n).toNat = n := by rw [UInt8.toNat_ofNat']; omega
      rw [List.singleton_append, rd_last t (by rw [e]; rintro (⟨a, b⟩ | ⟨a, b⟩); exact h0 b a; exact absurd (h9 b) (by omega)) (by rw [e]; exact hs), e]
      rfl
    · have hlt : i < 9 := by
        rcases Nat.lt_or_ge i 9 with h | h
        · exact h
        · exact absurd (h9 (by omega)) (by omega)
      rw [uvar_great hs]
      have e : (UInt8.ofNat (n % 128 + 128)).toNat = n % 128 + 128 := by rw [UInt8.toNat_ofNat']; omega
      have hpow : n / 128 * 128 ^ (i + 1) ≤ n * 128 ^ i := by
        rw [Nat.pow_succ, Nat.mul_comm (128 ^ i), ← Nat.mul_assoc]
        exact Nat.mul_le_mul_right _ (Nat.div_mul_le_self n 128)
      rw [List.cons_append, rd_more _ (by omega) (by rw [e]; omega), ih (n / 128) (by omega) (i + 1) t (by omega) (by omega) (by omega)]
      simp only [if_pos, e, List.length_cons]
      rw [Prod.ext_iff]
      refine ⟨?_, rfl⟩
      show (n % 128 + 128) % 128 + 128 * (n / 128) = n
      omega
theorem uvar_rd (l : List UInt8) : ∀ i, i ≤ 9 → (rd i l).2.2 = 0 → 1 ≤ (rd i l).2.1 ∧ (rd i l).2.1 ≤ l.length ∧ l.take (rd i l).2.1 = uvar (rd i l).1 ∧ (rd i l).1 * 128 ^ i < 2 ^ 64 ∧ (0 < i → (rd i l).1 ≠ 0) := by
  induction l with
  | nil => intro i _ h; rw [rd_nil] at h; simp at h
  | cons b l ih =>
    intro i hi h
    by_cases hf : (b.toNat = 0 ∧ 0 < i) ∨ (1 < b.toNat ∧ i = 9)
    · rw [rd_form l hf] at h; simp at h
    by_cases hb : b.toNat < 128
    · rw [rd_last l hf hb]
      refine ⟨Nat.le_refl _, by simp, ?_, ?_, fun h0 e => hf (Or.inl ⟨e, h0⟩)⟩
      · show [b] = uvar b.toNat
        rw [uvar_small hb]; simp
      · show b.toNat * 128 ^ i < 2 ^ 64
        by_cases h9 : i = 9
        · subst h9
          have : b.toNat ≤ 1 := by omega
          have := Nat.mul_le_mul_right (128 ^ 9) this
          omega
        · have h8 := pow_le (i := i) (j := 8) (by omega)
          have := Nat.mul_le_mul (show b.toNat ≤ 127 by omega) h8
          omega
    · have h9 : i ≠ 9 := by omega
      rw [rd_more l h9 hb] at h ⊢
      by_cases h0 : (rd (i + 1) l).2.2 = 0
      · rw [if_pos h0]
        obtain ⟨g1, g2, g3, g4, g5⟩ := ih (i + 1) (by omega) h0
        have g6 := g5 (by omega)
        have hbl := UInt8.toNat_lt b
        refine ⟨by simp, by simp; omega, ?_, ?_, fun _ => by show b.toNat % 128 + 128 * (rd (i + 1) l).1 ≠ 0; omega⟩
        · show (b :: l).take ((rd (i + 1) l).2.1 + 1) = uvar (b.toNat % 128 + 128 * (rd (i + 1) l).1)
          rw [List.take_succ_cons, g3, uvar_great (n := b.toNat % 128 + 128 * (rd (i + 1) l).1) (by omega)]
          have e1 : (b.toNat % 128 + 128 * (rd (i + 1) l).1) % 128 + 128 = b.toNat := by omega
          have e2 : (b.toNat % 128 + 128 * (rd (i + 1) l).1) / 128 = (rd (i + 1) l).1 := by omega
          rw [e1, e2]; simp
        · show (b.toNat % 128 + 128 * (rd (i + 1) l).1) * 128 ^ i < 2 ^ 64
          rw [Nat.pow_succ, Nat.mul_comm (128 ^ i), ← Nat.mul_assoc] at g4
          -- (r * 128) * p < 2^64 and both sides multiples of p = 128^i
          have hd : ∃ c, 2 ^ 64 = c * 128 ^ i ∧ c % 128 = 0 ∨ i = 9 := by
            rcases (show i = 0 ∨ i = 1 ∨ i = 2 ∨ i = 3 ∨ i = 4 ∨ i = 5 ∨ i = 6 ∨ i = 7 ∨ i = 8 ∨ i = 9 by omega) with rfl | rfl | rfl | rfl | rfl | rfl | rfl | rfl | rfl | rfl
            · exact ⟨2 ^ 64, by decide⟩
            · exact ⟨2 ^ 57, by decide⟩
            · exact ⟨2 ^ 50, by decide⟩
            · exact ⟨2 ^ 43, by decide⟩
            · exact ⟨2 ^ 36, by decide⟩
            · exact ⟨2 ^ 29, by decide⟩
            · exact ⟨2 ^ 22, by decide⟩
            · exact ⟨2 ^ 15, by decide⟩
            · exact ⟨2 ^ 8, by decide⟩
            · exact ⟨0, Or.inr rfl⟩
          obtain ⟨c, ⟨hc, hm⟩ | hc⟩ := hd
          · rw [hc] at g4 ⊢
            have hp : 0 < 128 ^ i := Nat.pow_pos (by omega)
            have := Nat.lt_of_mul_lt_mul_right g4
            exact Nat.mul_lt_mul_of_pos_right (by omega) hp
          · exact absurd hc h9
      · rw [if_neg h0] at h; exact absurd h h0
theorem rd_fits (l : List UInt8) : (rd 0 l).1 < 2 ^ 64 := by
  rcases rd_err 0 l with h | ⟨_, h, _⟩
  · have := (uvar_rd l 0 (by omega) h).2.2.2.1; simpa using this
  · rw [h]; decide
theorem rd_size (l : List UInt8) : (rd 0 l).2.1 ≤ l.length := by
  rcases rd_err 0 l with h | ⟨_, _, h⟩
  · exact (uvar_rd l 0 (by omega) h).2.1
  · rw [h]; omega
theorem uvar_len (n : Nat) : 1 ≤ (uvar n).length := by
  by_cases h : n < 128
  · rw [uvar_small h]; simp
  · rw [uvar_great h]; simp
theorem uvar_mono (n : Nat) : ∀ m, m ≤ n → (uvar m).length ≤ (uvar n).length := by
  induction n using Nat.strongRecOn with
  | ind n ih =>
    intro m hm
    by_cases h : m < 128
    · rw [uvar_small h]; exact uvar_len n
    · rw [uvar_great h, uvar_great (n := n) (by omega)]
      have := ih (n / 128) (by omega) (m / 128) (by omega)
      simpa using this
theorem uvar_pow (k : Nat) : ∀ n, n < 128 ^ (k + 1) → (uvar n).length ≤ k + 1 := by
  induction k with
  | zero => intro n h; rw [uvar_small (by simpa using h)]; simp
  | succ k ih =>
    intro n h
    by_cases hs : n < 128
    · rw [uvar_small hs]; simp
    · rw [uvar_great hs]
      have := ih (n / 128) (by rw [Nat.pow_succ] at h; omega)
      simpa using this
theorem uvar_ten {n : Nat} (h : n < 2 ^ 64) : (uvar n).length ≤ 10 := uvar_pow 9 n (by
  have : (2 : Nat) ^ 64 ≤ 128 ^ (9 + 1) := by decide
  omega)
theorem rd_cut (n : Nat) : ∀ (i k : Nat), i + (uvar n).length ≤ 10 → k < (uvar n).length → rd i ((uvar n).take k) = (0, 0, 6) := by
  induction n using Nat.strongRecOn with
  | ind n ih =>
    intro i k hi hk
    by_cases hs : n < 128
    · rw [uvar_small hs] at hk
      have : k = 0 := by simpa using hk
      subst this
      rw [List.take_zero, rd_nil]
    · have hl := uvar_great hs
      rw [hl] at hk hi ⊢
      have hl1 := uvar_len (n / 128)
      simp only [List.length_cons] at hk hi
      cases k with
      | zero => rw [List.take_zero, rd_nil]
      | succ k =>
        have e : (UInt8.ofNat (n % 128 + 128)).toNat = n % 128 + 128 := by rw [UInt8.toNat_ofNat']; omega
        rw [List.take_succ_cons, rd_more _ (by omega) (by rw [e]; omega), ih (n / 128) (by omega) (i + 1) k (by omega) (by omega)]
        rfl
def accOf (l : List UInt8) : Nat → Nat
  | 0 => 0
  | k + 1 => accOf l k + 128 ^ k * ((l.getD k 0).toNat % 128)
theorem rd_lead (l : List UInt8) : ∀ k, k ≤ 9 → k ≤ l.length → (∀ i, i < k → 128 ≤ (l.getD i 0).toNat) → rd 0 l = lift k (accOf l k) (rd k (l.drop k)) := by
  intro k
  induction k with
  | zero => intro _ _ _; rw [List.drop_zero, accOf, lift_zero]
  | succ k ih =>
    intro h9 hl hb
    rw [ih (by omega) (by omega) (fun i hi => hb i (by omega))]
    have hk := hb k (by omega)
    have e : l.drop k = l.getD k 0 :: l.drop (k + 1) := by
      rw [List.drop_eq_getElem_cons (by omega : k < l.length)]
      simp [List.getD_eq_getElem?_getD, List.getElem?_eq_getElem (by omega : k < l.length)]
    rw [e, lift_more _ _ _ (by omega) (by omega), accOf]
/-- What is read of a field. -/
def rdField (l : List UInt8) (most : Int) : List UInt8 × Nat × Nat :=
  if (rd 0 l).2.2 ≠ 0 then ([], 0, (rd 0 l).2.2)
  else if most < (rd 0 l).1 then ([], 0, 3)
  else if l.length - (rd 0 l).2.1 < (rd 0 l).1 then ([], 0, 6)
  else ((l.drop (rd 0 l).2.1).take (rd 0 l).1, (rd 0 l).2.1 + (rd 0 l).1, 0)
/-! ### Ordered numbers -/
/-- The last i bytes of u, the highest first. -/
def be : Nat → Nat → List UInt8
  | 0, _ => []
  | i + 1, u => be i (u / 256) ++ [UInt8.ofNat u]
def unbe (l : List UInt8) : Nat := l.foldl (fun a b => a * 256 + b.toNat) 0
theorem be_length (i : Nat) : ∀ u, (be i u).length = i := by
  induction i with
  | zero => intro u; rfl
  | succ i ih => intro u; simp [be, ih]
theorem be_front (i : Nat) : ∀ u, be (i + 1) u = UInt8.ofNat (u / 256 ^ i) :: be i u := by
  induction i with
  | zero => intro u; simp [be]
  | succ i ih =>
    intro u
    rw [be, ih, be, List.cons_append, Nat.div_div_eq_div_mul, Nat.pow_succ, Nat.mul_comm 256]
theorem unbe_snoc (l : List UInt8) (b : UInt8) : unbe (l ++ [b]) = unbe l * 256 + b.toNat := by unfold unbe; rw [List.foldl_append]; rfl
theorem unbe_be (i : Nat) : ∀ u, unbe (be i u) = u % 256 ^ i := by
  induction i with
  | zero => intro u; simp [be, unbe, Nat.mod_one]
  | succ i ih =>
    intro u
    have e : u % 256 ^ (i + 1) = u % 256 + 256 * (u / 256 % 256 ^ i) := by rw [Nat.pow_succ, Nat.mul_comm (256 ^ i) 256, Nat.mod_mul]
    rw [be, unbe_snoc, ih, UInt8.toNat_ofNat', e]
    omega
theorem snoc_of {i : Nat} (l : List UInt8) (h : l.length = i + 1) : ∃ l' b, l = l' ++ [b] ∧ l'.length = i := by
  rcases List.eq_nil_or_concat l with rfl | ⟨l', b, rfl⟩
  · simp at h
  · exact ⟨l', b, by simp, by simpa using h⟩
theorem unbe_lt (i : Nat) : ∀ l : List UInt8, l.length = i → unbe l < 256 ^ i := by
  induction i with
  | zero => intro l h; rw [List.length_eq_zero_iff.1 h]; simp [unbe]
  | succ i ih =>
    intro l h
    obtain ⟨l', b, rfl, hl⟩ := snoc_of l h
    have := ih l' hl
    have := UInt8.toNat_lt b
    rw [unbe_snoc, Nat.pow_succ]
    omega
theorem be_unbe (i : Nat) : ∀ l : List UInt8, l.length = i → be i (unbe l) = l := by
  induction i with
  | zero => intro l h; rw [List.length_eq_zero_iff.1 h]; rfl
  | succ i ih =>
    intro l h
    obtain ⟨l', b, rfl, hl⟩ := snoc_of l h
    have hb := UInt8.toNat_lt b
    rw [be, unbe_snoc]
    have e1 : (unbe l' * 256 + b.toNat) / 256 = unbe l' := by omega
    have e2 : UInt8.ofNat (unbe l' * 256 + b.toNat) = b := by
      apply UInt8.toNat_inj.1
      rw [UInt8.toNat_ofNat']; omega
    rw [e1, e2, ih l' hl]
/-- What is read of an ordered number: it, the error. -/
def rdOrd (l : List UInt8) : Int × Nat := if l.length < 8 then (0, 6) else ((unbe (l.take 8) : Int) - 9223372036854775808, 0)
theorem take_snoc (l : List UInt8) (i : Nat) (h : i < l.length) : l.take (i + 1) = l.take i ++ [l[i]] := List.take_succ_eq_append_getElem h
/-! ### Ordered texts -/
def esc : List UInt8 → List UInt8
  | [] => []
  | b :: l => if b = 0 then 0 :: 255 :: esc l else b :: esc l
def txt (t : List UInt8) : List UInt8 := esc t ++ [0, 1]
/-- What is read of a text: it, its bytes, the error. -/
def untxt : List UInt8 → List UInt8 × Nat × Nat
  | [] => ([], 0, 6)
  | [_] => ([], 0, 6)
  | b :: c :: l =>
    if b ≠ 0 then (if (untxt (c :: l)).2.2 = 0 then (b :: (untxt (c :: l)).1, (untxt (c :: l)).2.1 + 1, 0) else ([], 0, (untxt (c :: l)).2.2))
    else if c = 1 then ([], 2, 0)
    else if c = 255 then (if (untxt l).2.2 = 0 then (0 :: (untxt l).1, (untxt l).2.1 + 2, 0) else ([], 0, (untxt l).2.2))
    else ([], 0, 7)
theorem esc_app (a b : List UInt8) : esc (a ++ b) = esc a ++ esc b := by
  induction a with
  | nil => rfl
  | cons x a ih =>
    by_cases h : x = 0
    · simp [esc, h, ih]
    · simp [esc, h, ih]
theorem esc_len (l : List UInt8) : (esc l).length ≤ 2 * l.length := by
  induction l with
  | nil => simp [esc]
  | cons b l ih => by_cases h : b = 0 <;> simp [esc, h] <;> omega
/-- Of what is read behind k bytes that told pre: the whole. -/
def liftT (k : Nat) (pre : List UInt8) (r : List UInt8 × Nat × Nat) : List UInt8 × Nat × Nat := if r.2.2 = 0 then (pre ++ r.1, r.2.1 + k, 0) else ([], 0, r.2.2)
theorem untxt_err : ∀ l : List UInt8, (untxt l).2.2 = 0 ∨ ((untxt l).2.2 = 6 ∨ (untxt l).2.2 = 7) ∧ (untxt l).1 = [] ∧ (untxt l).2.1 = 0
  | [] => Or.inr ⟨Or.inl rfl, rfl, rfl⟩
  | [_] => Or.inr ⟨Or.inl rfl, rfl, rfl⟩
  | b :: c :: l => by
    rw [untxt]
    split
    · split
      · exact Or.inl rfl
      · rename_i h; rcases untxt_err (c :: l) with h0 | ⟨h1, _, _⟩
        · exact absurd h0 h
        · exact Or.inr ⟨h1, rfl, rfl⟩
    · split
      · exact Or.inl rfl
      · split
        · split
          · exact Or.inl rfl
          · rename_i h; rcases untxt_err l with h0 | ⟨h1, _, _⟩
            · exact absurd h0 h
            · exact Or.inr ⟨h1, rfl, rfl⟩
        · exact Or.inr ⟨Or.inr rfl, rfl, rfl⟩
theorem liftT_zero (l : List UInt8) : liftT 0 [] (untxt l) = untxt l := by
  unfold liftT
  rcases untxt_err l with h | ⟨h, h1, h2⟩
  · rw [if_pos h]; simp [Prod.ext_iff, h]
  · rw [if_neg (by omega)]; simp [Prod.ext_iff, h1, h2]
theorem liftT_nil (k : Nat) (pre : List UInt8) : liftT k pre (untxt []) = ([], 0, 6) := rfl
theorem liftT_one (k : Nat) (pre : List UInt8) (b : UInt8) : liftT k pre (untxt [b]) = ([], 0, 6) := rfl
theorem liftT_byte (k : Nat) (pre : List UInt8) {b : UInt8} (l : List UInt8) (hb : b ≠ 0) : liftT k pre (untxt (b :: l)) = liftT (k + 1) (pre ++ [b]) (untxt l) := by
  cases l with
  | nil => rfl
  | cons c l =>
    rw [untxt, if_pos hb]
    unfold liftT
    by_cases h : (untxt (c :: l)).2.2 = 0
    · rw [if_pos h, if_pos rfl, if_pos h]; simp [Nat.add_assoc, Nat.add_comm 1 k]
    · rw [if_neg h, if_neg h, if_neg h]
theorem liftT_zero_byte (k : Nat) (pre : List UInt8) (l : List UInt8) : liftT k pre (untxt (0 :: 255 :: l)) = liftT (k + 2) (pre ++ [0]) (untxt l) := by
  rw [untxt, if_neg (by decide), if_neg (by decide), if_pos rfl]
  unfold liftT
  by_cases h : (untxt l).2.2 = 0
  · rw [if_pos h, if_pos rfl, if_pos h]; simp [Nat.add_assoc, Nat.add_comm 2 k]
  · rw [if_neg h, if_neg h, if_neg h]
theorem liftT_end (k : Nat) (pre : List UInt8) (l : List UInt8) : liftT k pre (untxt (0 :: 1 :: l)) = (pre, k + 2, 0) := by
  rw [untxt, if_neg (by decide), if_pos rfl]; unfold liftT; simp [Nat.add_comm]
theorem liftT_form (k : Nat) (pre : List UInt8) {c : UInt8} (l : List UInt8) (h1 : c ≠ 1) (h2 : c ≠ 255) : liftT k pre (untxt (0 :: c :: l)) = ([], 0, 7) := by
  rw [untxt, if_neg (by decide), if_neg h1, if_neg h2]; rfl
theorem index_zero : ∀ s : List UInt8, (Go.Lib.index s [0] = -1 ∧ esc s = s) ∨ ∃ i : Nat, Go.Lib.index s [0] = (i : Int) ∧ i < s.length ∧ esc s = s.take i ++ [0, 255] ++ esc (s.drop (i + 1))
  | [] => Or.inl ⟨rfl, rfl⟩
  | b :: l => by
    by_cases hb : b = 0
    · subst hb
      refine Or.inr ⟨0, ?_, by simp, ?_⟩
      · unfold Go.Lib.index; rw [if_pos (by simp)]; rfl
      · simp [esc]
    · have hp : ¬ ([0].isPrefixOf (b :: l) = true) := by simp [List.isPrefixOf]; exact fun h => hb h.symm
      have he : esc (b :: l) = b :: esc l := by simp [esc, hb]
      rcases index_zero l with ⟨h1, h2⟩ | ⟨i, h1, h2, h3⟩
      · refine Or.inl ⟨?_, by rw [he, h2]⟩
        unfold Go.Lib.index; rw [if_neg hp, h1]; rfl
      · refine Or.inr ⟨i + 1, ?_, by simp; omega, ?_⟩
        · unfold Go.Lib.index
          rw [if_neg hp, h1, if_neg (by simp; try omega)]
          try omega
        · rw [he, h3]; simp
theorem replaceK_esc (n : Nat) : ∀ s : List UInt8, s.length ≤ n → Go.Lib.replaceK [0] [0, 255] (Go.Lib.count s [0]) s = esc s := by
  induction n with
  | zero => intro s h; obtain rfl := List.length_eq_zero_iff.1 (Nat.le_zero.1 h); rfl
  | succ n ih =>
    intro s h
    rcases index_zero s with ⟨h1, h2⟩ | ⟨i, h1, h2, h3⟩
    · rw [Go.Lib.count_miss h1, h2]; rfl
    · rw [Go.Lib.count_hit (by simp) h1, Nat.add_comm, Go.Lib.replaceK_hit _ _ _ _ _ h1, h3]
      congr 1
      exact ih _ (by simp; omega)
theorem replaceAll_esc (s : List UInt8) : Go.Lib.replaceAll s [0] [0, 255] = esc s := by
  unfold Go.Lib.replaceAll Go.Lib.replace Go.Lib.replaceNum
  rw [if_neg (by decide), if_pos (Or.inl (by decide))]
  exact replaceK_esc _ s (Nat.le_refl _)
end Go.Proofs.Ytnmjfdejgfmoiaa.Code
/-
  How the translated operations on bytes and on 64 bits read as plain numbers. No condition.
-/
namespace Go.Proofs.Ytnmjfdejgfmoiaa
set_option maxRecDepth 100000
open Go.RowKit
theorem wrap_u64_nat {n : Nat} (h : n < 2 ^ 64) : IntKind.u64.wrap (n : Int) = n := by
  rw [IntKind.wrap_u64]; omega
theorem or64_nat {a b : Nat} (ha : a < 2 ^ 64) (hb : b < 2 ^ 64) : bits .or .u64 (a : Int) (b : Int) = ((a ||| b : Nat) : Int) := by
  show IntKind.u64.wrap (((BitVec.ofInt 64 (a : Int) ||| BitVec.ofInt 64 (b : Int)).toNat : Nat) : Int) = _
  rw [BitVec.ofInt_natCast, BitVec.ofInt_natCast, BitVec.toNat_or, BitVec.toNat_ofNat, BitVec.toNat_ofNat, Nat.mod_eq_of_lt ha, Nat.mod_eq_of_lt hb]
  exact wrap_u64_nat (Nat.or_lt_two_pow ha hb)
theorem andNot128_all : ∀ n : Fin 256, bits .andNot .u8 (n.val : Int) 128 = ((n.val % 128 : Nat) : Int) := by decide +kernel
theorem andNot128 (c : UInt8) : bits .andNot .u8 (c.toNat : Int) 128 = ((c.toNat % 128 : Nat) : Int) := andNot128_all ⟨c.toNat, UInt8.toNat_lt c⟩
theorem or128_all : ∀ n : Fin 256, bits .or .u8 (n.val : Int) 128 = ((n.val % 128 + 128 : Nat) : Int) := by decide +kernel
theorem or128 (c : Nat) (h : c < 256) : bits .or .u8 (c : Int) 128 = ((c % 128 + 128 : Nat) : Int) := or128_all ⟨c, h⟩
theorem part_code (acc i : Nat) (c : UInt8) (hi : i ≤ 9) (ha : acc < 128 ^ i) (h9 : i = 9 → c.toNat ≤ 1) :
    bits .or .u64 (acc : Int) (IntKind.u64.wrap (IntKind.u64.wrap (bits .andNot .u8 (c.toNat : Int) 128) * 2 ^ (7 * i))) = ((acc + 128 ^ i * (c.toNat % 128) : Nat) : Int) := by
  have hp : (128 : Nat) ^ i = 2 ^ (7 * i) := by rw [Nat.pow_mul]
  have hb : 128 ^ i * (c.toNat % 128) < 2 ^ 64 := by
    by_cases h : i = 9
    · subst h; have := h9 rfl
      have : c.toNat % 128 ≤ 1 := by omega
      have := Nat.mul_le_mul_left (128 ^ 9) this
      omega
    · have h8 := Code.pow_le (i := i) (j := 8) (by omega)
      have := Nat.mul_le_mul h8 (show c.toNat % 128 ≤ 127 by omega)
      omega
  have hacc : acc < 2 ^ 64 := by
    have := Code.pow_le (i := i) (j := 9) hi
    omega
  rw [andNot128, wrap_u64_nat (by omega)]
  have e : ((c.toNat % 128 : Nat) : Int) * 2 ^ (7 * i) = ((128 ^ i * (c.toNat % 128) : Nat) : Int) := by
    rw [hp]; simp [Int.mul_comm]
  rw [e, wrap_u64_nat hb, or64_nat hacc hb]
  rw [hp] at ha ⊢
  rw [Nat.add_comm, Nat.two_pow_add_eq_or_of_lt ha, Nat.or_comm]
end Go.Proofs.Ytnmjfdejgfmoiaa
/-
  A scope in which the run jumps forward to one label: behind the jump the label's rest is walked. No condition.
-/
namespace Go.Proofs.Ytnmjfdejgfmoiaa
set_option maxRecDepth 100000
variable {P : Program} {a : Act} {w : World} {Q : Exit → Act → World → Prop}
theorem wp_scope_fwd {c rest : Code} (l : Nat) (hf : findLabel c l = some rest) (h : c.wp P (Exit.jump l (fun a w => rest.wp P (Exit.noGoto Q) a w) Q) a w) : (Code.scope c).wp P Q a w := by
  refine wp_scope_jumps l (fun a w => rest.wp P (Exit.noGoto Q) a w) (fun _ _ => 0) hf h ?_
  intro a₀ w₀ hJ b k cs
  obtain ⟨e, a₁, w₁, hq, harr⟩ := hJ b k cs
  refine ⟨e, a₁, w₁, ?_, harr⟩
  cases e with
  | goto l => exact hq.elim
  | normal => exact hq
  | exit id => exact hq
  | ret => exact hq
  | panic ch => exact hq
  | outgrown => exact hq
theorem jump_goto {l : Nat} {J : Act → World → Prop} (h : J a w) : Exit.jump l J Q (.goto l) a w := ⟨rfl, h⟩
theorem jump_ret {l : Nat} {J : Act → World → Prop} : Exit.jump l J Q .ret a w = Q .ret a w := rfl
theorem jump_normal {l : Nat} {J : Act → World → Prop} : Exit.jump l J Q .normal a w = Q .normal a w := rfl
theorem jump_exit {l id : Nat} {J : Act → World → Prop} : Exit.jump l J Q (.exit id) a w = Q (.exit id) a w := rfl
end Go.Proofs.Ytnmjfdejgfmoiaa
/-
  The contracts of the cursor's steps, whatever the world. Condition: the cursor's two cells hold a text and a place in it.
-/
namespace Go.Proofs.Ytnmjfdejgfmoiaa
set_option maxRecDepth 100000
open Go.RowKit
/-- Block b is a cursor over s at place k. -/
structure CurAt (w : World) (b : Nat) (s : ByteArray) (k : Nat) : Prop where
  c0 : w.cell? ⟨b, 0, none⟩ = some (.string s)
  c1 : w.cell? ⟨b, 1, none⟩ = some (.int .i64 (k : Int))
  f1 : w.frozen? ⟨b, 1, none⟩ = false
theorem CurAt.lt {w : World} {b : Nat} {s : ByteArray} {k : Nat} (h : CurAt w b s k) : b < w.heap.size := World.block_lt_of_cell? _ _ h.c0
theorem CurAt.drewN {w : World} {b n : Nat} {s : ByteArray} {k : Nat} (h : CurAt w b s k) : CurAt (w.drewN n) b s k := ⟨h.c0, h.c1, h.f1⟩
theorem CurAt.set {w : World} {b : Nat} {s : ByteArray} {k : Nat} (h : CurAt w b s k) (j : Nat) : CurAt (w.setCell ⟨b, 1, none⟩ (.int .i64 (j : Int))) b s j :=
  ⟨by rw [World.cell?_setCell_other _ _ _ _ (by simp)]; exact h.c0, World.cell?_setCell_same _ _ _ h.c1, (World.frozen?_setCell _ _ _ _).trans h.f1⟩
theorem CurAt.below {B b k : Nat} {w w' : World} {s : ByteArray} (h : CurAt w b s k) (hb : Below B w w') (hB : b < B) : CurAt w' b s k :=
  ⟨(hb.cell (p := ⟨b, 0, none⟩) hB).trans h.c0, (hb.cell (p := ⟨b, 1, none⟩) hB).trans h.c1, (hb.frozen (p := ⟨b, 1, none⟩) hB).trans h.f1⟩
end Go.Proofs.Ytnmjfdejgfmoiaa
/-
  A block of bytes that a call made: what it holds, what a store into it leaves, what text it is. No condition.
-/
namespace Go.Proofs.Ytnmjfdejgfmoiaa
set_option maxRecDepth 100000
open Go.RowKit
/-- Block g holds just these bytes at its head, and they may be written. -/
def Holds8 (w : World) (g : Nat) (l : List UInt8) : Prop := ∀ q (h : q < l.length), w.cell? ⟨g, q, none⟩ = some (.int .u8 (l[q].toNat : Int)) ∧ w.frozen? ⟨g, q, none⟩ = false
theorem holds8_set {w : World} {g : Nat} {l : List UInt8} (h : Holds8 w g l) (q : Nat) (hq : q < l.length) (y : UInt8) : Holds8 (w.setCell ⟨g, q, none⟩ (.int .u8 (y.toNat : Int))).drew g (l.set q y) := by
  intro r hr
  rw [List.length_set] at hr
  rw [World.cell?_drew]
  refine ⟨?_, (World.frozen?_setCell _ _ _ _).trans (h r hr).2⟩
  by_cases e : q = r
  · subst e
    rw [World.cell?_setCell_same _ _ _ (h q hq).1, List.getElem_set_self]
  · rw [World.cell?_setCell_other _ _ _ _ (by simp), (h r hr).1, List.getElem_set_ne e]
theorem holds8_turn {w : World} {g : Nat} {l : List UInt8} (h : Holds8 w g l) (q : Nat) (hq : q < l.length) (c : UInt8) : Holds8 (w.setCell ⟨g, q, none⟩ (.int .u8 ((l[q] ^^^ c).toNat : Int))).drew g (l.modify q (· ^^^ c)) := by
  have e : l.modify q (· ^^^ c) = l.set q (l[q] ^^^ c) := by
    apply List.ext_getElem?
    intro j
    rw [List.getElem?_modify, List.getElem?_set]
    by_cases hj : q = j
    · subst hj; simp [hq]
    · simp [hj]
  rw [e]
  exact holds8_set h q hq _
theorem holds8_made (w : World) (b : ByteArray) (c : Nat) : Holds8 (w.alloc (.cells (bytesRow b c) 5 ((bytesRow b c).size, (bytesRow b c).size + 1))).drew w.heap.size b.data.toList := by
  intro q hq
  have hz : q < b.data.size := by simpa using hq
  have hs : q < (bytesRow b c).size := by unfold bytesRow; rw [Array.size_append, Array.size_map]; omega
  have e1 : (bytesRow b c)[q]? = some (.int .u8 (b.data.toList[q].toNat : Int)) := by
    unfold bytesRow
    rw [Array.getElem?_append_left (by rw [Array.size_map]; exact hz), Array.getElem?_map, Array.getElem?_eq_getElem hz]
    simp
  refine ⟨?_, ?_⟩
  · rw [World.cell?_drew, World.cell?_alloc_mark, e1]
  · show (w.alloc _).frozen? _ = false
    rw [World.frozen?_alloc_mark]
    simp; omega
theorem holds8_text {w : World} {g : Nat} {l : List UInt8} (h : Holds8 w g l) (n c : Nat) (hn : l.length = n) : (convert 60 9 (.slice (some ⟨g, 0, none⟩) n c)).run Try.prog w = .ok (.string ⟨l.toArray⟩) w := by
  subst hn
  refine run_convert_bytes_back w _ _ 5 ⟨g, 0, none⟩ c l Try.underlying60 Try.underlying5 Try.underlying9 ?_
  intro j hj
  have : (⟨g, 0, none⟩ : Addr).add j = ⟨g, j, none⟩ := by
    unfold Addr.add
    split
    · rename_i h0; rw [h0]
    · simp
  rw [this]
  exact (h j hj).1
theorem xor8_byte (x y : UInt8) : bits .xor .u8 (x.toNat : Int) (y.toNat : Int) = ((x ^^^ y).toNat : Int) := by
  have e : ∀ z : UInt8, BitVec.ofInt 8 (z.toNat : Int) = z.toBitVec := fun z => by
    rw [BitVec.ofInt_natCast]; apply BitVec.eq_of_toNat_eq; rw [BitVec.toNat_ofNat]; have := UInt8.toNat_lt z; show z.toNat % 256 = z.toNat; omega
  show IntKind.u8.wrap (((BitVec.ofInt 8 (x.toNat : Int) ^^^ BitVec.ofInt 8 (y.toNat : Int)).toNat : Nat) : Int) = _
  rw [e, e, IntKind.wrap_u8]
  have h2 : (x.toBitVec ^^^ y.toBitVec).toNat = (x ^^^ y).toNat := rfl
  rw [h2]
  have := UInt8.toNat_lt (x ^^^ y)
  omega
theorem holds8_alloc {w : World} {g : Nat} {l : List UInt8} (h : Holds8 w g l) (hg : g < w.heap.size) (o : Obj) : Holds8 (w.alloc o) g l := fun q hq =>
  ⟨(World.cell?_alloc_lt _ _ _ hg).trans (h q hq).1, (World.frozen?_alloc_old _ _ _ (Nat.ne_of_lt hg)).trans (h q hq).2⟩
theorem holds8_drew {w : World} {g : Nat} {l : List UInt8} (h : Holds8 w g l) : Holds8 w.drew g l := h
theorem holds8_below {u w : World} {g : Nat} {l : List UInt8} (hb : Below u.heap.size u w) (hg : g < u.heap.size) (h : Holds8 u g l) : Holds8 w g l := fun q hq =>
  ⟨(hb.cell (p := ⟨g, q, none⟩) hg).trans (h q hq).1, (hb.frozen (p := ⟨g, q, none⟩) hg).trans (h q hq).2⟩
theorem holds8_zeros (w : World) (n : Nat) : Holds8 (w.alloc (.cells (madeCells #[.int .u8 0] n) 5)) w.heap.size (List.replicate n 0) := by
  intro q hq
  rw [List.length_replicate] at hq
  refine ⟨?_, World.frozen?_alloc_at _ _ _ _ rfl⟩
  rw [World.cell?_alloc_new, ← Array.getElem?_toList, toList_madeCells_one]
  simp [hq]
end Go.Proofs.Ytnmjfdejgfmoiaa
/-
  The contracts of code.Uint, code.PutUint and of the document's own: each answers the plain mathematics' short number. Condition: a text of a length that there is; a number of 64 bits.
-/
namespace Go.Proofs.Ytnmjfdejgfmoiaa
set_option maxRecDepth 100000
open Go.RowKit
theorem makes_func : ∀ (fn : Fn) (first cap : Array Value) (w : World), (Instr.makeFunc fn first cap).run Try.prog w = .ok (.func fn first cap) w := fun _ _ _ _ => rfl
theorem cur_new (w : World) (s : ByteArray) (t : TypeId) : CurAt (w.alloc (.cells #[.string s, .int .i64 0] t)) w.heap.size s 0 :=
  ⟨by rw [World.cell?_alloc_new]; rfl, by rw [World.cell?_alloc_new]; rfl, World.frozen?_alloc_new _ _ _ _⟩
theorem below_but {w w' : World} {o : Obj} (h : But w.heap.size (w.alloc o) w') : Below w.heap.size w w' := (below_alloc w o).trans (h.below (Nat.le_refl _) (by simp))
theorem holds8_take {w : World} {g : Nat} {l : List UInt8} (h : Holds8 w g l) (n : Nat) : Holds8 w g (l.take n) := by
  intro q hq
  have : q < l.length := by rw [List.length_take] at hq; omega
  rw [List.getElem_take]
  exact h q this
theorem holds8_put {w : World} {g : Nat} {l : List UInt8} (h : Holds8 w g l) (q : Nat) (hq : q < l.length) (x : Int) (y : UInt8) (hx : x = (y.toNat : Int)) : Holds8 (w.setCell ⟨g, q, none⟩ (.int .u8 x)) g (l.set q y) := by
  subst hx; exact holds8_set h q hq y
theorem slice_ten (g n : Nat) (hn : n < 10) (v : World) : (Instr.sliceAt 88 (.pointer (some ⟨g, 0, none⟩)) none (some (.int .i64 ((n : Int) + 1))) none).run Try.prog v = .ok (.slice (some ⟨g, 0, none⟩) (n + 1) 10) v := by
  have hL : Try.prog.arrayLen 88 = 10 := by kernel_rfl
  have hE : Try.prog.elem 88 = 5 := by kernel_rfl
  have ht : Try.prog.underlying 88 = some (.array (Try.prog.arrayLen 88) (Try.prog.elem 88)) := by rw [hL, hE]; exact Try.underlying88
  rw [run_sliceAt_array_h v _ _ ht .i64 _ (by omega) (by rw [hL]; omega), hE, Try.sizeOf5 v, hL]
  have : ((n : Int) + 1).toNat = n + 1 := by omega
  simp [slicedAt, this, go_sem]
set_option maxRecDepth 100000 in
set_option maxHeartbeats 1000000 in
theorem putuint_any (N : Nat) (hN : N < 2 ^ 64) (w : World) :
    Calls Try.prog 27 #[.int .u64 (N : Int)] w fun e w' => e = .returned (.string ⟨(Code.uvar N).toArray⟩) ∧ Below w.heap.size w w' := by
  have hlen := Code.uvar_ten hN
  go_enter Try.func27, Try.ntmps27
  go_wp2
  go_loopw [0, 4] (fun n d wr => ∃ (pre : List UInt8) (cur : Nat), cur < 2 ^ 64 ∧ Code.uvar N = pre ++ Code.uvar cur ∧ n = .int .u64 (cur : Int) ∧ d = .int .i64 (pre.length : Int) ∧ Holds8 wr w.heap.size (pre ++ List.replicate (10 - pre.length) 0) ∧ Below w.heap.size w wr ∧ w.heap.size < wr.heap.size) (fun n _ _ => (intOf n).toNat)
  case atStart =>
    refine ⟨[], N, hN, rfl, rfl, rfl, ?_, below_alloc _ _, by simp⟩
    intro q hq
    have hq : q < 10 := by simpa using hq
    refine ⟨?_, World.frozen?_alloc_new _ _ _ _⟩
    rw [World.cell?_alloc_new]
    rcases (show q = 0 ∨ q = 1 ∨ q = 2 ∨ q = 3 ∨ q = 4 ∨ q = 5 ∨ q = 6 ∨ q = 7 ∨ q = 8 ∨ q = 9 by omega) with rfl | rfl | rfl | rfl | rfl | rfl | rfl | rfl | rfl | rfl <;> rfl
  case round =>
    obtain ⟨pre, cur, hcur, hU, rfl, rfl, hH, hB, hsz⟩ := hrel
    have hul := Code.uvar_len cur
    have hpl : pre.length + (Code.uvar cur).length ≤ 10 := by rw [hU, List.length_append] at hlen; exact hlen
    have hx := hH pre.length (by simp; omega)
    have hset : ∀ (y : UInt8), (pre ++ List.replicate (10 - pre.length) 0).set pre.length y = (pre ++ [y]) ++ List.replicate (10 - (pre ++ [y]).length) 0 := fun y => by
      rw [List.set_append_right _ _ (Nat.le_refl _), Nat.sub_self, List.length_append, List.append_assoc]
      have e : 10 - pre.length = (10 - (pre.length + [y].length)) + 1 := by simp; omega
      rw [e, List.replicate_succ]; rfl
    by_cases hs : cur < 128
    · have hs' : (cur : Int) < 128 := by omega
      rw [Code.uvar_small hs] at hU
      have hP := holds8_take (holds8_put hH pre.length (by simp; omega) (cur : Int) (UInt8.ofNat cur) (by rw [UInt8.toNat_ofNat']; omega)) (pre.length + 1)
      have e : ((pre ++ List.replicate (10 - pre.length) 0).set pre.length (UInt8.ofNat cur)).take (pre.length + 1) = Code.uvar N := by
        rw [hset, List.take_append_of_le_length (by simp), List.take_of_length_le (by simp), hU]
      rw [e] at hP
      have hcv := holds8_text hP (pre.length + 1) 10 (by rw [hU]; simp)
      have hsl := slice_ten w.heap.size pre.length (by omega) (wr.setCell ⟨w.heap.size, pre.length, none⟩ (.int .u8 (cur : Int)))
      obtain ⟨hx1, hx2⟩ := hx
      clear hH hP e hset hU
      go_wp2
      go_ret
      exact ⟨rfl, hB.setCell (by simp) _⟩
    · have hs' : 128 ≤ (cur : Int) := by omega
      obtain ⟨hx1, hx2⟩ := hx
      have HS := Lib.hid hset
      have HH := Lib.hid hH
      have HU := Lib.hid hU
      clear hset hH hU
      go_wp2
      go_roundw
      case rel =>
        have ey : bits .or .u8 ((cur : Int) % 256) 128 = ((UInt8.ofNat (cur % 128 + 128)).toNat : Int) := by
          have := or128 (cur % 256) (by omega)
          rw [show ((cur % 256 : Nat) : Int) = (cur : Int) % 256 by omega] at this
          rw [this, UInt8.toNat_ofNat']; omega
        refine ⟨pre ++ [UInt8.ofNat (cur % 128 + 128)], cur / 128, by omega, ?_, by go_num, by simp, ?_, hB.setCell (by simp) _, by simpa using hsz⟩
        · rw [HU.out, Code.uvar_great hs]; simp
        · rw [← HS.out]
          exact holds8_put HH.out pre.length (by simp; omega) _ _ ey
      case measure => simp [intOf]; omega
theorem text_one (v : World) (y : UInt8) (x : Int) (hx : x = (y.toNat : Int)) (t : TypeId) : (convert 60 9 (.slice (some ⟨v.heap.size, 0, none⟩) 1 1)).run Try.prog (v.alloc (.cells #[.int .u8 x] t)) = .ok (.string ⟨#[y]⟩) (v.alloc (.cells #[.int .u8 x] t)) := by
  subst hx
  refine holds8_text (l := [y]) ?_ 1 1 rfl
  intro q hq
  have : q = 0 := by simpa using hq
  subst this
  exact ⟨by rw [World.cell?_alloc_new]; rfl, World.frozen?_alloc_new _ _ _ _⟩
theorem getD_byte (s : ByteArray) (k : Nat) (h : k < s.size) : s.data.toList.getD k 0 = s[k] := by
  rw [List.getD_eq_getElem?_getD, Lib.data_getElem? s k h]; rfl
theorem drop_byte (s : ByteArray) (k : Nat) (h : k < s.size) : s.data.toList.drop k = s[k] :: s.data.toList.drop (k + 1) := List.drop_eq_getElem_cons (by simpa using h)
end Go.Proofs.Ytnmjfdejgfmoiaa
/-
  The contracts of code.Ord, code.PutOrd and of the document's own: each answers the plain mathematics' ordered number. Condition: a text of a length that there is; a number of 64 bits.
-/
namespace Go.Proofs.Ytnmjfdejgfmoiaa
set_option maxRecDepth 100000
open Go.RowKit
theorem ord_up {n : Int} (h : -9223372036854775808 ≤ n ∧ n ≤ 9223372036854775807) : ∃ U : Nat, U < 2 ^ 64 ∧ n = (U : Int) - 9223372036854775808 := ⟨(n + 9223372036854775808).toNat, by omega, by omega⟩
theorem byte_div (U i : Nat) : ((U / 256 ^ i : Nat) : Int) % 256 = ((UInt8.ofNat (U / 256 ^ i)).toNat : Int) := by rw [UInt8.toNat_ofNat']; omega
theorem ord_in (U : Nat) (hU : U < 2 ^ 64) : IntKind.u64.wrap (IntKind.u64.wrap ((U : Int) - 9223372036854775808) + 9223372036854775808) = (U : Int) := by
  rw [IntKind.wrap_u64, IntKind.wrap_u64]; omega
theorem or_byte (u : Nat) (c : UInt8) (h : u * 256 + c.toNat < 2 ^ 64) : bits .or .u64 ((u : Int) * 256) (c.toNat : Int) = ((u * 256 + c.toNat : Nat) : Int) := by
  have hc := UInt8.toNat_lt c
  have h1 : u * 256 < 2 ^ 64 := Nat.lt_of_le_of_lt (Nat.le_add_right _ _) h
  have h2 : c.toNat < 2 ^ 64 := Nat.lt_of_le_of_lt (Nat.le_add_left _ _) h
  have e0 : ((u * 256 : Nat) : Int) = (u : Int) * 256 := Int.natCast_mul u 256
  have h3 := or64_nat h1 h2
  rw [e0] at h3
  rw [h3]
  have := Nat.two_pow_add_eq_or_of_lt (i := 8) (b := c.toNat) hc u
  rw [Nat.mul_comm] at this
  rw [← this]
theorem ord_out (U : Nat) (hU : U < 2 ^ 64) : IntKind.i64.wrap (IntKind.u64.wrap ((U : Int) - 9223372036854775808)) = (U : Int) - 9223372036854775808 := by
  rw [IntKind.wrap_u64, IntKind.wrap_i64]; omega
end Go.Proofs.Ytnmjfdejgfmoiaa
/-
  The contracts of code.PutText, of the document's own, and of code.PutField. Condition: a text of at most 2^31 bytes; the library's one variable holds some number.
-/
namespace Go.Proofs.Ytnmjfdejgfmoiaa
set_option maxRecDepth 100000
open Go.RowKit
theorem below_after1 {w w' : World} {o : Obj} (h : Below (w.alloc o).drew.heap.size (w.alloc o).drew w') : Below w.heap.size w w' :=
  (below_alloc w o).drew.trans (h.mono (by show w.heap.size ≤ (w.alloc o).heap.size; simp))
theorem below_after2 {w w' : World} {o o' : Obj} (h : Below ((w.alloc o).alloc o').drew.heap.size ((w.alloc o).alloc o').drew w') : Below w.heap.size w w' :=
  ((below_alloc w o).alloc (by simp) o').drew.trans (h.mono (by show w.heap.size ≤ ((w.alloc o).alloc o').heap.size; simp; omega))
theorem two_text (x y : UInt8) (u : World) (g : Nat) (h0 : u.cell? ⟨g, 0, none⟩ = some (.int .u8 (x.toNat : Int))) (h1 : u.cell? ⟨g, 1, none⟩ = some (.int .u8 (y.toNat : Int))) :
    (convert 60 9 (.slice (some ⟨g, 0, none⟩) 2 2)).run Try.prog u = .ok (.string ⟨#[x, y]⟩) u := by
  have := run_convert_bytes_arg (P := Try.prog) u 60 5 Try.underlying60 Try.underlying5 g 0 2 2 [(x.toNat : Int), (y.toNat : Int)] rfl (by
    intro i hi
    rcases (show i = 0 ∨ i = 1 by omega) with rfl | rfl
    · exact h0
    · exact h1) 9 Try.underlying9
  rw [this]
  congr 2
  simp [strOfNums]
theorem putfield_any (t : ByteArray) (ht : t.size ≤ reachBytes) (w : World) :
    Calls Try.prog 28 #[.string t] w fun e w' => e = .returned (.string ⟨(Code.uvar t.size ++ t.data.toList).toArray⟩) ∧ Below w.heap.size w w' := by
  unfold reachBytes at ht
  have hl := Code.uvar_ten (n := t.size) (by omega)
  have C := putuint_any t.size (by omega)
  obtain ⟨V, hV⟩ := named (Code.uvar t.size)
  rw [← hV.out] at hl C ⊢
  have CC := Lib.hid C
  clear C
  have hcon : (⟨V.toArray⟩ : ByteArray) ++ t = ⟨(V ++ t.data.toList).toArray⟩ := by
    apply ByteArray.ext; rw [ByteArray.data_append]; apply Array.toList_inj.1; simp
  go_enter Try.func28, Try.ntmps28
  go_wp2_with (go_at_call 27; ((with_reducible refine (CC.out _).mono ?_); rintro e w' ⟨rfl, hb⟩))
  go_ret
  exact ⟨by rw [← hcon]; rfl, hb⟩
end Go.Proofs.Ytnmjfdejgfmoiaa
/-
  The contracts of code.Text and of the document's own, and of the document's PutText: each answers the plain mathematics' ordered text. Condition: a text of a length that there is (the document's PutText: at most 2^31 bytes).
-/
namespace Go.Proofs.Ytnmjfdejgfmoiaa
set_option maxRecDepth 100000
open Go.RowKit
theorem ownsRow_but {w w' : World} {base : Nat} {e : TypeId} {size : Nat} {v : Value} {n b : Nat} {xs : List Value} (h : w.ownsRow base e size v n xs) (hb : But b w w') (hlt : b < base) : w'.ownsRow base e size v n xs := by
  refine ⟨h.1, ?_⟩
  rcases h.2 with h2 | ⟨g, cap, cur, h1, h2, h3, h4⟩
  · exact Or.inl h2
  · refine Or.inr ⟨g, cap, cur, h1, h2, ?_, h4⟩
    have hg : g < w.heap.size := (Array.getElem?_eq_some_iff.1 h3).1
    rw [hb.block g hg (by omega)]; exact h3
theorem cur_grown {w w' : World} {b k : Nat} {s : ByteArray} {row : Option Nat} (h : CurAt w b s k) (hg : w.grownBy w' row) (hr : ∀ r, row = some r → b < r) : CurAt w' b s k := by
  have hb := hg.block b h.lt (fun e => by have := hr b e.symm; omega)
  refine ⟨?_, ?_, ?_⟩
  · have := h.c0; unfold World.cell? at this ⊢; rw [hb]; exact this
  · have := h.c1; unfold World.cell? at this ⊢; rw [hb]; exact this
  · have := h.f1; unfold World.frozen? at this ⊢; rw [hb]; exact this
theorem World.alloc_cur {w : World} {b k : Nat} {s : ByteArray} {o : Obj} (h : CurAt w b s k) : CurAt (w.alloc o) b s k := h.below (below_alloc w o) h.lt
def bytesRowOf (l : List UInt8) : List Value := l.map fun c => .int .u8 (c.toNat : Int)
theorem own_text {w : World} {base : Nat} {v : Value} {n : Nat} {l : List UInt8} (h : w.ownsRow base 5 1 v n (bytesRowOf l)) (x : World) (hx : ∀ a, x.cell? a = w.cell? a) : (convert 60 9 v).run Try.prog x = .ok (.string ⟨l.toArray⟩) x := by
  have hl : l.length = n := by have := h.1; simpa [bytesRowOf] using this
  rcases h.2 with ⟨rfl, rfl⟩ | ⟨g, cap, cur, rfl, h2, h3, h4, h5, h6, h7⟩
  · obtain rfl := List.length_eq_zero_iff.1 hl
    rw [run_convert_bytes_string x 60 9 5 none 0 0 Try.underlying60 Try.underlying5 Try.underlying9]
    rfl
  · subst hl
    refine run_convert_bytes_back x _ _ 5 ⟨g, 0, none⟩ cap l Try.underlying60 Try.underlying5 Try.underlying9 ?_
    intro j hj
    have ha : (⟨g, 0, none⟩ : Addr).add j = ⟨g, j, none⟩ := by
      unfold Addr.add
      split
      · rename_i h0; rw [h0]
      · simp
    rw [ha, hx]
    have e1 : (bytesRowOf l)[j]? = some (.int .u8 (l[j].toNat : Int)) := by unfold bytesRowOf; simp [hj]
    rw [← h7, List.getElem?_take] at e1
    split at e1
    · unfold World.cell?
      rw [h3]
      simpa using e1
    · cases e1
/-- How much a cursor has ahead. -/
def curLeft (w : World) (b n : Nat) : Nat := n - (intOf ((w.cell? ⟨b, 1, none⟩).getD undef)).toNat
theorem CurAt.left {w : World} {b k : Nat} {s : ByteArray} (h : CurAt w b s k) (n : Nat) : curLeft w b n = n - k := by
  unfold curLeft; rw [h.c1]; simp [intOf]
theorem info8 : (Try.prog.info? 5).map (fun i => (i.zero, i.size, i.bytes)) = some (some (.int .u8 0), 1, 1) := by kernel_rfl
theorem new_cell (w : World) (x : Int) (t : TypeId) (j : Nat) (u : Value) (hj : ([Value.int .u8 x])[j]? = some u) : (w.alloc (.cells #[.int .u8 x] t)).cell? ((⟨w.heap.size, 0, none⟩ : Addr).add j) = some u := by
  cases j with
  | zero => simp at hj; subst hj; simp [Addr.add]
  | succ j => simp at hj
theorem extract_one (s : ByteArray) (k : Nat) (h : k < s.size) : s.extract k (k + 1) = ⟨#[s[k]]⟩ := by
  apply ByteArray.ext
  apply Array.toList_inj.1
  rw [ByteArray.data_extract, Array.toList_extract]
  have hl : k < s.data.toList.length := by simpa using h
  rw [List.extract_eq_take_drop, Nat.add_sub_cancel_left, List.drop_eq_getElem_cons hl]
  rfl
theorem slice_one (s : ByteArray) (k : Nat) (h : k < s.size) (w : World) : (Instr.slice 9 (.string s) (some (.int .i64 (k : Int))) (some (.int .i64 ((k : Int) + 1))) none).run Try.prog w = .ok (.string ⟨#[s[k]]⟩) w := by
  rw [run_slice_string_if w 9 s .i64 .i64 _ _ Try.underlying9, if_pos ⟨by omega, by omega⟩, if_pos ⟨by omega, by omega⟩]
  have e1 : (k : Int).toNat = k := by omega
  have e2 : ((k : Int) + 1).toNat = k + 1 := by omega
  rw [e1, e2, extract_one s k h]
end Go.Proofs.Ytnmjfdejgfmoiaa
/-
  The contracts of code.Field and of the document's own: each answers the plain mathematics' field. Condition: a text of a length that there is.
-/
namespace Go.Proofs.Ytnmjfdejgfmoiaa
set_option maxRecDepth 100000
open Go.RowKit
theorem CurAt.put {w : World} {b : Nat} {s : ByteArray} {k : Nat} (h : CurAt w b s k) (j : Nat) (x : Int) (hx : x = (j : Int)) : CurAt (w.setCell ⟨b, 1, none⟩ (.int .i64 x)).drew b s j := by
  subst hx; exact ⟨(h.set j).c0, (h.set j).c1, (h.set j).f1⟩
theorem clone_any (s : ByteArray) (hs : s.size ≤ 281474976710656) (w : World) : Calls Try.prog 47 #[.string s] w fun e w' => e = .returned (.string s) ∧ Below w.heap.size w w' := by
  go_enter Try.func47, Try.ntmps47
  go_wp2_with (go_at_call 53; refine (Any.stringslite_Clone Try.laysM316 s _ hs).mono ?_; rintro e w' ⟨rfl, hb⟩)
  go_ret
  exact ⟨rfl, hb⟩
theorem field_list (s : ByteArray) (k n : Nat) : (s.extract k (k + n)) = ⟨((s.data.toList.drop k).take n).toArray⟩ := by
  apply ByteArray.ext
  apply Array.toList_inj.1
  rw [ByteArray.data_extract, Array.toList_extract, List.extract_eq_take_drop, Nat.add_sub_cancel_left]
end Go.Proofs.Ytnmjfdejgfmoiaa
/-
  The program's reader: advance, number, upTo, level, key. Condition: a text that came in.
-/
namespace Go.Proofs.Ytnmjfdejgfmoiaa
set_option maxRecDepth 100000
open Go.RowKit
/-- Block b is a reader before the text s; f: has it failed? -/
structure RdrAt (w : World) (b : Nat) (s : ByteArray) (f : Bool) : Prop where
  c0 : w.cell? ⟨b, 0, none⟩ = some (.string s)
  c1 : w.cell? ⟨b, 1, none⟩ = some (.bool f)
  f0 : w.frozen? ⟨b, 0, none⟩ = false
  f1 : w.frozen? ⟨b, 1, none⟩ = false
theorem RdrAt.lt {w : World} {b : Nat} {s : ByteArray} {f : Bool} (h : RdrAt w b s f) : b < w.heap.size := World.block_lt_of_cell? _ _ h.c0
theorem RdrAt.below {B b : Nat} {w w' : World} {s : ByteArray} {f : Bool} (h : RdrAt w b s f) (hb : Below B w w') (hB : b < B) : RdrAt w' b s f :=
  ⟨(hb.cell (p := ⟨b, 0, none⟩) hB).trans h.c0, (hb.cell (p := ⟨b, 1, none⟩) hB).trans h.c1, (hb.frozen (p := ⟨b, 0, none⟩) hB).trans h.f0, (hb.frozen (p := ⟨b, 1, none⟩) hB).trans h.f1⟩
theorem RdrAt.drew {w : World} {b : Nat} {s : ByteArray} {f : Bool} (h : RdrAt w b s f) : RdrAt w.drew b s f := ⟨h.c0, h.c1, h.f0, h.f1⟩
theorem RdrAt.set0 {w : World} {b : Nat} {s : ByteArray} {f : Bool} (h : RdrAt w b s f) (t : ByteArray) : RdrAt (w.setCell ⟨b, 0, none⟩ (.string t)) b t f :=
  ⟨World.cell?_setCell_same _ _ _ h.c0, by rw [World.cell?_setCell_other _ _ _ _ (by simp)]; exact h.c1, (World.frozen?_setCell _ _ _ _).trans h.f0, (World.frozen?_setCell _ _ _ _).trans h.f1⟩
theorem RdrAt.set1 {w : World} {b : Nat} {s : ByteArray} {f : Bool} (h : RdrAt w b s f) (g : Bool) : RdrAt (w.setCell ⟨b, 1, none⟩ (.bool g)) b s g :=
  ⟨by rw [World.cell?_setCell_other _ _ _ _ (by simp)]; exact h.c0, World.cell?_setCell_same _ _ _ h.c1, (World.frozen?_setCell _ _ _ _).trans h.f0, (World.frozen?_setCell _ _ _ _).trans h.f1⟩
/-- What number reads, and where the reader stands behind it. -/
def rnum (s : ByteArray) (f : Bool) : Nat × ByteArray × Bool :=
  if (Code.rd 0 s.data.toList).2.2 = 0 then ((Code.rd 0 s.data.toList).1, s.extract (Code.rd 0 s.data.toList).2.1 s.size, f) else (0, s.extract s.size s.size, true)
/-- What key reads. -/
def rkey (s : ByteArray) (f : Bool) : List UInt8 × ByteArray × Bool :=
  if (Code.rdField s.data.toList 520).2.2 = 0 then ((Code.rdField s.data.toList 520).1, s.extract (Code.rdField s.data.toList 520).2.1 s.size, f) else ([], s.extract s.size s.size, true)
/-- What upTo reads. -/
def rup (s : ByteArray) (f : Bool) (most : Nat) : Nat × ByteArray × Bool :=
  if (rnum s f).1 ≤ most then rnum s f else (0, (rnum s f).2.1.extract (rnum s f).2.1.size (rnum s f).2.1.size, true)
theorem ext_size (s : ByteArray) (a : Nat) : (s.extract a s.size).size ≤ s.size := by rw [ByteArray.size_extract]; omega
theorem rnum_size (s : ByteArray) (f : Bool) : (rnum s f).2.1.size ≤ s.size := by
  unfold rnum
  split <;> exact ext_size _ _
theorem rkey_size (s : ByteArray) (f : Bool) : (rkey s f).2.1.size ≤ s.size := by
  unfold rkey
  split <;> exact ext_size _ _
theorem rup_size (s : ByteArray) (f : Bool) (most : Nat) : (rup s f most).2.1.size ≤ s.size := by
  have := rnum_size s f
  unfold rup
  split
  · exact this
  · exact Nat.le_trans (ext_size _ _) this
theorem rdf_fail (l : List UInt8) (x : Int) : (Code.rdField l x).2.1 ≤ l.length ∧ ((Code.rdField l x).2.2 = 0 ∨ ((Code.rdField l x).1 = [] ∧ (Code.rdField l x).2.1 = 0)) := by
  have hk := Code.rd_size l
  unfold Code.rdField
  split
  · exact ⟨by simp, .inr ⟨rfl, rfl⟩⟩
  split
  · exact ⟨by simp, .inr ⟨rfl, rfl⟩⟩
  split
  · exact ⟨by simp, .inr ⟨rfl, rfl⟩⟩
  · exact ⟨by simp only; omega, .inl rfl⟩
end Go.Proofs.Ytnmjfdejgfmoiaa
/-
  The contracts of the document's own Uint and PutUint. Condition: as those of the program's.
-/
namespace Go.Proofs.Ytnmjfdejgfmoiaa
set_option maxRecDepth 100000
open Go.RowKit
end Go.Proofs.Ytnmjfdejgfmoiaa
/-
  The contracts of the document's own Field and PutField. Condition: as those of the program's.
-/
namespace Go.Proofs.Ytnmjfdejgfmoiaa
set_option maxRecDepth 100000
open Go.RowKit
end Go.Proofs.Ytnmjfdejgfmoiaa
/-
  The document's number and text: the next one of a text, and where the rest begins. Condition: a text that came in.
-/
namespace Go.Proofs.Ytnmjfdejgfmoiaa
set_option maxRecDepth 100000
open Go.RowKit
/-- Where the document's reader stands: none says that it failed. -/
def atI : Option Nat → Int
  | none => -1
  | some a => (a : Int)
def dnum (l : List UInt8) (o : Option Nat) (most : Nat) : Nat × Option Nat :=
  match o with
  | none => (0, none)
  | some a => if (Code.rd 0 (l.drop a)).2.2 = 0 ∧ (Code.rd 0 (l.drop a)).1 ≤ most then ((Code.rd 0 (l.drop a)).1, some (a + (Code.rd 0 (l.drop a)).2.1)) else (0, none)
def dtxt (l : List UInt8) (o : Option Nat) : List UInt8 × Option Nat :=
  match o with
  | none => ([], none)
  | some a => if (Code.rdField (l.drop a) 520).2.2 = 0 then ((Code.rdField (l.drop a) 520).1, some (a + (Code.rdField (l.drop a) 520).2.1)) else ([], none)
def OkAt (l : List UInt8) (o : Option Nat) : Prop := ∀ a, o = some a → a ≤ l.length
theorem ext_drop (s : ByteArray) (a : Nat) : (s.extract a s.size).data.toList = s.data.toList.drop a := by
  rw [ByteArray.data_extract, Array.toList_extract, List.extract_eq_take_drop]
  apply List.take_of_length_le
  rw [List.length_drop]
  exact Nat.le_refl _
theorem dnum_ok {l : List UInt8} {o : Option Nat} {most : Nat} (h : OkAt l o) : OkAt l (dnum l o most).2 := by
  intro b hb
  cases o with
  | none => cases hb
  | some a =>
    have ha := h a rfl
    have hk := Code.rd_size (l.drop a)
    rw [List.length_drop] at hk
    unfold dnum at hb
    simp only at hb
    split at hb
    · injection hb with hb; omega
    · cases hb
theorem rdf_err (l : List UInt8) (x : Int) : (Code.rdField l x).2.1 ≤ l.length := by
  have hk := Code.rd_size l
  unfold Code.rdField
  split
  · simp
  split
  · simp
  split
  · simp
  · simp only; omega
theorem dtxt_ok {l : List UInt8} {o : Option Nat} (h : OkAt l o) : OkAt l (dtxt l o).2 := by
  intro b hb
  cases o with
  | none => cases hb
  | some a =>
    have ha := h a rfl
    have hk := rdf_err (l.drop a) 520
    rw [List.length_drop] at hk
    unfold dtxt at hb
    simp only at hb
    split at hb
    · injection hb with hb; omega
    · cases hb
end Go.Proofs.Ytnmjfdejgfmoiaa
