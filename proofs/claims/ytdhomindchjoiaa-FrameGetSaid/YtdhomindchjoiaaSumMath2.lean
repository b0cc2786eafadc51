/-
  Plain mathematics of the check sum, more: four bytes of a register; one bit turned in a list of bytes, and up to 32 of them in a row; four lists whose bits are even. No condition.
-/
import Derived.Test.YtdhomindchjoiaaSumMath
namespace Go.Proofs.Ytdhomindchjoiaa.Crc
/-- The register that a list of at most four bytes lays on, the first byte lowest. -/
def join : List UInt8 → BitVec 32
  | [] => 0#32
  | c :: l => c.toBitVec.setWidth 32 ^^^ (join l <<< 8)
theorem wide_high (c : UInt8) (j : Nat) (h : 8 ≤ j) : (c.toBitVec.setWidth 32).getLsbD j = false := by
  rw [BitVec.getLsbD_setWidth, BitVec.getLsbD_of_ge _ _ h, Bool.and_false]
theorem join_high (l : List UInt8) (j : Nat) (h : 8 * l.length ≤ j) : (join l).getLsbD j = false := by
  induction l generalizing j with
  | nil => simp [join]
  | cons c l ih =>
    simp only [List.length_cons] at h
    rw [join, BitVec.getLsbD_xor, wide_high c j (by omega), BitVec.getLsbD_shiftLeft, ih (j - 8) (by omega)]
    simp
theorem run_join (l : List UInt8) (r : BitVec 32) (h : l.length ≤ 4) : run r l = steps (8 * l.length) (r ^^^ join l) := by
  induction l generalizing r with
  | nil => simp [join, steps, run, fold]
  | cons c l ih =>
    simp only [List.length_cons] at h
    have e : run r (c :: l) = run (byte r c) l := rfl
    rw [e, ih _ (by omega)]
    have hs : steps 8 (join l <<< 8) = join l := steps_shl 8 _ (fun j hj => join_high l j (by omega))
    have e2 : byte r c ^^^ join l = steps 8 (r ^^^ join (c :: l)) := by
      rw [join, ← BitVec.xor_assoc, steps_xor, hs]; rfl
    rw [e2, ← steps_add, List.length_cons]
    congr 1
theorem low_bit (r : BitVec 32) (i j : Nat) : ((low r i).toBitVec.setWidth 32).getLsbD j = (decide (j < 8) && r.getLsbD (8 * i + j)) := by
  unfold low
  rw [BitVec.getLsbD_setWidth]
  show (decide (j < 32) && ((r >>> (8 * i)).setWidth 8).getLsbD j) = _
  rw [BitVec.getLsbD_setWidth, BitVec.getLsbD_ushiftRight]
  by_cases h : j < 8
  · simp [h, show j < 32 by omega]
  · simp [h]
theorem join_four (r : BitVec 32) : join (four r) = r := by
  apply BitVec.eq_of_getLsbD_eq
  intro j hj
  simp only [four, join, BitVec.getLsbD_xor, BitVec.getLsbD_shiftLeft, low_bit, BitVec.getLsbD_zero, hj, decide_true, Bool.true_and]
  rcases (show j < 8 ∨ (8 ≤ j ∧ j < 16) ∨ (16 ≤ j ∧ j < 24) ∨ 24 ≤ j by omega) with h | ⟨h, h'⟩ | ⟨h, h'⟩ | h
  · simp [h]
  · simp [show ¬ j < 8 by omega, show j - 8 < 8 by omega, show j - 8 < 32 by omega, show 8 + (j - 8) = j by omega]
  · simp [show ¬ j < 8 by omega, show ¬ j - 8 < 8 by omega, show j - 8 - 8 < 8 by omega, show j - 8 < 32 by omega, show j - 8 - 8 < 32 by omega, show 16 + (j - 8 - 8) = j by omega]
  · simp [show ¬ j < 8 by omega, show ¬ j - 8 < 8 by omega, show ¬ j - 8 - 8 < 8 by omega, show j - 8 - 8 - 8 < 8 by omega, show j - 8 < 32 by omega, show j - 8 - 8 < 32 by omega, show j - 8 - 8 - 8 < 32 by omega, show 24 + (j - 8 - 8 - 8) = j by omega]
theorem inv_eq (a : BitVec 32) : inv a = a ^^^ BitVec.allOnes 32 := by unfold inv; rw [BitVec.xor_allOnes]
/-- What the sum of bytes with their own sum behind them is. -/
theorem more_sealed (s : BitVec 32) (l : List UInt8) : more s (l ++ four (more s l)) = inv (steps 32 (BitVec.allOnes 32)) := by
  unfold more
  congr 1
  rw [run_append, run_join _ _ (by simp [four]), join_four]
  generalize run (inv s) l = a
  have : a ^^^ inv a = BitVec.allOnes 32 := by rw [inv_eq, ← BitVec.xor_assoc, BitVec.xor_self, BitVec.zero_xor]
  rw [this]; rfl

theorem byte_reg (a b : BitVec 32) (c : UInt8) : byte (a ^^^ b) c = byte a c ^^^ steps 8 b := by
  unfold byte
  rw [← steps_xor]
  congr 1
  rw [BitVec.xor_assoc, BitVec.xor_assoc, BitVec.xor_comm b]
theorem run_reg (l : List UInt8) (a b : BitVec 32) : run (a ^^^ b) l = run a l ^^^ steps (8 * l.length) b := by
  induction l generalizing a b with
  | nil => rfl
  | cons c l ih =>
    have e : ∀ r, run r (c :: l) = run (byte r c) l := fun _ => rfl
    rw [e, e, byte_reg, ih, ← steps_add, List.length_cons]
    congr 1
theorem byte_turn (r : BitVec 32) (x c : UInt8) : byte r (x ^^^ c) = byte r x ^^^ steps 8 (c.toBitVec.setWidth 32) := by
  unfold byte
  rw [← steps_xor, wide_xor, BitVec.xor_assoc]
/-- One byte's bits turned. -/
theorem run_turn (l : List UInt8) (q : Nat) (c : UInt8) (r : BitVec 32) (h : q < l.length) : run r (l.modify q (· ^^^ c)) = run r l ^^^ steps (8 * (l.length - q)) (c.toBitVec.setWidth 32) := by
  induction l generalizing q r with
  | nil => simp at h
  | cons x l ih =>
    have e : ∀ r x, run r (x :: l) = run (byte r x) l := fun _ _ => rfl
    cases q with
    | zero =>
      show run r ((x ^^^ c) :: l) = _
      rw [e, e, byte_turn, run_reg, ← steps_add]
      congr 1
    | succ q =>
      simp only [List.length_cons] at h
      show run r (x :: l.modify q (· ^^^ c)) = _
      have e2 : run r (x :: l.modify q (· ^^^ c)) = run (byte r x) (l.modify q (· ^^^ c)) := rfl
      rw [e2, e, ih q _ (by omega), List.length_cons]
      congr 2
      omega
/-- The one bit p of a byte. -/
def bit (p : Nat) : UInt8 := UInt8.ofNat (2 ^ p)
theorem wide_bit (p : Nat) (h : p < 8) : (bit p).toBitVec.setWidth 32 = 1#32 <<< p := by
  rcases (show p = 0 ∨ p = 1 ∨ p = 2 ∨ p = 3 ∨ p = 4 ∨ p = 5 ∨ p = 6 ∨ p = 7 by omega) with rfl | rfl | rfl | rfl | rfl | rfl | rfl | rfl <;> decide
theorem steps_one (p n : Nat) (h : p ≤ n) (h32 : p < 32) : steps n (1#32 <<< p) = steps (n - p) 1#32 := by
  have e : n = (n - p) + p := by omega
  have hs : steps p (1#32 <<< p) = 1#32 := by
    apply steps_shl
    intro j hj
    rw [BitVec.getLsbD_one]
    simp; omega
  have e2 : steps n (1#32 <<< p) = steps ((n - p) + p) (1#32 <<< p) := congrArg (fun m => steps m (1#32 <<< p)) e
  rw [e2, steps_add, hs]
/-- Bits turned from place k on: of the pattern's bits the first n. -/
def burst (l : List UInt8) (k : Nat) (p : BitVec 32) : Nat → List UInt8
  | 0 => l
  | n + 1 => if p.getLsbD n then (burst l k p n).modify ((k + n) / 8) (· ^^^ bit ((k + n) % 8)) else burst l k p n
theorem burst_length (l : List UInt8) (k : Nat) (p : BitVec 32) (n : Nat) : (burst l k p n).length = l.length := by
  induction n with
  | zero => rfl
  | succ n ih => unfold burst; split <;> simp [ih]
/-- The pattern's first n bits. -/
def firsts (p : BitVec 32) : Nat → BitVec 32
  | 0 => 0#32
  | n + 1 => if p.getLsbD n then firsts p n ^^^ (1#32 <<< n) else firsts p n
theorem firsts_bit (p : BitVec 32) (n j : Nat) (hn : n ≤ 32) : (firsts p n).getLsbD j = (decide (j < n) && p.getLsbD j) := by
  induction n with
  | zero => simp [firsts]
  | succ n ih =>
    have h1 : (1#32 <<< n).getLsbD j = decide (j = n) := by
      rw [BitVec.getLsbD_shiftLeft, BitVec.getLsbD_one]
      by_cases h : j = n
      · subst h; simp; omega
      · by_cases h2 : j < n
        · simp [h, h2]
        · simp [h, show ¬ j - n = 0 by omega]
    unfold firsts
    split
    · rename_i hp
      rw [BitVec.getLsbD_xor, ih (by omega), h1]
      by_cases h : j = n
      · subst h; simp [hp]
      · by_cases h2 : j < n
        · simp [h, h2, show j < n + 1 by omega]
        · simp [h, h2, show ¬ j < n + 1 by omega]
    · rename_i hp
      rw [ih (by omega)]
      by_cases h : j = n
      · subst h; simp at hp; simp [hp]
      · by_cases h2 : j < n
        · simp [h2, show j < n + 1 by omega]
        · simp [h2, show ¬ j < n + 1 by omega]
theorem firsts_all (p : BitVec 32) : firsts p 32 = p := by
  apply BitVec.eq_of_getLsbD_eq
  intro j hj
  rw [firsts_bit p 32 j (by omega)]; simp [hj]
theorem run_burst (l : List UInt8) (k : Nat) (p : BitVec 32) (r : BitVec 32) (hk : k + 32 ≤ 8 * l.length) (n : Nat) (hn : n ≤ 32) : run r (burst l k p n) = run r l ^^^ steps (8 * l.length - k) (firsts p n) := by
  induction n with
  | zero => simp [burst, firsts, steps_zero]
  | succ n ih =>
    unfold burst firsts
    split
    · rw [run_turn _ _ _ _ (by rw [burst_length]; omega), ih (by omega), burst_length, wide_bit _ (by omega), steps_xor, BitVec.xor_assoc]
      congr 2
      rw [steps_one _ _ (by omega) (by omega), steps_one _ _ (by omega) (by omega)]
      congr 1
      omega
    · exact ih (by omega)
theorem more_burst (l : List UInt8) (k : Nat) (p : BitVec 32) (s : BitVec 32) (hk : k + 32 ≤ 8 * l.length) (hp : p ≠ 0#32) : more s (burst l k p 32) ≠ more s l := by
  intro h
  have h1 := inv_inj h
  rw [run_burst l k p _ hk 32 (by omega), firsts_all] at h1
  have h2 : steps (8 * l.length - k) p = 0#32 := by
    have h3 : run (inv s) l ^^^ (run (inv s) l ^^^ steps (8 * l.length - k) p) = run (inv s) l ^^^ run (inv s) l := by rw [h1]
    rw [← BitVec.xor_assoc, BitVec.xor_self, BitVec.zero_xor] at h3
    exact h3
  exact hp (steps_inj _ (by rw [h2, steps_zero]))
/-- Byte by byte exclusive or of three lists. -/
def odd (a b c : List UInt8) : List UInt8 := List.zipWith (· ^^^ ·) (List.zipWith (· ^^^ ·) a b) c
theorem more_four (s : BitVec 32) (a b c : List UInt8) (hab : a.length = b.length) (hbc : b.length = c.length) : more s a ^^^ more s b ^^^ more s c ^^^ more s (odd a b c) = 0#32 := by
  have h1 : run (inv s) (odd a b c) = run (inv s) a ^^^ run (inv s) b ^^^ run (inv s) c := by
    unfold odd
    have e : inv s = (inv s ^^^ inv s) ^^^ inv s := by simp
    rw [← run_xor a b _ _ hab, ← run_xor _ c _ _ (by simp [hab, hbc])]
    rw [← e]
  unfold more
  rw [h1]
  generalize run (inv s) a = x
  generalize run (inv s) b = y
  generalize run (inv s) c = z
  rw [inv_eq x, inv_eq y, inv_eq z, inv_eq (x ^^^ y ^^^ z)]
  generalize BitVec.allOnes 32 = o
  apply BitVec.eq_of_getLsbD_eq
  intro j _
  simp only [BitVec.getLsbD_xor, BitVec.getLsbD_zero]
  generalize x.getLsbD j = x
  generalize y.getLsbD j = y
  generalize z.getLsbD j = z
  generalize o.getLsbD j = o
  cases x <;> cases y <;> cases z <;> cases o <;> rfl
end Go.Proofs.Ytdhomindchjoiaa.Crc
