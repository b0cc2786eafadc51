/-
  Plain mathematics of a check sum of 32 bits: a step on the register, its linearity and its injectivity; what 32 bits in a row do. No condition.
-/
namespace Go.Proofs.YtccdbodemoefkaaDoor.Crc

/-- One bit's step: shifted right, and the divisor laid on where the lost bit was 1. -/
def step (r : BitVec 32) : BitVec 32 := (r >>> 1) ^^^ (if r.getLsbD 0 then 0x82F63B78#32 else 0#32)
def steps : Nat → BitVec 32 → BitVec 32
  | 0, r => r
  | n + 1, r => step (steps n r)
def byte (r : BitVec 32) (c : UInt8) : BitVec 32 := steps 8 (r ^^^ c.toBitVec.setWidth 32)
/-- A step done for each byte. -/
def fold (f : BitVec 32 → UInt8 → BitVec 32) (r : BitVec 32) (l : List UInt8) : BitVec 32 := l.foldl f r
theorem fold_snoc (f : BitVec 32 → UInt8 → BitVec 32) (r : BitVec 32) (l : List UInt8) (c : UInt8) : fold f r (l ++ [c]) = f (fold f r l) c := List.foldl_append ..
def run (r : BitVec 32) (l : List UInt8) : BitVec 32 := fold byte r l
/-- All bits turned. -/
def inv (s : BitVec 32) : BitVec 32 := ~~~ s
theorem inv_inv (s : BitVec 32) : inv (inv s) = s := by unfold inv; exact BitVec.not_not
theorem inv_inj {a b : BitVec 32} (h : inv a = inv b) : a = b := by rw [← inv_inv a, h, inv_inv]
def more (s : BitVec 32) (l : List UInt8) : BitVec 32 := inv (run (inv s) l)

theorem step_zero : step 0#32 = 0#32 := by decide
theorem step_xor (a b : BitVec 32) : step (a ^^^ b) = step a ^^^ step b := by
  have hs : (a ^^^ b) >>> 1 = (a >>> 1) ^^^ (b >>> 1) := by ext i hi; simp
  unfold step
  rw [hs, BitVec.getLsbD_xor]
  cases a.getLsbD 0 <;> cases b.getLsbD 0 <;> simp
  · rw [BitVec.xor_assoc]
  · rw [BitVec.xor_assoc, BitVec.xor_assoc, BitVec.xor_comm (b >>> 1)]
  · rw [BitVec.xor_assoc, BitVec.xor_comm _ ((b >>> 1) ^^^ _), BitVec.xor_assoc]; simp
/-- The divisor's top bit is set and a shift's is not: so the lost bit is seen. -/
theorem step_inj0 (a : BitVec 32) (h : step a = 0#32) : a = 0#32 := by
  have h31 : (step a).getLsbD 31 = a.getLsbD 0 := by
    unfold step
    cases a.getLsbD 0 <;> simp
  have h0 : a.getLsbD 0 = false := by rw [← h31, h]; simp
  have hs : a >>> 1 = 0#32 := by
    have := h; unfold step at this; rw [h0] at this; simpa using this
  ext i hi
  simp only [BitVec.getElem_zero]
  rcases i with _ | i
  · rw [← BitVec.getLsbD_eq_getElem]; exact h0
  · have : (a >>> 1).getLsbD i = false := by rw [hs]; simp
    rw [BitVec.getLsbD_ushiftRight] at this
    rw [← BitVec.getLsbD_eq_getElem, Nat.add_comm]; exact this
theorem xor_eq_zero {n : Nat} {a b : BitVec n} (h : a ^^^ b = 0#n) : a = b := by
  have : a ^^^ b ^^^ b = 0#n ^^^ b := by rw [h]
  simpa [BitVec.xor_assoc] using this
theorem step_inj {a b : BitVec 32} (h : step a = step b) : a = b := by
  apply xor_eq_zero
  apply step_inj0
  rw [step_xor, h]; simp
theorem steps_xor (n : Nat) (a b : BitVec 32) : steps n (a ^^^ b) = steps n a ^^^ steps n b := by
  induction n with
  | zero => rfl
  | succ n ih => simp only [steps]; rw [ih, step_xor]
theorem steps_inj (n : Nat) {a b : BitVec 32} (h : steps n a = steps n b) : a = b := by
  induction n with
  | zero => exact h
  | succ n ih => exact ih (step_inj h)
theorem steps_add (m n : Nat) (a : BitVec 32) : steps (m + n) a = steps m (steps n a) := by
  induction m with
  | zero => simp [steps]
  | succ m ih => rw [Nat.add_right_comm]; simp only [steps]; rw [ih]
theorem steps_zero (n : Nat) : steps n 0#32 = 0#32 := by
  induction n with
  | zero => rfl
  | succ n ih => simp only [steps]; rw [ih, step_zero]

theorem wide_xor (c d : UInt8) : (c ^^^ d).toBitVec.setWidth 32 = c.toBitVec.setWidth 32 ^^^ d.toBitVec.setWidth 32 := by
  rw [UInt8.toBitVec_xor, BitVec.setWidth_xor]
theorem byte_xor (a b : BitVec 32) (c d : UInt8) : byte (a ^^^ b) (c ^^^ d) = byte a c ^^^ byte b d := by
  unfold byte
  rw [← steps_xor, wide_xor]
  congr 1
  rw [BitVec.xor_assoc, BitVec.xor_assoc, ← BitVec.xor_assoc b, BitVec.xor_comm b, BitVec.xor_assoc]
theorem byte_inj {a b : BitVec 32} {c : UInt8} (h : byte a c = byte b c) : a = b := by
  have := steps_inj 8 h
  have h2 : a ^^^ c.toBitVec.setWidth 32 ^^^ c.toBitVec.setWidth 32 = b ^^^ c.toBitVec.setWidth 32 ^^^ c.toBitVec.setWidth 32 := by rw [this]
  simpa [BitVec.xor_assoc] using h2
theorem wide_inj {c d : UInt8} (h : c.toBitVec.setWidth 32 = d.toBitVec.setWidth 32) : c = d := by
  apply UInt8.toNat_inj.1
  have := congrArg BitVec.toNat h
  simp only [BitVec.toNat_setWidth, UInt8.toNat_toBitVec] at this
  have h1 := UInt8.toNat_lt c
  have h2 := UInt8.toNat_lt d
  omega
theorem byte_inj2 {a : BitVec 32} {c d : UInt8} (h : byte a c = byte a d) : c = d := by
  have := steps_inj 8 h
  apply wide_inj
  have h2 : a ^^^ (a ^^^ c.toBitVec.setWidth 32) = a ^^^ (a ^^^ d.toBitVec.setWidth 32) := by rw [this]
  simpa [← BitVec.xor_assoc] using h2
theorem byte_zero : byte 0#32 0 = 0#32 := by decide

theorem run_append (r : BitVec 32) (a b : List UInt8) : run r (a ++ b) = run (run r a) b := List.foldl_append ..
theorem run_inj (l : List UInt8) {a b : BitVec 32} (h : run a l = run b l) : a = b := by
  induction l generalizing a b with
  | nil => exact h
  | cons c l ih => exact byte_inj (ih h)
theorem run_xor (l m : List UInt8) (a b : BitVec 32) (h : l.length = m.length) : run (a ^^^ b) (List.zipWith (· ^^^ ·) l m) = run a l ^^^ run b m := by
  induction l generalizing m a b with
  | nil => cases m with
    | nil => rfl
    | cons _ _ => simp at h
  | cons c l ih => cases m with
    | nil => simp at h
    | cons d m =>
      simp only [List.zipWith_cons_cons]
      show run (byte (a ^^^ b) (c ^^^ d)) _ = run (byte a c) l ^^^ run (byte b d) m
      rw [byte_xor]
      exact ih m _ _ (by simpa using h)
theorem run_zeros (n : Nat) : run 0#32 (List.replicate n 0) = 0#32 := by
  induction n with
  | zero => rfl
  | succ n ih =>
    have e : run 0#32 (0 :: List.replicate n 0) = run (byte 0#32 0) (List.replicate n 0) := rfl
    rw [List.replicate_succ, e, byte_zero, ih]
theorem run_append_ne (l : List UInt8) (h : run 0#32 l ≠ 0#32) (n : Nat) : run 0#32 (l ++ List.replicate n 0) ≠ 0#32 := by
  rw [run_append]
  intro e
  exact h (run_inj (List.replicate n 0) (by rw [e, run_zeros]))

theorem more_append (s : BitVec 32) (a b : List UInt8) : more (more s a) b = more s (a ++ b) := by
  unfold more; rw [run_append, inv_inv]
theorem more_nil (s : BitVec 32) : more s [] = s := inv_inv s
theorem more_inj {s t : BitVec 32} {l : List UInt8} : more s l = more t l ↔ s = t :=
  ⟨fun h => inv_inj (run_inj l (inv_inj h)), fun h => by rw [h]⟩
theorem more_last {s : BitVec 32} {a : List UInt8} {x y : UInt8} : more s (a ++ [x]) = more s (a ++ [y]) ↔ x = y := by
  refine ⟨fun h => ?_, fun h => by rw [h]⟩
  have h1 := inv_inj h
  rw [run_append, run_append] at h1
  exact byte_inj2 h1

/-- Four bytes of a register, the lowest first. -/
def low (r : BitVec 32) (i : Nat) : UInt8 := ⟨(r >>> (8 * i)).setWidth 8⟩
def four (r : BitVec 32) : List UInt8 := [low r 0, low r 1, low r 2, low r 3]
theorem step_even (r : BitVec 32) (h : r.getLsbD 0 = false) : step r = r >>> 1 := by
  unfold step; rw [h]; simp
theorem shl_low (y : BitVec 32) (i : Nat) (hi : 0 < i) : (y <<< i).getLsbD 0 = false := by
  rw [BitVec.getLsbD_shiftLeft]; simp [hi]
/-- Bits that are still high are not felt by the steps: they only come down. -/
theorem steps_shl (n : Nat) (y : BitVec 32) (h : ∀ j, 32 - n ≤ j → y.getLsbD j = false) : steps n (y <<< n) = y := by
  induction n generalizing y with
  | zero => simp [steps]
  | succ n ih =>
    have e : steps (n + 1) (y <<< (n + 1)) = steps n (step (y <<< (n + 1))) := by rw [steps_add n 1]; rfl
    rw [e, step_even _ (shl_low y _ (by omega))]
    have e2 : (y <<< (n + 1)) >>> 1 = y <<< n := by
      apply BitVec.eq_of_getLsbD_eq
      intro j hj
      rw [BitVec.getLsbD_ushiftRight, BitVec.getLsbD_shiftLeft, BitVec.getLsbD_shiftLeft]
      by_cases hjn : j < n
      · have : ¬ n < 1 + j := by omega
        simp [hjn, show 1 + j < n + 1 by omega]
      · by_cases h31 : j = 31
        · subst h31
          have : y.getLsbD (31 - n) = false := h _ (by omega)
          simp [this]
        · simp [hj, hjn, show 1 + j < 32 by omega, show ¬ 1 + j < n + 1 by omega]
          congr 1
          omega
    rw [e2]
    exact ih y (fun j hj => h j (by omega))
end Go.Proofs.YtccdbodemoefkaaDoor.Crc
