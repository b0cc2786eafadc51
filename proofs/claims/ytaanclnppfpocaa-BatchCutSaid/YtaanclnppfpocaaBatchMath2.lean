/-
  Batches as bytes. No condition.
-/
import Derived.Test.YtaanclnppfpocaaBatchMath
namespace Go.Proofs.Ytaanclnppfpocaa
def fldB (s : ByteArray) : List UInt8 := Code.uvar s.size ++ s.data.toList
def encW (x : Wr) : List UInt8 := UInt8.ofNat x.kind.toNat :: (fldB x.key ++ if x.kind = 1 then fldB x.val else [])
def encL (l : List Wr) : List UInt8 := l.flatMap encW
def encB (seq : Nat) (l : List Wr) : List UInt8 := Code.uvar seq ++ Code.uvar l.length ++ encL l
theorem encL_snoc (l : List Wr) (x : Wr) : encL (l ++ [x]) = encL l ++ encW x := by simp [encL]
theorem size_list (s : ByteArray) : s.data.toList.length = s.size := by rw [Array.length_toList]; rfl
theorem uvar_short {n : Nat} (h : n ≤ 72057594037927872) : (Code.uvar n).length ≤ 10 := Code.uvar_ten (by omega)
theorem fldB_len {s : ByteArray} {n : Nat} (h : s.size ≤ n) (hn : n ≤ 4096) : (fldB s).length ≤ n + 10 := by
  unfold fldB
  rw [List.length_append, size_list]
  have := uvar_short (n := s.size) (by omega)
  omega
theorem Wr.long_false {x : Wr} (h : x.long = false) : x.key.size ≤ 520 ∧ x.val.size ≤ 2048 := by
  unfold Wr.long at h
  simp only [Bool.or_eq_false_iff, decide_eq_false_iff_not] at h
  omega
theorem encW_len {x : Wr} (h : x.long = false) : (encW x).length ≤ 2600 := by
  obtain ⟨h1, h2⟩ := Wr.long_false h
  unfold encW
  rw [List.length_cons, List.length_append]
  have := fldB_len h1 (by omega)
  split
  · have := fldB_len h2 (by omega)
    omega
  · simp; omega
theorem encL_len : ∀ {l : List Wr}, (∀ x ∈ l, x.long = false) → (encL l).length ≤ 2600 * l.length
  | [], _ => by simp [encL]
  | x :: r, h => by
    have h1 := encW_len (h x (by simp))
    have h2 := encL_len (l := r) fun y hy => h y (by simp [hy])
    unfold encL at h2 ⊢
    rw [List.flatMap_cons, List.length_append, List.length_cons]
    omega
/-- A write at the head of bytes, and how many it has. -/
def decW : List UInt8 → Option (Wr × Nat)
  | [] => none
  | k :: r =>
    if k = 1 then
      if (Code.rdField r 520).2.2 ≠ 0 then none
      else if (Code.rdField (r.drop (Code.rdField r 520).2.1) 2048).2.2 ≠ 0 then none
      else some (⟨1, ⟨(Code.rdField r 520).1.toArray⟩, ⟨(Code.rdField (r.drop (Code.rdField r 520).2.1) 2048).1.toArray⟩⟩, 1 + ((Code.rdField r 520).2.1 + (Code.rdField (r.drop (Code.rdField r 520).2.1) 2048).2.1))
    else if k = 2 then
      if (Code.rdField r 520).2.2 ≠ 0 then none else some (⟨2, ⟨(Code.rdField r 520).1.toArray⟩, ⟨#[]⟩⟩, 1 + (Code.rdField r 520).2.1)
    else none
def decL : Nat → List UInt8 → Option (List Wr × List UInt8)
  | 0, l => some ([], l)
  | m + 1, l => match decW l with
    | none => none
    | some (x, k) => (decL m (l.drop k)).map fun y => (x :: y.1, y.2)
theorem decL_snoc : ∀ (j : Nat) (l : List UInt8) {xs : List Wr} {r : List UInt8}, decL j l = some (xs, r) → decL (j + 1) l = (decW r).map fun y => (xs ++ [y.1], r.drop y.2)
  | 0, l, xs, r, h => by
    simp only [decL, Option.some.injEq, Prod.mk.injEq] at h
    obtain ⟨rfl, rfl⟩ := h
    simp only [decL]
    cases decW l with
    | none => rfl
    | some y => rfl
  | j + 1, l, xs, r, h => by
    rw [decL] at h ⊢
    cases e : decW l with
    | none => rw [e] at h; cases h
    | some y =>
      rw [e] at h
      simp only at h ⊢
      obtain ⟨z, hz, hy⟩ := Option.map_eq_some_iff.1 h
      simp only [Prod.mk.injEq] at hy
      obtain ⟨rfl, rfl⟩ := hy
      rw [decL_snoc j _ hz]
      cases decW z.2 with
      | none => rfl
      | some y' => rfl
theorem decL_none (m : Nat) : ∀ (j : Nat) (l : List UInt8) {xs : List Wr} {r : List UInt8}, decL j l = some (xs, r) → decW r = none → j < m → decL m l = none := by
  induction m with
  | zero => intro j l xs r _ _ h; omega
  | succ m ih =>
    intro j l xs r h hn hj
    by_cases e : j = m
    · subst e
      rw [decL_snoc j l h, hn]; rfl
    · have h0 := ih j l h hn (by omega)
      have step : ∀ (m : Nat) (l : List UInt8), decL m l = none → decL (m + 1) l = none := by
        intro m
        induction m with
        | zero => intro l h; cases h
        | succ m ih2 =>
          intro l h
          rw [decL] at h ⊢
          cases e : decW l with
          | none => rfl
          | some y =>
            rw [e] at h
            simp only [Option.map_eq_none_iff] at h ⊢
            exact ih2 _ h
      exact step m l h0
theorem decL_len : ∀ (j : Nat) (l : List UInt8) {xs : List Wr} {r : List UInt8}, decL j l = some (xs, r) → xs.length = j
  | 0, l, xs, r, h => by
    simp only [decL, Option.some.injEq, Prod.mk.injEq] at h
    rw [← h.1]; rfl
  | j + 1, l, xs, r, h => by
    rw [decL] at h
    cases e : decW l with
    | none => rw [e] at h; cases h
    | some y =>
      rw [e] at h
      obtain ⟨z, hz, hy⟩ := Option.map_eq_some_iff.1 h
      simp only [Prod.mk.injEq] at hy
      rw [← hy.1, List.length_cons, decL_len j _ hz]
theorem rdField_len (l : List UInt8) (n : Nat) : (Code.rdField l (n : Int)).1.length ≤ n := by
  unfold Code.rdField
  split
  · simp
  · split
    · simp
    · split
      · simp
      · rename_i h _
        simp only [List.length_take]
        omega
theorem decW_fit {l : List UInt8} {x : Wr} {k : Nat} (h : decW l = some (x, k)) : x.key.size ≤ 2048 ∧ x.val.size ≤ 2048 := by
  cases l with
  | nil => cases h
  | cons b r =>
    have e1 := rdField_len r 520
    simp only [decW] at h
    split at h
    · split at h
      · cases h
      · split at h
        · cases h
        · have e2 := rdField_len (r.drop (Code.rdField r 520).2.1) 2048
          simp only [Option.some.injEq, Prod.mk.injEq] at h
          rw [← h.1]
          refine ⟨?_, ?_⟩
          · show ((Code.rdField r 520).1.toArray).size ≤ _; rw [List.size_toArray]; exact Nat.le_trans e1 (by omega)
          · show ((Code.rdField (r.drop (Code.rdField r 520).2.1) 2048).1.toArray).size ≤ _; rw [List.size_toArray]; exact e2
    · split at h
      · split at h
        · cases h
        · simp only [Option.some.injEq, Prod.mk.injEq] at h
          rw [← h.1]
          refine ⟨?_, Nat.zero_le _⟩
          show ((Code.rdField r 520).1.toArray).size ≤ _; rw [List.size_toArray]; exact Nat.le_trans e1 (by omega)
      · cases h
theorem decL_fit : ∀ (j : Nat) (l : List UInt8) {xs : List Wr} {r : List UInt8}, decL j l = some (xs, r) → ∀ x ∈ xs, x.key.size ≤ 2048 ∧ x.val.size ≤ 2048
  | 0, l, xs, r, h, x, hx => by
    simp only [decL, Option.some.injEq, Prod.mk.injEq] at h
    rw [← h.1] at hx; cases hx
  | j + 1, l, xs, r, h, x, hx => by
    rw [decL] at h
    cases e : decW l with
    | none => rw [e] at h; cases h
    | some y =>
      rw [e] at h
      obtain ⟨z, hz, hy⟩ := Option.map_eq_some_iff.1 h
      simp only [Prod.mk.injEq] at hy
      rw [← hy.1] at hx
      rcases List.mem_cons.1 hx with rfl | hx
      · exact decW_fit (k := y.2) e
      · exact decL_fit j _ hz x hx
def restB (l : List UInt8) : List UInt8 := (l.drop (Code.rd 0 l).2.1).drop (Code.rd 0 (l.drop (Code.rd 0 l).2.1)).2.1
/-- What bytes tell: a number, writes, an error. -/
def decB (l : List UInt8) : Nat × List Wr × Int :=
  if (Code.rd 0 l).2.2 ≠ 0 ∨ (Code.rd 0 (l.drop (Code.rd 0 l).2.1)).2.2 ≠ 0 ∨ 64 < (Code.rd 0 (l.drop (Code.rd 0 l).2.1)).1 then (0, [], 7)
  else match decL (Code.rd 0 (l.drop (Code.rd 0 l).2.1)).1 (restB l) with
    | none => (0, [], 7)
    | some (xs, r) => if r = [] ∧ chkB (Code.rd 0 l).1 xs = 0 then ((Code.rd 0 l).1, xs, 0) else (0, [], 7)
end Go.Proofs.Ytaanclnppfpocaa
