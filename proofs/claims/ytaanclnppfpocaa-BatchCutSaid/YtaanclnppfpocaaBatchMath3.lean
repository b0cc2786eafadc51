/-
  What is read is what is written (mathematics). No condition.
-/
import Derived.Test.YtaanclnppfpocaaBatchMath2
namespace Go.Proofs.Ytaanclnppfpocaa
theorem fldB_list (t : List UInt8) : fldB ⟨t.toArray⟩ = Code.uvar t.length ++ t := by
  unfold fldB
  show Code.uvar (t.toArray.size) ++ t = _
  rw [List.size_toArray]
theorem field_head {l : List UInt8} {x : Int} (h : (Code.rdField l x).2.2 = 0) : fldB ⟨(Code.rdField l x).1.toArray⟩ ++ l.drop (Code.rdField l x).2.1 = l := by
  rw [fldB_list, (Code.put_field l x h).2.2, List.take_append_drop]
theorem decW_enc {l : List UInt8} {x : Wr} {k : Nat} (h : decW l = some (x, k)) : encW x ++ l.drop k = l := by
  cases l with
  | nil => cases h
  | cons b r =>
    simp only [decW] at h
    split at h
    · rename_i hb
      split at h
      · cases h
      · rename_i h1
        split at h
        · cases h
        · rename_i h2
          simp only [Option.some.injEq, Prod.mk.injEq] at h
          obtain ⟨rfl, rfl⟩ := h
          subst hb
          have e1 := field_head (l := r) (x := 520) (by omega)
          have e2 := field_head (l := r.drop (Code.rdField r 520).2.1) (x := 2048) (by omega)
          unfold encW
          simp only [if_true]
          rw [Nat.add_comm 1, List.drop_succ_cons, ← List.drop_drop]
          show (1 :: (_ ++ _)) ++ _ = _
          rw [List.cons_append, List.append_assoc, e2, e1]
    · split at h
      · rename_i hb
        split at h
        · cases h
        · rename_i h1
          simp only [Option.some.injEq, Prod.mk.injEq] at h
          obtain ⟨rfl, rfl⟩ := h
          subst hb
          have e1 := field_head (l := r) (x := 520) (by omega)
          unfold encW
          rw [Nat.add_comm 1, List.drop_succ_cons]
          simp only [show ¬ ((2 : Int) = 1) by decide, if_false, List.append_nil]
          show (2 :: _) ++ _ = _
          rw [List.cons_append, e1]
      · cases h
theorem decL_enc : ∀ (j : Nat) (l : List UInt8) {xs : List Wr} {r : List UInt8}, decL j l = some (xs, r) → encL xs ++ r = l
  | 0, l, xs, r, h => by
    simp only [decL, Option.some.injEq, Prod.mk.injEq] at h
    rw [← h.1, ← h.2]; rfl
  | j + 1, l, xs, r, h => by
    rw [decL] at h
    cases e : decW l with
    | none => rw [e] at h; cases h
    | some y =>
      rw [e] at h
      obtain ⟨z, hz, hy⟩ := Option.map_eq_some_iff.1 h
      simp only [Prod.mk.injEq] at hy
      rw [← hy.1, ← hy.2]
      have h1 := decW_enc (x := y.1) (k := y.2) e
      have h2 := decL_enc j _ hz
      show (encW y.1 ++ encL z.1) ++ z.2 = l
      rw [List.append_assoc, h2, h1]
/-- What decB says: bytes that are written, or nothing. -/
theorem decB_way (l : List UInt8) : (decB l = (0, [], 7)) ∨ ∃ seq xs, decB l = (seq, xs, 0) ∧ chkB seq xs = 0 ∧ encB seq xs = l ∧ seq < 2 ^ 64 ∧ ∀ x ∈ xs, x.key.size ≤ 2048 ∧ x.val.size ≤ 2048 := by
  by_cases hb : (Code.rd 0 l).2.2 ≠ 0 ∨ (Code.rd 0 (l.drop (Code.rd 0 l).2.1)).2.2 ≠ 0 ∨ 64 < (Code.rd 0 (l.drop (Code.rd 0 l).2.1)).1
  · exact .inl (if_pos hb)
  · have e0 : decB l = match decL (Code.rd 0 (l.drop (Code.rd 0 l).2.1)).1 (restB l) with
      | none => (0, [], 7)
      | some (xs, r) => if r = [] ∧ chkB (Code.rd 0 l).1 xs = 0 then ((Code.rd 0 l).1, xs, 0) else (0, [], 7) := if_neg hb
    cases hd : decL (Code.rd 0 (l.drop (Code.rd 0 l).2.1)).1 (restB l) with
    | none => rw [hd] at e0; exact .inl e0
    | some y =>
      rw [hd] at e0
      obtain ⟨xs, r⟩ := y
      simp only at e0
      by_cases hr : r = [] ∧ chkB (Code.rd 0 l).1 xs = 0
      · rw [if_pos hr] at e0
        refine .inr ⟨_, xs, e0, hr.2, ?_, Code.rd_fits l, decL_fit _ _ hd⟩
        have h1 := Code.put_uint l (by omega)
        have h2 := Code.put_uint (l.drop (Code.rd 0 l).2.1) (by omega)
        have h3 := decL_enc _ _ hd
        have h4 := decL_len _ _ hd
        rw [hr.1, List.append_nil] at h3
        unfold encB
        rw [h3, h4, h1, h2]
        unfold restB
        rw [List.append_assoc, List.take_append_drop, List.take_append_drop]
      · rw [if_neg hr] at e0; exact .inl e0
end Go.Proofs.Ytaanclnppfpocaa
