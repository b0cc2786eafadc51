/-
  What is written is read back, and no encoding begins another one (mathematics). No condition.
-/
import Derived.Test.YtdlbifcfkgmpcaaBatchMath3
namespace Go.Proofs.Ytdlbifcfkgmpcaa
theorem back_bytes (s : ByteArray) : (⟨s.data.toList.toArray⟩ : ByteArray) = s := by
  apply ByteArray.ext; simp
theorem rd_fldB (s : ByteArray) (n : Nat) (h : s.size ≤ n) (hn : n ≤ 4096) (t : List UInt8) : Code.rdField (fldB s ++ t) (n : Int) = (s.data.toList, (fldB s).length, 0) := by
  unfold fldB
  have := Code.rdField_fld s.data.toList t (by rw [size_list]; omega) (n : Int) (by rw [size_list]; omega)
  rw [size_list] at this
  exact this
theorem wr_good {x : Wr} (hb : x.bad = false) : (x.kind = 1 ∨ x.kind = 2 ∧ x.val.size = 0) := by
  unfold Wr.bad at hb
  simp only [Bool.or_eq_false_iff, Bool.and_eq_false_iff, bne_eq_false_iff_eq, beq_eq_false_iff_ne] at hb
  obtain ⟨h1, _, h3⟩ := hb
  rcases h1 with h1 | h1
  · exact .inl h1
  · refine .inr ⟨h1, ?_⟩
    rcases h3 with h3 | h3
    · exact absurd h1 h3
    · exact h3
theorem decW_put (x : Wr) (hb : x.bad = false) (hl : x.long = false) (t : List UInt8) : decW (encW x ++ t) = some (x, (encW x).length) := by
  obtain ⟨h1, h2⟩ := Wr.long_false hl
  obtain ⟨k, key, val⟩ := x
  simp only at h1 h2
  rcases wr_good hb with hk | ⟨hk, hv⟩
  · simp only at hk
    subst hk
    have e : encW ⟨1, key, val⟩ ++ t = 1 :: (fldB key ++ (fldB val ++ t)) := by
      unfold encW; simp
    rw [e]
    simp only [decW]
    have r1 : Code.rdField (fldB key ++ (fldB val ++ t)) 520 = _ := rd_fldB key 520 h1 (by omega) (fldB val ++ t)
    have r2 : Code.rdField (fldB val ++ t) 2048 = _ := rd_fldB val 2048 h2 (by omega) t
    rw [if_pos trivial]
    rw [r1]
    simp only [List.drop_left, r2]
    simp only [ne_eq, not_true_eq_false, if_false, back_bytes]
    congr 2
    unfold encW
    simp; omega
  · simp only at hk hv
    subst hk
    have hv0 : val = ⟨#[]⟩ := by
      apply ByteArray.ext
      exact Array.eq_empty_of_size_eq_zero hv
    subst hv0
    have e : encW ⟨2, key, ⟨#[]⟩⟩ ++ t = 2 :: (fldB key ++ t) := by
      unfold encW; simp
    rw [e]
    simp only [decW]
    have r1 : Code.rdField (fldB key ++ t) 520 = _ := rd_fldB key 520 h1 (by omega) t
    rw [if_neg (show ¬ (2 : UInt8) = 1 by decide), if_pos trivial, r1]
    simp only [ne_eq, not_true_eq_false, if_false, back_bytes]
    congr 2
    unfold encW
    simp; omega
theorem decL_put : ∀ (l : List Wr) (t : List UInt8), (∀ x ∈ l, x.bad = false ∧ x.long = false) → decL l.length (encL l ++ t) = some (l, t)
  | [], t, _ => rfl
  | x :: r, t, h => by
    obtain ⟨h1, h2⟩ := h x (by simp)
    have e : encL (x :: r) ++ t = encW x ++ (encL r ++ t) := by unfold encL; simp
    rw [List.length_cons, decL, e, decW_put x h1 h2]
    simp only [List.drop_left]
    rw [decL_put r t fun y hy => h y (by simp [hy])]
    rfl
theorem head_put (seq n : Nat) (hs : seq < 2 ^ 64) (hn : n < 2 ^ 64) (t : List UInt8) : Code.rd 0 (Code.uvar seq ++ Code.uvar n ++ t) = (seq, (Code.uvar seq).length, 0) ∧ Code.rd 0 ((Code.uvar seq ++ Code.uvar n ++ t).drop (Code.uvar seq).length) = (n, (Code.uvar n).length, 0) ∧ ((Code.uvar seq ++ Code.uvar n ++ t).drop (Code.uvar seq).length).drop (Code.uvar n).length = t := by
  rw [List.append_assoc, List.drop_left, List.drop_left]
  exact ⟨Code.rd_uvar seq 0 _ (by omega) (by omega) (by simpa using hs), Code.rd_uvar n 0 _ (by omega) (by omega) (by simpa using hn), rfl⟩
theorem decB_put {seq : Nat} {l : List Wr} (h : chkB seq l = 0) : decB (encB seq l) = (seq, l, 0) := by
  obtain ⟨k0, k1, k2, k3, k4⟩ := chkB_ok h
  obtain ⟨e1, e2, e3⟩ := head_put seq l.length (by omega) (by omega) (encL l)
  have e4 := decL_put l [] k4
  rw [List.append_nil] at e4
  unfold decB restB encB
  rw [e1]
  simp only
  rw [e2]
  simp only
  rw [e3, e4, if_neg (by simp; omega)]
  simp only
  rw [if_pos ⟨trivial, h⟩]
/-- An encoding that begins another one is it. -/
theorem enc_begins {s1 s2 : Nat} {l1 l2 : List Wr} (h1 : chkB s1 l1 = 0) (h2 : chkB s2 l2 = 0) {u : List UInt8} (he : encB s2 l2 = encB s1 l1 ++ u) : s1 = s2 ∧ l1 = l2 := by
  obtain ⟨a0, a1, a2, a3, a4⟩ := chkB_ok h1
  obtain ⟨b0, b1, b2, b3, b4⟩ := chkB_ok h2
  obtain ⟨e1, e2, e3⟩ := head_put s1 l1.length (by omega) (by omega) (encL l1 ++ u)
  obtain ⟨f1, f2, f3⟩ := head_put s2 l2.length (by omega) (by omega) (encL l2)
  have hs : Code.uvar s1 ++ Code.uvar l1.length ++ (encL l1 ++ u) = Code.uvar s2 ++ Code.uvar l2.length ++ encL l2 := by
    unfold encB at he
    rw [he]; simp
  rw [hs] at e1
  have h3 : s2 = s1 := congrArg Prod.fst (f1.symm.trans e1)
  subst h3
  rw [hs] at e2 e3
  have h4 : l2.length = l1.length := congrArg Prod.fst (f2.symm.trans e2)
  rw [h4] at f3
  rw [h4] at e3
  have h5 : encL l2 = encL l1 ++ u := f3.symm.trans e3
  have g1 := decL_put l1 u a4
  have g2 := decL_put l2 [] b4
  rw [List.append_nil, h5, h4, g1] at g2
  simp only [Option.some.injEq, Prod.mk.injEq] at g2
  exact ⟨rfl, g2.1⟩
end Go.Proofs.Ytdlbifcfkgmpcaa
