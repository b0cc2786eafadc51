/-
  Rows that are put in whatever order stand the same. Mathematics alone; no condition.
-/
import Derived.Test.YtadbhajnlokkbaaSkipMath2
namespace Go.Proofs.Ytadbhajnlokkbaa
open Go.RowKit
/-- Two lists in order that have the same rows are the same. -/
theorem sorted_unique : ∀ {a b : List Rw}, SortedR a → SortedR b → a.Perm b → a = b
  | [], b, _, _, h => (List.nil_perm.1 h).symm
  | x :: r, [], _, _, h => by have := h.length_eq; simp at this
  | x :: r, y :: t, ha, hb, h => by
    have ha' := List.pairwise_cons.1 ha
    have hb' := List.pairwise_cons.1 hb
    have hxy : x = y := by
      rcases List.mem_cons.1 (h.mem_iff.1 (List.mem_cons_self (a := x) (l := r))) with e | e
      · exact e
      · rcases List.mem_cons.1 (h.mem_iff.2 (List.mem_cons_self (a := y) (l := t))) with e2 | e2
        · exact e2.symm
        · have h1 := hb'.1 x e
          have h2 := ha'.1 y e2
          have h3 := ahd_trans h1 h2
          rw [ahd_irrefl ⟨rfl, rfl⟩] at h3
          cases h3
    subst hxy
    rw [sorted_unique ha'.2 hb'.2 (List.perm_cons x |>.1 h)]
/-- No two of them have the same place. -/
def Apart (l : List Rw) : Prop := l.Pairwise fun x y => ¬ sameP x y.key y.seq
theorem sameP_symm {x y : Rw} (h : sameP x y.key y.seq) : sameP y x.key x.seq := ⟨h.1.symm, h.2.symm⟩
theorem apart_perm {a b : List Rw} (h : a.Perm b) (ha : Apart a) : Apart b :=
  (h.pairwise_iff (fun {x y} (hxy : ¬ sameP x y.key y.seq) (e : sameP y x.key x.seq) => hxy (sameP_symm e))).1 ha
/-- Put one behind the other, all of rows that stand apart are taken. -/
theorem fp_apart {xs : List Rw} (hx : Apart xs) (f : Nat → Int) : ∀ j, j ≤ xs.length → (rowsL (fp xs f j)).Perm (xs.take j) ∧ ∀ x, xs[j]? = some x → thrL (fp xs f j) x.key x.seq = false
  | 0, _ => ⟨by simp [fp, rowsL], fun x _ => rfl⟩
  | j + 1, hj => by
    obtain ⟨h1, h2⟩ := fp_apart hx f j (by omega)
    obtain ⟨y, hy⟩ : ∃ y, xs[j]? = some y := ⟨_, List.getElem?_eq_getElem (by omega)⟩
    have e : (rowsL (fp xs f (j + 1))).Perm (xs.take (j + 1)) := by
      have ht : thr (rowsL (fp xs f j)) y.key y.seq = false := h2 y hy
      rw [fp_step hy, rows_putL, if_neg (by rw [ht]; simp), List.take_add_one, hy]
      refine (insR_perm _ _).trans ?_
      refine (List.Perm.cons y h1).trans ?_
      exact (List.perm_append_singleton y _).symm
    refine ⟨e, fun x hx' => ?_⟩
    cases hb : thrL (fp xs f (j + 1)) x.key x.seq with
    | false => rfl
    | true =>
      exfalso
      obtain ⟨z, hz, hs⟩ := (thr_iff (fp_sorted xs f (j + 1))).1 hb
      have hz' : z ∈ xs.take (j + 1) := e.mem_iff.1 hz
      obtain ⟨i, hi⟩ := List.mem_iff_getElem?.1 hz'
      have hil : i < j + 1 := by have := (List.getElem?_eq_some_iff.1 hi).1; rw [List.length_take] at this; omega
      rw [List.getElem?_take, if_pos hil] at hi
      have := List.pairwise_iff_getElem.1 hx i (j + 1) (List.getElem?_eq_some_iff.1 hi).1 (List.getElem?_eq_some_iff.1 hx').1 hil
      rw [(List.getElem?_eq_some_iff.1 hi).2, (List.getElem?_eq_some_iff.1 hx').2] at this
      exact this hs
/-- The rows that were taken, in the order in which they came. -/
def pt (rs : List Rw) (f : Nat → Int) : Nat → List Rw
  | 0 => []
  | j + 1 => match rs[j]? with | some x => if thrL (fp rs f j) x.key x.seq = true then pt rs f j else pt rs f j ++ [x] | none => pt rs f j
theorem pt_step {rs : List Rw} {f : Nat → Int} {j : Nat} {x : Rw} (h : rs[j]? = some x) : pt rs f (j + 1) = if thrL (fp rs f j) x.key x.seq = true then pt rs f j else pt rs f j ++ [x] := by
  show (match rs[j]? with | some x => if thrL (fp rs f j) x.key x.seq = true then pt rs f j else pt rs f j ++ [x] | none => pt rs f j) = _
  rw [h]
theorem pt_perm (rs : List Rw) (f : Nat → Int) : ∀ j, (rowsL (fp rs f j)).Perm (pt rs f j) ∧ Apart (pt rs f j) ∧ ∀ x ∈ pt rs f j, x ∈ rs
  | 0 => ⟨by simp [fp, pt, rowsL], List.Pairwise.nil, fun x hx => by cases hx⟩
  | j + 1 => by
    obtain ⟨h1, h2, h3⟩ := pt_perm rs f j
    cases hx : rs[j]? with
    | none =>
      have e1 : fp rs f (j + 1) = fp rs f j := by
        show (match rs[j]? with | some x => putL (fp rs f j) x (hgtOf (f j)) | none => fp rs f j) = _
        rw [hx]
      have e2 : pt rs f (j + 1) = pt rs f j := by
        show (match rs[j]? with | some x => if thrL (fp rs f j) x.key x.seq = true then pt rs f j else pt rs f j ++ [x] | none => pt rs f j) = _
        rw [hx]
      rw [e1, e2]; exact ⟨h1, h2, h3⟩
    | some x =>
      rw [fp_step hx, pt_step hx]
      by_cases ht : thrL (fp rs f j) x.key x.seq = true
      · rw [if_pos ht]
        have : putL (fp rs f j) x (hgtOf (f j)) = fp rs f j := by unfold putL; rw [if_pos ht]
        rw [this]; exact ⟨h1, h2, h3⟩
      · rw [if_neg ht, rows_putL, if_neg (show ¬ thr (rowsL (fp rs f j)) x.key x.seq = true from ht)]
        refine ⟨(insR_perm _ _).trans ((List.Perm.cons x h1).trans (List.perm_append_singleton x _).symm), ?_, fun y hy => ?_⟩
        · unfold Apart
          rw [List.pairwise_append]
          refine ⟨h2, List.pairwise_singleton _ _, fun a ha b hb => ?_⟩
          rw [List.mem_singleton.1 hb]
          intro hs
          exact ht ((thr_iff (fp_sorted rs f j)).2 ⟨a, h1.mem_iff.2 ha, hs⟩)
        · rcases List.mem_append.1 hy with h | h
          · exact h3 y h
          · rw [List.mem_singleton.1 h]; exact List.mem_of_getElem? hx
theorem pt_len (rs : List Rw) (f : Nat → Int) (j : Nat) : (pt rs f j).length = (fp rs f j).length := by
  rw [← rows_len]; exact ((pt_perm rs f j).1.length_eq).symm
/-- Turned by k. -/
def turned (l : List Rw) (k : Nat) : List Rw := l.drop k ++ l.take k
theorem turned_perm (l : List Rw) (k : Nat) : (turned l k).Perm l := by
  unfold turned
  exact List.perm_append_comm.trans (by rw [List.take_append_drop])
theorem turned_at {l : List Rw} {k i : Nat} (hk : k < l.length) (hi : i < l.length) : (turned l k)[i]? = l[(i + k) % l.length]? := by
  unfold turned
  by_cases h : i + k < l.length
  · rw [List.getElem?_append_left (by rw [List.length_drop]; omega), List.getElem?_drop, Nat.mod_eq_of_lt h, Nat.add_comm]
  · rw [List.getElem?_append_right (by rw [List.length_drop]; omega), List.length_drop, List.getElem?_take, if_pos (by omega)]
    congr 1
    rw [Nat.mod_eq_sub_mod (by omega), Nat.mod_eq_of_lt (by omega)]
    omega
theorem reverse_at {l : List Rw} {i : Nat} (hi : i < l.length) : l.reverse[i]? = l[l.length - 1 - i]? := by
  rw [List.getElem?_reverse hi]
/-- What the statement on order asks. -/
theorem any_order {p xs : List Rw} (hp : Apart p) (h : xs.Perm p) (f : Nat → Int) {l : SL} (hl : (rowsL l).Perm p) (hs : SortedR (rowsL l)) : rowsL (fp xs f xs.length) = rowsL l := by
  have h1 := (fp_apart (apart_perm h.symm hp) f xs.length (Nat.le_refl _)).1
  rw [List.take_length] at h1
  exact sorted_unique (fp_sorted xs f _) hs (h1.trans (h.trans hl.symm))
end Go.Proofs.Ytadbhajnlokkbaa
