/-
  What rows contain at a number; rows of one key side by side. No condition.
-/
import Derived.Test.YtkkegdhnkefogaaBlockMath
namespace Go.Proofs.Ytkkegdhnkefogaa
set_option maxRecDepth 100000
open Go.RowKit
theorem ordR_sorted : ∀ l : List Rw, ordR l = true ↔ SortedR l
  | [] => by simp [ordR, SortedR]
  | [x] => by simp [ordR, SortedR]
  | x :: y :: r => by
    have ih := ordR_sorted (y :: r)
    rw [ordR, Bool.and_eq_true, ih]
    unfold SortedR
    constructor
    · rintro ⟨h1, h2⟩
      refine List.pairwise_cons.2 ⟨fun z hz => ?_, h2⟩
      rcases List.mem_cons.1 hz with rfl | hz
      · exact h1
      · exact ahd_trans h1 ((List.pairwise_cons.1 h2).1 z hz)
    · intro h
      have h := List.pairwise_cons.1 h
      exact ⟨h.1 y (List.mem_cons_self ..), h.2⟩
/-- A number sees the row x, which stands behind p. -/
def sees (n : Nat) (p : Option Rw) (x : Rw) : Bool := decide (x.seq ≤ n) && (match p with | none => true | some y => !decide (y.key.toList = x.key.toList) || decide (n < y.seq))
/-- The rows that are chosen, each by the one ahead of it. -/
def selL (f : Option Rw → Rw → Bool) : Option Rw → List Rw → List Rw
  | _, [] => []
  | p, x :: r => if f p x = true then x :: selL f (some x) r else selL f (some x) r
/-- The last one of rows that stand behind p. -/
def lastO : Option Rw → List Rw → Option Rw
  | p, [] => p
  | _, x :: r => lastO (some x) r
theorem lastO_app : ∀ (p : Option Rw) (a b : List Rw), lastO p (a ++ b) = lastO (lastO p a) b
  | _, [], _ => rfl
  | _, x :: r, b => lastO_app (some x) r b
theorem selL_app (f : Option Rw → Rw → Bool) : ∀ (p : Option Rw) (a b : List Rw), selL f p (a ++ b) = selL f p a ++ selL f (lastO p a) b
  | _, [], _ => rfl
  | p, x :: r, b => by
    rw [List.cons_append, selL, selL, lastO, selL_app f (some x) r b]
    split <;> simp
theorem lastO_take {l : List Rw} : ∀ {i : Nat} {x : Rw}, l[i]? = some x → lastO none (l.take (i + 1)) = some x := fun {i x} h => by
  have : l.take (i + 1) = l.take i ++ [x] := by rw [List.take_add_one, h]; rfl
  rw [this, lastO_app]; rfl
theorem selL_snoc (f : Option Rw → Rw → Bool) (p : Option Rw) (a : List Rw) (x : Rw) : selL f p (a ++ [x]) = selL f p a ++ (if f (lastO p a) x = true then [x] else []) := by
  rw [selL_app]; rfl
theorem selL_sub (f : Option Rw → Rw → Bool) : ∀ (p : Option Rw) (l : List Rw), (selL f p l).Sublist l
  | _, [] => List.Sublist.slnil
  | p, x :: r => by
    rw [selL]
    split
    · exact (selL_sub f (some x) r).cons_cons x
    · exact (selL_sub f (some x) r).cons x
/-- The rows from k on, so many, are those of one key. -/
structure IsRun (l : List Rw) (k r : Nat) : Prop where
  pos : 1 ≤ r
  le : k + r ≤ l.length
  same : ∀ (i : Nat) x y, i < r → l[k]? = some x → l[k + i]? = some y → y.key.toList = x.key.toList
  diff : ∀ x y, l[k]? = some x → l[k + r]? = some y → y.key.toList ≠ x.key.toList
/-- Another key ends ahead of k. -/
def Brk (l : List Rw) (k : Nat) : Prop := ∀ (j : Nat) x y, k = j + 1 → l[j]? = some x → l[k]? = some y → x.key.toList ≠ y.key.toList
theorem IsRun.brk {l : List Rw} {k r : Nat} (h : IsRun l k r) : Brk l (k + r) := by
  intro j x y hj hx hy e
  obtain ⟨z, hz⟩ : ∃ z, l[k]? = some z := ⟨_, List.getElem?_eq_getElem (by have := h.le; have := h.pos; omega)⟩
  have h1 := h.same (r - 1) z x (by have := h.pos; omega) hz (by rw [show k + (r - 1) = j by have := h.pos; omega]; exact hx)
  exact h.diff z y hz hy (e.symm.trans h1)
theorem brk_zero (l : List Rw) : Brk l 0 := by intro j x y h; omega
/-- Rows of one key, by falling numbers. -/
structure OneKey (K : List UInt8) (R : List Rw) : Prop where
  key : ∀ x ∈ R, x.key.toList = K
  fall : R.Pairwise fun x y => y.seq < x.seq
theorem OneKey.tail {K : List UInt8} {x : Rw} {R : List Rw} (h : OneKey K (x :: R)) : OneKey K R := ⟨fun y hy => h.key y (List.mem_cons_of_mem _ hy), (List.pairwise_cons.1 h.fall).2⟩
theorem IsRun.one {l : List Rw} {k r : Nat} (h : IsRun l k r) (hs : SortedR l) {x : Rw} (hx : l[k]? = some x) : OneKey x.key.toList ((l.drop k).take r) := by
  have hkey : ∀ y ∈ (l.drop k).take r, y.key.toList = x.key.toList := by
    intro y hy
    obtain ⟨i, hi⟩ := List.mem_iff_getElem?.1 hy
    have hir : i < r := by have := (List.getElem?_eq_some_iff.1 hi).1; rw [List.length_take] at this; omega
    rw [List.getElem?_take, if_pos hir, List.getElem?_drop] at hi
    exact h.same i x y hir hx hi
  refine ⟨hkey, ?_⟩
  have hs2 : ((l.drop k).take r).Pairwise fun x y => ahd x y.key y.seq = true := hs.sublist ((List.take_sublist _ _).trans (List.drop_sublist _ _))
  refine List.Pairwise.imp_of_mem ?_ hs2
  intro a b ha hb hab
  unfold ahd at hab
  rw [if_pos ((hkey a ha).trans (hkey b hb).symm)] at hab
  simpa using hab
theorem Brk.prev {l : List Rw} {k : Nat} (h : Brk l k) {x : Rw} (hx : l[k]? = some x) : ∀ y, lastO none (l.take k) = some y → y.key.toList ≠ x.key.toList := by
  intro y hy
  cases k with
  | zero => cases hy
  | succ j =>
    obtain ⟨z, hz⟩ : ∃ z, l[j]? = some z := ⟨_, List.getElem?_eq_getElem (by have := (List.getElem?_eq_some_iff.1 hx).1; omega)⟩
    rw [lastO_take hz] at hy
    obtain rfl := Option.some.inj hy
    exact h j _ x rfl hz hx
/-- Behind a row that the number sees it sees no other one of that key. -/
theorem sel_none {K : List UInt8} {n : Nat} : ∀ {R : List Rw} {z : Rw}, OneKey K R → z.key.toList = K → z.seq ≤ n → (∀ y ∈ R, y.seq < z.seq) → selL (sees n) (some z) R = []
  | [], _, _, _, _, _ => rfl
  | x :: R, z, h, hk, hz, hl => by
    have e : sees n (some z) x = false := by
      unfold sees
      simp only [hk, h.key x (List.mem_cons_self ..), decide_true, Bool.not_true, Bool.false_or]
      rw [decide_eq_false (show ¬ n < z.seq by omega), Bool.and_false]
    rw [selL, if_neg (by rw [e]; simp)]
    have := hl x (List.mem_cons_self ..)
    exact sel_none h.tail (h.key x (List.mem_cons_self ..)) (by omega) (List.pairwise_cons.1 h.fall).1
/-- Of the rows of one key a number sees the first one that is not too new. -/
theorem sel_first {K : List UInt8} {n : Nat} : ∀ {R : List Rw} {p : Option Rw}, OneKey K R → (∀ y, p = some y → y.key.toList ≠ K ∨ n < y.seq) → selL (sees n) p R = match R.find? (fun x => decide (x.seq ≤ n)) with | some x => [x] | none => []
  | [], _, _, _ => rfl
  | x :: R, p, h, hp => by
    by_cases hx : x.seq ≤ n
    · have e : sees n p x = true := by
        unfold sees
        rw [decide_eq_true hx, Bool.true_and]
        cases p with
        | none => rfl
        | some y =>
          simp only [h.key x (List.mem_cons_self ..)]
          rcases hp y rfl with h1 | h1
          · simp [h1]
          · simp [h1]
      rw [selL, if_pos e, List.find?_cons_of_pos (by simpa using hx), sel_none h.tail (h.key x (List.mem_cons_self ..)) hx (List.pairwise_cons.1 h.fall).1]
    · have e : sees n p x = false := by unfold sees; rw [decide_eq_false hx, Bool.false_and]
      rw [selL, if_neg (by rw [e]; simp), List.find?_cons_of_neg (by simpa using hx)]
      exact sel_first h.tail (fun y hy => by cases hy; exact .inr (by omega))
/-- The pairs that puts say. -/
def pairsOf (l : List Rw) : List (ByteArray × ByteArray) := (l.filter fun x => decide (x.kind = 1)).map fun x => (x.key, x.val)
theorem pairsOf_app (a b : List Rw) : pairsOf (a ++ b) = pairsOf a ++ pairsOf b := by unfold pairsOf; rw [List.filter_append, List.map_append]
/-- The contents of rows at a number. -/
def atL (n : Nat) (l : List Rw) : List (ByteArray × ByteArray) := pairsOf (selL (sees n) none l)
theorem atL_len (n : Nat) (l : List Rw) : (atL n l).length ≤ l.length := by
  unfold atL pairsOf
  rw [List.length_map]
  exact Nat.le_trans (List.length_filter_le _ _) (selL_sub _ _ _).length_le
theorem seg_take (l : List Rw) (k r : Nat) : l.take (k + r) = l.take k ++ (l.drop k).take r := by rw [List.take_add]
/-- One more key. -/
theorem atL_run {n : Nat} {l : List Rw} {k r : Nat} (hs : SortedR l) (h : IsRun l k r) (hb : Brk l k) :
    pairsOf (selL (sees n) none (l.take (k + r))) = pairsOf (selL (sees n) none (l.take k)) ++ (match ((l.drop k).take r).find? (fun x => decide (x.seq ≤ n)) with | some x => pairsOf [x] | none => []) := by
  obtain ⟨z, hz⟩ : ∃ z, l[k]? = some z := ⟨_, List.getElem?_eq_getElem (by have := h.le; have := h.pos; omega)⟩
  rw [seg_take, selL_app, pairsOf_app, sel_first (h.one hs hz) (fun y hy => .inl (hb.prev hz y hy))]
  cases ((l.drop k).take r).find? (fun x => decide (x.seq ≤ n)) <;> rfl
theorem find_at {P : Rw → Bool} {R : List Rw} {j : Nat} {x : Rw} (hx : R[j]? = some x) (hp : P x = true) (hno : ∀ (i : Nat) y, i < j → R[i]? = some y → P y = false) : R.find? P = some x := by
  induction R generalizing j with
  | nil => cases hx
  | cons a R ih =>
    cases j with
    | zero =>
      obtain rfl : a = x := by simpa using hx
      exact List.find?_cons_of_pos hp
    | succ j =>
      rw [List.find?_cons_of_neg (by rw [hno 0 a (by omega) rfl]; simp)]
      exact ih (j := j) (by simpa using hx) (fun i y hi hy => hno (i + 1) y (by omega) (by simpa using hy))
theorem find_no {P : Rw → Bool} {R : List Rw} (hno : ∀ (i : Nat) y, R[i]? = some y → P y = false) : R.find? P = none := by
  rw [List.find?_eq_none]
  intro y hy
  obtain ⟨i, hi⟩ := List.mem_iff_getElem?.1 hy
  rw [hno i y hi]; simp
end Go.Proofs.Ytkkegdhnkefogaa
