/-
  The mathematics of EditApply: tables taken away and put one by one, and all at once. No condition.
-/
import Derived.Test.YtnmjfdejgfmoiaaPack13
namespace Go.Proofs.Ytnmjfdejgfmoiaa
set_option maxRecDepth 100000
open Go Go.RowKit Go.Sort
/-- A level without a number. -/
def woL (n : Nat) (l : List Mt) : List Mt := l.filter (fun x => !(x.num == n))
theorem woL_len (n : Nat) (l : List Mt) : (woL n l).length ≤ l.length := List.length_filter_le _ _
/-- It is shorter just if the number is there. -/
theorem woL_lt {n : Nat} : ∀ {l : List Mt}, (woL n l).length < l.length ↔ n ∈ l.map Mt.num
  | [] => by simp [woL]
  | x :: l => by
    have ih := woL_lt (n := n) (l := l)
    have hle := woL_len n l
    unfold woL at ih hle ⊢
    by_cases e : x.num = n
    · rw [List.filter_cons_of_neg (by simp [e])]
      simp [e]
      omega
    · rw [List.filter_cons_of_pos (by simp [e])]
      simp only [List.length_cons, List.map_cons, List.mem_cons]
      constructor
      · intro h; exact .inr (ih.1 (by omega))
      · rintro (h | h)
        · exact absurd h.symm e
        · have := ih.2 h; omega
/-- What goes with one more. -/
theorem goes_snoc (A : List Gn) (g : Gn) (i : Nat) (x : Mt) : goes (A ++ [g]) i x = (goes A i x || tf ((⟨(i : Int), x.num⟩ : Gn) = g)) := by
  unfold goes
  by_cases h1 : (⟨(i : Int), x.num⟩ : Gn) ∈ A
  · rw [tf_true h1, tf_true (by simp [h1])]; rfl
  · by_cases h2 : (⟨(i : Int), x.num⟩ : Gn) = g
    · rw [tf_false h1, tf_true h2, tf_true (by simp [h2])]; rfl
    · rw [tf_false h1, tf_false h2, tf_false (by simp [h1, h2])]; rfl
theorem outL_snoc_same {A : List Gn} {g : Gn} {i : Nat} (hi : (i : Int) = g.lev) (l : List Mt) : outL (A ++ [g]) i l = woL g.num (outL A i l) := by
  unfold outL woL
  rw [List.filter_filter]
  congr 1
  funext x
  rw [goes_snoc]
  have : tf ((⟨(i : Int), x.num⟩ : Gn) = g) = (x.num == g.num) := by
    by_cases e : x.num = g.num
    · rw [tf_true (by cases g; simp at hi e ⊢; exact ⟨hi, e⟩)]; simp [e]
    · rw [tf_false (fun h => e (by rw [← h]))]; simp [e]
  rw [this]
  cases goes A i x <;> cases (x.num == g.num) <;> rfl
theorem outL_snoc_other {A : List Gn} {g : Gn} {i : Nat} (hi : (i : Int) ≠ g.lev) (l : List Mt) : outL (A ++ [g]) i l = outL A i l := by
  unfold outL
  congr 1
  funext x
  rw [goes_snoc, tf_false (fun h => hi (by rw [← h]))]
  simp
theorem inN_snoc_other {A : List Gn} {g : Gn} {i : Nat} (hi : (i : Int) ≠ g.lev) (l : List Mt) : inN (A ++ [g]) i l = inN A i l := by
  unfold inN
  have : (fun m => goes (A ++ [g]) i m) = fun m => goes A i m := by
    funext x
    rw [goes_snoc, tf_false (fun h => hi (by rw [← h]))]
    simp
  rw [this]
theorem inN_cons (gs : List Gn) (i : Nat) (x : Mt) (l : List Mt) : inN gs i (x :: l) = (if goes gs i x = true then 1 else 0) + inN gs i l := by
  unfold inN
  by_cases h : goes gs i x = true
  · rw [List.filter_cons_of_pos (by simpa using h), if_pos h, List.length_cons]; omega
  · rw [List.filter_cons_of_neg (by simpa using h), if_neg h]; omega
theorem outL_cons (gs : List Gn) (i : Nat) (x : Mt) (l : List Mt) : outL gs i (x :: l) = if goes gs i x = true then outL gs i l else x :: outL gs i l := by
  unfold outL
  by_cases h : goes gs i x = true
  · rw [if_pos h, List.filter_cons_of_neg (by simp [h])]
  · rw [if_neg h, List.filter_cons_of_pos (by simp [h])]
theorem outL_nums {gs : List Gn} {i n : Nat} {l : List Mt} (h : n ∈ (outL gs i l).map Mt.num) : n ∈ l.map Mt.num := by
  obtain ⟨x, hx, rfl⟩ := List.mem_map.1 h
  exact List.mem_map.2 ⟨x, (List.mem_filter.1 hx).1, rfl⟩
theorem inN_snoc_yes {A : List Gn} {g : Gn} {i : Nat} (hi : (i : Int) = g.lev) : ∀ (l : List Mt), (l.map Mt.num).Nodup → g.num ∈ (outL A i l).map Mt.num → inN (A ++ [g]) i l = inN A i l + 1 ∧ True
  | [], _, h => by simp [outL] at h
  | x :: l, hn, h => by
    rw [List.map_cons, List.nodup_cons] at hn
    rw [inN_cons, inN_cons, goes_snoc]
    rw [outL_cons] at h
    by_cases e : (⟨(i : Int), x.num⟩ : Gn) = g
    · have en : x.num = g.num := by rw [← e]
      have h0 : g.num ∉ (outL A i l).map Mt.num := fun q => hn.1 (en ▸ outL_nums q)
      by_cases h1 : goes A i x = true
      · rw [if_pos h1] at h; exact absurd h h0
      · have h2 := inN_snoc_no hi l h0
        rw [h2, if_neg h1, if_pos (by rw [tf_true e]; simp)]
        exact ⟨by omega, trivial⟩
    · have en : g.num ≠ x.num := fun q => e (by cases g; simp at hi q ⊢; exact ⟨hi, q.symm⟩)
      have h3 : g.num ∈ (outL A i l).map Mt.num := by
        by_cases h1 : goes A i x = true
        · rw [if_pos h1] at h; exact h
        · rw [if_neg h1, List.map_cons, List.mem_cons] at h
          rcases h with h | h
          · exact absurd h en
          · exact h
      rw [(inN_snoc_yes hi l hn.2 h3).1, tf_false e, Bool.or_false]
      exact ⟨by omega, trivial⟩
where
  inN_snoc_no {A : List Gn} {g : Gn} {i : Nat} (hi : (i : Int) = g.lev) : ∀ (l : List Mt), g.num ∉ (outL A i l).map Mt.num → inN (A ++ [g]) i l = inN A i l
  | [], _ => rfl
  | x :: l, h => by
    rw [inN_cons, inN_cons, goes_snoc]
    rw [outL_cons] at h
    by_cases h1 : goes A i x = true
    · rw [if_pos h1] at h
      rw [inN_snoc_no hi l h, h1]; rfl
    · rw [if_neg h1, List.map_cons, List.mem_cons] at h
      have e : ¬ (⟨(i : Int), x.num⟩ : Gn) = g := fun q => h (.inl (by rw [← q]))
      rw [inN_snoc_no hi l (fun q => h (.inr q)), tf_false e, Bool.or_false]
theorem inN_snoc_no {A : List Gn} {g : Gn} {i : Nat} (hi : (i : Int) = g.lev) (l : List Mt) (h : g.num ∉ (outL A i l).map Mt.num) : inN (A ++ [g]) i l = inN A i l := inN_snoc_yes.inN_snoc_no hi l h
/-- How many are found. -/
theorem fd_four (gs : List Gn) (L : Nat → List Mt) : fdTo gs L 4 0 = inN gs 0 (L 0) + inN gs 1 (L 1) + inN gs 2 (L 2) + inN gs 3 (L 3) := by
  show fdTo gs L 3 (L 3).length + inN gs 4 ((L 4).take 0) = _
  show (fdTo gs L 2 (L 2).length + inN gs 3 ((L 3).take (L 3).length)) + inN gs 4 ((L 4).take 0) = _
  show ((fdTo gs L 1 (L 1).length + inN gs 2 ((L 2).take (L 2).length)) + inN gs 3 ((L 3).take (L 3).length)) + inN gs 4 ((L 4).take 0) = _
  show (((fdTo gs L 0 (L 0).length + inN gs 1 ((L 1).take (L 1).length)) + inN gs 2 ((L 2).take (L 2).length)) + inN gs 3 ((L 3).take (L 3).length)) + inN gs 4 ((L 4).take 0) = _
  show ((((inN gs 0 ((L 0).take (L 0).length)) + inN gs 1 ((L 1).take (L 1).length)) + inN gs 2 ((L 2).take (L 2).length)) + inN gs 3 ((L 3).take (L 3).length)) + inN gs 4 ((L 4).take 0) = _
  rw [List.take_length, List.take_length, List.take_length, List.take_length, List.take_zero]
  rfl
theorem fd_yes {A : List Gn} {g : Gn} {L : Nat → List Mt} {i : Nat} (hi : i < 4) (hg : (i : Int) = g.lev) (hn : ∀ i, i < 4 → ((L i).map Mt.num).Nodup) (h : g.num ∈ (outL A i (L i)).map Mt.num) : fdTo (A ++ [g]) L 4 0 = fdTo A L 4 0 + 1 := by
  rw [fd_four, fd_four]
  have ho : ∀ j, j ≠ i → inN (A ++ [g]) j (L j) = inN A j (L j) := fun j hj => inN_snoc_other (by omega) _
  have hs := (inN_snoc_yes hg (L i) (hn i hi) h).1
  rcases (show i = 0 ∨ i = 1 ∨ i = 2 ∨ i = 3 by omega) with rfl | rfl | rfl | rfl
  · rw [hs, ho 1 (by decide), ho 2 (by decide), ho 3 (by decide)]; omega
  · rw [hs, ho 0 (by decide), ho 2 (by decide), ho 3 (by decide)]; omega
  · rw [hs, ho 0 (by decide), ho 1 (by decide), ho 3 (by decide)]; omega
  · rw [hs, ho 0 (by decide), ho 1 (by decide), ho 2 (by decide)]; omega
theorem fd_no {A : List Gn} {g : Gn} {L : Nat → List Mt} {i : Nat} (hi : i < 4) (hg : (i : Int) = g.lev) (h : g.num ∉ (outL A i (L i)).map Mt.num) : fdTo (A ++ [g]) L 4 0 = fdTo A L 4 0 := by
  rw [fd_four, fd_four]
  have ho : ∀ j, inN (A ++ [g]) j (L j) = inN A j (L j) := fun j => by
    by_cases e : (j : Int) = g.lev
    · obtain rfl : j = i := by omega
      exact inN_snoc_no hg _ h
    · exact inN_snoc_other e _
  rw [ho 0, ho 1, ho 2, ho 3]
/-- One more finds at most one more. -/
theorem fd_most {A : List Gn} {g : Gn} {L : Nat → List Mt} (hl : LevP g.lev) (hn : ∀ i, i < 4 → ((L i).map Mt.num).Nodup) : fdTo (A ++ [g]) L 4 0 ≤ fdTo A L 4 0 + 1 := by
  obtain ⟨i, hi⟩ : ∃ i : Nat, (i : Int) = g.lev := ⟨g.lev.toNat, by have := hl.1; omega⟩
  have h4 : i < 4 := by have := hl.2; omega
  by_cases h : g.num ∈ (outL A i (L i)).map Mt.num
  · rw [fd_yes h4 hi hn h]; exact Nat.le_refl _
  · rw [fd_no h4 hi h]; omega
theorem fd_all (gs : List Gn) {L : Nat → List Mt} (hl : ∀ g ∈ gs, LevP g.lev) (hn : ∀ i, i < 4 → ((L i).map Mt.num).Nodup) : ∀ k m, fdTo (gs.take (k + m)) L 4 0 ≤ fdTo (gs.take k) L 4 0 + m
  | k, 0 => Nat.le_refl _
  | k, m + 1 => by
    have ih := fd_all gs hl hn k m
    by_cases h : k + m < gs.length
    · have e : gs.take (k + (m + 1)) = gs.take (k + m) ++ [gs[k + m]] := by
        rw [show k + (m + 1) = k + m + 1 from rfl, List.take_add_one, List.getElem?_eq_getElem h]; rfl
      rw [e]
      have := fd_most (A := gs.take (k + m)) (L := L) (hl _ (List.getElem_mem h)) hn
      omega
    · rw [List.take_of_length_le (by omega)] at ih ⊢
      omega
/-- One that is lacking on the way. -/
theorem none_no {v : Vr} {e : Ed} (hr : RightP v) (hL : ListedP e) {k : Nat} (hk : k < e.gone.length) (hf : fdTo (e.gone.take k) v.lv 4 0 ≤ k) (hs : fdTo (e.gone.take (k + 1)) v.lv 4 0 = fdTo (e.gone.take k) v.lv 4 0) : ¬ NoneP v e := fun h => by
  unfold NoneP at h
  have hn : ∀ i, i < 4 → ((v.lv i).map Mt.num).Nodup := fun i hi => (hr.2 i hi).2.2.2.1.1
  have := fd_all e.gone hL.1 hn (k + 1) (e.gone.length - (k + 1))
  rw [show k + 1 + (e.gone.length - (k + 1)) = e.gone.length by omega, List.take_length] at this
  omega
theorem fd_zero (L : Nat → List Mt) : fdTo [] L 4 0 = 0 := by
  rw [fd_four]
  have : ∀ i, inN [] i (L i) = 0 := fun i => by
    unfold inN
    rw [List.filter_eq_nil_iff.2 (fun x _ => by unfold goes; rw [tf_false (by simp)]; simp)]; rfl
  rw [this, this, this, this]
theorem outL_nil (i : Nat) (l : List Mt) : outL [] i l = l := by
  unfold outL
  rw [List.filter_eq_self.2 (fun x _ => by unfold goes; rw [tf_false (by simp)]; rfl)]
theorem take_gn {gs : List Gn} {k : Nat} {g : Gn} (h : gs[k]? = some g) : gs.take (k + 1) = gs.take k ++ [g] := by rw [List.take_add_one, h]; rfl
/-! ### Tables put at their places -/
/-- Does the table stand ahead of the new one? -/
def preP (i : Nat) (x m : Mt) : Prop := if i = 0 then x.num < m.num else Op.bytesLess m.fst.toList x.fst.toList = false
/-- A level with a table at its place. -/
def WithD (i : Nat) (l : List Mt) (m : Mt) (r : List Mt) : Prop := ∃ n, n ≤ l.length ∧ (∀ j x, j < n → l[j]? = some x → preP i x m) ∧ (∀ x, l[n]? = some x → ¬ preP i x m) ∧ r = l.take n ++ m :: l.drop n
/-- Sorted, where equal ones may stand. -/
def Weak (i : Nat) (l : List Mt) : Prop := l.Pairwise (fun x y => ltOf (cfOf i) y x = false)
theorem pre_lt {i : Nat} {x m : Mt} (h : preP i x m) : ltOf (cfOf i) m x = false := by
  unfold preP at h
  unfold cfOf
  by_cases e : i = 0
  · rw [if_pos e] at h; rw [if_pos e, ltNum]; exact decide_eq_false (by omega)
  · rw [if_neg e] at h; rw [if_neg e, ltKey]; exact h
theorem npre_lt {i : Nat} {x m : Mt} (h : ¬ preP i x m) : ltOf (cfOf i) x m = false := by
  unfold preP at h
  have hO := swoOf i
  unfold cfOf at hO ⊢
  by_cases e : i = 0
  · rw [if_pos e] at h; rw [if_pos e, ltNum]; exact decide_eq_false (by omega)
  · rw [if_neg e] at h; rw [if_neg e] at hO ⊢
    rw [Bool.not_eq_false, ← ltKey] at h
    cases hx : ltOf cfKey x m with
    | false => rfl
    | true => have := hO.trans m x m h hx; rw [hO.irrefl] at this; cases this
theorem WithD.perm {i : Nat} {l r : List Mt} {m : Mt} (h : WithD i l m r) : r.Perm (l ++ [m]) := by
  obtain ⟨n, _, _, _, rfl⟩ := h
  have e : l ++ [m] = l.take n ++ (l.drop n ++ [m]) := by rw [← List.append_assoc, List.take_append_drop]
  rw [e]
  exact List.Perm.append_left _ (List.perm_append_singleton m _).symm
theorem WithD.weak {i : Nat} {l r : List Mt} {m : Mt} (h : WithD i l m r) (hl : Weak i l) : Weak i r := by
  obtain ⟨n, hn, h1, h2, rfl⟩ := h
  have hO := swoOf i
  unfold Weak at hl ⊢
  have hsplit : l = l.take n ++ l.drop n := (List.take_append_drop n l).symm
  rw [hsplit, List.pairwise_append] at hl
  obtain ⟨a1, a2, a3⟩ := hl
  have hd : ∀ x ∈ l.drop n, ltOf (cfOf i) x m = false := by
    intro x hx
    cases hdr : l.drop n with
    | nil => rw [hdr] at hx; cases hx
    | cons z t =>
      have hz : l[n]? = some z := by
        have := List.getElem?_drop (xs := l) (i := n) (j := 0)
        rw [hdr] at this
        simpa using this.symm
      have hzm := npre_lt (h2 z hz)
      rw [hdr] at hx a2
      rcases List.mem_cons.1 hx with e | hx
      · rw [e]; exact hzm
      · exact hO.ntrans x z m ((List.pairwise_cons.1 a2).1 x hx) hzm
  have ht : ∀ x ∈ l.take n, ltOf (cfOf i) m x = false := by
    intro x hx
    obtain ⟨j, hj, e⟩ := List.getElem_of_mem hx
    rw [List.length_take] at hj
    refine pre_lt (h1 j x (by omega) ?_)
    rw [← e, List.getElem_take]
    exact List.getElem?_eq_getElem (by omega)
  refine List.pairwise_append.2 ⟨a1, List.pairwise_cons.2 ⟨hd, a2⟩, fun x hx y hy => ?_⟩
  rcases List.mem_cons.1 hy with e | hy
  · rw [e]; exact ht x hx
  · exact a3 x hx y hy
/-- The levels behind the first k tables that are put one by one. -/
def PutTo (ps : List Pl) (L : Nat → List Mt) (k : Nat) (M : Nat → List Mt) : Prop := ∀ i, i < 4 → (M i).Perm (addTo ps L k i) ∧ Weak i (M i)
theorem PutTo.zero {ps : List Pl} {L : Nat → List Mt} (h : ∀ i, i < 4 → Weak i (L i)) : PutTo ps L 0 L := fun i hi => ⟨by rw [addTo_zero], h i hi⟩
theorem PutTo.succ {ps : List Pl} {L M : Nat → List Mt} {k i : Nat} {x : Mt} {r : List Mt} (h : PutTo ps L k M) (hi : i < 4) (hx : ps[k]? = some ⟨(i : Int), x⟩) (hr : WithD i (M i) x r) : PutTo ps L (k + 1) (upL M i r) := fun j hj => by
  rw [addTo_succ hx]
  by_cases e : j = i
  · subst e
    rw [upL_same, upL_same]
    exact ⟨hr.perm.trans (List.Perm.append_right _ (h j hj).1), hr.weak (h j hj).2⟩
  · rw [upL_other _ _ e, upL_other _ _ e]; exact h j hj
theorem addTo_nums {ps : List Pl} {L : Nat → List Mt} {k i n : Nat} : n ∈ (addTo ps L k i).map Mt.num ↔ n ∈ (L i).map Mt.num ∨ ∃ p ∈ ps.take k, p.lev = (i : Int) ∧ p.tb.num = n := by
  unfold addTo
  rw [List.map_append, List.mem_append]
  refine or_congr_right ?_
  constructor
  · intro h
    obtain ⟨x, hx, rfl⟩ := List.mem_map.1 h
    obtain ⟨p, hp, rfl⟩ := List.mem_map.1 hx
    obtain ⟨h1, h2⟩ := List.mem_filter.1 hp
    exact ⟨p, h1, by simpa using h2, rfl⟩
  · rintro ⟨p, hp, h1, rfl⟩
    exact List.mem_map.2 ⟨p.tb, List.mem_map.2 ⟨p, List.mem_filter.2 ⟨hp, by simpa using h1⟩, rfl⟩, rfl⟩
theorem nsTo_four {L : Nat → List Mt} {n : Nat} : n ∈ nsTo L 4 ↔ ∃ i, i < 4 ∧ n ∈ (L i).map Mt.num := by
  show n ∈ (L 3).map Mt.num ++ ((L 2).map Mt.num ++ ((L 1).map Mt.num ++ ((L 0).map Mt.num ++ []))) ↔ _
  simp only [List.mem_append, List.not_mem_nil, or_false]
  constructor
  · rintro (h | h | h | h)
    · exact ⟨3, by omega, h⟩
    · exact ⟨2, by omega, h⟩
    · exact ⟨1, by omega, h⟩
    · exact ⟨0, by omega, h⟩
  · rintro ⟨i, hi, h⟩
    rcases (show i = 0 ∨ i = 1 ∨ i = 2 ∨ i = 3 by omega) with rfl | rfl | rfl | rfl
    · exact .inr (.inr (.inr h))
    · exact .inr (.inr (.inl h))
    · exact .inr (.inl h)
    · exact .inl h
/-- A number stands on some level, on the way, just if it stood there, or came with one ahead. -/
theorem put_nums {ps : List Pl} {L M : Nat → List Mt} {k n : Nat} (hl : ∀ p ∈ ps, LevP p.lev) (h : PutTo ps L k M) : (∃ i, i < 4 ∧ n ∈ (M i).map Mt.num) ↔ n ∈ ((ps.take k).map Pl.tb).map Mt.num ++ nsTo L 4 := by
  have hM : ∀ i, i < 4 → (n ∈ (M i).map Mt.num ↔ n ∈ (addTo ps L k i).map Mt.num) := fun i hi => ((h i hi).1.map Mt.num).mem_iff
  constructor
  · rintro ⟨i, hi, h1⟩
    rcases addTo_nums.1 ((hM i hi).1 h1) with h2 | ⟨p, hp, h2, h3⟩
    · exact List.mem_append_right _ (nsTo_four.2 ⟨i, hi, h2⟩)
    · refine List.mem_append_left _ (List.mem_map.2 ⟨p.tb, List.mem_map.2 ⟨p, hp, rfl⟩, h3⟩)
  · intro h1
    rcases List.mem_append.1 h1 with h1 | h1
    · obtain ⟨x, hx, rfl⟩ := List.mem_map.1 h1
      obtain ⟨p, hp, rfl⟩ := List.mem_map.1 hx
      have hlev := hl p (List.mem_of_mem_take hp)
      have e : p.lev = ((p.lev.toNat : Nat) : Int) := by have := hlev.1; omega
      refine ⟨p.lev.toNat, by have := hlev.2; omega, ?_⟩
      exact (hM _ (by have := hlev.2; omega)).2 (addTo_nums.2 (.inr ⟨p, hp, e, rfl⟩))
    · obtain ⟨i, hi, h2⟩ := nsTo_four.1 h1
      exact ⟨i, hi, (hM i hi).2 (addTo_nums.2 (.inl h2))⟩
theorem there_no {v : Vr} {e : Ed} {k : Nat} {p : Pl} (hp : e.added[k]? = some p) (h : p.tb.num ∈ ((e.added.take k).map Pl.tb).map Mt.num ++ nsTo (outLv v e) 4) : ¬ ThereP v e := fun hn => by
  have hx : (e.added.map Pl.tb)[k]? = some p.tb := by rw [List.getElem?_map, hp]; rfl
  rw [List.map_take] at h
  exact newP_no hx h hn
theorem there_step {v : Vr} {e : Ed} {k : Nat} {p : Pl} (hp : e.added[k]? = some p) (h : NewP (nsTo (outLv v e) 4) ((e.added.take k).map Pl.tb)) (hn : p.tb.num ∉ ((e.added.take k).map Pl.tb).map Mt.num ++ nsTo (outLv v e) 4) : NewP (nsTo (outLv v e) 4) ((e.added.take (k + 1)).map Pl.tb) := by
  have hx : (e.added.map Pl.tb)[k]? = some p.tb := by rw [List.getElem?_map, hp]; rfl
  rw [List.map_take] at h hn ⊢
  exact newP_step h hx hn
theorem out_weak {v : Vr} {e : Ed} (hr : RightP v) {i : Nat} (hi : i < 4) : Weak i (outLv v e i) := by
  rw [outLv_eq hi]
  have h1 := (lv_sorted hr hi).filter (fun m => !goes e.gone i m)
  have hO := swoOf i
  refine h1.imp (fun {x y} h => ?_)
  cases hx : ltOf (cfOf i) y x with
  | false => rfl
  | true => have := hO.trans x y x h hx; rw [hO.irrefl] at this; cases this
theorem new_weak (v : Vr) (e : Ed) (i : Nat) : (newLv v e i).Perm (addTo e.added (outLv v e) e.added.length i) ∧ Weak i (newLv v e i) := by
  obtain ⟨h1, h2⟩ := srt_perm (cfOf i) (swoOf i) (addTo e.added (outLv v e) e.added.length i)
  exact ⟨h1, pairwise_of _ fun a b x y hab hx hy => h2 a b x y hab hx hy⟩
/-- Of two levels with the same tables, sorted, one is as the other if that is right. -/
theorem right_weak {v : Vr} {e : Ed} {M N : Nat → List Mt} (hp : ∀ i, i < 4 → (M i).Perm (N i)) (hN : ∀ i, i < 4 → Weak i (N i)) (h : RightP (madeV v e M)) : SameV (madeV v e M) (madeV v e N) :=
  ⟨rfl, rfl, rfl, fun i hi => (sorted_eq (ltOf (cfOf i)) (M i) (N i) (lv_sorted h hi) (hp i hi).symm (hN i hi)).symm⟩
theorem put_same {v : Vr} {e : Ed} {M : Nat → List Mt} (h : PutTo e.added (outLv v e) e.added.length M) : (RightP (madeV v e M) ↔ RightP (madeV v e (newLv v e))) ∧ (RightP (madeV v e M) → SameV (madeV v e (newLv v e)) (madeV v e M)) := by
  have hp : ∀ i, i < 4 → (M i).Perm (newLv v e i) := fun i hi => (h i hi).1.trans (new_weak v e i).1.symm
  have q1 : RightP (madeV v e M) → SameV (madeV v e M) (madeV v e (newLv v e)) := fun hr => right_weak hp (fun i _ => (new_weak v e i).2) hr
  have q2 : RightP (madeV v e (newLv v e)) → SameV (madeV v e (newLv v e)) (madeV v e M) := fun hr => right_weak (fun i hi => (hp i hi).symm) (fun i hi => (h i hi).2) hr
  refine ⟨⟨fun hr => right_congr (q1 hr) hr, fun hr => right_congr (q2 hr) hr⟩, fun hr => ?_⟩
  exact q2 (right_congr (q1 hr) hr)
end Go.Proofs.Ytnmjfdejgfmoiaa
/-
  The contract of the document's without. Condition: at most 1999 tables.
-/
namespace Go.Proofs.Ytnmjfdejgfmoiaa
set_option maxRecDepth 100000
open Go Go.RowKit
/-- A row of the call's own, as a slice. -/
theorem ms_own {B : Nat} {a : Option Addr} {n c : Nat} {l : List Mt} {w : World} (hn : l.length = n) (h : w.ownsRow B 40 7 (.slice a n c) n (l.flatMap cellsM)) : ∃ b, Ms ⟨a, n, c, b, 0⟩ l w ∧ (0 < n → B ≤ b) := by
  obtain ⟨a', c', b, h1, h2, h3, h4⟩ := sl_of_rowG (cells := cellsM) (fun _ => rfl) hn h
  injection h1 with e1 e2 e3
  rcases h.2 with ⟨h5, h6⟩ | ⟨g, cap, cur, h5, h6, _⟩
  · injection h5 with q1 q2 q3
    refine ⟨0, ⟨⟨hn, (by show n ≤ c; omega), (by show c ≤ _; omega), fun h0 => absurd h0 (by show ¬ 0 < n; omega), fun j x hx => ?_⟩, fun _ => ⟨q2, q3⟩⟩, fun h0 => absurd h0 (by omega)⟩
    have := (List.getElem?_eq_some_iff.1 hx).1
    omega
  · injection h5 with q1 q2 q3
    refine ⟨g, ⟨⟨hn, by rw [e3]; exact h2.cap, by rw [e3]; exact h2.most, fun h0 => ⟨q1, (row_of h g (by rw [q1]; rfl)).2.1⟩, fun j x hx m u hu => ?_⟩, fun h0 => by rw [q1] at h0; cases h0⟩, fun _ => h6⟩
    have hj : 0 < n := by have := (List.getElem?_eq_some_iff.1 hx).1; omega
    have h7 := (h2.addr (by omega)).1
    rw [← e1, q1] at h7
    injection h7 with h7
    injection h7 with h7 _ _
    have h8 := h2.at' j x hx m u hu
    rw [h7]; exact h8
theorem wo_yes {nm k : Nat} {l : List Mt} {x : Mt} (hx : l[k]? = some x) (h : x.num ≠ nm) : woL nm (l.take (k + 1)) = woL nm (l.take k) ++ [x] := by
  unfold woL
  rw [take_snoc' hx, List.filter_append, List.filter_cons_of_pos (by simpa using h)]; rfl
theorem wo_no {nm k : Nat} {l : List Mt} {x : Mt} (hx : l[k]? = some x) (h : x.num = nm) : woL nm (l.take (k + 1)) = woL nm (l.take k) := by
  unfold woL
  rw [take_snoc' hx, List.filter_append, List.filter_cons_of_neg (by simpa using h)]; simp
theorem wo_len (nm k : Nat) (l : List Mt) : (woL nm (l.take k)).length ≤ k := Nat.le_trans (woL_len _ _) (by rw [List.length_take]; omega)
set_option maxRecDepth 100000 in
set_option maxHeartbeats 16000000 in
theorem rwo_any {h : Hd} {l : List Mt} {w : World} (hM : Ms h l w) (hn : h.n ≤ 1999) (nm : Nat) : Calls Try.prog 22 #[.slice h.a h.n h.c, .int .u64 (nm : Int)] w fun r w' => (∃ k : Hd, r = .returned (.tuple #[.slice k.a k.n k.c, .bool (tf (nm ∈ l.map Mt.num))]) ∧ Ms k (woL nm l) w') ∧ Below w.heap.size w w' := by
  obtain ⟨T, hT⟩ := named (tf (nm ∈ l.map Mt.num))
  rw [← hT.out]
  replace hT := Lib.hid hT.out
  have hlen := Lib.hid hM.len
  have MA : Hid (∀ u, Below w.heap.size w u → Ms h l u) := Lib.hid (fun u hu => hM.below hu)
  have m0 : h.c ≤ 9223372036854775807 := hM.sl.most
  have q0 : h.n ≤ h.c := hM.sl.cap
  clear hM
  obtain ⟨a, n, c, b, o⟩ := h
  simp only at hn hlen MA m0 q0 ⊢
  obtain ⟨ti, hi0, hy0, hy1, hy2⟩ := info_parts infoM
  go_enter Try.func22, Try.ntmps22
  go_wp2_with fail
  go_loopw [6, 7] (fun s i wr => ∃ j m q1 q3, j ≤ n ∧ i = .int .i64 ((j : Nat) : Int) ∧ s = .slice q1 m q3 ∧ Hid ((woL nm (l.take j)).length = m) ∧ Hid (wr.ownsRow w.heap.size 40 7 (.slice q1 m q3) m ((woL nm (l.take j)).flatMap cellsM)) ∧ Hid (Below w.heap.size w wr)) (fun _ i _ => n - (intOf i).toNat)
  case atStart => exact ⟨0, 0, none, 0, Nat.zero_le _, rfl, rfl, Lib.hid rfl, Lib.hid (World.ownsRow_nil _ _ _ _), Lib.hid (Below.refl _ _)⟩
  case round =>
    obtain ⟨j, m, q1, q3, hj, rfl, rfl, hm, hO, hB⟩ := hrel
    have mj : Hid (m ≤ j) := Lib.hid (by rw [← hm.out]; exact wo_len _ _ _)
    by_cases hlt : j < n
    · have i0 : (j : Int) < (n : Int) := by omega
      have i1 : (0 : Int) ≤ (j : Int) := by omega
      obtain ⟨x, hx, rfl, hbl, x0, x1, x2, x3, x4, x5, x6⟩ := (MA.out _ hB.out).at7x hlt
      by_cases hne : x.num = nm
      · have f1 : ((x.num : Int) != (nm : Int)) = false := by rw [hne]; simp
        have hs := Lib.hid (wo_no hx hne)
        replace hx := Lib.hid hx
        replace hne := Lib.hid hne
        go_wp2_with fail
        go_roundw
        case rel => exact ⟨j + 1, m, q1, q3, by omega, by go_num, rfl, Lib.hid (by rw [hs.out]; exact hm.out), Lib.hid (by rw [hs.out]; exact hO.out), hB⟩
        case measure => simp [intOf]; omega
      · have f1 : ((x.num : Int) != (nm : Int)) = true := by rw [bne_iff_ne]; omega
        have hs := Lib.hid (wo_yes hx hne)
        replace hx := Lib.hid hx
        replace hne := Lib.hid hne
        obtain ⟨P, hP⟩ := named (woL nm (l.take j))
        rw [← hP.out] at hm hO hs
        replace hP := Lib.hid trivial
        have hbd := Lib.hid (bound_m (n := m) (by have := mj.out; omega))
        have hB1 : Hid (w.heap.size ≤ wr.heap.size) := Lib.hid hB.out.size
        obtain ⟨xn, xs, xr, xf, xl, xm, xg⟩ := x
        simp only at x0 x1 x2 x3 x4 x5 x6 f1 hs
        go_wp2_with (at_builtin; refine wpList_append_lies _ rfl _ _ 23 rfl w.heap.size 40 ti (.agg #[.int .u64 0, .int .i64 0, .int .i64 0, .string .empty, .string .empty, .int .u64 0, .int .u64 0]) 7 72 Try.underlying23 hi0 hy0 hy1 hy2 rfl (by decide) (.slice q1 m q3) m (P.flatMap cellsM) (by rfl) (hO.out.alloc _) ⟨wr.heap.size, 0, none⟩ 1 1 [.int .u64 (xn : Int), .int .i64 xs, .int .i64 xr, .string xf, .string xl, .int .u64 (xm : Int), .int .u64 (xg : Int)] (by rfl) rfl (World.news_of_block (heap_alloc_new _ _)) (one_m [⟨xn, xs, xr, xf, xl, xm, xg⟩]) (by decide) hbd.out.1 hbd.out.2 (by rw [World.size_alloc]; have := hB1.out; omega) _ rfl ?_; intro g9 cap9 w2 hown2 hgrow2 hat2 _; have B2 : Hid (Below w.heap.size w w2) := Lib.hid ((hB.out.alloc hB1.out _).grown hgrow2 (by rw [World.size_alloc]; have := hB1.out; omega) (fun r hr => (row_of hO.out r hr).1)); have O2 := Lib.hid hown2; clear hown2 hgrow2 hat2)
        go_roundw
        case rel => exact ⟨j + 1, m + 1, _, _, by omega, by go_num, rfl, Lib.hid (by rw [hs.out, List.length_append, hm.out]; rfl), Lib.hid (by rw [hs.out, rowG_snoc]; exact O2.out), B2⟩
        case measure => simp [intOf]; omega
    · obtain rfl : j = n := by omega
      have i0 : ¬ (j : Int) < (j : Int) := by omega
      have e0 : l.take j = l := List.take_of_length_le (by rw [hlen.out]; exact Nat.le_refl _)
      have hl := woL_lt (n := nm) (l := l)
      rw [e0] at hm hO
      rw [hm.out, hlen.out] at hl
      obtain ⟨b1, hk, _⟩ := ms_own hm.out hO.out
      replace hk := Lib.hid hk
      clear e0
      by_cases hml : m < j
      · have i1 : (m : Int) < (j : Int) := by omega
        have hTT : Hid (T = true) := Lib.hid (by rw [hT.out]; exact tf_true (hl.1 hml))
        clear hl hml
        go_wp2_with fail
        go_returns
        exact ⟨⟨⟨q1, m, q3, b1, 0⟩, (by have e := hTT.out; subst e; rfl), hk.out⟩, hB.out⟩
      · have i1 : ¬ (m : Int) < (j : Int) := by omega
        have hTT : Hid (T = false) := Lib.hid (by rw [hT.out]; exact tf_false (fun h => hml (hl.2 h)))
        clear hl hml
        go_wp2_with fail
        go_returns
        exact ⟨⟨⟨q1, m, q3, b1, 0⟩, (by have e := hTT.out; subst e; rfl), hk.out⟩, hB.out⟩
end Go.Proofs.Ytnmjfdejgfmoiaa
