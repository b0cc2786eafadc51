/-
  Rows of lists made one: of the rows at one place that of the first list. No condition.
-/
import Derived.Test.YtkkegdhnkefogaaMergeHeap
namespace Go.Proofs.Ytkkegdhnkefogaa
set_option maxRecDepth 100000
open Go.RowKit
def rowsI (i : It) : List Rw := i.hd :: i.tl
/-- The lists that have rows, numbered. -/
def itemsL : Nat → List (List Rw) → List It
  | _, [] => []
  | k, [] :: L => itemsL k L
  | k, (x :: r) :: L => ⟨k + 1, x, r⟩ :: itemsL (k + 1) L
/-- The row is one of these lists, and no list ahead has one at its place. -/
def FinL : List (List Rw) → Rw → Prop
  | [], _ => False
  | a :: L, x => x ∈ a ∨ (FinL L x ∧ ∀ y ∈ a, smpB y x = false)
def leW (x y : Rw) : Prop := ahd x y.key y.seq = true ∨ smpB x y = true
theorem leW_trans {x y z : Rw} (h1 : leW x y) (h2 : leW y z) : leW x z := by
  rcases h1 with h1 | h1 <;> rcases h2 with h2 | h2
  · exact .inl (ahd_trans h1 h2)
  · refine .inl ?_
    rw [← ahd_same (smpB_iff.1 h2)]; exact h1
  · refine .inl ?_
    rw [ahd_left (smpB_iff.1 h1)]; exact h2
  · exact .inr (smpB_trans h1 h2)
theorem leW_both {x y : Rw} (h1 : leW x y) (h2 : leW y x) : smpB x y = true := by
  rcases h1 with h1 | h1
  · rcases h2 with h2 | h2
    · rw [ahd_anti h1] at h2; cases h2
    · exact smpB_symm h2
  · exact h1
theorem smp_no {x y : Rw} (h : smpB x y = false) : smpB y x = false := by
  cases e : smpB y x with
  | false => rfl
  | true => rw [smpB_symm e] at h; cases h
theorem leW_refl (x : Rw) : leW x x := .inr (smpB_refl x)
theorem ltI_no {a b : It} (h : ltI a b = false) : leW b.hd a.hd ∧ (smpB a.hd b.hd = true → b.num ≤ a.num) := by
  unfold ltI at h
  cases e : smpB a.hd b.hd with
  | true =>
    rw [e, if_pos rfl, decide_eq_false_iff_not] at h
    exact ⟨.inr (smpB_symm e), fun _ => by omega⟩
  | false =>
    rw [e, if_neg (by simp)] at h
    refine ⟨?_, fun e2 => by cases e2⟩
    rcases ahd_or e with h1 | h1
    · rw [h1] at h; cases h
    · exact .inl h1
/-- A row is in what is made one, or comes there from the lists that are left. -/
def FstP (M : List Rw) (ps : List Nat) (it : Nat → It) (x : Rw) : Prop := x ∈ M ∨ ∃ b ∈ ps, x ∈ rowsI (it b) ∧ (∀ c ∈ ps, (it c).num < (it b).num → ∀ y ∈ rowsI (it c), smpB y x = false) ∧ ∀ m ∈ M, smpB m x = false
structure MInv (P : Rw → Prop) (M : List Rw) (ps : List Nat) (it : Nat → It) : Prop where
  sorted : SortedR M
  rows : ∀ b ∈ ps, SortedR (rowsI (it b))
  ahead : ∀ m ∈ M, ∀ b ∈ ps, leW m (it b).hd
  nums : ∀ b ∈ ps, ∀ c ∈ ps, (it b).num = (it c).num → b = c
  fst : ∀ x, FstP M ps it x ↔ P x
theorem SortedR.low {x : Rw} {r : List Rw} (h : SortedR (x :: r)) : ∀ y ∈ x :: r, leW x y := fun y hy => by
  rcases List.mem_cons.1 hy with rfl | hy
  · exact leW_refl _
  · exact .inl ((List.pairwise_cons.1 h).1 y hy)
/-- What becomes of the lists by taking. -/
structure Took (ps : List Nat) (it : Nat → It) (b : Nat) (qs : List Nat) (it' : Nat → It) : Prop where
  mem : ∀ c, c ∈ qs ↔ c ∈ ps ∧ (c = b → (it b).tl ≠ [])
  oth : ∀ c ∈ qs, c ≠ b → it' c = it c
  same : b ∈ qs → (it' b).num = (it b).num ∧ rowsI (it' b) = (it b).tl
theorem Took.num {ps : List Nat} {it : Nat → It} {b : Nat} {qs : List Nat} {it' : Nat → It} (h : Took ps it b qs it') {c : Nat} (hc : c ∈ qs) : (it' c).num = (it c).num := by
  by_cases e : c = b
  · subst e; exact (h.same hc).1
  · rw [h.oth c hc e]
theorem Took.sub {ps : List Nat} {it : Nat → It} {b : Nat} {qs : List Nat} {it' : Nat → It} (h : Took ps it b qs it') {c : Nat} (hc : c ∈ qs) {y : Rw} (hy : y ∈ rowsI (it' c)) : y ∈ rowsI (it c) := by
  by_cases e : c = b
  · subst e
    rw [(h.same hc).2] at hy
    exact List.mem_cons_of_mem _ hy
  · rw [h.oth c hc e] at hy; exact hy
theorem Took.back {ps : List Nat} {it : Nat → It} {b : Nat} {qs : List Nat} {it' : Nat → It} (h : Took ps it b qs it') {c : Nat} (hc : c ∈ ps) {y : Rw} (hy : y ∈ rowsI (it c)) (hne : c = b → y ≠ (it b).hd) : c ∈ qs ∧ y ∈ rowsI (it' c) := by
  by_cases e : c = b
  · subst e
    rcases List.mem_cons.1 hy with h1 | h1
    · exact absurd h1 (hne rfl)
    · have hq : c ∈ qs := (h.mem c).2 ⟨hc, fun _ e => by rw [e] at h1; cases h1⟩
      exact ⟨hq, by rw [(h.same hq).2]; exact h1⟩
  · have hq : c ∈ qs := (h.mem c).2 ⟨hc, fun e2 => absurd e2 e⟩
    exact ⟨hq, by rw [h.oth c hq e]; exact hy⟩
theorem MInv.took {P : Rw → Prop} {M : List Rw} {ps : List Nat} {it : Nat → It} {b : Nat} {qs : List Nat} {it' : Nat → It} (h : MInv P M ps it) (t : Took ps it b qs it') :
    (∀ c ∈ qs, SortedR (rowsI (it' c))) ∧ (∀ c ∈ qs, ∀ d ∈ qs, (it' c).num = (it' d).num → c = d) ∧ ∀ c ∈ qs, leW (it c).hd (it' c).hd := by
  refine ⟨fun c hc => ?_, fun c hc d hd e => ?_, fun c hc => ?_⟩
  · by_cases e : c = b
    · subst e
      rw [(t.same hc).2]
      exact (List.pairwise_cons.1 (h.rows c ((t.mem c).1 hc).1)).2
    · rw [t.oth c hc e]; exact h.rows c ((t.mem c).1 hc).1
  · rw [t.num hc, t.num hd] at e
    exact h.nums c ((t.mem c).1 hc).1 d ((t.mem d).1 hd).1 e
  · exact (h.rows c ((t.mem c).1 hc).1).low _ (t.sub hc (List.mem_cons_self ..))
/-- One that has a row at the place of the last one is passed by. -/
theorem MInv.pass {P : Rw → Prop} {M : List Rw} {ps : List Nat} {it : Nat → It} {b : Nat} {qs : List Nat} {it' : Nat → It} (h : MInv P M ps it) (t : Took ps it b qs it') {m : Rw} (hm : m ∈ M) (hs : smpB m (it b).hd = true) : MInv P M qs it' := by
  obtain ⟨t1, t2, t3⟩ := h.took t
  refine ⟨h.sorted, t1, fun m hm c hc => leW_trans (h.ahead m hm c ((t.mem c).1 hc).1) (t3 c hc), t2, fun x => ?_⟩
  rw [← h.fst x]
  constructor
  · rintro (hx | ⟨c, hc, hx, hlo, hM⟩)
    · exact .inl hx
    · refine .inr ⟨c, ((t.mem c).1 hc).1, t.sub hc hx, fun d hd hlt y hy => ?_, hM⟩
      by_cases e : d = b ∧ y = (it b).hd
      · rw [e.2]
        cases e3 : smpB (it b).hd x with
        | false => rfl
        | true => have := hM m hm; rw [smpB_trans hs e3] at this; cases this
      · obtain ⟨hq, hy'⟩ := t.back hd hy (fun e1 e2 => e ⟨e1, e2⟩)
        exact hlo d hq (by rw [t.num hq, t.num hc]; exact hlt) y hy'
  · rintro (hx | ⟨c, hc, hx, hlo, hM⟩)
    · exact .inl hx
    · have hne : c = b → x ≠ (it b).hd := fun _ e => by
        have := hM m hm
        rw [e, hs] at this; cases this
      obtain ⟨hq, hx'⟩ := t.back hc hx hne
      exact .inr ⟨c, hq, hx', fun d hd hlt y hy => hlo d ((t.mem d).1 hd).1 (by rw [t.num hd, t.num hq] at hlt; exact hlt) y (t.sub hd hy), hM⟩
/-- The least one is put behind the others. -/
theorem MInv.push {P : Rw → Prop} {M : List Rw} {ps : List Nat} {it : Nat → It} {b : Nat} {qs : List Nat} {it' : Nat → It} (h : MInv P M ps it) (t : Took ps it b qs it') (hb : b ∈ ps) (hmin : ∀ c ∈ ps, ltI (it c) (it b) = false) (hs : ∀ m, M.getLast? = some m → smpB m (it b).hd = false) : MInv P (M ++ [(it b).hd]) qs it' := by
  obtain ⟨t1, t2, t3⟩ := h.took t
  have hlow : ∀ c ∈ ps, ∀ y ∈ rowsI (it c), leW (it b).hd y := fun c hc y hy => leW_trans (ltI_no (hmin c hc)).1 ((h.rows c hc).low y hy)
  have hM : ∀ m ∈ M, ahd m (it b).hd.key (it b).hd.seq = true := by
    intro m hm
    obtain ⟨A, z, e⟩ : ∃ A z, M = A ++ [z] := by
      rcases List.eq_nil_or_concat M with e | ⟨A, z, e⟩
      · rw [e] at hm; cases hm
      · exact ⟨A, z, by rw [e, List.concat_eq_append]⟩
    have hz : z ∈ M := by rw [e]; simp
    have hzl : M.getLast? = some z := by rw [e]; simp
    have hza : ahd z (it b).hd.key (it b).hd.seq = true := by
      rcases h.ahead z hz b hb with h1 | h1
      · exact h1
      · rw [hs z hzl] at h1; cases h1
    rw [e] at hm
    rcases List.mem_append.1 hm with h1 | h1
    · have hp := h.sorted
      rw [e] at hp
      exact ahd_trans ((List.pairwise_append.1 hp).2.2 m h1 z (by simp)) hza
    · rw [List.mem_singleton.1 h1]; exact hza
  have hMn : ∀ m ∈ M, smpB m (it b).hd = false := fun m hm => by
    cases e : smpB m (it b).hd with
    | false => rfl
    | true => have := hM m hm; rw [ahd_no_same e] at this; cases this
  -- no list of a lesser number has one at the least one's place
  have hlo0 : ∀ c ∈ ps, (it c).num < (it b).num → ∀ y ∈ rowsI (it c), smpB y (it b).hd = false := fun c hc hlt y hy => by
    cases e : smpB y (it b).hd with
    | false => rfl
    | true =>
      have h1 : leW (it c).hd y := (h.rows c hc).low y hy
      have h2 := leW_both (leW_trans h1 (.inr e)) (ltI_no (hmin c hc)).1
      have := (ltI_no (hmin c hc)).2 h2
      omega
  refine ⟨?_, t1, fun m hm c hc => ?_, t2, fun x => ?_⟩
  · exact List.pairwise_append.2 ⟨h.sorted, List.pairwise_singleton _ _, fun m hm y hy => by rw [List.mem_singleton.1 hy]; exact hM m hm⟩
  · rcases List.mem_append.1 hm with h1 | h1
    · exact leW_trans (h.ahead m h1 c ((t.mem c).1 hc).1) (t3 c hc)
    · rw [List.mem_singleton.1 h1]
      exact hlow c ((t.mem c).1 hc).1 _ (t.sub hc (List.mem_cons_self ..))
  · rw [← h.fst x]
    constructor
    · rintro (hx | ⟨c, hc, hx, hlo, hM2⟩)
      · rcases List.mem_append.1 hx with h1 | h1
        · exact .inl h1
        · rw [List.mem_singleton.1 h1]
          exact .inr ⟨b, hb, List.mem_cons_self .., hlo0, hMn⟩
      · refine .inr ⟨c, ((t.mem c).1 hc).1, t.sub hc hx, fun d hd hlt y hy => ?_, fun m hm => hM2 m (List.mem_append_left _ hm)⟩
        by_cases e : d = b ∧ y = (it b).hd
        · rw [e.2]; exact hM2 _ (by simp)
        · obtain ⟨hq, hy'⟩ := t.back hd hy (fun e1 e2 => e ⟨e1, e2⟩)
          exact hlo d hq (by rw [t.num hq, t.num hc]; exact hlt) y hy'
    · rintro (hx | ⟨c, hc, hx, hlo, hM2⟩)
      · exact .inl (List.mem_append_left _ hx)
      · by_cases e : c = b ∧ x = (it b).hd
        · exact .inl (by rw [e.2]; simp)
        · obtain ⟨hq, hx'⟩ := t.back hc hx (fun e1 e2 => e ⟨e1, e2⟩)
          refine .inr ⟨c, hq, hx', fun d hd hlt y hy => hlo d ((t.mem d).1 hd).1 (by rw [t.num hd, t.num hq] at hlt; exact hlt) y (t.sub hd hy), fun m hm => ?_⟩
          rcases List.mem_append.1 hm with h1 | h1
          · exact hM2 m h1
          · rw [List.mem_singleton.1 h1]
            cases e3 : smpB (it b).hd x with
            | false => rfl
            | true =>
              by_cases ec : c = b
              · subst ec
                rcases List.mem_cons.1 hx with h2 | h2
                · exact absurd ⟨rfl, h2⟩ e
                · have := (List.pairwise_cons.1 (h.rows c hc)).1 x h2
                  rw [ahd_no_same e3] at this; cases this
              · have h2 : leW (it c).hd x := (h.rows c hc).low x hx
                have h3 := leW_both (leW_trans h2 (.inr (smpB_symm e3))) (ltI_no (hmin c hc)).1
                have h4 := (ltI_no (hmin c hc)).2 h3
                have h5 : (it b).num < (it c).num := by
                  rcases Nat.eq_or_lt_of_le h4 with h6 | h6
                  · exact absurd (h.nums b hb c hc h6).symm ec
                  · exact h6
                have := hlo b hb h5 (it b).hd (List.mem_cons_self ..)
                rw [e3] at this; cases this
theorem MInv.done {P : Rw → Prop} {M : List Rw} {it : Nat → It} (h : MInv P M [] it) : ∀ x, x ∈ M ↔ P x := fun x => by
  rw [← h.fst x]
  refine ⟨.inl, ?_⟩
  rintro (h1 | ⟨b, hb, _⟩)
  · exact h1
  · cases hb
theorem itemsL_num : ∀ {k : Nat} {L : List (List Rw)} {i : It}, i ∈ itemsL k L → k < i.num
  | k, [], i, h => by simp [itemsL] at h
  | k, [] :: L, i, h => by rw [itemsL] at h; exact itemsL_num h
  | k, (x :: r) :: L, i, h => by
    rw [itemsL] at h
    rcases List.mem_cons.1 h with rfl | h
    · show k < k + 1; omega
    · have := itemsL_num h; omega
/-- Where it begins. -/
theorem fin_items : ∀ {k : Nat} {L : List (List Rw)} {x : Rw}, FinL L x ↔ ∃ i ∈ itemsL k L, x ∈ rowsI i ∧ ∀ j ∈ itemsL k L, j.num < i.num → ∀ y ∈ rowsI j, smpB y x = false
  | k, [], x => by simp [FinL, itemsL]
  | k, [] :: L, x => by
    rw [itemsL, ← fin_items (k := k) (L := L)]
    show x ∈ [] ∨ (FinL L x ∧ ∀ y ∈ ([] : List Rw), smpB y x = false) ↔ FinL L x
    simp
  | k, (a :: r) :: L, x => by
    have ih := fin_items (k := k + 1) (L := L) (x := x)
    rw [itemsL]
    show x ∈ a :: r ∨ (FinL L x ∧ ∀ y ∈ a :: r, smpB y x = false) ↔ _
    rw [ih]
    constructor
    · rintro (h1 | ⟨⟨i, hi, h1, h2⟩, h3⟩)
      · refine ⟨⟨k + 1, a, r⟩, List.mem_cons_self .., h1, fun j hj hlt => ?_⟩
        rcases List.mem_cons.1 hj with rfl | hj
        · exact absurd hlt (Nat.lt_irrefl _)
        · have := itemsL_num hj
          have hlt : j.num < k + 1 := hlt
          omega
      · refine ⟨i, List.mem_cons_of_mem _ hi, h1, fun j hj hlt => ?_⟩
        rcases List.mem_cons.1 hj with rfl | hj
        · exact h3
        · exact h2 j hj hlt
    · rintro ⟨i, hi, h1, h2⟩
      rcases List.mem_cons.1 hi with rfl | hi
      · exact .inl h1
      · refine .inr ⟨⟨i, hi, h1, fun j hj => h2 j (List.mem_cons_of_mem _ hj)⟩, h2 ⟨k + 1, a, r⟩ (List.mem_cons_self ..) (itemsL_num hi)⟩
theorem itemsL_sorted : ∀ {k : Nat} {L : List (List Rw)}, (∀ l ∈ L, SortedR l) → ∀ i ∈ itemsL k L, SortedR (rowsI i)
  | k, [], _, i, h => by simp [itemsL] at h
  | k, [] :: L, hs, i, h => by rw [itemsL] at h; exact itemsL_sorted (fun l hl => hs l (List.mem_cons_of_mem _ hl)) i h
  | k, (x :: r) :: L, hs, i, h => by
    rw [itemsL] at h
    rcases List.mem_cons.1 h with rfl | h
    · exact hs _ (List.mem_cons_self ..)
    · exact itemsL_sorted (fun l hl => hs l (List.mem_cons_of_mem _ hl)) i h
theorem itemsL_rise : ∀ (k : Nat) (L : List (List Rw)), (itemsL k L).Pairwise fun i j => i.num < j.num
  | k, [] => by simp [itemsL]
  | k, [] :: L => by rw [itemsL]; exact itemsL_rise k L
  | k, (x :: r) :: L => by
    rw [itemsL]
    exact List.pairwise_cons.2 ⟨fun j hj => itemsL_num hj, itemsL_rise (k + 1) L⟩
theorem itemsL_len : ∀ (k : Nat) (L : List (List Rw)), (itemsL k L).length ≤ L.length
  | k, [] => Nat.le_refl _
  | k, [] :: L => by rw [itemsL]; exact Nat.le_succ_of_le (itemsL_len k L)
  | k, (x :: r) :: L => by rw [itemsL]; exact Nat.succ_le_succ (itemsL_len (k + 1) L)
theorem MInv.start {L : List (List Rw)} (hs : ∀ l ∈ L, SortedR l) {bs ps : List Nat} {it : Nat → It} (hm : bs.map it = itemsL 0 L) (hp : ps.Perm bs) : MInv (FinL L) [] ps it := by
  have hmem : ∀ b ∈ ps, it b ∈ itemsL 0 L := fun b hb => by rw [← hm]; exact List.mem_map_of_mem (hp.mem_iff.1 hb)
  have hbk : ∀ i ∈ itemsL 0 L, ∃ b ∈ ps, it b = i := fun i hi => by
    rw [← hm] at hi
    obtain ⟨b, hb, e⟩ := List.mem_map.1 hi
    exact ⟨b, hp.mem_iff.2 hb, e⟩
  refine ⟨List.Pairwise.nil, fun b hb => itemsL_sorted hs _ (hmem b hb), fun m hm => (by cases hm), fun b hb c hc e => ?_, fun x => ?_⟩
  · have hr := itemsL_rise 0 L
    rw [← hm, List.pairwise_map] at hr
    obtain ⟨i, hi⟩ := List.mem_iff_getElem?.1 (hp.mem_iff.1 hb)
    obtain ⟨j, hj⟩ := List.mem_iff_getElem?.1 (hp.mem_iff.1 hc)
    obtain ⟨l1, e1⟩ := List.getElem?_eq_some_iff.1 hi
    obtain ⟨l2, e2⟩ := List.getElem?_eq_some_iff.1 hj
    rcases Nat.lt_trichotomy i j with h1 | h1 | h1
    · have := List.pairwise_iff_getElem.1 hr i j l1 l2 h1
      rw [e1, e2] at this; omega
    · subst h1; rw [hi] at hj; exact Option.some.inj hj
    · have := List.pairwise_iff_getElem.1 hr j i l2 l1 h1
      rw [e1, e2] at this; omega
  · rw [fin_items (k := 0)]
    constructor
    · rintro (h | ⟨b, hb, h1, h2, _⟩)
      · cases h
      · exact ⟨it b, hmem b hb, h1, fun j hj hlt y hy => by obtain ⟨c, hc, rfl⟩ := hbk j hj; exact h2 c hc hlt y hy⟩
    · rintro ⟨i, hi, h1, h2⟩
      obtain ⟨b, hb, rfl⟩ := hbk i hi
      exact .inr ⟨b, hb, h1, fun c hc hlt y hy => h2 _ (hmem c hc) hlt y hy, fun m hm => by cases hm⟩
/-- Two lists in order that have the same rows are the same. -/
theorem sorted_same : ∀ {a b : List Rw}, SortedR a → SortedR b → (∀ x, x ∈ a ↔ x ∈ b) → a = b
  | [], [], _, _, _ => rfl
  | [], y :: b, _, _, h => by have := (h y).2 (List.mem_cons_self ..); cases this
  | x :: a, [], _, _, h => by have := (h x).1 (List.mem_cons_self ..); cases this
  | x :: a, y :: b, ha, hb, h => by
    have hxy : x = y := by
      rcases List.mem_cons.1 ((h x).1 (List.mem_cons_self ..)) with e | e
      · exact e
      · rcases List.mem_cons.1 ((h y).2 (List.mem_cons_self ..)) with e2 | e2
        · exact e2.symm
        · have h1 := (List.pairwise_cons.1 hb).1 x e
          have h2 := (List.pairwise_cons.1 ha).1 y e2
          rw [ahd_anti h1] at h2; cases h2
    subst hxy
    congr 1
    refine sorted_same (List.pairwise_cons.1 ha).2 (List.pairwise_cons.1 hb).2 fun z => ?_
    have hno : ∀ {c : List Rw}, SortedR (x :: c) → x ∉ c := fun {c} hc hm => by
      have := (List.pairwise_cons.1 hc).1 x hm
      rw [ahd_no_same (smpB_refl x)] at this; cases this
    constructor
    · intro hz
      rcases List.mem_cons.1 ((h z).1 (List.mem_cons_of_mem _ hz)) with e | e
      · subst e; exact absurd hz (hno ha)
      · exact e
    · intro hz
      rcases List.mem_cons.1 ((h z).2 (List.mem_cons_of_mem _ hz)) with e | e
      · subst e; exact absurd hz (hno hb)
      · exact e
/-- The rows that are made one. -/
def addR (out : List Rw) (x : Rw) : List Rw := if thr out x.key x.seq = true then out else insR out x
def mergeL (L : List (List Rw)) : List Rw := L.foldl (fun o l => l.foldl addR o) []
theorem addR_sorted {o : List Rw} (h : SortedR o) (x : Rw) : SortedR (addR o x) := by
  unfold addR
  split
  · exact h
  · exact insR_sorted h (by simpa using ‹¬ thr o x.key x.seq = true›)
theorem addR_len (o : List Rw) (x : Rw) : (addR o x).length ≤ o.length + 1 := by
  unfold addR
  split
  · exact Nat.le_succ _
  · rw [insR_len]; exact Nat.le_refl _
theorem addR_mem {o : List Rw} (h : SortedR o) (x z : Rw) : z ∈ addR o x ↔ z ∈ o ∨ (z = x ∧ ∀ y ∈ o, smpB y x = false) := by
  have ht : thr o x.key x.seq = true ↔ ∃ y ∈ o, smpB y x = true := by
    rw [thr_iff h]
    exact ⟨fun ⟨y, h1, h2⟩ => ⟨y, h1, smpB_iff.2 h2⟩, fun ⟨y, h1, h2⟩ => ⟨y, h1, smpB_iff.1 h2⟩⟩
  unfold addR
  split
  · rename_i e
    obtain ⟨y, hy, hs⟩ := ht.1 e
    exact ⟨.inl, fun h2 => h2.elim id fun h3 => by have := h3.2 y hy; rw [hs] at this; cases this⟩
  · rename_i e
    rw [(insR_perm o x).mem_iff, List.mem_cons]
    have hno : ∀ y ∈ o, smpB y x = false := fun y hy => by
      cases e2 : smpB y x with
      | false => rfl
      | true => exact absurd (ht.2 ⟨y, hy, e2⟩) e
    exact ⟨fun h2 => h2.elim (fun e2 => .inr ⟨e2, hno⟩) .inl, fun h2 => h2.elim .inr fun h3 => .inl h3.1⟩
theorem foldl_sorted : ∀ (l : List Rw) {o : List Rw}, SortedR o → SortedR (l.foldl addR o)
  | [], _, h => h
  | x :: l, _, h => foldl_sorted l (addR_sorted h x)
theorem foldl_mem : ∀ {l : List Rw}, SortedR l → ∀ {o : List Rw}, SortedR o → ∀ z, z ∈ l.foldl addR o ↔ z ∈ o ∨ (z ∈ l ∧ ∀ y ∈ o, smpB y z = false)
  | [], _, o, _, z => by simp
  | x :: l, hl, o, ho, z => by
    have hl2 := List.pairwise_cons.1 hl
    show z ∈ l.foldl addR (addR o x) ↔ _
    rw [foldl_mem hl2.2 (addR_sorted ho x) z, addR_mem ho]
    constructor
    · rintro ((h1 | h1) | ⟨h1, h2⟩)
      · exact .inl h1
      · exact .inr ⟨by rw [h1.1]; exact List.mem_cons_self .., by rw [h1.1]; exact h1.2⟩
      · exact .inr ⟨List.mem_cons_of_mem _ h1, fun y hy => h2 y ((addR_mem ho x y).2 (.inl hy))⟩
    · rintro (h1 | ⟨h1, h2⟩)
      · exact .inl (.inl h1)
      · rcases List.mem_cons.1 h1 with e | h1
        · exact .inl (.inr ⟨e, by rw [← e]; exact h2⟩)
        · refine .inr ⟨h1, fun y hy => ?_⟩
          rcases (addR_mem ho x y).1 hy with h3 | h3
          · exact h2 y h3
          · rw [h3.1]
            cases e : smpB x z with
            | false => rfl
            | true => have := hl2.1 z h1; rw [ahd_no_same e] at this; cases this
theorem mergeL_all : ∀ {L : List (List Rw)}, (∀ l ∈ L, SortedR l) → ∀ {o : List Rw}, SortedR o → SortedR (L.foldl (fun o l => l.foldl addR o) o) ∧ ∀ z, z ∈ L.foldl (fun o l => l.foldl addR o) o ↔ z ∈ o ∨ (FinL L z ∧ ∀ y ∈ o, smpB y z = false)
  | [], _, o, ho => ⟨ho, fun z => by simp [FinL]⟩
  | l :: L, hs, o, ho => by
    obtain ⟨h1, h2⟩ := mergeL_all (L := L) (fun a ha => hs a (List.mem_cons_of_mem _ ha)) (foldl_sorted l ho)
    refine ⟨h1, fun z => ?_⟩
    show z ∈ L.foldl (fun o l => l.foldl addR o) (l.foldl addR o) ↔ z ∈ o ∨ ((z ∈ l ∨ (FinL L z ∧ ∀ y ∈ l, smpB y z = false)) ∧ ∀ y ∈ o, smpB y z = false)
    have hm := foldl_mem (hs l (List.mem_cons_self ..)) ho
    rw [h2 z, hm z]
    constructor
    · rintro ((h3 | h3) | ⟨h3, h4⟩)
      · exact .inl h3
      · exact .inr ⟨.inl h3.1, h3.2⟩
      · refine .inr ⟨.inr ⟨h3, fun y hy => ?_⟩, fun y hy => h4 y ((hm y).2 (.inl hy))⟩
        by_cases e : ∀ u ∈ o, smpB u y = false
        · exact h4 y ((hm y).2 (.inr ⟨hy, e⟩))
        · cases e5 : smpB y z with
          | false => rfl
          | true =>
            refine absurd (fun u hu => ?_) e
            cases e6 : smpB u y with
            | false => rfl
            | true => have := h4 u ((hm u).2 (.inl hu)); rw [smpB_trans e6 e5] at this; cases this
    · rintro (h3 | ⟨h3 | ⟨h3, h4⟩, h5⟩)
      · exact .inl (.inl h3)
      · exact .inl (.inr ⟨h3, h5⟩)
      · refine .inr ⟨h3, fun y hy => ?_⟩
        rcases (hm y).1 hy with h6 | h6
        · exact h5 y h6
        · exact h4 y h6.1
theorem mergeL_sorted {L : List (List Rw)} (hs : ∀ l ∈ L, SortedR l) : SortedR (mergeL L) := (mergeL_all hs List.Pairwise.nil).1
theorem mergeL_mem {L : List (List Rw)} (hs : ∀ l ∈ L, SortedR l) (z : Rw) : z ∈ mergeL L ↔ FinL L z := by
  unfold mergeL
  rw [(mergeL_all hs List.Pairwise.nil).2 z]
  simp
/-- What the heap makes one is what the document says. -/
theorem MInv.eq {L : List (List Rw)} (hs : ∀ l ∈ L, SortedR l) {M : List Rw} {it : Nat → It} (h : MInv (FinL L) M [] it) : M = mergeL L :=
  sorted_same h.sorted (mergeL_sorted hs) fun x => by rw [mergeL_mem hs, h.done x]
end Go.Proofs.Ytkkegdhnkefogaa
