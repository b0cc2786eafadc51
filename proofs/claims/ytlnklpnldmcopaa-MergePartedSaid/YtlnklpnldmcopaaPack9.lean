/-
  Rows of lists made one: of the rows at one place that of the first list. No condition.
-/
import Derived.Test.YtlnklpnldmcopaaPack8
namespace Go.Proofs.Ytlnklpnldmcopaa
set_option maxRecDepth 100000
open Go.RowKit
def rowsI (i : It) : List Rw := i.hd :: i.tl
/-- The lists that have rows, numbered. -/
def itemsL : Nat → List (List Rw) → List It
  | _, [] => []
  | k, [] :: L => itemsL k L
  | k, (x :: r) :: L => ⟨k + 1, x, r⟩ :: itemsL (k + 1) L
/-- The row is one of these lists, and no list ahead has one at its place. -/
def FinL : List (List Rw) → Rw → Prop
  | [], _ => False
  | a :: L, x => x ∈ a ∨ (FinL L x ∧ ∀ y ∈ a, smpB y x = false)
def leW (x y : Rw) : Prop := ahd x y.key y.seq = true ∨ smpB x y = true
theorem leW_trans {x y z : Rw} (h1 : leW x y) (h2 : leW y z) : leW x z := by
  rcases h1 with h1 | h1 <;> rcases h2 with h2 | h2
  · exact .inl (ahd_trans h1 h2)
  · refine .inl ?_
    rw [← ahd_same (smpB_iff.1 h2)]; exact h1
  · refine .inl ?_
    rw [ahd_left (smpB_iff.1 h1)]; exact h2
  · exact .inr (smpB_trans h1 h2)
theorem leW_both {x y : Rw} (h1 : leW x y) (h2 : leW y x) : smpB x y = true := by
  rcases h1 with h1 | h1
  · rcases h2 with h2 | h2
    · rw [ahd_anti h1] at h2; cases h2
    · exact smpB_symm h2
  · exact h1
theorem smp_no {x y : Rw} (h : smpB x y = false) : smpB y x = false := by
  cases e : smpB y x with
  | false => rfl
  | true => rw [smpB_symm e] at h; cases h
theorem leW_refl (x : Rw) : leW x x := .inr (smpB_refl x)
theorem ltI_no {a b : It} (h : ltI a b = false) : leW b.hd a.hd ∧ (smpB a.hd b.hd = true → b.num ≤ a.num) := by
  unfold ltI at h
  cases e : smpB a.hd b.hd with
  | true =>
    rw [e, if_pos rfl, decide_eq_false_iff_not] at h
    exact ⟨.inr (smpB_symm e), fun _ => by omega⟩
  | false =>
    rw [e, if_neg (by simp)] at h
    refine ⟨?_, fun e2 => by cases e2⟩
    rcases ahd_or e with h1 | h1
    · rw [h1] at h; cases h
    · exact .inl h1
/-- A row is in what is made one, or comes there from the lists that are left. -/
def FstP (M : List Rw) (ps : List Nat) (it : Nat → It) (x : Rw) : Prop := x ∈ M ∨ ∃ b ∈ ps, x ∈ rowsI (it b) ∧ (∀ c ∈ ps, (it c).num < (it b).num → ∀ y ∈ rowsI (it c), smpB y x = false) ∧ ∀ m ∈ M, smpB m x = false
structure MInv (P : Rw → Prop) (M : List Rw) (ps : List Nat) (it : Nat → It) : Prop where
  sorted : SortedR M
  rows : ∀ b ∈ ps, SortedR (rowsI (it b))
  ahead : ∀ m ∈ M, ∀ b ∈ ps, leW m (it b).hd
  nums : ∀ b ∈ ps, ∀ c ∈ ps, (it b).num = (it c).num → b = c
  fst : ∀ x, FstP M ps it x ↔ P x
theorem SortedR.low {x : Rw} {r : List Rw} (h : SortedR (x :: r)) : ∀ y ∈ x :: r, leW x y := fun y hy => by
  rcases List.mem_cons.1 hy with rfl | hy
  · exact leW_refl _
  · exact .inl ((List.pairwise_cons.1 h).1 y hy)
/-- What becomes of the lists by taking. -/
structure Took (ps : List Nat) (it : Nat → It) (b : Nat) (qs : List Nat) (it' : Nat → It) : Prop where
  mem : ∀ c, c ∈ qs ↔ c ∈ ps ∧ (c = b → (it b).tl ≠ [])
  oth : ∀ c ∈ qs, c ≠ b → it' c = it c
  same : b ∈ qs → (it' b).num = (it b).num ∧ rowsI (it' b) = (it b).tl
theorem Took.num {ps : List Nat} {it : Nat → It} {b : Nat} {qs : List Nat} {it' : Nat → It} (h : Took ps it b qs it') {c : Nat} (hc : c ∈ qs) : (it' c).num = (it c).num := by
  by_cases e : c = b
  · subst e; exact (h.same hc).1
  · rw [h.oth c hc e]
theorem Took.sub {ps : List Nat} {it : Nat → It} {b : Nat} {qs : List Nat} {it' : Nat → It} (h : Took ps it b qs it') {c : Nat} (hc : c ∈ qs) {y : Rw} (hy : y ∈ rowsI (it' c)) : y ∈ rowsI (it c) := by
  by_cases e : c = b
  · subst e
    rw [(h.same hc).2] at hy
    exact List.mem_cons_of_mem _ hy
  · rw [h.oth c hc e] at hy; exact hy
theorem Took.back {ps : List Nat} {it : Nat → It} {b : Nat} {qs : List Nat} {it' : Nat → It} (h : Took ps it b qs it') {c : Nat} (hc : c ∈ ps) {y : Rw} (hy : y ∈ rowsI (it c)) (hne : c = b → y ≠ (it b).hd) : c ∈ qs ∧ y ∈ rowsI (it' c) := by
  by_cases e : c = b
  · subst e
    rcases List.mem_cons.1 hy with h1 | h1
    · exact absurd h1 (hne rfl)
    · have hq : c ∈ qs := (h.mem c).2 ⟨hc, fun _ e => by rw [e] at h1; cases h1⟩
      exact ⟨hq, by rw [(h.same hq).2]; exact h1⟩
  · have hq : c ∈ qs := (h.mem c).2 ⟨hc, fun e2 => absurd e2 e⟩
    exact ⟨hq, by rw [h.oth c hq e]; exact hy⟩
theorem MInv.took {P : Rw → Prop} {M : List Rw} {ps : List Nat} {it : Nat → It} {b : Nat} {qs : List Nat} {it' : Nat → It} (h : MInv P M ps it) (t : Took ps it b qs it') :
    (∀ c ∈ qs, SortedR (rowsI (it' c))) ∧ (∀ c ∈ qs, ∀ d ∈ qs, (it' c).num = (it' d).num → c = d) ∧ ∀ c ∈ qs, leW (it c).hd (it' c).hd := by
  refine ⟨fun c hc => ?_, fun c hc d hd e => ?_, fun c hc => ?_⟩
  · by_cases e : c = b
    · subst e
      rw [(t.same hc).2]
      exact (List.pairwise_cons.1 (h.rows c ((t.mem c).1 hc).1)).2
    · rw [t.oth c hc e]; exact h.rows c ((t.mem c).1 hc).1
  · rw [t.num hc, t.num hd] at e
    exact h.nums c ((t.mem c).1 hc).1 d ((t.mem d).1 hd).1 e
  · exact (h.rows c ((t.mem c).1 hc).1).low _ (t.sub hc (List.mem_cons_self ..))
/-- One that has a row at the place of the last one is passed by. -/
theorem MInv.pass {P : Rw → Prop} {M : List Rw} {ps : List Nat} {it : Nat → It} {b : Nat} {qs : List Nat} {it' : Nat → It} (h : MInv P M ps it) (t : Took ps it b qs it') {m : Rw} (hm : m ∈ M) (hs : smpB m (it b).hd = true) : MInv P M qs it' := by
  obtain ⟨t1, t2, t3⟩ := h.took t
  refine ⟨h.sorted, t1, fun m hm c hc => leW_trans (h.ahead m hm c ((t.mem c).1 hc).1) (t3 c hc), t2, fun x => ?_⟩
  rw [← h.fst x]
  constructor
  · rintro (hx | ⟨c, hc, hx, hlo, hM⟩)
    · exact .inl hx
    · refine .inr ⟨c, ((t.mem c).1 hc).1, t.sub hc hx, fun d hd hlt y hy => ?_, hM⟩
      by_cases e : d = b ∧ y = (it b).hd
      · rw [e.2]
        cases e3 : smpB (it b).hd x with
        | false => rfl
        | true => have := hM m hm; rw [smpB_trans hs e3] at this; cases this
      · obtain ⟨hq, hy'⟩ := t.back hd hy (fun e1 e2 => e ⟨e1, e2⟩)
        exact hlo d hq (by rw [t.num hq, t.num hc]; exact hlt) y hy'
  · rintro (hx | ⟨c, hc, hx, hlo, hM⟩)
    · exact .inl hx
    · have hne : c = b → x ≠ (it b).hd := fun _ e => by
        have := hM m hm
        rw [e, hs] at this; cases this
      obtain ⟨hq, hx'⟩ := t.back hc hx hne
      exact .inr ⟨c, hq, hx', fun d hd hlt y hy => hlo d ((t.mem d).1 hd).1 (by rw [t.num hd, t.num hq] at hlt; exact hlt) y (t.sub hd hy), hM⟩
/-- The least one is put behind the others. -/
theorem MInv.push {P : Rw → Prop} {M : List Rw} {ps : List Nat} {it : Nat → It} {b : Nat} {qs : List Nat} {it' : Nat → It} (h : MInv P M ps it) (t : Took ps it b qs it') (hb : b ∈ ps) (hmin : ∀ c ∈ ps, ltI (it c) (it b) = false) (hs : ∀ m, M.getLast? = some m → smpB m (it b).hd = false) : MInv P (M ++ [(it b).hd]) qs it' := by
  obtain ⟨t1, t2, t3⟩ := h.took t
  have hlow : ∀ c ∈ ps, ∀ y ∈ rowsI (it c), leW (it b).hd y := fun c hc y hy => leW_trans (ltI_no (hmin c hc)).1 ((h.rows c hc).low y hy)
  have hM : ∀ m ∈ M, ahd m (it b).hd.key (it b).hd.seq = true := by
    intro m hm
    obtain ⟨A, z, e⟩ : ∃ A z, M = A ++ [z] := by
      rcases List.eq_nil_or_concat M with e | ⟨A, z, e⟩
      · rw [e] at hm; cases hm
      · exact ⟨A, z, by rw [e, List.concat_eq_append]⟩
    have hz : z ∈ M := by rw [e]; simp
    have hzl : M.getLast? = some z := by rw [e]; simp
    have hza : ahd z (it b).hd.key (it b).hd.seq = true := by
      rcases h.ahead z hz b hb with h1 | h1
      · exact h1
      · rw [hs z hzl] at h1; cases h1
    rw [e] at hm
    rcases List.mem_append.1 hm with h1 | h1
    · have hp := h.sorted
      rw [e] at hp
      exact ahd_trans ((List.pairwise_append.1 hp).2.2 m h1 z (by simp)) hza
    · rw [List.mem_singleton.1 h1]; exact hza
  have hMn : ∀ m ∈ M, smpB m (it b).hd = false := fun m hm => by
    cases e : smpB m (it b).hd with
    | false => rfl
    | true => have := hM m hm; rw [ahd_no_same e] at this; cases this
  -- no list of a lesser number has one at the least one's place
  have hlo0 : ∀ c ∈ ps, (it c).num < (it b).num → ∀ y ∈ rowsI (it c), smpB y (it b).hd = false := fun c hc hlt y hy => by
    cases e : smpB y (it b).hd with
    | false => rfl
    | true =>
      have h1 : leW (it c).hd y := (h.rows c hc).low y hy
      have h2 := leW_both (leW_trans h1 (.inr e)) (ltI_no (hmin c hc)).1
      have := (ltI_no (hmin c hc)).2 h2
      omega
  refine ⟨?_, t1, fun m hm c hc => ?_, t2, fun x => ?_⟩
  · exact List.pairwise_append.2 ⟨h.sorted, List.pairwise_singleton _ _, fun m hm y hy => by rw [List.mem_singleton.1 hy]; exact hM m hm⟩
  · rcases List.mem_append.1 hm with h1 | h1
    · exact leW_trans (h.ahead m h1 c ((t.mem c).1 hc).1) (t3 c hc)
    · rw [List.mem_singleton.1 h1]
      exact hlow c ((t.mem c).1 hc).1 _ (t.sub hc (List.mem_cons_self ..))
  · rw [← h.fst x]
    constructor
    · rintro (hx | ⟨c, hc, hx, hlo, hM2⟩)
      · rcases List.mem_append.1 hx with h1 | h1
        · exact .inl h1
        · rw [List.mem_singleton.1 h1]
          exact .inr ⟨b, hb, List.mem_cons_self .., hlo0, hMn⟩
      · refine .inr ⟨c, ((t.mem c).1 hc).1, t.sub hc hx, fun d hd hlt y hy => ?_, fun m hm => hM2 m (List.mem_append_left _ hm)⟩
        by_cases e : d = b ∧ y = (it b).hd
        · rw [e.2]; exact hM2 _ (by simp)
        · obtain ⟨hq, hy'⟩ := t.back hd hy (fun e1 e2 => e ⟨e1, e2⟩)
          exact hlo d hq (by rw [t.num hq, t.num hc]; exact hlt) y hy'
    · rintro (hx | ⟨c, hc, hx, hlo, hM2⟩)
      · exact .inl (List.mem_append_left _ hx)
      · by_cases e : c = b ∧ x = (it b).hd
        · exact .inl (by rw [e.2]; simp)
        · obtain ⟨hq, hx'⟩ := t.back hc hx (fun e1 e2 => e ⟨e1, e2⟩)
          refine .inr ⟨c, hq, hx', fun d hd hlt y hy => hlo d ((t.mem d).1 hd).1 (by rw [t.num hd, t.num hq] at hlt; exact hlt) y (t.sub hd hy), fun m hm => ?_⟩
          rcases List.mem_append.1 hm with h1 | h1
          · exact hM2 m h1
          · rw [List.mem_singleton.1 h1]
            cases e3 : smpB (it b).hd x with
            | false => rfl
            | true =>
              by_cases ec : c = b
              · subst ec
                rcases List.mem_cons.1 hx with h2 | h2
                · exact absurd ⟨rfl, h2⟩ e
                · have := (List.pairwise_cons.1 (h.rows c hc)).1 x h2
                  rw [ahd_no_same e3] at this; cases this
              · have h2 : leW (it c).hd x := (h.rows c hc).low x hx
                have h3 := leW_both (leW_trans h2 (.inr (smpB_symm e3))) (ltI_no (hmin c hc)).1
                have h4 := (ltI_no (hmin c hc)).2 h3
                have h5 : (it b).num < (it c).num := by
                  rcases Nat.eq_or_lt_of_le h4 with h6 | h6
                  · exact absurd (h.nums b hb c hc h6).symm ec
                  · exact h6
                have := hlo b hb h5 (it b).hd (List.mem_cons_self ..)
                rw [e3] at this; cases this
theorem MInv.done {P : Rw → Prop} {M : List Rw} {it : Nat → It} (h : MInv P M [] it) : ∀ x, x ∈ M ↔ P x := fun x => by
  rw [← h.fst x]
  refine ⟨.inl, ?_⟩
  rintro (h1 | ⟨b, hb, _⟩)
  · exact h1
  · cases hb
theorem itemsL_num : ∀ {k : Nat} {L : List (List Rw)} {i : It}, i ∈ itemsL k L → k < i.num
  | k, [], i, h => by simp [itemsL] at h
  | k, [] :: L, i, h => by rw [itemsL] at h; exact itemsL_num h
  | k, (x :: r) :: L, i, h => by
    rw [itemsL] at h
    rcases List.mem_cons.1 h with rfl | h
    · show k < k + 1; omega
    · have := itemsL_num h; omega
/-- Where it begins. -/
theorem fin_items : ∀ {k : Nat} {L : List (List Rw)} {x : Rw}, FinL L x ↔ ∃ i ∈ itemsL k L, x ∈ rowsI i ∧ ∀ j ∈ itemsL k L, j.num < i.num → ∀ y ∈ rowsI j, smpB y x = false
  | k, [], x => by simp [FinL, itemsL]
  | k, [] :: L, x => by
    rw [itemsL, ← fin_items (k := k) (L := L)]
    show x ∈ [] ∨ (FinL L x ∧ ∀ y ∈ ([] : List Rw), smpB y x = false) ↔ FinL L x
    simp
  | k, (a :: r) :: L, x => by
    have ih := fin_items (k := k + 1) (L := L) (x := x)
    rw [itemsL]
    show x ∈ a :: r ∨ (FinL L x ∧ ∀ y ∈ a :: r, smpB y x = false) ↔ _
    rw [ih]
    constructor
    · rintro (h1 | ⟨⟨i, hi, h1, h2⟩, h3⟩)
      · refine ⟨⟨k + 1, a, r⟩, List.mem_cons_self .., h1, fun j hj hlt => ?_⟩
        rcases List.mem_cons.1 hj with rfl | hj
        · exact absurd hlt (Nat.lt_irrefl _)
        · have := itemsL_num hj
          have hlt : j.num < k + 1 := hlt
          omega
      · refine ⟨i, List.mem_cons_of_mem _ hi, h1, fun j hj hlt => ?_⟩
        rcases List.mem_cons.1 hj with rfl | hj
        · exact h3
        · exact h2 j hj hlt
    · rintro ⟨i, hi, h1, h2⟩
      rcases List.mem_cons.1 hi with rfl | hi
      · exact .inl h1
      · refine .inr ⟨⟨i, hi, h1, fun j hj => h2 j (List.mem_cons_of_mem _ hj)⟩, h2 ⟨k + 1, a, r⟩ (List.mem_cons_self ..) (itemsL_num hi)⟩
theorem itemsL_sorted : ∀ {k : Nat} {L : List (List Rw)}, (∀ l ∈ L, SortedR l) → ∀ i ∈ itemsL k L, SortedR (rowsI i)
  | k, [], _, i, h => by simp [itemsL] at h
  | k, [] :: L, hs, i, h => by rw [itemsL] at h; exact itemsL_sorted (fun l hl => hs l (List.mem_cons_of_mem _ hl)) i h
  | k, (x :: r) :: L, hs, i, h => by
    rw [itemsL] at h
    rcases List.mem_cons.1 h with rfl | h
    · exact hs _ (List.mem_cons_self ..)
    · exact itemsL_sorted (fun l hl => hs l (List.mem_cons_of_mem _ hl)) i h
theorem itemsL_rise : ∀ (k : Nat) (L : List (List Rw)), (itemsL k L).Pairwise fun i j => i.num < j.num
  | k, [] => by simp [itemsL]
  | k, [] :: L => by rw [itemsL]; exact itemsL_rise k L
  | k, (x :: r) :: L => by
    rw [itemsL]
    exact List.pairwise_cons.2 ⟨fun j hj => itemsL_num hj, itemsL_rise (k + 1) L⟩
theorem itemsL_len : ∀ (k : Nat) (L : List (List Rw)), (itemsL k L).length ≤ L.length
  | k, [] => Nat.le_refl _
  | k, [] :: L => by rw [itemsL]; exact Nat.le_succ_of_le (itemsL_len k L)
  | k, (x :: r) :: L => by rw [itemsL]; exact Nat.succ_le_succ (itemsL_len (k + 1) L)
theorem MInv.start {L : List (List Rw)} (hs : ∀ l ∈ L, SortedR l) {bs ps : List Nat} {it : Nat → It} (hm : bs.map it = itemsL 0 L) (hp : ps.Perm bs) : MInv (FinL L) [] ps it := by
  have hmem : ∀ b ∈ ps, it b ∈ itemsL 0 L := fun b hb => by rw [← hm]; exact List.mem_map_of_mem (hp.mem_iff.1 hb)
  have hbk : ∀ i ∈ itemsL 0 L, ∃ b ∈ ps, it b = i := fun i hi => by
    rw [← hm] at hi
    obtain ⟨b, hb, e⟩ := List.mem_map.1 hi
    exact ⟨b, hp.mem_iff.2 hb, e⟩
  refine ⟨List.Pairwise.nil, fun b hb => itemsL_sorted hs _ (hmem b hb), fun m hm => (by cases hm), fun b hb c hc e => ?_, fun x => ?_⟩
  · have hr := itemsL_rise 0 L
    rw [← hm, List.pairwise_map] at hr
    obtain ⟨i, hi⟩ := List.mem_iff_getElem?.1 (hp.mem_iff.1 hb)
    obtain ⟨j, hj⟩ := List.mem_iff_getElem?.1 (hp.mem_iff.1 hc)
    obtain ⟨l1, e1⟩ := List.getElem?_eq_some_iff.1 hi
    obtain ⟨l2, e2⟩ := List.getElem?_eq_some_iff.1 hj
    rcases Nat.lt_trichotomy i j with h1 | h1 | h1
    · have := List.pairwise_iff_getElem.1 hr i j l1 l2 h1
      rw [e1, e2] at this; omega
    · subst h1; rw [hi] at hj; exact Option.some.inj hj
    · have := List.pairwise_iff_getElem.1 hr j i l2 l1 h1
      rw [e1, e2] at this; omega
  · rw [fin_items (k := 0)]
    constructor
    · rintro (h | ⟨b, hb, h1, h2, _⟩)
      · cases h
      · exact ⟨it b, hmem b hb, h1, fun j hj hlt y hy => by obtain ⟨c, hc, rfl⟩ := hbk j hj; exact h2 c hc hlt y hy⟩
    · rintro ⟨i, hi, h1, h2⟩
      obtain ⟨b, hb, rfl⟩ := hbk i hi
      exact .inr ⟨b, hb, h1, fun c hc hlt y hy => h2 _ (hmem c hc) hlt y hy, fun m hm => by cases hm⟩
/-- Two lists in order that have the same rows are the same. -/
theorem sorted_same : ∀ {a b : List Rw}, SortedR a → SortedR b → (∀ x, x ∈ a ↔ x ∈ b) → a = b
  | [], [], _, _, _ => rfl
  | [], y :: b, _, _, h => by have := (h y).2 (List.mem_cons_self ..); cases this
  | x :: a, [], _, _, h => by have := (h x).1 (List.mem_cons_self ..); cases this
  | x :: a, y :: b, ha, hb, h => by
    have hxy : x = y := by
      rcases List.mem_cons.1 ((h x).1 (List.mem_cons_self ..)) with e | e
      · exact e
      · rcases List.mem_cons.1 ((h y).2 (List.mem_cons_self ..)) with e2 | e2
        · exact e2.symm
        · have h1 := (List.pairwise_cons.1 hb).1 x e
          have h2 := (List.pairwise_cons.1 ha).1 y e2
          rw [ahd_anti h1] at h2; cases h2
    subst hxy
    congr 1
    refine sorted_same (List.pairwise_cons.1 ha).2 (List.pairwise_cons.1 hb).2 fun z => ?_
    have hno : ∀ {c : List Rw}, SortedR (x :: c) → x ∉ c := fun {c} hc hm => by
      have := (List.pairwise_cons.1 hc).1 x hm
      rw [ahd_no_same (smpB_refl x)] at this; cases this
    constructor
    · intro hz
      rcases List.mem_cons.1 ((h z).1 (List.mem_cons_of_mem _ hz)) with e | e
      · subst e; exact absurd hz (hno ha)
      · exact e
    · intro hz
      rcases List.mem_cons.1 ((h z).2 (List.mem_cons_of_mem _ hz)) with e | e
      · subst e; exact absurd hz (hno hb)
      · exact e
/-- The rows that are made one. -/
def addR (out : List Rw) (x : Rw) : List Rw := if thr out x.key x.seq = true then out else insR out x
def mergeL (L : List (List Rw)) : List Rw := L.foldl (fun o l => l.foldl addR o) []
theorem addR_sorted {o : List Rw} (h : SortedR o) (x : Rw) : SortedR (addR o x) := by
  unfold addR
  split
  · exact h
  · exact insR_sorted h (by simpa using ‹¬ thr o x.key x.seq = true›)
theorem addR_len (o : List Rw) (x : Rw) : (addR o x).length ≤ o.length + 1 := by
  unfold addR
  split
  · exact Nat.le_succ _
  · rw [insR_len]; exact Nat.le_refl _
theorem addR_mem {o : List Rw} (h : SortedR o) (x z : Rw) : z ∈ addR o x ↔ z ∈ o ∨ (z = x ∧ ∀ y ∈ o, smpB y x = false) := by
  have ht : thr o x.key x.seq = true ↔ ∃ y ∈ o, smpB y x = true := by
    rw [thr_iff h]
    exact ⟨fun ⟨y, h1, h2⟩ => ⟨y, h1, smpB_iff.2 h2⟩, fun ⟨y, h1, h2⟩ => ⟨y, h1, smpB_iff.1 h2⟩⟩
  unfold addR
  split
  · rename_i e
    obtain ⟨y, hy, hs⟩ := ht.1 e
    exact ⟨.inl, fun h2 => h2.elim id fun h3 => by have := h3.2 y hy; rw [hs] at this; cases this⟩
  · rename_i e
    rw [(insR_perm o x).mem_iff, List.mem_cons]
    have hno : ∀ y ∈ o, smpB y x = false := fun y hy => by
      cases e2 : smpB y x with
      | false => rfl
      | true => exact absurd (ht.2 ⟨y, hy, e2⟩) e
    exact ⟨fun h2 => h2.elim (fun e2 => .inr ⟨e2, hno⟩) .inl, fun h2 => h2.elim .inr fun h3 => .inl h3.1⟩
theorem foldl_sorted : ∀ (l : List Rw) {o : List Rw}, SortedR o → SortedR (l.foldl addR o)
  | [], _, h => h
  | x :: l, _, h => foldl_sorted l (addR_sorted h x)
theorem foldl_mem : ∀ {l : List Rw}, SortedR l → ∀ {o : List Rw}, SortedR o → ∀ z, z ∈ l.foldl addR o ↔ z ∈ o ∨ (z ∈ l ∧ ∀ y ∈ o, smpB y z = false)
  | [], _, o, _, z => by simp
  | x :: l, hl, o, ho, z => by
    have hl2 := List.pairwise_cons.1 hl
    show z ∈ l.foldl addR (addR o x) ↔ _
    rw [foldl_mem hl2.2 (addR_sorted ho x) z, addR_mem ho]
    constructor
    · rintro ((h1 | h1) | ⟨h1, h2⟩)
      · exact .inl h1
      · exact .inr ⟨by rw [h1.1]; exact List.mem_cons_self .., by rw [h1.1]; exact h1.2⟩
      · exact .inr ⟨List.mem_cons_of_mem _ h1, fun y hy => h2 y ((addR_mem ho x y).2 (.inl hy))⟩
    · rintro (h1 | ⟨h1, h2⟩)
      · exact .inl (.inl h1)
      · rcases List.mem_cons.1 h1 with e | h1
        · exact .inl (.inr ⟨e, by rw [← e]; exact h2⟩)
        · refine .inr ⟨h1, fun y hy => ?_⟩
          rcases (addR_mem ho x y).1 hy with h3 | h3
          · exact h2 y h3
          · rw [h3.1]
            cases e : smpB x z with
            | false => rfl
            | true => have := hl2.1 z h1; rw [ahd_no_same e] at this; cases this
theorem mergeL_all : ∀ {L : List (List Rw)}, (∀ l ∈ L, SortedR l) → ∀ {o : List Rw}, SortedR o → SortedR (L.foldl (fun o l => l.foldl addR o) o) ∧ ∀ z, z ∈ L.foldl (fun o l => l.foldl addR o) o ↔ z ∈ o ∨ (FinL L z ∧ ∀ y ∈ o, smpB y z = false)
  | [], _, o, ho => ⟨ho, fun z => by simp [FinL]⟩
  | l :: L, hs, o, ho => by
    obtain ⟨h1, h2⟩ := mergeL_all (L := L) (fun a ha => hs a (List.mem_cons_of_mem _ ha)) (foldl_sorted l ho)
    refine ⟨h1, fun z => ?_⟩
    show z ∈ L.foldl (fun o l => l.foldl addR o) (l.foldl addR o) ↔ z ∈ o ∨ ((z ∈ l ∨ (FinL L z ∧ ∀ y ∈ l, smpB y z = false)) ∧ ∀ y ∈ o, smpB y z = false)
    have hm := foldl_mem (hs l (List.mem_cons_self ..)) ho
    rw [h2 z, hm z]
    constructor
    · rintro ((h3 | h3) | ⟨h3, h4⟩)
      · exact .inl h3
      · exact .inr ⟨.inl h3.1, h3.2⟩
      · refine .inr ⟨.inr ⟨h3, fun y hy => ?_⟩, fun y hy => h4 y ((hm y).2 (.inl hy))⟩
        by_cases e : ∀ u ∈ o, smpB u y = false
        · exact h4 y ((hm y).2 (.inr ⟨hy, e⟩))
        · cases e5 : smpB y z with
          | false => rfl
          | true =>
            refine absurd (fun u hu => ?_) e
            cases e6 : smpB u y with
            | false => rfl
            | true => have := h4 u ((hm u).2 (.inl hu)); rw [smpB_trans e6 e5] at this; cases this
    · rintro (h3 | ⟨h3 | ⟨h3, h4⟩, h5⟩)
      · exact .inl (.inl h3)
      · exact .inl (.inr ⟨h3, h5⟩)
      · refine .inr ⟨h3, fun y hy => ?_⟩
        rcases (hm y).1 hy with h6 | h6
        · exact h5 y h6
        · exact h4 y h6.1
theorem mergeL_sorted {L : List (List Rw)} (hs : ∀ l ∈ L, SortedR l) : SortedR (mergeL L) := (mergeL_all hs List.Pairwise.nil).1
theorem mergeL_mem {L : List (List Rw)} (hs : ∀ l ∈ L, SortedR l) (z : Rw) : z ∈ mergeL L ↔ FinL L z := by
  unfold mergeL
  rw [(mergeL_all hs List.Pairwise.nil).2 z]
  simp
/-- What the heap makes one is what the document says. -/
theorem MInv.eq {L : List (List Rw)} (hs : ∀ l ∈ L, SortedR l) {M : List Rw} {it : Nat → It} (h : MInv (FinL L) M [] it) : M = mergeL L :=
  sorted_same h.sorted (mergeL_sorted hs) fun x => by rw [mergeL_mem hs, h.done x]
end Go.Proofs.Ytlnklpnldmcopaa
/-
  Lists of rows in memory; the contract of headsOf. Condition: at most 900 lists.
-/
namespace Go.Proofs.Ytlnklpnldmcopaa
set_option maxRecDepth 100000
open Go.RowKit
/-- A slice of lists of rows; what it reaches lies below B. -/
structure RL (B : Nat) (p : Option Addr) (n c : Nat) (L : List (List Rw)) (w : World) : Prop where
  len : L.length = n
  cap : n ≤ c
  most : c ≤ 9223372036854775807
  addr : ∃ g o, (0 < n → p = some ⟨g, o, none⟩ ∧ g < B) ∧ ∀ (j : Nat) l, L[j]? = some l → ∃ a m d b q, w.cell? ⟨g, o + j, none⟩ = some (.slice a m d) ∧ Rs a m d b q l w ∧ (0 < m → b < B)
theorem RL.keep {B : Nat} {p : Option Addr} {n c : Nat} {L : List (List Rw)} {w w' : World} (h : RL B p n c L w) (hb : Below B w w') : RL B p n c L w' := by
  obtain ⟨g, o, h1, h2⟩ := h.addr
  refine ⟨h.len, h.cap, h.most, g, o, h1, fun j l hl => ?_⟩
  obtain ⟨a, m, d, b, q, e1, e2, e3⟩ := h2 j l hl
  have hj : 0 < n := by have := (List.getElem?_eq_some_iff.1 hl).1; have := h.len; omega
  exact ⟨a, m, d, b, q, (World.cell?_of_block (a := ⟨g, o + j, none⟩) (hb.block g (h1 hj).2)).trans e1, e2.keep (fun h0 => hb.block b (e3 h0)) hb.size, e3⟩
theorem RL.mono {B C : Nat} {p : Option Addr} {n c : Nat} {L : List (List Rw)} {w : World} (h : RL B p n c L w) (hC : B ≤ C) : RL C p n c L w := by
  obtain ⟨g, o, h1, h2⟩ := h.addr
  refine ⟨h.len, h.cap, h.most, g, o, fun h0 => ⟨(h1 h0).1, Nat.lt_of_lt_of_le (h1 h0).2 hC⟩, fun j l hl => ?_⟩
  obtain ⟨a, m, d, b, q, e1, e2, e3⟩ := h2 j l hl
  exact ⟨a, m, d, b, q, e1, e2, fun h0 => Nat.lt_of_lt_of_le (e3 h0) hC⟩
/-- One list of them. -/
theorem RL.one {B : Nat} {p : Option Addr} {n c : Nat} {L : List (List Rw)} {w : World} (h : RL B p n c L w) {j : Nat} (hj : j < n) : ∃ l g o a m d b q, L[j]? = some l ∧ p = some ⟨g, o, none⟩ ∧ w.cell? ⟨g, o + j, none⟩ = some (.slice a m d) ∧ Rs a m d b q l w ∧ (0 < m → b < B) := by
  obtain ⟨g, o, h1, h2⟩ := h.addr
  obtain ⟨l, hl⟩ : ∃ l, L[j]? = some l := ⟨_, List.getElem?_eq_getElem (by rw [h.len]; exact hj)⟩
  obtain ⟨a, m, d, b, q, e1, e2, e3⟩ := h2 j l hl
  exact ⟨l, g, o, a, m, d, b, q, hl, (h1 (by omega)).1, e1, e2, e3⟩
theorem itemsL_snoc : ∀ (k : Nat) (L : List (List Rw)) (l : List Rw), itemsL k (L ++ [l]) = itemsL k L ++ itemsL (k + (itemsL k L).length) [l]
  | k, [], l => by simp [itemsL]
  | k, [] :: L, l => by
    show itemsL k (L ++ [l]) = itemsL k L ++ itemsL (k + (itemsL k L).length) [l]
    exact itemsL_snoc k L l
  | k, (x :: r) :: L, l => by
    show ⟨k + 1, x, r⟩ :: itemsL (k + 1) (L ++ [l]) = ⟨k + 1, x, r⟩ :: (itemsL (k + 1) L ++ itemsL (k + ((itemsL (k + 1) L).length + 1)) [l])
    rw [itemsL_snoc (k + 1) L l, show k + 1 + (itemsL (k + 1) L).length = k + ((itemsL (k + 1) L).length + 1) by omega]
/-- The heap's lists, in the order in which they came. -/
structure Hd (B hp : Nat) (bs : List Nat) (it : Nat → It) (L : List (List Rw)) (w w' : World) : Prop where
  hp : Hp B hp bs.length bs it w'
  its : bs.map it = itemsL 0 L
  bel : Below B w w'
theorem Hd.len {B hp : Nat} {bs : List Nat} {it : Nat → It} {L : List (List Rw)} {w w' : World} (h : Hd B hp bs it L w w') : bs.length ≤ L.length := by
  have := congrArg List.length h.its
  rw [List.length_map] at this
  rw [this]; exact itemsL_len 0 L
theorem Hd.none {B hp : Nat} {bs : List Nat} {it : Nat → It} {L : List (List Rw)} {w w' : World} (h : Hd B hp bs it L w w') : Hd B hp bs it (L ++ [[]]) w w' := ⟨h.hp, by rw [h.its, itemsL_snoc]; simp [itemsL], h.bel⟩
theorem Hd.more {B hp : Nat} {bs : List Nat} {it : Nat → It} {L : List (List Rw)} {w w' w2 : World} (h : Hd B hp bs it L w w') {x : Rw} {r : List Rw} (hd : HpD B hp (bs.length + 1) (bs ++ [w'.heap.size]) (fun c => if c = w'.heap.size then ⟨bs.length + 1, x, r⟩ else it c) w' w2) : Hd B hp (bs ++ [w'.heap.size]) (fun c => if c = w'.heap.size then ⟨bs.length + 1, x, r⟩ else it c) (L ++ [x :: r]) w w2 := by
  refine ⟨?_, ?_, h.bel.trans hd.bel⟩
  · have := hd.hp
    rw [show (bs ++ [w'.heap.size]).length = bs.length + 1 by simp]
    exact this
  · have e0 : bs.length = (itemsL 0 L).length := by rw [← h.its, List.length_map]
    rw [List.map_append, itemsL_snoc, Nat.zero_add, ← e0, ← h.its]
    congr 1
    · refine List.map_congr_left fun b hb => ?_
      have : b ≠ w'.heap.size := fun e => by
        obtain ⟨a, n, c, bb, o, q1, _⟩ := (h.hp.item b hb).1
        have := (Array.getElem?_eq_some_iff.1 q1).1
        omega
      show (if b = w'.heap.size then _ else it b) = it b
      rw [if_neg this]
    · simp [itemsL]
set_option maxRecDepth 100000 in
set_option maxHeartbeats 8000000 in
theorem headsof_any {B : Nat} {p : Option Addr} {n c : Nat} {L : List (List Rw)} {w : World} (h : RL B p n c L w) (hn : n ≤ 900) (hB : B ≤ w.heap.size) :
    Calls Try.prog 29 #[.slice p n c] w fun e w' => e = .returned (.pointer (some ⟨w.heap.size, 0, none⟩)) ∧ ∃ k qs it, Hp B w.heap.size k qs it w' ∧ HeapP (fun a b => ltI (it a) (it b)) qs.length 0 qs ∧ (∃ bs : List Nat, qs.Perm bs ∧ bs.map it = itemsL 0 L) ∧ Below B w w' := by
  have H0 : Hid (Hd B w.heap.size [] (fun _ => ⟨0, ⟨⟨#[]⟩, 0, 0, ⟨#[]⟩⟩, []⟩) (L.take 0) w (w.alloc (.cells #[.slice none 0 0, .int .i64 0] 73))) := Lib.hid ⟨⟨⟨_, heap_alloc_new w _, World.ownsRow_nil _ _ _ _⟩, fun b hb => (by cases hb), List.nodup_nil, hB⟩, by simp [itemsL], (below_alloc w _).mono hB⟩
  have hlen := h.len
  have hcap := h.cap
  have hmost := h.most
  have hfin : Hid (∀ bs it u, Hd B w.heap.size bs it L w u → Calls Try.prog 42 #[.iface 58 (.pointer (some ⟨w.heap.size, 0, none⟩))] u fun e w' => e = .returned (.tuple #[]) ∧ ∃ k qs it, Hp B w.heap.size k qs it w' ∧ HeapP (fun a b => ltI (it a) (it b)) qs.length 0 qs ∧ (∃ bs : List Nat, qs.Perm bs ∧ bs.map it = itemsL 0 L) ∧ Below B w w') := Lib.hid (fun bs it u hu => by
    have hl := hu.len
    refine (init_any hu.hp (by omega)).mono ?_
    rintro e w' ⟨e1, qs, q1, q2, q3⟩
    exact ⟨e1, _, qs, it, q3.hp, q2, ⟨bs, q1, hu.its⟩, hu.bel.trans q3.bel⟩)
  have hfull : L.take n = L := by rw [← hlen, List.take_length]
  have hfull := Lib.hid hfull
  have h := Lib.hid h
  have hlen := Lib.hid hlen
  go_enter Try.func29, Try.ntmps29
  go_wp2_with fail
  go_loopw [9] (fun iv wr => ∃ (j : Nat) (bs : List Nat) (it : Nat → It), j ≤ n ∧ iv = .int .i64 (j : Int) ∧ Hid (Hd B w.heap.size bs it (L.take j) w wr)) (fun iv _ => n - (intOf iv).toNat)
  case atStart => exact ⟨0, [], _, Nat.zero_le _, rfl, H0⟩
  case round =>
    obtain ⟨j, bs, it, hj, rfl, hD⟩ := hrel
    by_cases hjn : j = n
    · subst hjn
      have i1 : ¬ (j : Int) < (j : Int) := by omega
      go_wp2_with (go_at_call 42; ((with_reducible refine (hfin.out bs it _ (by rw [hfull.out] at hD; exact hD.out)).mono ?_); rintro e w2 ⟨rfl, hh⟩; have hh := Lib.hid hh))
      go_returns
      exact ⟨rfl, hh.out⟩
    · have i1 : (j : Int) < (n : Int) := by omega
      have hjl : j < n := by omega
      have jw : wrap64 ((j : Int) + 1) = ((j + 1 : Nat) : Int) := by unfold wrap64; omega
      obtain ⟨l, g, o, a, m, d, b, q, hl, rfl, e1, e2, e3⟩ := (h.out.keep hD.out.bel).one hjl
      have e2 := Lib.hid e2
      have e3 := Lib.hid e3
      have hsn : L.take (j + 1) = L.take j ++ [l] := by rw [List.take_add_one, hl]; rfl
      have hsn := Lib.hid hsn
      cases l with
      | nil =>
        obtain rfl : m = 0 := e2.out.len.symm
        have D2 : Hid (Hd B w.heap.size bs it (L.take (j + 1)) w wr) := Lib.hid (by rw [hsn.out]; exact hD.out.none)
        go_wp2_with fail
        go_roundw
        case rel => exact ⟨j + 1, bs, it, hjl, by first | rfl | rw [jw], D2⟩
        case measure => simp [intOf] <;> omega
      | cons x r =>
        have hm : m = r.length + 1 := e2.out.len.symm
        have m1 : 0 < m := by omega
        have m2 : (0 : Int) < (m : Int) := by omega
        have hbl : bs.length ≤ 900 := by have := hD.out.len; rw [List.length_take] at this; omega
        have PC := Lib.hid (pushrows_any hD.out.hp (by omega) (by omega) e2.out (e3.out m1))
        clear hm
        go_wp2_with (go_at_call 41; ((with_reducible refine PC.out.mono ?_); rintro e w2 ⟨rfl, hd⟩; have D2 : Hid (Hd B w.heap.size (bs ++ [wr.heap.size]) (fun c => if c = wr.heap.size then ⟨bs.length + 1, x, r⟩ else it c) (L.take (j + 1)) w w2) := Lib.hid (by rw [hsn.out]; exact hD.out.more hd); clear hd))
        go_roundw
        case rel => exact ⟨j + 1, _, _, hjl, by first | rfl | rw [jw], D2⟩
        case measure => simp [intOf] <;> omega
end Go.Proofs.Ytlnklpnldmcopaa
/-
  Which rows Drop leaves. No condition.
-/
namespace Go.Proofs.Ytlnklpnldmcopaa
set_option maxRecDepth 100000
open Go.RowKit
/-- One of the numbers sees the row. -/
def need (ms : List Nat) (p : Option Rw) (x : Rw) : Bool := ms.any fun m => sees m p x
theorem need_mem {A B : List Nat} (h : ∀ m, m ∈ A ↔ m ∈ B) : need A = need B := by
  funext p x
  unfold need
  rw [Bool.eq_iff_iff, List.any_eq_true, List.any_eq_true]
  exact ⟨fun ⟨m, h1, h2⟩ => ⟨m, (h m).1 h1, h2⟩, fun ⟨m, h1, h2⟩ => ⟨m, (h m).2 h1, h2⟩⟩
theorem sees_other {m : Nat} {x y : Rw} (h : y.key.toList ≠ x.key.toList) : sees m (some y) x = sees m none x := by unfold sees; simp [h]
theorem need_other {ms : List Nat} {x y : Rw} (h : y.key.toList ≠ x.key.toList) : need ms (some y) x = need ms none x := by
  unfold need
  congr 1
  funext m
  exact sees_other h
theorem selL_other {ms : List Nat} {p : Option Rw} {R : List Rw} (hp : ∀ y x, p = some y → R.head? = some x → y.key.toList ≠ x.key.toList) : selL (need ms) p R = selL (need ms) none R := by
  cases R with
  | nil => rfl
  | cons x r =>
    have : need ms p x = need ms none x := by
      cases p with
      | none => rfl
      | some y => exact need_other (hp y x rfl rfl)
    rw [selL, selL, this]
/-- Of one key: some number lies between. -/
theorem need_same {ms : List Nat} {x y : Rw} (h : y.key.toList = x.key.toList) : need ms (some y) x = ms.any fun m => decide (x.seq ≤ m) && decide (m < y.seq) := by
  unfold need sees
  simp [h]
/-- Where the numbers ascend, the least one that is not too small tells. -/
theorem need_least {D : List Nat} {x y : Rw} (h : y.key.toList = x.key.toList) (hs : D.Pairwise (· ≤ ·)) {i m : Nat} (hm : D[i]? = some m) (hx : x.seq ≤ m) (hlo : ∀ (j : Nat) z, j < i → D[j]? = some z → z < x.seq) : need D (some y) x = decide (m < y.seq) := by
  rw [need_same h, Bool.eq_iff_iff, List.any_eq_true, decide_eq_true_iff]
  constructor
  · rintro ⟨z, hz, hb⟩
    rw [Bool.and_eq_true, decide_eq_true_iff, decide_eq_true_iff] at hb
    obtain ⟨j, hj⟩ := List.mem_iff_getElem?.1 hz
    rcases Nat.lt_or_ge j i with h1 | h1
    · have := hlo j z h1 hj; omega
    · obtain ⟨l1, e1⟩ := List.getElem?_eq_some_iff.1 hm
      obtain ⟨l2, e2⟩ := List.getElem?_eq_some_iff.1 hj
      rcases Nat.eq_or_lt_of_le h1 with h2 | h2
      · subst h2; omega
      · have := List.pairwise_iff_getElem.1 hs i j l1 l2 h2
        rw [e1, e2] at this; omega
  · intro hlt
    exact ⟨m, List.mem_of_getElem? hm, by simp [hx, hlt]⟩
def isPut (x : Rw) : Bool := decide (x.kind = 1)
/-- The rows up to the last put. -/
def upL : List Rw → List Rw
  | [] => []
  | x :: r => if (x :: r).any isPut = true then x :: upL r else []
theorem upL_take : ∀ {L : List Rw} {n : Nat}, n ≤ L.length → (∀ (i : Nat) x, n ≤ i → L[i]? = some x → isPut x = false) → (∀ (i : Nat) x, n = i + 1 → L[i]? = some x → isPut x = true) → upL L = L.take n
  | [], n, _, _, _ => by simp [upL]
  | x :: r, 0, _, h1, _ => by
    have : (x :: r).any isPut = false := by
      rw [Bool.eq_false_iff]
      intro hc
      obtain ⟨y, hy, hq⟩ := List.any_eq_true.1 hc
      obtain ⟨i, hi⟩ := List.mem_iff_getElem?.1 hy
      rw [h1 i y (Nat.zero_le _) hi] at hq; cases hq
    rw [upL, this]; simp
  | x :: r, n + 1, hn, h1, h2 => by
    have hl : n < (x :: r).length := hn
    have hput := h2 n _ rfl (List.getElem?_eq_getElem hl)
    have : (x :: r).any isPut = true := List.any_eq_true.2 ⟨_, List.getElem_mem hl, hput⟩
    rw [upL, if_pos this, List.take_succ_cons]
    congr 1
    refine upL_take (by simpa using hn) (fun i y hi hy => h1 (i + 1) y (by omega) (by simpa using hy)) (fun i y hi hy => ?_)
    exact h2 (i + 1) y (by omega) (by simpa using hy)
/-- A put stands among the rows of the first one's key that come first. -/
def putA : List Rw → Bool
  | [] => false
  | x :: r => isPut x || (match r with | [] => false | y :: _ => decide (y.key.toList = x.key.toList) && putA r)
/-- The rows without the last ones of a key that are no puts. -/
def botL : List Rw → List Rw
  | [] => []
  | x :: r => if putA (x :: r) = true then x :: botL r else botL r
/-- Two lists' keys part. -/
def Parts (A B : List Rw) : Prop := ∀ x y, A.getLast? = some x → B.head? = some y → x.key.toList ≠ y.key.toList
theorem parts_tail {x : Rw} {y : Rw} {r B : List Rw} (h : Parts (x :: y :: r) B) : Parts (y :: r) B := fun a b ha hb => h a b (by rw [List.getLast?_cons_cons]; exact ha) hb
theorem putA_app : ∀ {A B : List Rw}, A ≠ [] → Parts A B → putA (A ++ B) = putA A
  | [], _, h, _ => absurd rfl h
  | [x], B, _, h => by
    cases B with
    | nil => rfl
    | cons y r =>
      have := h x y rfl rfl
      show (isPut x || (decide (y.key.toList = x.key.toList) && putA (y :: r))) = (isPut x || false)
      rw [decide_eq_false (fun e => this e.symm), Bool.false_and]
  | x :: y :: r, B, _, h => by
    show (isPut x || (decide (y.key.toList = x.key.toList) && putA ((y :: r) ++ B))) = (isPut x || (decide (y.key.toList = x.key.toList) && putA (y :: r)))
    rw [putA_app (by simp) (parts_tail h)]
theorem botL_app : ∀ {A B : List Rw}, Parts A B → botL (A ++ B) = botL A ++ botL B
  | [], _, _ => rfl
  | [x], B, h => by
    have := putA_app (A := [x]) (by simp) h
    show (if putA ([x] ++ B) = true then x :: botL B else botL B) = (if putA [x] = true then x :: botL [] else botL []) ++ botL B
    rw [this]
    split <;> rfl
  | x :: y :: r, B, h => by
    have e := putA_app (A := x :: y :: r) (by simp) h
    have ih := botL_app (A := y :: r) (B := B) (parts_tail h)
    show (if putA ((x :: y :: r) ++ B) = true then x :: botL ((y :: r) ++ B) else botL ((y :: r) ++ B)) = (if putA (x :: y :: r) = true then x :: botL (y :: r) else botL (y :: r)) ++ botL B
    rw [e, ih]
    split <;> rfl
theorem putA_one {K : List UInt8} : ∀ {A : List Rw}, (∀ x ∈ A, x.key.toList = K) → putA A = A.any isPut
  | [], _ => rfl
  | [x], _ => by simp [putA]
  | x :: y :: r, h => by
    show (isPut x || (decide (y.key.toList = x.key.toList) && putA (y :: r))) = _
    rw [putA_one (A := y :: r) (fun z hz => h z (List.mem_cons_of_mem _ hz)), decide_eq_true ((h y (by simp)).trans (h x (by simp)).symm), Bool.true_and]
    rfl
theorem botL_one {K : List UInt8} : ∀ {A : List Rw}, (∀ x ∈ A, x.key.toList = K) → botL A = upL A
  | [], _ => rfl
  | x :: r, h => by
    have ih := botL_one (A := r) (fun z hz => h z (List.mem_cons_of_mem _ hz))
    rw [botL, putA_one h, upL, ih]
    split
    · rfl
    · rename_i hn
      have : r.any isPut = false := by
        rw [Bool.eq_false_iff]; intro hc
        exact hn (by simp only [List.any_cons, hc, Bool.or_true])
      cases r with
      | nil => rfl
      | cons y r => rw [upL, if_neg (by rw [this]; simp)]
/-- What Drop leaves: ms are the marks. -/
def topM : Nat := 18446744073709551615
def dropL (ms : List Nat) (bottom : Bool) (l : List Rw) : List Rw := if bottom = true then botL (selL (need (ms ++ [topM])) none l) else selL (need (ms ++ [topM])) none l
/-- One key's rows, of which Drop leaves these. -/
def dropR (ms : List Nat) (bottom : Bool) (R : List Rw) : List Rw := if bottom = true then upL (selL (need (ms ++ [topM])) none R) else selL (need (ms ++ [topM])) none R
theorem lastO_mem : ∀ {l : List Rw} {p : Option Rw} {x : Rw}, l.getLast? = some x → lastO p l = some x
  | [], _, _, h => by cases h
  | [y], _, _, h => h
  | y :: z :: r, p, x, h => by
    rw [lastO]
    exact lastO_mem (l := z :: r) (by rwa [List.getLast?_cons_cons] at h)
theorem sel_last {f : Option Rw → Rw → Bool} : ∀ {l : List Rw} {p : Option Rw} {x : Rw}, (selL f p l).getLast? = some x → x ∈ l := fun {l p x} h => (selL_sub f p l).subset (List.mem_of_getLast? h)
/-- One more key. -/
theorem dropL_run {ms : List Nat} {bottom : Bool} {l : List Rw} {k r : Nat} (hs : SortedR l) (h : IsRun l k r) (hb : Brk l k) :
    dropL ms bottom (l.take (k + r)) = dropL ms bottom (l.take k) ++ dropR ms bottom ((l.drop k).take r) := by
  obtain ⟨z, hz⟩ : ∃ z, l[k]? = some z := ⟨_, List.getElem?_eq_getElem (by have := h.le; have := h.pos; omega)⟩
  have hone := h.one hs hz
  have hhead : ∀ x, ((l.drop k).take r).head? = some x → x.key.toList = z.key.toList := fun x hx => hone.key x (List.mem_of_mem_head? (by rw [hx]; rfl))
  have e : selL (need (ms ++ [topM])) none (l.take (k + r)) = selL (need (ms ++ [topM])) none (l.take k) ++ selL (need (ms ++ [topM])) none ((l.drop k).take r) := by
    rw [seg_take, selL_app]
    congr 1
    refine selL_other fun y x hy hx => ?_
    rw [hhead x hx]
    exact hb.prev hz y hy
  unfold dropL dropR
  rw [e]
  cases bottom with
  | false => rfl
  | true =>
    have hk2 : ∀ x ∈ selL (need (ms ++ [topM])) none ((l.drop k).take r), x.key.toList = z.key.toList := fun x hx => hone.key x ((selL_sub _ _ _).subset hx)
    simp only [if_true]
    rw [botL_app, botL_one hk2]
    intro x y hx hy
    rw [hk2 y (List.mem_of_mem_head? (by rw [hy]; rfl))]
    -- every row ahead has a lesser key than the one here
    have hxm := sel_last hx
    obtain ⟨i, hi⟩ := List.mem_iff_getElem?.1 hxm
    have hik : i < k := by have := (List.getElem?_eq_some_iff.1 hi).1; rw [List.length_take] at this; omega
    rw [List.getElem?_take, if_pos hik] at hi
    intro ek
    obtain ⟨w, hw⟩ : ∃ w, l[k - 1]? = some w := ⟨_, List.getElem?_eq_getElem (by have := (List.getElem?_eq_some_iff.1 hz).1; omega)⟩
    have hne := hb (k - 1) w z (by omega) hw hz
    have hp := List.pairwise_iff_getElem.1 hs
    obtain ⟨li, ei⟩ := List.getElem?_eq_some_iff.1 hi
    obtain ⟨lw, ew⟩ := List.getElem?_eq_some_iff.1 hw
    obtain ⟨lz, ez⟩ := List.getElem?_eq_some_iff.1 hz
    have hwz : ahd w z.key z.seq = true := by have := hp (k - 1) k lw lz (by omega); rwa [ew, ez] at this
    unfold ahd at hwz
    rw [if_neg hne] at hwz
    rcases Nat.eq_or_lt_of_le (show i ≤ k - 1 by omega) with e3 | e3
    · subst e3; rw [hi] at hw; cases hw; exact hne ek
    · have hxw : ahd x w.key w.seq = true := by have := hp i (k - 1) li lw e3; rwa [ei, ew] at this
      unfold ahd at hxw
      by_cases e4 : x.key.toList = w.key.toList
      · exact hne (e4.symm.trans ek)
      · rw [if_neg e4] at hxw
        have := WideShapes.bytes_trans _ _ _ hxw hwz
        rw [ek, WideAt.bytes_irrefl] at this; cases this
theorem upL_sub : ∀ L : List Rw, (upL L).Sublist L
  | [] => List.Sublist.slnil
  | x :: r => by
    rw [upL]
    split
    · exact (upL_sub r).cons_cons x
    · exact List.nil_sublist _
theorem dropR_sub (ms : List Nat) (bottom : Bool) (R : List Rw) : (dropR ms bottom R).Sublist R := by
  unfold dropR
  split
  · refine List.Sublist.trans ?_ (selL_sub (need (ms ++ [topM])) none R)
    generalize selL (need (ms ++ [topM])) none R = L
    induction L with
    | nil => exact List.Sublist.slnil
    | cons x r ih =>
      rw [upL]
      split
      · exact ih.cons_cons x
      · exact List.nil_sublist _
  · exact selL_sub _ _ _
theorem botL_sub : ∀ l : List Rw, (botL l).Sublist l
  | [] => List.Sublist.slnil
  | x :: r => by
    rw [botL]
    split
    · exact (botL_sub r).cons_cons x
    · exact (botL_sub r).cons x
theorem dropL_sub (ms : List Nat) (bottom : Bool) (l : List Rw) : (dropL ms bottom l).Sublist l := by
  unfold dropL
  split
  · exact (botL_sub _).trans (selL_sub _ _ _)
  · exact selL_sub _ _ _
end Go.Proofs.Ytlnklpnldmcopaa
/-
  Numbers in a slice; the contracts of cmp.Less and slices.BinarySearch at them. Condition: at most 2^40 numbers.
-/
namespace Go.Proofs.Ytlnklpnldmcopaa
set_option maxRecDepth 100000
open Go.RowKit
/-- A number's cells. -/
def cellsU (x : Nat) : List Value := [.int .u64 (x : Int)]
def rowU (l : List Nat) : List Value := l.flatMap cellsU
theorem rowU_len (l : List Nat) : (rowU l).length = l.length := by unfold rowU; induction l with | nil => rfl | cons x r ih => rw [List.flatMap_cons, List.length_append, ih]; simp [cellsU]; omega
theorem rowU_app (a b : List Nat) : rowU (a ++ b) = rowU a ++ rowU b := by simp [rowU]
theorem rowU_at : ∀ (l : List Nat) (j : Nat) {x : Nat}, l[j]? = some x → (rowU l)[j]? = some (.int .u64 (x : Int))
  | [], _, _, h => by cases h
  | y :: r, 0, x, h => by
    obtain rfl : y = x := by simpa using h
    rfl
  | y :: r, j + 1, x, h => by
    have := rowU_at r j (x := x) (by simpa using h)
    show (_ :: rowU r)[j + 1]? = _
    simpa using this
theorem SlOf.at1 {a : Option Addr} {n c b o : Nat} {l : List Nat} {w : World} (h : SlOf 1 cellsU a n c b o l w) {j : Nat} (hj : j < n) : ∃ x, l[j]? = some x ∧ a = some ⟨b, o, none⟩ ∧ w.cell? ⟨b, o + j, none⟩ = some (.int .u64 (x : Int)) := by
  obtain ⟨x, hx⟩ : ∃ x, l[j]? = some x := ⟨_, List.getElem?_eq_getElem (by rw [h.len]; exact hj)⟩
  have := h.at' j x hx 0 _ rfl
  rw [Nat.mul_one, Nat.add_zero] at this
  exact ⟨x, hx, (h.addr (by omega)).1, this⟩
theorem slu_of_row {w : World} {B : Nat} {v : Value} {l : List Nat} (h : w.ownsRow B 35 1 v l.length (rowU l)) : ∃ a c b, v = .slice a l.length c ∧ SlOf 1 cellsU a l.length c b 0 l w := by
  rcases h.2 with ⟨rfl, hz⟩ | ⟨g, cap, cur, rfl, hg, hb, hn, hm, hs, ht⟩
  · have : l = [] := List.length_eq_zero_iff.1 hz
    subst this
    exact ⟨none, 0, 0, rfl, ⟨rfl, Nat.le_refl _, by omega, fun h => absurd h (by simp), fun j x h => by simp at h⟩⟩
  · refine ⟨_, _, g, rfl, ⟨rfl, hn, hm, fun _ => ⟨rfl, (Array.getElem?_eq_some_iff.1 hb).1⟩, fun j x hx m u hu => ?_⟩⟩
    have hj : j < l.length := (List.getElem?_eq_some_iff.1 hx).1
    have hm0 : m = 0 := by have := (List.getElem?_eq_some_iff.1 hu).1; simp [cellsU] at this; exact this
    subst hm0
    have := rowU_at l j hx
    simp only [cellsU, List.getElem?_cons_zero, Option.some.injEq] at hu
    subst hu
    rw [Nat.zero_add, Nat.mul_one, Nat.add_zero]
    exact (World.ownsRow.cellAt h _ (by omega)).trans this
set_option maxRecDepth 100000 in
theorem nan_cmp (x : Nat) (w : World) : Calls Try.prog 65 #[.int .u64 (x : Int)] w fun e w' => e = .returned (.bool false) ∧ w' = w := by
  have e : ((x : Int) == (x : Int)) = true := by simp
  go_enter Try.func65, Try.ntmps65
  go_wp2_with fail
  go_returns
  exact ⟨by simp, rfl⟩
set_option maxRecDepth 100000 in
theorem nan_slices (x : Nat) (w : World) : Calls Try.prog 56 #[.int .u64 (x : Int)] w fun e w' => e = .returned (.bool false) ∧ w' = w := by
  have e : ((x : Int) == (x : Int)) = true := by simp
  go_enter Try.func56, Try.ntmps56
  go_wp2_with fail
  go_returns
  exact ⟨by simp, rfl⟩
set_option maxRecDepth 100000 in
theorem less_u (x y : Nat) (w : World) : Calls Try.prog 51 #[.int .u64 (x : Int), .int .u64 (y : Int)] w fun e w' => e = .returned (.bool (decide (x < y))) ∧ w' = w := by
  have C := fun x => Lib.hid (nan_cmp x w)
  have e2 : (decide (x < y) : Bool) = decide ((x : Int) < (y : Int)) := by congr 1; simp
  rw [e2]
  go_enter Try.func51, Try.ntmps51
  go_wp2_with (go_at_call 65; ((with_reducible refine (C _).out.mono ?_); rintro e w1 ⟨rfl, rfl⟩))
  go_returns
  exact ⟨rfl, rfl⟩
set_option maxRecDepth 100000 in
set_option maxHeartbeats 4000000 in
theorem look_any {a : Option Addr} {n c b o : Nat} {D : List Nat} {w : World} (h : SlOf 1 cellsU a n c b o D w) (hn : n ≤ 1099511627776) (x : Nat) (hs : D.Pairwise (· ≤ ·)) {z : Nat} (hz : z ∈ D) (hxz : x ≤ z) :
    Calls Try.prog 38 #[.slice a n c, .int .u64 (x : Int)] w fun e w' => ∃ (i : Nat) (T : Bool) (y : Nat), e = .returned (.tuple #[.int .i64 (i : Int), .bool T]) ∧ D[i]? = some y ∧ x ≤ y ∧ (∀ (j : Nat) z, j < i → D[j]? = some z → z < x) ∧ Below w.heap.size w w' := by
  have m0 := h.most
  have q0 := h.cap
  have hlen := Lib.hid h.len
  have h := Lib.hid h
  have LU := Lib.hid (fun x y u => less_u x y u)
  have NU := Lib.hid (fun x u => nan_slices x u)
  have hs := Lib.hid hs
  go_enter Try.func38, Try.ntmps38
  go_wp2_with fail
  go_loopw [7, 8] (fun iv jv wr => ∃ i j : Nat, i ≤ j ∧ j ≤ n ∧ iv = .int .i64 (i : Int) ∧ jv = .int .i64 (j : Int) ∧ Hid (∀ (t : Nat) z, t < i → D[t]? = some z → z < x) ∧ Hid (∀ (t : Nat) z, j ≤ t → D[t]? = some z → x ≤ z) ∧ Hid (Below w.heap.size w wr)) (fun iv jv _ => (intOf jv - intOf iv).toNat)
  case atStart => exact ⟨0, n, Nat.zero_le _, Nat.le_refl _, rfl, rfl, Lib.hid (fun t z ht => absurd ht (by omega)), Lib.hid (fun t z ht hz => absurd (List.getElem?_eq_some_iff.1 hz).1 (by rw [hlen.out]; omega)), Lib.hid (Below.refl _ _)⟩
  case round =>
    obtain ⟨i, j, hij, hjn, rfl, rfl, hlo, hhi, hb⟩ := hrel
    by_cases hlt : i < j
    · have i1 : (i : Int) < (j : Int) := by omega
      go_upto_region 5 with fail
      obtain ⟨H, hH⟩ := named ((i + j) / 2)
      have eh : ((i : Int) + (j : Int)) / 2 = (H : Int) := by rw [hH.out]; omega
      rw [eh]
      have hH1 : i ≤ H := by rw [hH.out]; omega
      have hH2 : H < j := by rw [hH.out]; omega
      obtain ⟨y, hy, rfl, y0⟩ := (h.out.below hb.out (Nat.le_refl _)).at1 (show H < n by omega)
      have hi2 : (H : Int) < (n : Int) := by omega
      have LY := Lib.hid (LU.out y x)
      obtain ⟨T, hT⟩ := named (decide (y < x))
      rw [← hT.out] at LY
      have hy := Lib.hid hy
      clear eh
      have hcmp : Hid (∀ (t : Nat) z, D[t]? = some z → (t ≤ H → z ≤ y) ∧ (H ≤ t → y ≤ z)) := Lib.hid (by
        intro t z hz2
        obtain ⟨l1, e1⟩ := List.getElem?_eq_some_iff.1 hz2
        obtain ⟨l2, e2⟩ := List.getElem?_eq_some_iff.1 hy.out
        have hp := List.pairwise_iff_getElem.1 hs.out
        constructor
        · intro ht
          rcases Nat.eq_or_lt_of_le ht with e3 | e3
          · subst e3; rw [← e1, ← e2]; exact Nat.le_refl _
          · have := hp t H l1 l2 e3; rw [e1, e2] at this; exact this
        · intro ht
          rcases Nat.eq_or_lt_of_le ht with e3 | e3
          · subst e3; rw [← e1, ← e2]; exact Nat.le_refl _
          · have := hp H t l2 l1 e3; rw [e1, e2] at this; exact this)
      cases T with
      | true =>
        have hyx : y < x := by simpa using hT.out.symm
        have hlo2 : Hid (∀ (t : Nat) z, t < H + 1 → D[t]? = some z → z < x) := Lib.hid (fun t z ht hz2 => by have := (hcmp.out t z hz2).1 (by omega); omega)
        clear hyx
        go_wp2_with (go_at_call 51; ((with_reducible refine (LY.out _).mono ?_); rintro e w1 ⟨rfl, rfl⟩))
        go_roundw
        case rel => exact ⟨H + 1, j, by omega, hjn, by go_num, rfl, hlo2, hhi, hb⟩
        case measure => simp [intOf]; omega
      | false =>
        have hyx : x ≤ y := by have := hT.out.symm; simp at this; exact this
        have hhi2 : Hid (∀ (t : Nat) z, H ≤ t → D[t]? = some z → x ≤ z) := Lib.hid (fun t z ht hz2 => by have := (hcmp.out t z hz2).2 ht; omega)
        clear hyx
        go_wp2_with (go_at_call 51; ((with_reducible refine (LY.out _).mono ?_); rintro e w1 ⟨rfl, rfl⟩))
        go_roundw
        case rel => exact ⟨i, H, hH1, by omega, rfl, rfl, hlo, hhi2, hb⟩
        case measure => simp [intOf]; omega
    · have i1 : ¬ (i : Int) < (j : Int) := by omega
      have hij2 : i = j := by omega
      subst hij2
      obtain ⟨t, ht⟩ := List.mem_iff_getElem?.1 hz
      have hin : i < n := by
        have h1 := (List.getElem?_eq_some_iff.1 ht).1
        rw [hlen.out] at h1
        rcases Nat.lt_or_ge i n with h2 | h2
        · exact h2
        · have := hlo.out t z (by omega) ht; omega
      obtain ⟨y, hy, rfl, y0⟩ := (h.out.below hb.out (Nat.le_refl _)).at1 hin
      have hxy := hhi.out i y (Nat.le_refl _) hy
      have i2 : (i : Int) < (n : Int) := by omega
      have hy := Lib.hid hy
      have hxy := Lib.hid hxy
      clear ht
      by_cases e : y = x
      · have e1 : ((y : Int) == (x : Int)) = true := by rw [beq_iff_eq]; omega
        go_wp2_with fail
        go_returns
        first | exact ⟨i, .inr rfl, y, hy.out, hxy.out, hlo.out, hb.out⟩ | exact ⟨i, _, y, rfl, hy.out, hxy.out, hlo.out, hb.out⟩ | fail "no"
      · have e1 : ((y : Int) == (x : Int)) = false := by rw [beq_eq_false_iff_ne]; omega
        go_wp2_with (go_at_call 56; ((with_reducible refine (NU.out _ _).mono ?_); rintro e w1 ⟨rfl, rfl⟩))
        go_returns
        first | exact ⟨i, .inr rfl, y, hy.out, hxy.out, hlo.out, hb.out⟩ | exact ⟨i, _, y, rfl, hy.out, hxy.out, hlo.out, hb.out⟩ | fail "no"
end Go.Proofs.Ytlnklpnldmcopaa
