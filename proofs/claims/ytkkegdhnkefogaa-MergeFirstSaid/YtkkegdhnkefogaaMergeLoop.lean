/-
  What stands in a round of Merge's loop. No condition.
-/
import Derived.Test.YtkkegdhnkefogaaMergeHeadsOf
import Derived.Test.YtkkegdhnkefogaaMergeVisible
import Derived.Test.YtkkegdhnkefogaaBlockOrder
import Derived.Test.YtkkegdhnkefogaaStays
namespace Go.Proofs.Ytkkegdhnkefogaa
set_option maxRecDepth 100000
open Go.RowKit
def totR (ps : List Nat) (it : Nat → It) : Nat := (ps.map fun b => (rowsI (it b)).length).sum
theorem totR_perm {ps qs : List Nat} {it : Nat → It} (h : ps.Perm qs) : totR ps it = totR qs it := (h.map _).sum_nat
theorem totR_cons (b : Nat) (ps : List Nat) (it : Nat → It) : totR (b :: ps) it = (rowsI (it b)).length + totR ps it := by simp [totR]
theorem totR_congr {ps : List Nat} {it it2 : Nat → It} (h : ∀ b ∈ ps, it2 b = it b) : totR ps it2 = totR ps it := by
  unfold totR
  congr 1
  exact List.map_congr_left fun b hb => by rw [h b hb]
def SmallR (x : Rw) : Prop := x.key.size ≤ 281474976710656 ∧ x.val.size ≤ 281474976710656
theorem itemsL_mem : ∀ {k : Nat} {L : List (List Rw)} {i : It}, i ∈ itemsL k L → rowsI i ∈ L
  | k, [], i, h => by simp [itemsL] at h
  | k, [] :: L, i, h => by rw [itemsL] at h; exact List.mem_cons_of_mem _ (itemsL_mem h)
  | k, (x :: r) :: L, i, h => by
    rw [itemsL] at h
    rcases List.mem_cons.1 h with rfl | h
    · exact List.mem_cons_self ..
    · exact List.mem_cons_of_mem _ (itemsL_mem h)
theorem itemsL_tot : ∀ (k : Nat) (L : List (List Rw)), ((itemsL k L).map fun i => (rowsI i).length).sum = (L.map List.length).sum
  | k, [] => rfl
  | k, [] :: L => by rw [itemsL, itemsL_tot k L]; simp
  | k, (x :: r) :: L => by rw [itemsL, List.map_cons, List.sum_cons, itemsL_tot (k + 1) L, List.map_cons, List.sum_cons]; rfl
/-- A row of its own stands where only the heap and its lists are written. -/
theorem own_else {w w' : World} {B n size : Nat} {e : TypeId} {v : Value} {xs : List Value} (h : w.ownsRow B e size v n xs) (he : ElseM w w') (h1 : e ≠ 69) (h2 : e ≠ 72) (h3 : e ≠ 75) : w'.ownsRow B e size v n xs := by
  refine ⟨h.1, ?_⟩
  rcases h.2 with h4 | ⟨g, cap, cur, q1, q2, q3, q4⟩
  · exact .inl h4
  · exact .inr ⟨g, cap, cur, q1, q2, he.2 _ _ _ _ q3 h1 h2 h3, q4⟩
/-- The rows that are made one so far, and the heap. -/
structure MI (P : Rw → Prop) (B hp : Nat) (v : Value) (M : List Rw) (k : Nat) (qs : List Nat) (it : Nat → It) (w wr : World) : Prop where
  row : wr.ownsRow B 42 4 v M.length (rowR M)
  hp : Hp B hp k qs it wr
  heap : HeapP (fun a b => ltI (it a) (it b)) qs.length 0 qs
  inv : MInv P M qs it
  bel : Below B w wr
  rest : totR qs it + M.length ≤ 1000000
  few : qs.length ≤ 900
  small : ∀ b ∈ qs, ∀ x ∈ rowsI (it b), SmallR x
/-- Behind take. -/
structure MT (P : Rw → Prop) (B hp : Nat) (v : Value) (M : List Rw) (qs0 : List Nat) (it0 : Nat → It) (b : Nat) (k : Nat) (qs : List Nat) (it : Nat → It) (w wr : World) : Prop where
  row : wr.ownsRow B 42 4 v M.length (rowR M)
  hp : Hp B hp k qs it wr
  heap : HeapP (fun a b => ltI (it a) (it b)) qs.length 0 qs
  bel : Below B w wr
  rest : totR qs it + M.length + 1 ≤ 1000000
  few : qs.length ≤ 900
  small : ∀ b ∈ qs, ∀ x ∈ rowsI (it b), SmallR x
  old : MInv P M qs0 it0
  inn : b ∈ qs0
  min : ∀ c ∈ qs0, ltI (it0 c) (it0 b) = false
  took : Took qs0 it0 b qs it
  one : SmallR (it0 b).hd
  cnt : totR qs it + 1 = totR qs0 it0
theorem MI.take {P : Rw → Prop} {B hp : Nat} {v : Value} {M : List Rw} {k : Nat} {qs : List Nat} {it : Nat → It} {w wr w' : World} (h : MI P B hp v M k qs it w wr) {b : Nat} (hb : qs[0]? = some b) (ht : TakeD B hp k qs it b wr w') : ∃ qs' it', MT P B hp v M qs it b k qs' it' w w' := by
  obtain ⟨hE, hB, hc⟩ := ht
  have hbm : b ∈ qs := List.mem_of_getElem? hb
  have hr := own_else h.row hE (by decide) (by decide) (by decide)
  have hmin : ∀ c ∈ qs, ltI (it c) (it b) = false := fun c hcm => by
    obtain ⟨i, hi⟩ := List.mem_iff_getElem?.1 hcm
    have hlt := (List.getElem?_eq_some_iff.1 hi).1
    have := HeapP.min (ordI it) h.heap i hlt
    rw [List.getD_eq_getElem?_getD, List.getD_eq_getElem?_getD, hi, hb] at this
    exact this
  have hone := h.small b hbm _ (List.mem_cons_self ..)
  have hrest := h.rest
  have hnd := h.hp.nodup
  rcases hc with ⟨htl, qs', p1, p2, p3⟩ | ⟨y, tl, htl, qs', p1, p2, p3⟩
  · have hnb : b ∉ qs' := (List.nodup_cons.1 (p1.nodup_iff.2 hnd)).1
    have htot := totR_perm (it := it) p1
    rw [totR_cons, show (rowsI (it b)).length = 1 by rw [rowsI, htl]; rfl] at htot
    have hmem : ∀ c, c ∈ qs' → c ∈ qs := fun c hcm => p1.mem_iff.1 (List.mem_cons_of_mem _ hcm)
    refine ⟨qs', it, hr, p3, p2, h.bel.trans hB, by omega, ?_, fun c hcm => h.small c (hmem c hcm), h.inv, hbm, hmin, ⟨fun c => ⟨fun hcm => ⟨hmem c hcm, fun e => absurd (e ▸ hcm) hnb⟩, fun ⟨h1, h2⟩ => ?_⟩, fun c _ _ => rfl, fun hcm => absurd hcm hnb⟩, hone, by omega⟩
    · have := p1.length_eq
      have := h.few
      simp at *; omega
    · rcases List.mem_cons.1 (p1.mem_iff.2 h1) with e | e
      · exact absurd htl (h2 e)
      · exact e
  · have e0 : ∀ c, c ≠ b → (if c = b then (⟨(it b).num, y, tl⟩ : It) else it c) = it c := fun c hne => if_neg hne
    have hmem : ∀ c, c ∈ qs' ↔ c ∈ qs := fun c => p1.mem_iff
    have htot : totR qs' (fun c => if c = b then (⟨(it b).num, y, tl⟩ : It) else it c) + 1 = totR qs it := by
      obtain ⟨rs, hrs⟩ : ∃ rs, qs = b :: rs := by
        cases qs with
        | nil => cases hbm
        | cons a r => simp at hb; subst hb; exact ⟨r, rfl⟩
      rw [totR_perm p1, hrs, totR_cons, totR_cons]
      have hn : b ∉ rs := by rw [hrs] at hnd; exact (List.nodup_cons.1 hnd).1
      rw [totR_congr (ps := rs) (it := it) (fun c hc => e0 c (fun e => hn (e ▸ hc)))]
      simp only [if_pos, rowsI, htl, List.length_cons]
      omega
    refine ⟨qs', _, hr, p3, p2, h.bel.trans hB, by omega, by rw [p1.length_eq]; exact h.few, fun c hcm x hx => ?_, h.inv, hbm, hmin, ⟨fun c => ⟨fun hcm => ⟨(hmem c).1 hcm, fun _ e => by rw [htl] at e; cases e⟩, fun h1 => (hmem c).2 h1.1⟩, fun c _ hne => e0 c hne, fun _ => ?_⟩, hone, htot⟩
    · by_cases e : c = b
      · subst e
        simp only [if_pos] at hx
        refine h.small c hbm x ?_
        show x ∈ (it c).hd :: (it c).tl
        rw [htl]; exact List.mem_cons_of_mem _ hx
      · simp only [if_neg e] at hx
        exact h.small c ((hmem c).1 hcm) x hx
    · show (if b = b then (⟨(it b).num, y, tl⟩ : It) else it b).num = (it b).num ∧ rowsI (if b = b then (⟨(it b).num, y, tl⟩ : It) else it b) = (it b).tl
      rw [if_pos rfl]
      exact ⟨rfl, htl.symm⟩
theorem MT.below {P : Rw → Prop} {B hp : Nat} {v : Value} {M : List Rw} {qs0 : List Nat} {it0 : Nat → It} {b k : Nat} {qs : List Nat} {it : Nat → It} {w wr w' : World} (h : MT P B hp v M qs0 it0 b k qs it w wr) (hb : Below wr.heap.size wr w') : MT P B hp v M qs0 it0 b k qs it w w' :=
  ⟨own_below h.row hb, h.hp.below hb, h.heap, h.bel.trans (hb.mono h.hp.big), h.rest, h.few, h.small, h.old, h.inn, h.min, h.took, h.one, h.cnt⟩
theorem MT.pass {P : Rw → Prop} {B hp : Nat} {v : Value} {M : List Rw} {qs0 : List Nat} {it0 : Nat → It} {b k : Nat} {qs : List Nat} {it : Nat → It} {w wr : World} (h : MT P B hp v M qs0 it0 b k qs it w wr) {m : Rw} (hm : m ∈ M) (hs : smpB m (it0 b).hd = true) : MI P B hp v M k qs it w wr :=
  ⟨h.row, h.hp, h.heap, h.old.pass h.took hm hs, h.bel, by have := h.rest; omega, h.few, h.small⟩
theorem MT.push {P : Rw → Prop} {B hp : Nat} {v v' : Value} {M : List Rw} {qs0 : List Nat} {it0 : Nat → It} {b k : Nat} {qs : List Nat} {it : Nat → It} {w wr w' : World} {tmp : Obj} (h : MT P B hp v M qs0 it0 b k qs it w wr) (hs : ∀ m, M.getLast? = some m → smpB m (it0 b).hd = false) (hr : w'.ownsRow B 42 4 v' (M ++ [(it0 b).hd]).length (rowR (M ++ [(it0 b).hd]))) (hg : (wr.alloc tmp).grownBy w' v.ownBlock) : MI P B hp v' (M ++ [(it0 b).hd]) k qs it w w' := by
  have hv : ∀ r, v.ownBlock = some r → B ≤ r ∧ ∃ cs, (wr.alloc tmp).heap[r]? = some (.cells cs 42 (0, 0)) := own_block (h.row.alloc tmp)
  have hbe : Below B (wr.alloc tmp) w' := ⟨hg.os, hg.tape, hg.output, hg.size, fun c hc => hg.block c (by rw [World.size_alloc]; have := h.hp.big; omega) (fun e => by have := (hv _ e.symm).1; omega)⟩
  have hbe2 : Below B wr w' := ((below_alloc wr tmp).mono h.hp.big).trans hbe
  have hk : ∀ (c : Nat) (cs : Array Value) (t : TypeId) (m : Nat × Nat), wr.heap[c]? = some (.cells cs t m) → t ≠ 42 → w'.heap[c]? = some (.cells cs t m) := fun c cs t m hc ht => by
    have hlt := (Array.getElem?_eq_some_iff.1 hc).1
    have h1 : (wr.alloc tmp).heap[c]? = some (.cells cs t m) := ((below_alloc wr tmp).block c hlt).trans hc
    refine (hg.block c (by rw [World.size_alloc]; omega) (fun e => ?_)).trans h1
    obtain ⟨_, cs', hc'⟩ := hv _ e.symm
    rw [h1] at hc'; cases hc'; exact ht rfl
  refine ⟨hr, h.hp.keepR hbe2 hk, h.heap, h.old.push h.took h.inn h.min hs, h.bel.trans hbe2, ?_, h.few, h.small⟩
  have := h.rest
  simp; omega
theorem MI.start {L : List (List Rw)} (hs : ∀ l ∈ L, SortedR l) (hsm : ∀ l ∈ L, ∀ x ∈ l, SmallR x) (ht : (L.map List.length).sum ≤ 1000000) (hl : L.length ≤ 900) {B hp k : Nat} {qs : List Nat} {it : Nat → It} {w wr : World} (h1 : Hp B hp k qs it wr) (h2 : HeapP (fun a b => ltI (it a) (it b)) qs.length 0 qs) (h3 : ∃ bs : List Nat, qs.Perm bs ∧ bs.map it = itemsL 0 L) (h4 : Below B w wr) : MI (FinL L) B hp (.slice none 0 0) [] k qs it w wr ∧ totR qs it ≤ 1000000 := by
  obtain ⟨bs, p1, p2⟩ := h3
  have htot : totR qs it = (L.map List.length).sum := by
    rw [totR_perm p1, ← itemsL_tot 0 L, ← p2]
    simp [totR, Function.comp_def]
  have hlen : qs.length ≤ L.length := by
    have := congrArg List.length p2
    rw [List.length_map] at this
    rw [p1.length_eq, this]; exact itemsL_len 0 L
  refine ⟨⟨World.ownsRow_nil _ _ _ _, h1, h2, MInv.start hs p2 p1, h4, by simp; omega, by omega, fun b hb x hx => ?_⟩, by omega⟩
  have : it b ∈ itemsL 0 L := by rw [← p2]; exact List.mem_map_of_mem (p1.mem_iff.1 hb)
  exact hsm _ (itemsL_mem this) x hx
theorem least_is {p : Nat → Prop} : ∀ {n : Nat}, p n → ∃ m, p m ∧ ∀ k, p k → m ≤ k := fun {n} h => by
  induction n using Nat.strongRecOn with
  | ind n ih =>
    by_cases e : ∃ k, k < n ∧ p k
    · obtain ⟨k, h1, h2⟩ := e
      exact ih k h1 h2
    · exact ⟨n, h, fun k hk => Nat.le_of_not_lt fun hl => e ⟨k, hl, hk⟩⟩
/-- The least number of which something holds. -/
noncomputable def leastM (p : Nat → Prop) : Nat := open Classical in if h : ∃ m, p m ∧ ∀ k, p k → m ≤ k then Classical.choose h else 0
theorem leastM_is {p : Nat → Prop} (h : ∃ m, p m) : p (leastM p) := by
  obtain ⟨n, h⟩ := h
  have e := least_is h
  unfold leastM
  rw [dif_pos e]
  exact (Classical.choose_spec e).1
theorem leastM_le {p : Nat → Prop} {m : Nat} (h : p m) : leastM p ≤ m := by
  have e := least_is h
  unfold leastM
  rw [dif_pos e]
  exact (Classical.choose_spec e).2 m h
end Go.Proofs.Ytkkegdhnkefogaa
