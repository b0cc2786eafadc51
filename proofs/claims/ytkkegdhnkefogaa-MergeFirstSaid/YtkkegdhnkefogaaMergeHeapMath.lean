/-
  A heap, as a list: what sifting up and down keeps. Condition: an order in which any two can be told apart or are level.
-/
import Derived.Test.YtkkegdhnkefogaaKit
namespace Go.Proofs.Ytkkegdhnkefogaa
set_option maxRecDepth 100000
open Go.RowKit
/-- An order, as Less says it. -/
structure OrdB (lt : Nat → Nat → Bool) : Prop where
  asym : ∀ a b, lt a b = true → lt b a = false
  ntr : ∀ a b c, lt a b = false → lt b c = false → lt a c = false
/-- Two change places. -/
def swp (ps : List Nat) (i j : Nat) : List Nat := (ps.set i (ps.getD j 0)).set j (ps.getD i 0)
theorem swp_len (ps : List Nat) (i j : Nat) : (swp ps i j).length = ps.length := by simp [swp]
theorem swp_perm {ps : List Nat} {i j : Nat} (hi : i < ps.length) (hj : j < ps.length) : (swp ps i j).Perm ps := by
  have := List.set_set_perm (as := ps) hi hj
  unfold swp
  rw [List.getD_eq_getElem?_getD, List.getD_eq_getElem?_getD, List.getElem?_eq_getElem hi, List.getElem?_eq_getElem hj]
  exact this
theorem swp_at {ps : List Nat} {i j : Nat} (hi : i < ps.length) (hj : j < ps.length) (c : Nat) : (swp ps i j).getD c 0 = if c = j then ps.getD i 0 else if c = i then ps.getD j 0 else ps.getD c 0 := by
  unfold swp
  simp only [List.getD_eq_getElem?_getD]
  by_cases h1 : c = j
  · subst h1; rw [if_pos rfl, List.getElem?_set_self (by simpa using hj)]; rfl
  · rw [if_neg h1, List.getElem?_set_ne (fun e => h1 e.symm)]
    by_cases h2 : c = i
    · subst h2; rw [if_pos rfl, List.getElem?_set_self hi]; rfl
    · rw [if_neg h2, List.getElem?_set_ne (fun e => h2 e.symm)]
def par (c : Nat) : Nat := (c - 1) / 2
/-- Nobody from k on that has a place below n stands ahead of its parent. -/
def HeapP (lt : Nat → Nat → Bool) (n k : Nat) (ps : List Nat) : Prop := ∀ c, 0 < c → c < n → k ≤ par c → lt (ps.getD c 0) (ps.getD (par c) 0) = false
structure UpI (lt : Nat → Nat → Bool) (n j : Nat) (ps : List Nat) : Prop where
  all : ∀ c, 0 < c → c < n → c ≠ j → lt (ps.getD c 0) (ps.getD (par c) 0) = false
  kids : ∀ c, 0 < c → c < n → par c = j → 0 < j → lt (ps.getD c 0) (ps.getD (par j) 0) = false
theorem UpI.done {lt : Nat → Nat → Bool} {n j : Nat} {ps : List Nat} (h : UpI lt n j ps) (hj : j = 0 ∨ lt (ps.getD j 0) (ps.getD (par j) 0) = false) : HeapP lt n 0 ps := by
  intro c h0 hc _
  by_cases e : c = j
  · subst e
    rcases hj with e | e
    · omega
    · exact e
  · exact h.all c h0 hc e
theorem UpI.step {lt : Nat → Nat → Bool} (ho : OrdB lt) {n j : Nat} {ps : List Nat} (h : UpI lt n j ps) (hn : n = ps.length) (hj : j < n) (h0 : 0 < j) (hlt : lt (ps.getD j 0) (ps.getD (par j) 0) = true) : UpI lt n (par j) (swp ps (par j) j) := by
  have hpj : par j < j := by unfold par; omega
  have hi : par j < ps.length := by omega
  have hjl : j < ps.length := by omega
  have ha := ho.asym _ _ hlt
  refine ⟨fun c hc0 hcn hne => ?_, fun c hc0 hcn hpc hi0 => ?_⟩
  · rw [swp_at hi hjl, swp_at hi hjl]
    by_cases e1 : c = j
    · subst e1
      rw [if_pos rfl, if_neg (by omega), if_pos rfl]
      exact ha
    · rw [if_neg e1, if_neg hne]
      by_cases e2 : par c = j
      · rw [if_pos e2]
        exact h.kids c hc0 hcn e2 h0
      · rw [if_neg e2]
        by_cases e3 : par c = par j
        · rw [if_pos e3]
          have := h.all c hc0 hcn e1
          rw [e3] at this
          exact ho.ntr _ _ _ this ha
        · rw [if_neg e3]
          exact h.all c hc0 hcn e1
  · have hpp : par (par j) < par j := by unfold par at *; omega
    rw [swp_at hi hjl, swp_at hi hjl]
    rw [if_neg (show par (par j) ≠ j by omega), if_neg (show par (par j) ≠ par j by omega)]
    have hpar := h.all (par j) hi0 (by omega) (by omega)
    by_cases e1 : c = j
    · rw [if_pos e1]; exact hpar
    · rw [if_neg e1]
      have hcp : c ≠ par j := by intro e; subst e; omega
      rw [if_neg hcp]
      have := h.all c hc0 hcn e1
      rw [hpc] at this
      exact ho.ntr _ _ _ this hpar
structure DownI (lt : Nat → Nat → Bool) (n k i : Nat) (ps : List Nat) : Prop where
  all : ∀ c, 0 < c → c < n → k ≤ par c → par c ≠ i → lt (ps.getD c 0) (ps.getD (par c) 0) = false
  kids : ∀ c, 0 < c → c < n → par c = i → 0 < i → k ≤ par i → lt (ps.getD c 0) (ps.getD (par i) 0) = false
theorem DownI.start {lt : Nat → Nat → Bool} {n k : Nat} {ps : List Nat} (h : HeapP lt n (k + 1) ps) : DownI lt n k k ps :=
  ⟨fun c h0 hc hk hne => h c h0 hc (by omega), fun c h0 hc hp hk0 hle => by unfold par at hle; omega⟩
theorem DownI.done {lt : Nat → Nat → Bool} {n k i : Nat} {ps : List Nat} (h : DownI lt n k i ps) (hk : ∀ c, 0 < c → c < n → par c = i → lt (ps.getD c 0) (ps.getD i 0) = false) : HeapP lt n k ps := by
  intro c h0 hc hkc
  by_cases e : par c = i
  · rw [e]; exact hk c h0 hc e
  · exact h.all c h0 hc hkc e
theorem DownI.step {lt : Nat → Nat → Bool} (ho : OrdB lt) {n k i j : Nat} {ps : List Nat} (h : DownI lt n k i ps) (hn : n ≤ ps.length) (hj : j < n) (h0 : 0 < j) (hp : par j = i) (hki : k ≤ i) (hlt : lt (ps.getD j 0) (ps.getD i 0) = true) (hmin : ∀ c, 0 < c → c < n → par c = i → lt (ps.getD c 0) (ps.getD j 0) = false) : DownI lt n k j (swp ps i j) := by
  have hij : i < j := by unfold par at hp; omega
  have hi : i < ps.length := by omega
  have hjl : j < ps.length := by omega
  have ha := ho.asym _ _ hlt
  refine ⟨fun c hc0 hcn hk hne => ?_, fun c hc0 hcn hpc _ _ => ?_⟩
  · rw [swp_at hi hjl, swp_at hi hjl, if_neg hne]
    have hpc : par c < c := by unfold par; omega
    by_cases e1 : c = j
    · subst e1
      rw [if_pos rfl, if_pos hp]; exact ha
    · rw [if_neg e1]
      by_cases e2 : par c = i
      · rw [if_pos e2, if_neg (by omega)]
        exact hmin c hc0 hcn e2
      · rw [if_neg e2]
        by_cases e3 : c = i
        · rw [if_pos e3]
          subst e3
          exact h.kids j h0 hj hp hc0 hk
        · rw [if_neg e3]
          exact h.all c hc0 hcn hk e2
  · rw [swp_at hi hjl, swp_at hi hjl]
    have hpc2 : par c < c := by unfold par; omega
    rw [hp, if_neg (show i ≠ j by omega), if_pos rfl, if_neg (show c ≠ j by omega), if_neg (show c ≠ i by omega)]
    have := h.all c hc0 hcn (by omega) (by omega)
    rwa [hpc] at this
/-- The first one is the least. -/
theorem HeapP.min {lt : Nat → Nat → Bool} (ho : OrdB lt) {n : Nat} {ps : List Nat} (h : HeapP lt n 0 ps) : ∀ c, c < n → lt (ps.getD c 0) (ps.getD 0 0) = false := by
  intro c
  induction c using Nat.strongRecOn with
  | ind c ih =>
    intro hc
    rcases Nat.eq_zero_or_pos c with e | e
    · subst e
      cases hl : lt (ps.getD 0 0) (ps.getD 0 0) with
      | false => rfl
      | true => have := ho.asym _ _ hl; rw [hl] at this; cases this
    · have hp : par c < c := by unfold par; omega
      exact ho.ntr _ _ _ (h c e hc (Nat.zero_le _)) (ih (par c) hp (by omega))
end Go.Proofs.Ytkkegdhnkefogaa
