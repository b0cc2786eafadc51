/-
  Plain mathematics of the document's Rows: what it reads without a check, and what Build says of it. No model's run in this text. No condition.
-/
import Derived.Test.YtnmlifagchdphaaBlockMath2
import Derived.Test.YtnmlifagchdphaaBlockBuilt
import Derived.Test.YtnmlifagchdphaaBlockRow
namespace Go.Proofs.Ytnmlifagchdphaa
set_option maxRecDepth 100000
open Go.RowKit
/-- The row with which bytes begin, behind a key, as the document reads it, and what is behind it. -/
def rdX (s p : List UInt8) : Option (Rw × List UInt8) :=
  let a := Code.rd 0 s
  if a.2.2 ≠ 0 ∨ p.length < a.1 then none else
  let s1 := s.drop a.2.1
  let f := Code.rdField s1 520
  if f.2.2 ≠ 0 then none else
  let s2 := s1.drop f.2.1
  let q := Code.rd 0 s2
  if q.2.2 ≠ 0 then none else
  match s2.drop q.2.1 with
  | [] => none
  | k :: s3 =>
    let v := Code.rdField s3 2048
    if k.toNat = 1 then
      if v.2.2 ≠ 0 then none else
      some (⟨⟨(p.take a.1 ++ f.1).toArray⟩, q.1, (k.toNat : Int), ⟨v.1.toArray⟩⟩, s3.drop v.2.1)
    else
      some (⟨⟨(p.take a.1 ++ f.1).toArray⟩, q.1, (k.toNat : Int), ⟨#[]⟩⟩, s3)
theorem rdX_cut {s p t : List UInt8} {x : Rw} (h : cutX s p = some (x, t)) : rdX s p = some (x, t) := by
  unfold cutX at h
  unfold rdX
  simp only at h ⊢
  split at h
  · cases h
  rename_i h1
  rw [if_neg h1]
  split at h
  · cases h
  rename_i h2
  rw [if_neg (fun e => h2 (.inl e))]
  split at h
  · cases h
  rename_i h3
  rw [if_neg h3]
  split at h
  · cases h
  rename_i k s3 h4
  simp only [h4]
  split at h
  · rename_i h5
    rw [if_pos h5]
    split at h
    · cases h
    rename_i h6
    rw [if_neg h6]
    split at h
    · cases h
    · exact h
  · rename_i h5
    rw [if_neg h5]
    split at h
    · cases h
    · exact h
/-- What is read behind the empty key is read behind any. -/
theorem rdX_nil {s t : List UInt8} {x : Rw} (h : rdX s [] = some (x, t)) (p : List UInt8) : rdX s p = some (x, t) := by
  unfold rdX at h ⊢
  simp only at h ⊢
  by_cases h1 : (Code.rd 0 s).2.2 ≠ 0 ∨ ([] : List UInt8).length < (Code.rd 0 s).1
  · rw [if_pos h1] at h; cases h
  · rw [if_neg h1] at h
    have h0 : (Code.rd 0 s).1 = 0 := by
      have : ¬ ([] : List UInt8).length < (Code.rd 0 s).1 := fun e => h1 (.inr e)
      simp only [List.length_nil] at this
      omega
    rw [if_neg (by rw [h0]; intro e; rcases e with e | e; exact h1 (.inl e); omega)]
    rw [h0] at h ⊢
    simpa using h
theorem rdX_enc (p q : List UInt8) (x : Rw) (hx : chkR x = 0) (t : List UInt8) (hp : p.length ≤ 520) (hpq : p = [] ∨ p = q) : rdX (encX p x ++ t) q = some (x, t) := by
  have h := rdX_cut (cutX_enc p x hx t hp)
  rcases hpq with rfl | rfl
  · exact rdX_nil h q
  · exact h
/-- What IsB says of the bytes' parts, whatever the parts are. -/
theorem isB_cut {L : List UInt8} {l : List Rw} {d : Nat} (h : IsB L l d) : 8 ≤ L.length ∧ L.length ≤ 65536 ∧ u4 (L.drop (L.length - 8)) ≤ (L.length - 8) / 4 ∧ u4 (L.drop (L.length - 4)) = d ∧ L.take (L.length - 8 - 4 * u4 (L.drop (L.length - 8))) = bodB d l l.length := by
  have e := ptB_isB h
  unfold ptB at e
  split at e
  · cases e
  rename_i h1
  split at e
  · cases e
  rename_i h2
  simp only [Option.some.injEq, Prod.mk.injEq] at e
  exact ⟨by omega, by omega, by omega, e.2, e.1⟩
/-- The key of the last row. -/
def lastK (l : List Rw) : List UInt8 := if l.length = 0 then [] else (rwAt l (l.length - 1)).key.toList
/-- What stands at the head of the document's loop: the rows that are read, the bytes that are left. -/
def DeR (L rows : List UInt8) (l : List Rw) (r : List UInt8) : Prop :=
  l.length ≤ 1024 ∧ ∀ l' d, IsB L l' d → l'.take l.length = l ∧ rows = bodB d l' l'.length ∧ rows = bodB d l' l.length ++ r
theorem DeR.zero {L rows : List UInt8} (h : ∀ l' d, IsB L l' d → rows = bodB d l' l'.length) : DeR L rows [] rows := ⟨by simp, fun l' d hB => ⟨rfl, h l' d hB, by simp [bodB]⟩⟩
theorem DeR.more {L rows r : List UInt8} {l l' : List Rw} {d : Nat} (h : DeR L rows l r) (hr : r ≠ []) (hB : IsB L l' d) : l.length < l'.length ∧ ∃ y z, l'[l.length]? = some y ∧ l'.take (l.length + 1) = l ++ [y] ∧ chkR y = 0 ∧ rdX r (lastK l) = some (y, z) ∧ rows = bodB d l' (l.length + 1) ++ z := by
  obtain ⟨h1, h2⟩ := h
  obtain ⟨e, h3, h4⟩ := h2 l' d hB
  have hge : l.length ≤ l'.length := by rw [← e, List.length_take]; omega
  have hlt : l.length < l'.length := by
    rcases Nat.lt_or_ge l.length l'.length with h | h
    · exact h
    · have : l'.length = l.length := by omega
      rw [← this, h3] at h4
      have h0 := congrArg List.length h4
      rw [List.length_append] at h0
      exact absurd (List.length_eq_zero_iff.1 (by omega)) hr
  refine ⟨hlt, l'[l.length], ?_⟩
  obtain ⟨z, hz⟩ := bodB_split d l' l.length (l'.length - l.length - 1)
  rw [show l.length + 1 + (l'.length - l.length - 1) = l'.length by omega, ← h3, h4] at hz
  have hz := List.append_cancel_left hz
  have hy : l'[l.length]? = some l'[l.length] := List.getElem?_eq_getElem hlt
  have hv := (chkA_ok hB.1).2.2.2.1
  have hok : chkR l'[l.length] = 0 := hv _ (List.getElem_mem _)
  refine ⟨z, hy, by rw [List.take_add_one, e, hy]; rfl, hok, ?_, ?_⟩
  · rw [hz]
    unfold encI
    rw [rwAt_some hy]
    refine rdX_enc _ _ _ hok z (prvB_le hv hge) ?_
    unfold prvB lastK
    split
    · exact .inl rfl
    · rename_i hm
      have hn0 : l.length ≠ 0 := fun e => hm (by rw [e]; exact Nat.zero_mod d)
      right
      have := rwAt_take l' (n := l.length) (show l.length - 1 < l.length by omega)
      rw [e] at this
      rw [if_neg hn0, this]
  · rw [bodB_snoc, h4, hz, List.append_assoc]
theorem DeR.next {L rows r t : List UInt8} {l : List Rw} {x : Rw} (h : DeR L rows l r) (hr : r ≠ []) (hc : rdX r (lastK l) = some (x, t)) (hn : l.length ≠ 1024) : DeR L rows (l ++ [x]) t := by
  refine ⟨by have := h.1; simp; omega, fun l' d hB => ?_⟩
  obtain ⟨_, y, z, _, h2, _, h4, h5⟩ := h.more hr hB
  rw [hc] at h4
  simp only [Option.some.injEq, Prod.mk.injEq] at h4
  obtain ⟨rfl, rfl⟩ := h4
  exact ⟨by simpa using h2, (h.2 l' d hB).2.1, by simpa using h5⟩
theorem DeR.fail {L rows r : List UInt8} {l : List Rw} (h : DeR L rows l r) (hr : r ≠ []) (hc : rdX r (lastK l) = none ∨ l.length = 1024) (l' : List Rw) (d : Nat) : ¬ IsB L l' d := by
  intro hB
  obtain ⟨h1, y, z, _, _, _, h4, _⟩ := h.more hr hB
  rcases hc with hc | hc
  · rw [hc] at h4; cases h4
  · have := (chkA_ok hB.1).2.2.2.2
    omega
theorem DeR.done {L rows : List UInt8} {l l' : List Rw} {d : Nat} (h : DeR L rows l []) (hB : IsB L l' d) : l' = l := by
  obtain ⟨e, h3, h4⟩ := h.2 l' d hB
  have hge : l.length ≤ l'.length := by rw [← e, List.length_take]; omega
  have := bodB_mono d l' l.length (l'.length - l.length)
  rw [show l.length + (l'.length - l.length) = l'.length by omega, ← h3, h4, List.append_nil] at this
  have hl : l'.length = l.length := by omega
  rw [← e, ← hl, List.take_length]
theorem buildB_of_isB {L : List UInt8} {l : List Rw} {d : Nat} (h : IsB L l d) : buildB l (d : Int) = (L, 0) := by
  obtain ⟨h1, h2, h3⟩ := h
  unfold buildB
  rw [if_neg (by simpa using h1), Int.toNat_natCast, ← h2, if_neg (by omega)]
/-- What Build says behind the loop. -/
theorem DeR.good {L rows : List UInt8} {l : List Rw} {d : Nat} (h1 : (buildB l (d : Int)).2 = 0) (h2 : (buildB l (d : Int)).1 = L) : IsB L l d := by
  obtain ⟨D, hD, hB⟩ := buildB_isB' h1
  rw [h2] at hB
  have : d = D := by omega
  rw [this]
  exact hB
theorem DeR.bad {L rows : List UInt8} {l : List Rw} {d : Nat} (h : DeR L rows l []) (hd : u4 (L.drop (L.length - 4)) = d) (hn : (buildB l (d : Int)).2 ≠ 0 ∨ (buildB l (d : Int)).1 ≠ L) (l' : List Rw) (d' : Nat) : ¬ IsB L l' d' := by
  intro hB
  obtain rfl := h.done hB
  have e := (isB_cut hB).2.2.2.1
  rw [hd] at e
  rw [e, buildB_of_isB hB] at hn
  rcases hn with hn | hn
  · exact hn rfl
  · exact hn rfl
theorem lastK_snoc (l : List Rw) (x : Rw) : lastK (l ++ [x]) = x.key.toList := by
  unfold lastK
  rw [if_neg (by simp), rwAt_some (x := x) (by simp)]
/-- A row that is read leaves fewer bytes, and its key is at most 520 bytes longer than the one ahead. -/
theorem rdX_fit {s p t : List UInt8} {x : Rw} (h : rdX s p = some (x, t)) : t.length < s.length ∧ x.key.toList.length ≤ p.length + 520 := by
  unfold rdX at h
  simp only at h
  split at h
  · cases h
  split at h
  · cases h
  rename_i h2
  split at h
  · cases h
  split at h
  · cases h
  rename_i k s3 h4
  have hl := congrArg List.length h4
  simp only [List.length_drop, List.length_cons] at hl
  have hm := rdField_most (s.drop (Code.rd 0 s).2.1) 520 (by omega)
  split at h
  · split at h
    · cases h
    · simp only [Option.some.injEq, Prod.mk.injEq] at h
      obtain ⟨rfl, rfl⟩ := h
      refine ⟨by rw [List.length_drop]; omega, ?_⟩
      rw [toL, List.length_append, List.length_take]
      omega
  · simp only [Option.some.injEq, Prod.mk.injEq] at h
    obtain ⟨rfl, rfl⟩ := h
    refine ⟨by omega, ?_⟩
    rw [toL, List.length_append, List.length_take]
    omega
end Go.Proofs.Ytnmlifagchdphaa
