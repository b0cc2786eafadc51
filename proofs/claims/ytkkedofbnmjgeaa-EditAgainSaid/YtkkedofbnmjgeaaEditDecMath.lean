/-
  The two ways of reading, the program's reader and the document's places, come to the same. No condition.
-/
import Derived.Test.YtkkedofbnmjgeaaEditReader
import Derived.Test.YtkkedofbnmjgeaaEditRefRead
namespace Go.Proofs.Ytkkedofbnmjgeaa
set_option maxRecDepth 100000
open Go.RowKit
/-- The program's reader stands before t where the document's stands at o in l. -/
def RdO (l : List UInt8) (t : ByteArray) (f : Bool) : Option Nat → Prop
  | none => t.size = 0 ∧ f = true
  | some a => a ≤ l.length ∧ t.data.toList = l.drop a ∧ f = false
abbrev mostN : Nat := 18446744073709551615
theorem empty_list {t : ByteArray} (h : t.size = 0) : t.data.toList = [] := List.eq_nil_of_length_eq_zero (by rw [Array.length_toList]; exact h)
theorem end_size (t : ByteArray) : (t.extract t.size t.size).size = 0 := by rw [ByteArray.size_extract]; omega
theorem rdf_nil (x : Int) : (Code.rdField [] x).2.2 ≠ 0 := by
  have h := Code.rd_nil 0
  unfold Code.rdField
  simp [h]
theorem rnum_o {l : List UInt8} {t : ByteArray} {f : Bool} {o : Option Nat} (h : RdO l t f o) : (rnum t f).1 = (dnum l o mostN).1 ∧ RdO l (rnum t f).2.1 (rnum t f).2.2 (dnum l o mostN).2 := by
  cases o with
  | none =>
    obtain ⟨h1, rfl⟩ := h
    have e := empty_list h1
    unfold rnum
    rw [e, Code.rd_nil]
    exact ⟨rfl, end_size t, rfl⟩
  | some a =>
    obtain ⟨h1, h2, rfl⟩ := h
    have hk := Code.rd_size (l.drop a)
    have hf := Code.rd_fits (l.drop a)
    rw [List.length_drop] at hk
    unfold rnum dnum
    simp only
    rw [h2]
    by_cases he : (Code.rd 0 (l.drop a)).2.2 = 0
    · rw [if_pos he, if_pos ⟨he, by unfold mostN; omega⟩]
      refine ⟨rfl, by omega, ?_, rfl⟩
      rw [ext_drop, h2, List.drop_drop]
    · rw [if_neg he, if_neg (fun h => he h.1)]
      exact ⟨rfl, end_size t, rfl⟩
theorem rup_o {l : List UInt8} {t : ByteArray} {f : Bool} {o : Option Nat} (most : Nat) (h : RdO l t f o) : (rup t f most).1 = (dnum l o most).1 ∧ RdO l (rup t f most).2.1 (rup t f most).2.2 (dnum l o most).2 := by
  obtain ⟨h1, h2⟩ := rnum_o h
  unfold rup
  cases o with
  | none =>
    have e1 : (rnum t f).1 = 0 := h1
    rw [if_pos (by omega)]
    exact ⟨e1, h2⟩
  | some a =>
    have hf := Code.rd_fits (l.drop a)
    unfold dnum at h1 h2 ⊢
    simp only at h1 h2 ⊢
    by_cases he : (Code.rd 0 (l.drop a)).2.2 = 0
    · rw [if_pos ⟨he, by unfold mostN; omega⟩] at h1 h2
      simp only at h1 h2
      by_cases hm : (Code.rd 0 (l.drop a)).1 ≤ most
      · have k : (rnum t f).1 ≤ most := by rw [h1]; exact hm
        rw [if_pos k, if_pos ⟨he, hm⟩]
        exact ⟨h1, h2⟩
      · have k : ¬ (rnum t f).1 ≤ most := by rw [h1]; exact hm
        rw [if_neg k, if_neg (fun h => hm h.2)]
        exact ⟨rfl, end_size _, rfl⟩
    · rw [if_neg (fun h => he h.1)] at h1 h2
      simp only at h1 h2
      have k : (rnum t f).1 ≤ most := by rw [h1]; exact Nat.zero_le _
      rw [if_pos k, if_neg (fun h => he h.1)]
      exact ⟨h1, h2⟩
theorem rkey_o {l : List UInt8} {t : ByteArray} {f : Bool} {o : Option Nat} (h : RdO l t f o) : (rkey t f).1 = (dtxt l o).1 ∧ RdO l (rkey t f).2.1 (rkey t f).2.2 (dtxt l o).2 := by
  cases o with
  | none =>
    obtain ⟨h1, rfl⟩ := h
    have e := empty_list h1
    unfold rkey
    rw [e, if_neg (rdf_nil 520)]
    exact ⟨rfl, end_size t, rfl⟩
  | some a =>
    obtain ⟨h1, h2, rfl⟩ := h
    have hk := rdf_err (l.drop a) 520
    rw [List.length_drop] at hk
    unfold rkey dtxt
    simp only
    rw [h2]
    by_cases he : (Code.rdField (l.drop a) 520).2.2 = 0
    · rw [if_pos he, if_pos he]
      refine ⟨rfl, by omega, ?_, rfl⟩
      rw [ext_drop, h2, List.drop_drop]
    · rw [if_neg he, if_neg he]
      exact ⟨rfl, end_size t, rfl⟩
/-- Block b is a reader that stands in l where the document's stands at o. -/
def RO (w : World) (b : Nat) (l : List UInt8) (o : Option Nat) : Prop := ∃ t f, RdrAt w b t f ∧ t.size ≤ reachBytes ∧ RdO l t f o
theorem RO.lt {w : World} {b : Nat} {l : List UInt8} {o : Option Nat} (h : RO w b l o) : b < w.heap.size := by obtain ⟨t, f, h1, _⟩ := h; exact h1.lt
theorem RO.below {B b : Nat} {w w' : World} {l : List UInt8} {o : Option Nat} (h : RO w b l o) (hb : Below B w w') (hB : b < B) : RO w' b l o := by
  obtain ⟨t, f, h1, h2, h3⟩ := h
  exact ⟨t, f, h1.below hb hB, h2, h3⟩
theorem number_o {l : List UInt8} {o : Option Nat} {b : Nat} {w : World} (h : RO w b l o) : Calls Try.prog 37 #[.pointer (some ⟨b, 0, none⟩)] w fun e w' => e = .returned (.int .u64 ((dnum l o mostN).1 : Int)) ∧ RO w' b l (dnum l o mostN).2 ∧ But b w w' := by
  obtain ⟨t, f, h1, h2, h3⟩ := h
  obtain ⟨e1, e2⟩ := rnum_o h3
  refine (rnum_any t h2 f b w h1).mono ?_
  rintro r w1 ⟨rfl, k1, k2⟩
  rw [e1]
  exact ⟨rfl, ⟨_, _, k1, Nat.le_trans (rnum_size t f) h2, e2⟩, k2⟩
theorem upto_o {l : List UInt8} {o : Option Nat} {b : Nat} {w : World} (h : RO w b l o) (most : Nat) (hm : most ≤ 1000000) : Calls Try.prog 38 #[.pointer (some ⟨b, 0, none⟩), .int .i64 (most : Int)] w fun e w' => e = .returned (.int .i64 ((dnum l o most).1 : Int)) ∧ RO w' b l (dnum l o most).2 ∧ But b w w' := by
  obtain ⟨t, f, h1, h2, h3⟩ := h
  obtain ⟨e1, e2⟩ := rup_o most h3
  refine (rup_any t h2 f most hm b w h1).mono ?_
  rintro r w1 ⟨rfl, k1, k2⟩
  rw [e1]
  exact ⟨rfl, ⟨_, _, k1, Nat.le_trans (rup_size t f most) h2, e2⟩, k2⟩
theorem level_o {l : List UInt8} {o : Option Nat} {b : Nat} {w : World} (h : RO w b l o) : Calls Try.prog 39 #[.pointer (some ⟨b, 0, none⟩)] w fun e w' => e = .returned (.int .i64 ((dnum l o 3).1 : Int)) ∧ RO w' b l (dnum l o 3).2 ∧ But b w w' := by
  obtain ⟨t, f, h1, h2, h3⟩ := h
  obtain ⟨e1, e2⟩ := rup_o 3 h3
  refine (rlevel_any t h2 f b w h1).mono ?_
  rintro r w1 ⟨rfl, k1, k2⟩
  rw [e1]
  exact ⟨rfl, ⟨_, _, k1, Nat.le_trans (rup_size t f 3) h2, e2⟩, k2⟩
theorem key_o {l : List UInt8} {o : Option Nat} {b : Nat} {w : World} (h : RO w b l o) : Calls Try.prog 66 #[.pointer (some ⟨b, 0, none⟩)] w fun e w' => e = .returned (.string ⟨(dtxt l o).1.toArray⟩) ∧ RO w' b l (dtxt l o).2 ∧ But b w w' := by
  obtain ⟨t, f, h1, h2, h3⟩ := h
  obtain ⟨e1, e2⟩ := rkey_o h3
  refine (rkey_any t h2 f b w h1).mono ?_
  rintro r w1 ⟨rfl, k1, k2⟩
  rw [e1]
  exact ⟨rfl, ⟨_, _, k1, Nat.le_trans (rkey_size t f) h2, e2⟩, k2⟩
theorem dnum_le (l : List UInt8) (o : Option Nat) (most : Nat) : (dnum l o most).1 ≤ most := by
  unfold dnum
  split
  · exact Nat.zero_le _
  · split
    · rename_i h; exact h.2
    · exact Nat.zero_le _
theorem dtxt_le (l : List UInt8) (o : Option Nat) : (dtxt l o).1.length ≤ 520 := by
  unfold dtxt
  split
  · exact Nat.zero_le _
  · split
    · rename_i a h
      unfold Code.rdField at h ⊢
      split at h
      · exact absurd h (by assumption)
      split at h
      · simp at h
      split at h
      · simp at h
      · rename_i h1 h2 h3
        rw [if_neg h1, if_neg h2, if_neg h3]
        simp only
        rw [List.length_take]
        omega
    · exact Nat.zero_le _
/-- What meta reads. -/
def dmeta (l : List UInt8) (o : Option Nat) : Mt × Option Nat :=
  let r1 := dnum l o mostN
  let r2 := dnum l r1.2 262144
  let r3 := dnum l r2.2 262144
  let r4 := dtxt l r3.2
  let r5 := dtxt l r4.2
  let r6 := dnum l r5.2 mostN
  let r7 := dnum l r6.2 mostN
  (⟨r1.1, (r2.1 : Int), (r3.1 : Int), ⟨r4.1.toArray⟩, ⟨r5.1.toArray⟩, r6.1, r7.1⟩, r7.2)
def dgone (l : List UInt8) (o : Option Nat) : Gn × Option Nat :=
  let r1 := dnum l o 3
  let r2 := dnum l r1.2 mostN
  (⟨(r1.1 : Int), r2.1⟩, r2.2)
def dpl (l : List UInt8) (o : Option Nat) : Pl × Option Nat :=
  let r1 := dnum l o 3
  let r2 := dmeta l r1.2
  (⟨(r1.1 : Int), r2.1⟩, r2.2)
/-- What n rounds of a reader read. -/
def many {α : Type} (rd : Option Nat → α × Option Nat) : Nat → Option Nat → List α × Option Nat
  | 0, o => ([], o)
  | n + 1, o => ((many rd n o).1 ++ [(rd (many rd n o).2).1], (rd (many rd n o).2).2)
theorem many_len {α : Type} (rd : Option Nat → α × Option Nat) (n : Nat) (o : Option Nat) : (many rd n o).1.length = n := by
  induction n with
  | zero => rfl
  | succ n ih => simp [many, ih]
theorem many_none {α : Type} (rd : Option Nat → α × Option Nat) (hr : (rd none).2 = none) (n : Nat) (o : Option Nat) (h : (many rd n o).2 = none) : ∀ m, n ≤ m → (many rd m o).2 = none := by
  intro m hm
  induction m with
  | zero => obtain rfl : n = 0 := by omega
            exact h
  | succ m ih =>
    by_cases e : n = m + 1
    · rw [← e]; exact h
    · show (rd (many rd m o).2).2 = none
      rw [ih (by omega), hr]
theorem dgone_none (l : List UInt8) : (dgone l none).2 = none := rfl
theorem dpl_none (l : List UInt8) : (dpl l none).2 = none := rfl
/-- What Decode reads, ahead of its checks. -/
def dec1 (l : List UInt8) := dnum l (some 0) mostN
def dec2 (l : List UInt8) := dnum l (dec1 l).2 mostN
def dec3 (l : List UInt8) := dnum l (dec2 l).2 mostN
def dec4 (l : List UInt8) := dnum l (dec3 l).2 256
def dec5 (l : List UInt8) := many (dgone l) (dec4 l).1 (dec4 l).2
def dec6 (l : List UInt8) := dnum l (dec5 l).2 256
def dec7 (l : List UInt8) := many (dpl l) (dec6 l).1 (dec6 l).2
def decRaw (l : List UInt8) : Ed := ⟨(dec1 l).1, (dec2 l).1, (dec3 l).1, (dec5 l).1, (dec7 l).1⟩
/-- Are the bytes an edit's? -/
def DecP (l : List UInt8) : Prop := (dec7 l).2 = some l.length ∧ ListedP (decRaw l)
end Go.Proofs.Ytkkedofbnmjgeaa
