/-
  Rows put into lists one behind the other: what heights and what order change nothing of. Mathematics alone; no condition.
-/
import Derived.Test.YtcgpcpplbmebgaaSkipMath
namespace Go.Proofs.Ytcgpcpplbmebgaa
open Go.RowKit
theorem rows_putL (l : SL) (x : Rw) (h : Nat) : rowsL (putL l x h) = if thr (rowsL l) x.key x.seq = true then rowsL l else insR (rowsL l) x := by
  unfold putL thrL
  split
  · rfl
  · exact rows_insL l x h
theorem putL_sorted {l : SL} (hs : SortedR (rowsL l)) (x : Rw) (h : Nat) : SortedR (rowsL (putL l x h)) := by
  rw [rows_putL]
  split
  · exact hs
  · rename_i ht
    exact insR_sorted hs (by simpa using ht)
theorem insL_len (l : SL) (x : Rw) (h : Nat) : (insL l x h).length = l.length + 1 := by
  rw [← rows_len, rows_insL, insR_len, rows_len]
theorem putL_len (l : SL) (x : Rw) (h : Nat) : l.length ≤ (putL l x h).length ∧ (putL l x h).length ≤ l.length + 1 := by
  unfold putL
  split
  · omega
  · rw [insL_len]; omega
/-- What height the law takes for the i-th row. -/
def hAt (hl : List Int) (i : Nat) : Int := if i < hl.length then hl.getD i 0 else 1
/-- The rows put one behind the other, each as high as f says. -/
def fp (rs : List Rw) (f : Nat → Int) : Nat → SL
  | 0 => []
  | j + 1 => match rs[j]? with | some x => putL (fp rs f j) x (hgtOf (f j)) | none => fp rs f j
theorem fp_step {rs : List Rw} {f : Nat → Int} {j : Nat} {x : Rw} (h : rs[j]? = some x) : fp rs f (j + 1) = putL (fp rs f j) x (hgtOf (f j)) := by
  show (match rs[j]? with | some x => putL (fp rs f j) x (hgtOf (f j)) | none => fp rs f j) = _
  rw [h]
theorem fp_len (rs : List Rw) (f : Nat → Int) : ∀ j, (fp rs f j).length ≤ j
  | 0 => Nat.le_refl _
  | j + 1 => by
    have := fp_len rs f j
    show (match rs[j]? with | some x => putL (fp rs f j) x (hgtOf (f j)) | none => fp rs f j).length ≤ _
    split
    · have := (putL_len (fp rs f j) ‹Rw› (hgtOf (f j))).2; omega
    · omega
theorem fp_sorted (rs : List Rw) (f : Nat → Int) : ∀ j, SortedR (rowsL (fp rs f j))
  | 0 => List.Pairwise.nil
  | j + 1 => by
    show SortedR (rowsL (match rs[j]? with | some x => putL (fp rs f j) x (hgtOf (f j)) | none => fp rs f j))
    split
    · exact putL_sorted (fp_sorted rs f j) _ _
    · exact fp_sorted rs f j
/-- Heights change nothing of which rows stand. -/
theorem fp_rows (rs : List Rw) (f g : Nat → Int) : ∀ j, rowsL (fp rs f j) = rowsL (fp rs g j)
  | 0 => rfl
  | j + 1 => by
    cases h : rs[j]? with
    | some x => rw [fp_step h, fp_step h, rows_putL, rows_putL, fp_rows rs f g j]
    | none =>
      show rowsL (match rs[j]? with | some x => putL (fp rs f j) x (hgtOf (f j)) | none => fp rs f j) = rowsL (match rs[j]? with | some x => putL (fp rs g j) x (hgtOf (g j)) | none => fp rs g j)
      rw [h]
      exact fp_rows rs f g j
theorem hgts_putL {l : SL} {x : Rw} {h n : Nat} (hl : ∀ y ∈ hgtsL l, y = n) (hh : h = n) : ∀ y ∈ hgtsL (putL l x h), y = n := by
  unfold putL
  split
  · exact hl
  · rw [hgts_insL]
    intro y hy
    simp only [List.mem_append, List.mem_cons] at hy
    rcases hy with h1 | h1 | h1
    · exact hl y (List.mem_of_mem_take h1)
    · rw [h1]; exact hh
    · exact hl y (List.mem_of_mem_drop h1)
theorem fp_ones (rs : List Rw) : ∀ j, ∀ y ∈ hgtsL (fp rs (fun _ => 1) j), y = 1
  | 0 => by intro y hy; cases hy
  | j + 1 => by
    cases h : rs[j]? with
    | some x => rw [fp_step h]; exact hgts_putL (fp_ones rs j) rfl
    | none =>
      show ∀ y ∈ hgtsL (match rs[j]? with | some x => putL (fp rs (fun _ => 1) j) x (hgtOf 1) | none => fp rs (fun _ => 1) j), y = 1
      rw [h]
      exact fp_ones rs j
theorem plL_le (l : SL) (k : ByteArray) (q : Nat) : plL l k q ≤ l.length := by
  have := plc_le (rowsL l) k q
  rw [rows_len] at this
  exact this
/-- What the statement on steps asks. -/
theorem steps_le {l : SL} (k : ByteArray) (q : Nat) : stepsL l k q ≤ plL l k q ∧ stepsL l k q ≤ l.length := by
  have h1 := stp_le ((hgtsL l).take (plL l k q))
  rw [List.length_take] at h1
  have := plL_le l k q
  unfold stepsL
  omega
theorem steps_one {l : SL} (h : ∀ y ∈ hgtsL l, y = 1) (k : ByteArray) (q : Nat) : stepsL l k q = plL l k q := by
  unfold stepsL
  rw [stp_one fun x hx => h x (List.mem_of_mem_take hx), List.length_take, hgts_len]
  have := plL_le l k q
  omega
end Go.Proofs.Ytcgpcpplbmebgaa
