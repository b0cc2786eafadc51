/-
  Plain mathematics of Seek: where the place is. No model's run in this text. No condition.
-/
import Derived.Test.YtnmlifagchdphaaBlockFind
namespace Go.Proofs.Ytnmlifagchdphaa
set_option maxRecDepth 100000
open Go.RowKit
theorem sorted_of {l : List Rw} (h : ordR l = true) : SortedR l := by
  unfold SortedR
  rw [List.pairwise_iff_getElem]
  have K : ∀ k i, (hi : i < l.length) → (hk : i + 1 + k < l.length) → ahd l[i] l[i + 1 + k].key l[i + 1 + k].seq = true := by
    intro k
    induction k with
    | zero => intro i hi hk; exact (ordR_iff l).1 h i _ _ (List.getElem?_eq_getElem hi) (List.getElem?_eq_getElem hk)
    | succ k ih =>
      intro i hi hk
      have h1 := ih i hi (by omega)
      have h2 := (ordR_iff l).1 h (i + 1 + k) _ _ (List.getElem?_eq_getElem (by omega)) (List.getElem?_eq_getElem (show i + 1 + k + 1 < l.length by omega))
      exact ahd_trans h1 h2
  intro i j hi hj hij
  obtain ⟨k, rfl⟩ : ∃ k, j = i + 1 + k := ⟨j - i - 1, by omega⟩
  exact K k i hi hj
theorem place_iff {l : List Rw} (h : ordR l = true) {k : ByteArray} {q j : Nat} (hj : j < l.length) : ahd (rwAt l j) k q = true ↔ j < plc l k q := by
  have hx := List.getElem?_eq_getElem hj
  rw [rwAt_some hx]
  exact plc_iff (sorted_of h) hx
theorem place_anti {l : List Rw} (h : ordR l = true) {k : ByteArray} {q i j : Nat} (hij : i ≤ j) (hj : j < l.length) (hp : ahd (rwAt l j) k q = true) : ahd (rwAt l i) k q = true := by
  rw [place_iff h hj] at hp
  rw [place_iff h (by omega)]
  omega
theorem seek_at {l : List Rw} (h : ordR l = true) {k : ByteArray} {q d K m r F U : Nat} (hd : 1 ≤ d) (hK1 : l.length ≤ K * d) (hK2 : ∀ j, j < K → j * d < l.length) (hm : Cut K (fun j => ahd (rwAt l (j * d)) k q) m)
    (hF : F = (m - 1) * d) (hU : U = min (m * d) l.length) (hr : Cut (U - F) (fun j => ahd (rwAt l (F + j)) k q) r) : F + r = plc l k q := by
  obtain ⟨hm1, hm2⟩ := hm
  obtain ⟨hr1, hr2⟩ := hr
  have hp := plc_le l k q
  have hm3 : ∀ j, j < K → (j * d < plc l k q ↔ j < m) := fun j hj => by rw [← place_iff h (hK2 j hj)]; exact hm2 j hj
  have hUl0 : U ≤ l.length := by rw [hU]; exact Nat.min_le_right _ _
  have hr3 : ∀ j, j < U - F → (F + j < plc l k q ↔ j < r) := fun j hj => by rw [← place_iff h (by omega)]; exact hr2 j hj
  have hFU : F ≤ plc l k q := by
    rcases Nat.eq_zero_or_pos m with e | e
    · subst e; rw [hF]; simp
    · have := (hm3 (m - 1) (by omega)).2 (by omega)
      rw [hF]
      exact Nat.le_of_lt this
  have hPU : plc l k q ≤ U := by
    rw [hU]
    refine Nat.le_min.2 ⟨?_, hp⟩
    rcases Nat.lt_or_ge m K with e | e
    · exact Nat.le_of_not_lt fun hh => Nat.lt_irrefl m ((hm3 m e).1 hh)
    · have : m = K := Nat.le_antisymm hm1 e
      rw [this]
      exact Nat.le_trans hp hK1
  have hUl : U ≤ l.length := by rw [hU]; exact Nat.min_le_right _ _
  clear hF hU hm3 hm2 hK2 hK1 hr2
  rcases Nat.lt_trichotomy (F + r) (plc l k q) with e | e | e
  · exact absurd ((hr3 r (by omega)).1 e) (Nat.lt_irrefl r)
  · exact e
  · have := (hr3 (plc l k q - F) (by omega)).2 (by omega)
    omega
end Go.Proofs.Ytnmlifagchdphaa
