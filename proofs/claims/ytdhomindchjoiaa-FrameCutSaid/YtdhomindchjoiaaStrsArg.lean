/-
  A list of texts that came in, nil or not, as a walk wants it. No condition.
-/
import Derived.Test.YtdhomindchjoiaaRows
import Derived.Test.YtdhomindchjoiaaKit
import Derived.SliceStrings
import Derived.ProofKit
import Derived.SizedLaws
namespace Go.Proofs.Ytdhomindchjoiaa
open Go Go.RowKit Go.ChangeShapes
theorem cell_block_lt {w : World} {a : Addr} {u : Value} (h : w.cell? a = some u) : a.block < w.heap.size := World.block_lt_of_cell? _ _ h
theorem open_strs_arg {H : Type} {enc : TypeId × Value → H} {W : World} {a0 : Option Addr} {len cap fuel : Nat} {x : DataW H × List MemPlace}
    (hf : DataW.trod enc Try.prog W 0 (fun _ => true) true fuel 31 [.slice a0 len cap] = some x) :
    ∃ (b off : Nat) (Xs : List ByteArray), Xs.length = len ∧ (0 < len → a0 = some ⟨b, off, none⟩ ∧ b < W.heap.size) ∧ (∀ (j : Nat) X, Xs[j]? = some X → W.cell? ⟨b, off + j, none⟩ = some (.string X)) ∧
      len ≤ maxLen ∧ (len = 0 ∨ ∃ spare, x.1 = .slice (Xs.map fun s => .lit (.string s.data.toList)) spare) := by
  have hc9 : Try.prog.cellsOf 9 = 1 := by kernel_rfl
  rcases open_strings Try.underlying31 Try.underlying9 hc9 hf with ⟨hcs, hx⟩ | ⟨a, len', cap', ss, hcs, _, hl, hm, hz, hx, hcell, _⟩
  · simp at hcs
    obtain ⟨rfl, rfl, rfl⟩ := hcs
    subst hx
    exact ⟨0, 0, [], rfl, fun h => absurd h (by omega), fun j X h => by simp at h, Nat.zero_le _, Or.inl rfl⟩
  · simp at hcs
    obtain ⟨rfl, rfl, rfl⟩ := hcs
    subst hx
    simp only [if_true] at hz
    obtain ⟨b, off, spot⟩ := a
    refine ⟨b, off, ss.take len, by simp; omega, fun h0 => ?_, fun j X hX => ?_, by omega, Or.inr ⟨_, rfl⟩⟩
    · have hspot : spot = none := by simpa [Addr.add] using World.cell?_spot (hcell 0 (by omega))
      subst hspot
      exact ⟨rfl, cell_block_lt (hcell 0 (by omega))⟩
    · have hj : j < len := by
        have := (List.getElem?_eq_some_iff.1 hX).1
        simp at this; omega
      have hspot : spot = none := by simpa [Addr.add] using World.cell?_spot (hcell 0 (by omega))
      subst hspot
      have hc := hcell j (by omega)
      rw [List.getElem?_take, if_pos hj] at hX
      have hjs : j < ss.length := (List.getElem?_eq_some_iff.1 hX).1
      have e1 : (⟨b, off, none⟩ : Addr).add j = ⟨b, off + j, none⟩ := by
        unfold Addr.add
        split
        · rename_i h0; rw [h0]; rfl
        · rfl
      rw [e1] at hc
      rw [hc]
      congr 2
      have := (List.getElem?_eq_some_iff.1 hX).2
      first | exact this | (simp [hX]) | (rw [← this]; simp)
theorem open_strs_cap {H : Type} {enc : TypeId × Value → H} {W : World} {a0 : Option Addr} {len cap fuel : Nat} {x : DataW H × List MemPlace}
    (hf : DataW.trod enc Try.prog W 0 (fun _ => true) true fuel 31 [.slice a0 len cap] = some x) : len ≤ cap := by
  have hc9 : Try.prog.cellsOf 9 = 1 := by kernel_rfl
  rcases open_strings Try.underlying31 Try.underlying9 hc9 hf with ⟨hcs, hx⟩ | ⟨a, len', cap', ss, hcs, _, hl, hm, hz, hx, hcell, _⟩
  · simp at hcs
    obtain ⟨rfl, rfl, rfl⟩ := hcs
    exact Nat.le_refl _
  · simp at hcs
    obtain ⟨rfl, rfl, rfl⟩ := hcs
    omega
theorem weights_strs {H : Type} {P : Program} {e : TypeId} {s : ByteArray} : ∀ {Xs : List ByteArray}, s ∈ Xs → s.data.toList.length ∈ DataW.weightsAll (H := H) P e (Xs.map fun s => .lit (.string s.data.toList))
  | [], h => by cases h
  | x :: r, h => by
    simp only [List.map_cons, DataW.weightsAll, DataW.weights]
    rcases List.mem_cons.1 h with rfl | h
    · simp
    · exact List.mem_append_right _ (weights_strs h)
theorem sized_strs {H : Type} {ts : List TypeId} {ds : List (DataW H)} (h : (DataW.weightsEach Try.prog ts ds).all (· ≤ reachBytes) = true) {j : Nat} {Xs : List ByteArray} {spare : List (DataW H)}
    (ht : ts[j]? = some 31) (hd : ds[j]? = some (.slice (Xs.map fun s => .lit (.string s.data.toList)) spare)) {s : ByteArray} (hs : s ∈ Xs) : s.size ≤ reachBytes := by
  have := List.all_eq_true.1 h _ (DataW.weights_mem_each ht hd s.data.toList.length (by
    rw [DataW.weights, Try.underlying31]
    exact List.mem_cons_of_mem _ (List.mem_append_left _ (weights_strs hs))))
  simpa using this
theorem laid_out : laidOutB Try.prog = true := by kernel_rfl
end Go.Proofs.Ytdhomindchjoiaa
