/-
  A slice of structs that came in as an argument, whose elements hold what is told of them in memory, too. No condition.
-/
import Derived.Test.YtkkegdhnkefogaaSliceArg
namespace Go.Proofs.Ytkkegdhnkefogaa
open Go Go.RowKit Go.ChangeShapes Go.WideShapes Go.Deep
set_option maxRecDepth 100000
theorem open_slice_in {α : Type} [Inhabited α] {H : Type} {enc : TypeId × Value → H} {W : World} {a0 : Option Addr} {len cap fuel : Nat} {x : DataW H × List MemPlace} {T E : TypeId} (k : Nat) (hT : Try.prog.underlying T = some (.slice E)) (hk : Try.prog.cellsOf E = k) (hk0 : 0 < k)
    (cells : α → List Value) (hcl : ∀ v, (cells v).length = k) (Good : α → Prop)
    (read : ∀ {fuel : Nat} {cs : List Value} {y : DataW H × List MemPlace}, DataW.trod enc Try.prog W 0 (fun _ => true) true fuel E cs = some y → (∀ n ∈ y.1.weights Try.prog E, n ≤ reachBytes) → ∃ v : α, cs = cells v ∧ Good v)
    (hf : DataW.trod enc Try.prog W 0 (fun _ => true) true fuel T [.slice a0 len cap] = some x) (hsz : ∀ n ∈ x.1.weights Try.prog T, n ≤ reachBytes) :
    ∃ b o l, SlOf k cells a0 len cap b o l W ∧ ∀ v ∈ l, Good v := by
  rcases DataW.trod_slice hT hf with ⟨hcs, _⟩ | ⟨a, len', cap', elems, rest, n, _, hcs, hx, _, hl, hm, hlen, hel, _, _⟩
  · simp at hcs
    obtain ⟨rfl, rfl, rfl⟩ := hcs
    exact ⟨0, 0, [], ⟨rfl, Nat.le_refl _, by omega, fun h => absurd h (by omega), fun j x hx => by simp at hx⟩, fun x hx => by cases hx⟩
  · simp at hcs
    obtain ⟨rfl, rfl, rfl⟩ := hcs
    obtain ⟨b, off, spot⟩ := a
    have el : ∀ i, i < len → ∃ v : α, (∀ m u, (cells v)[m]? = some u → W.cell? ((⟨b, off, spot⟩ : Addr).add (i * k + m)) = some u) ∧ Good v := by
      intro i hi
      have h1 := hel i hi
      rw [hk] at h1
      have hys : elems[i]? = some (elems[i]'(by omega)) := List.getElem?_eq_getElem (by omega)
      rw [hys] at h1
      obtain ⟨cs, hc, ht'⟩ := Option.bind_eq_some_iff.1 h1
      obtain ⟨v, rfl, hg⟩ := read ht' (fun n hn => hsz n (by rw [hx, DataW.weights, hT]; exact List.mem_cons_of_mem _ (List.mem_append_left _ (weights_of (List.mem_map.2 ⟨_, List.mem_of_getElem? hys, rfl⟩) hn))))
      obtain ⟨_, hcl', hat⟩ := World.cells?_some hc
      refine ⟨v, fun m u hu => ?_, hg⟩
      have hm5 : m < k := by have := (List.getElem?_eq_some_iff.1 hu).1; rw [hcl] at this; exact this
      rw [← Go.Deep.add_add, hat m hm5, hu]
    obtain ⟨vf, hvf⟩ : ∃ vf : Nat → α, ∀ i, i < len → (∀ m u, (cells (vf i))[m]? = some u → W.cell? ((⟨b, off, spot⟩ : Addr).add (i * k + m)) = some u) ∧ Good (vf i) := by
      refine ⟨fun i => if h : i < len then (el i h).choose else default, fun i hi => ?_⟩
      simp only [dif_pos hi]
      exact (el i hi).choose_spec
    have hspot : 0 < len → spot = none := fun h0 => by
      obtain ⟨hcell, _⟩ := hvf 0 h0
      have := hcell 0 _ (List.getElem?_eq_getElem (by rw [hcl]; exact hk0))
      simpa [Addr.add] using World.cell?_spot this
    unfold maxLen at hm
    refine ⟨b, off, (List.range len).map vf, ⟨by simp, hl, by omega, fun h0 => ?_, fun j v hj m u hu => ?_⟩, fun v hv => ?_⟩
    · have hs := hspot h0
      subst hs
      obtain ⟨hcell, _⟩ := hvf 0 h0
      have hb := World.block_lt_of_cell? _ _ (hcell 0 _ (List.getElem?_eq_getElem (by rw [hcl]; exact hk0)))
      exact ⟨rfl, by simpa [Addr.add] using hb⟩
    · have hjl : j < len := by have := (List.getElem?_eq_some_iff.1 hj).1; simpa using this
      have hvj : v = vf j := by simpa [hjl] using hj.symm
      subst hvj
      have hs := hspot (by omega)
      subst hs
      obtain ⟨hcell, _⟩ := hvf j hjl
      have := hcell m u hu
      have e1 : (⟨b, off, none⟩ : Addr).add (j * k + m) = ⟨b, off + j * k + m, none⟩ := by
        unfold Addr.add
        split
        · rename_i h0
          rw [show off + j * k + m = off by omega]
        · simp only [Addr.mk.injEq, true_and, and_true]; omega
      rw [e1] at this
      exact this
    · obtain ⟨i, hi, rfl⟩ := List.mem_map.1 hv
      have hil : i < len := List.mem_range.1 hi
      exact (hvf i hil).2
end Go.Proofs.Ytkkegdhnkefogaa
