/-
  A list of ints that came in, nil or not, as a walk wants it. No condition.
-/
import Derived.Test.YtheealfappjabaaDiskAtOnce
import Derived.ChangeSlices
import Derived.ProofKit
import Derived.SizedLaws
namespace Go.Proofs.Ytheealfappjabaa
open Go Go.RowKit Go.ChangeShapes
theorem open_ints_arg {H : Type} {enc : TypeId × Value → H} {W : World} {a0 : Option Addr} {len cap fuel : Nat} {x : DataW H × List MemPlace}
    (hf : DataW.trod enc Try.prog W 0 (fun _ => true) true fuel 23 [.slice a0 len cap] = some x) : ∃ cb cs, IntsAt cb (.slice a0 len cap) cs W := by
  have hc3 : Try.prog.cellsOf 3 = 1 := by kernel_rfl
  rcases open_ints Try.underlying23 Try.underlying3 hc3 hf with ⟨hcs, hx⟩ | ⟨a, len', cap', zs, hcs, _, hl, hm, hz, hx, hcell, hwf⟩
  · simp at hcs
    obtain ⟨rfl, rfl, rfl⟩ := hcs
    exact ⟨0, [], none, 0, 0, rfl, rfl, Nat.le_refl _, by omega, by simp, fun h => absurd rfl h⟩
  · simp at hcs
    obtain ⟨rfl, rfl, rfl⟩ := hcs
    simp only [if_true] at hz
    obtain ⟨b, off, spot⟩ := a
    unfold maxLen at hm
    have hzl : (zs.take len).length = len := by rw [List.length_take]; omega
    refine ⟨b, zs.take len, some ⟨b, off, spot⟩, len, cap, rfl, hzl.symm, hl, by omega, fun y hy => ?_, fun hne => ?_⟩
    · have := hwf y (List.mem_of_mem_take hy)
      simpa [Lit.wf, IntKind.min, IntKind.max, IntKind.signed, IntKind.bits] using this
    · have h0 : 0 < len := by
        rcases Nat.eq_zero_or_pos len with e | e
        · exact absurd (by rw [e]; rfl) hne
        · exact e
      have hspot : spot = none := by simpa [Addr.add] using World.cell?_spot (hcell 0 (by omega))
      subst hspot
      refine ⟨off, rfl, fun j y hj => ?_⟩
      have hjl : j < len := by
        have := (List.getElem?_eq_some_iff.1 hj).1
        omega
      have hc := hcell j (by omega)
      have e1 : (⟨b, off, none⟩ : Addr).add j = ⟨b, off + j, none⟩ := by
        unfold Addr.add
        split
        · rename_i h0; rw [h0]; rfl
        · rfl
      rw [e1] at hc
      rw [hc]
      rw [List.getElem?_take, if_pos hjl] at hj
      have : zs.getD j 0 = y := by rw [List.getD_eq_getElem?_getD, hj]; rfl
      rw [this]
theorem laid_out : laidOutB Try.prog = true := by kernel_rfl
end Go.Proofs.Ytheealfappjabaa
