/-
  The document's Right, whole. Condition: numbers of 64 bits (every version that came in).
-/
import Derived.Test.YtnmjfdejgfmoiaaPack16
namespace Go.Proofs.Ytnmjfdejgfmoiaa
set_option maxRecDepth 100000
open Go.RowKit
theorem rright_any {v : Vr} {H : Nat → Hd} {w : World} (hM : VrAt v H w) (hI : NumsIn v) : Calls Try.prog 20 #[verV v H] w fun e w' => e = .returned (.bool (tf (RightP v))) ∧ Below w.heap.size w w' := by
  by_cases k0 : (v.log : Int) < 1
  · rw [tf_false (show ¬ RightP v from fun h => by have := h.1.1.1; omega)]
    exact rr_0 k0
  by_cases k1 : (99999999 : Int) < (v.log : Int)
  · rw [tf_false (show ¬ RightP v from fun h => by have := h.1.1.2; omega)]
    exact rr_1 k0 k1
  by_cases k2 : (v.next : Int) < 1
  · rw [tf_false (show ¬ RightP v from fun h => by have := h.1.2.1.1; omega)]
    exact rr_2 k0 k1 k2
  by_cases k3 : (99999999 : Int) < (v.next : Int)
  · rw [tf_false (show ¬ RightP v from fun h => by have := h.1.2.1.2; omega)]
    exact rr_3 k0 k1 k2 k3
  by_cases k4 : (72057594037927936 : Int) ≤ (v.seq : Int)
  · rw [tf_false (show ¬ RightP v from fun h => by have := h.1.2.2; omega)]
    exact rr_4 k0 k1 k2 k3 (decide_eq_true k4)
  · rw [tf_congr (show RightP v ↔ ∀ i, i < 4 → LvOK v i from ⟨fun h => h.2, fun h => ⟨⟨⟨by omega, by omega⟩, ⟨by omega, by omega⟩, by omega⟩, h⟩⟩)]
    exact rright_main hM hI k0 k1 k2 k3 (decide_eq_false k4)
end Go.Proofs.Ytnmjfdejgfmoiaa
