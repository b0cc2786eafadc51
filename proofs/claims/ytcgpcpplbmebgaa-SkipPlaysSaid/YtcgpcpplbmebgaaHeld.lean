/-
  A drawn region whose loads are held by a condition, walked by hand: one operation taken, or passed over by its guard. No condition.
-/
import Derived.Deep.RegionHeld
import Derived.WalkKit
namespace Go.Proofs.Ytcgpcpplbmebgaa
open Go
variable {P : Program} {md : Region.Mode} {ops : Array Oper} {Q : Exit → Act → World → Prop} {S : World → Prop} {fuel : Nat} {listed : Array Bool} {a : Act} {w : World}
theorem held_take {i : Nat} {dst : Option Tmp} {op : Op} {type : TypeId} {pos : String} {after} {guard} {v : Value} (hi : ops[i]? = some { dst := dst, op := op, type := type, pos := pos, after := after, guard := guard })
    (hs : Region.noSelect ops = true) (hf : Region.free md ops listed i = true) (hr : (Region.ready md ops listed).contains i = true)
    (hQ : ∀ c a w, Q (.panic c) (a.put dst v) w → Q (.panic c) a w) (hw : Region.wanted { dst := dst, op := op, type := type, pos := pos, after := after, guard := guard } (yielded ops a.tmps) = true)
    (hy : ∀ w, S w → (execOp a.eval { dst := dst, op := op, type := type, pos := pos, after := after, guard := guard }).run P w = .ok (.value v) w) (hS : S w)
    (h : wpAnyH P md ops Q S fuel (listed.setIfInBounds i true) (a.put dst v) w) : wpAnyH P md ops Q S (fuel + 1) listed a w := wpAnyH_take hi hs hf hr hQ (Or.inl ⟨hw, hy⟩) hS h
theorem held_skip {i : Nat} {dst : Option Tmp} {op : Op} {type : TypeId} {pos : String} {after} {guard} (hi : ops[i]? = some { dst := dst, op := op, type := type, pos := pos, after := after, guard := guard })
    (hs : Region.noSelect ops = true) (hf : Region.free md ops listed i = true) (hr : (Region.ready md ops listed).contains i = true)
    (hQ : ∀ c a w, Q (.panic c) (a.put dst undef) w → Q (.panic c) a w) (hw : Region.wanted { dst := dst, op := op, type := type, pos := pos, after := after, guard := guard } (yielded ops a.tmps) = false) (hS : S w)
    (h : wpAnyH P md ops Q S fuel (listed.setIfInBounds i true) (a.put dst undef) w) : wpAnyH P md ops Q S (fuel + 1) listed a w := wpAnyH_take hi hs hf hr hQ (Or.inr ⟨hw, rfl⟩) hS h
theorem held_call {i : Nat} {dst : Option Tmp} {op : Op} {type : TypeId} {pos : String} {after} {guard} (hr : Region.ready md ops listed = [i]) (hi : ops[i]? = some { dst := dst, op := op, type := type, pos := pos, after := after, guard := guard })
    (hw : Region.wanted { dst := dst, op := op, type := type, pos := pos, after := after, guard := guard } (yielded ops a.tmps) = true)
    (h : ∀ K : Act → World → Prop, Shut (∀ a w, S w → (S w → wpAnyH P md ops Q S fuel (listed.setIfInBounds i true) a w) → K a w) → Oper.wp P { dst := dst, op := op, type := type, pos := pos, after := after, guard := guard } a w K Q) : wpAnyH P md ops Q S (fuel + 1) listed a w :=
  wpAnyH_ready hr (by simp) (AllReadyH.cons hi (fun K hK => by rw [if_pos hw]; exact h K hK) AllReadyH.nil)
end Go.Proofs.Ytcgpcpplbmebgaa
