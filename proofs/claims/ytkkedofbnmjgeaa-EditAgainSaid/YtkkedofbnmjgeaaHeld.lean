/-
  A drawn region whose loads are held by a condition, walked by hand: one operation taken, or passed over by its guard. No condition.
-/
import Derived.Deep.RegionHeld
import Derived.WalkKit
namespace Go.Proofs.Ytkkedofbnmjgeaa
set_option maxRecDepth 100000
open Go
variable {P : Program} {md : Region.Mode} {ops : Array Oper} {Q : Exit → Act → World → Prop} {S : World → Prop} {fuel : Nat} {listed : Array Bool} {a : Act} {w : World}
theorem held_take {i : Nat} {dst : Option Tmp} {op : Op} {type : TypeId} {pos : String} {after} {guard} {v : Value} (hi : ops[i]? = some { dst := dst, op := op, type := type, pos := pos, after := after, guard := guard })
    (hs : Region.noSelect ops = true) (hf : Region.free md ops listed i = true) (hr : (Region.ready md ops listed).contains i = true)
    (hQ : ∀ c a w, Q (.panic c) (a.put dst v) w → Q (.panic c) a w) (hw : Region.wanted { dst := dst, op := op, type := type, pos := pos, after := after, guard := guard } (yielded ops a.tmps) = true)
    (hy : ∀ w, S w → (execOp a.eval { dst := dst, op := op, type := type, pos := pos, after := after, guard := guard }).run P w = .ok (.value v) w) (hS : S w)
    (h : wpAnyH P md ops Q S fuel (listed.setIfInBounds i true) (a.put dst v) w) : wpAnyH P md ops Q S (fuel + 1) listed a w := wpAnyH_take hi hs hf hr hQ (Or.inl ⟨hw, hy⟩) hS h
theorem held_skip {i : Nat} {dst : Option Tmp} {op : Op} {type : TypeId} {pos : String} {after} {guard} (hi : ops[i]? = some { dst := dst, op := op, type := type, pos := pos, after := after, guard := guard })
    (hs : Region.noSelect ops = true) (hf : Region.free md ops listed i = true) (hr : (Region.ready md ops listed).contains i = true)
    (hQ : ∀ c a w, Q (.panic c) (a.put dst undef) w → Q (.panic c) a w) (hw : Region.wanted { dst := dst, op := op, type := type, pos := pos, after := after, guard := guard } (yielded ops a.tmps) = false) (hS : S w)
    (h : wpAnyH P md ops Q S fuel (listed.setIfInBounds i true) (a.put dst undef) w) : wpAnyH P md ops Q S (fuel + 1) listed a w := wpAnyH_take hi hs hf hr hQ (Or.inr ⟨hw, rfl⟩) hS h
theorem held_call {i : Nat} {dst : Option Tmp} {op : Op} {type : TypeId} {pos : String} {after} {guard} (hr : Region.ready md ops listed = [i]) (hi : ops[i]? = some { dst := dst, op := op, type := type, pos := pos, after := after, guard := guard })
    (hw : Region.wanted { dst := dst, op := op, type := type, pos := pos, after := after, guard := guard } (yielded ops a.tmps) = true)
    (h : ∀ K : Act → World → Prop, Shut (∀ a w, S w → (S w → wpAnyH P md ops Q S fuel (listed.setIfInBounds i true) a w) → K a w) → Oper.wp P { dst := dst, op := op, type := type, pos := pos, after := after, guard := guard } a w K Q) : wpAnyH P md ops Q S (fuel + 1) listed a w :=
  wpAnyH_ready hr (by simp) (AllReadyH.cons hi (fun K hK => by rw [if_pos hw]; exact h K hK) AllReadyH.nil)
/-- Two operations that may come first: each way. -/
theorem held_two {i j : Nat} {o1 o2 : Oper} (hr : Region.ready md ops listed = [i, j]) (hi : ops[i]? = some o1) (hj : ops[j]? = some o2)
    (hw : Region.wanted o1 (yielded ops a.tmps) = true) (hw2 : Region.wanted o2 (yielded ops a.tmps) = true)
    (h : ∀ K : Act → World → Prop, Shut (∀ a w, S w → (S w → wpAnyH P md ops Q S fuel (listed.setIfInBounds i true) a w) → K a w) → Oper.wp P o1 a w K Q)
    (h2 : ∀ K : Act → World → Prop, Shut (∀ a w, S w → (S w → wpAnyH P md ops Q S fuel (listed.setIfInBounds j true) a w) → K a w) → Oper.wp P o2 a w K Q) : wpAnyH P md ops Q S (fuel + 1) listed a w :=
  wpAnyH_ready hr (by simp) (AllReadyH.cons hi (fun K hK => by rw [if_pos hw]; exact h K hK) (AllReadyH.cons hj (fun K hK => by rw [if_pos hw2]; exact h2 K hK) AllReadyH.nil))
/-- Three operations that may come first: each way. -/
theorem held_three {i j k : Nat} {o1 o2 o3 : Oper} (hr : Region.ready md ops listed = [i, j, k]) (hi : ops[i]? = some o1) (hj : ops[j]? = some o2) (hk : ops[k]? = some o3)
    (hw : Region.wanted o1 (yielded ops a.tmps) = true) (hw2 : Region.wanted o2 (yielded ops a.tmps) = true) (hw3 : Region.wanted o3 (yielded ops a.tmps) = true)
    (h : ∀ K : Act → World → Prop, Shut (∀ a w, S w → (S w → wpAnyH P md ops Q S fuel (listed.setIfInBounds i true) a w) → K a w) → Oper.wp P o1 a w K Q)
    (h2 : ∀ K : Act → World → Prop, Shut (∀ a w, S w → (S w → wpAnyH P md ops Q S fuel (listed.setIfInBounds j true) a w) → K a w) → Oper.wp P o2 a w K Q)
    (h3 : ∀ K : Act → World → Prop, Shut (∀ a w, S w → (S w → wpAnyH P md ops Q S fuel (listed.setIfInBounds k true) a w) → K a w) → Oper.wp P o3 a w K Q) : wpAnyH P md ops Q S (fuel + 1) listed a w :=
  wpAnyH_ready hr (by simp) (AllReadyH.cons hi (fun K hK => by rw [if_pos hw]; exact h K hK) (AllReadyH.cons hj (fun K hK => by rw [if_pos hw2]; exact h2 K hK) (AllReadyH.cons hk (fun K hK => by rw [if_pos hw3]; exact h3 K hK) AllReadyH.nil)))
end Go.Proofs.Ytkkedofbnmjgeaa
