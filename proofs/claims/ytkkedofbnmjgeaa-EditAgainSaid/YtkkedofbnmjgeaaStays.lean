/-
  What stands while a loop over a function goes on: all blocks of cells; what an append to a boxed row leaves. No condition.
-/
import Derived.Test.YtkkedofbnmjgeaaKit
import Derived.RangeFuncBox
import Derived.RangeFuncWrites
import Derived.Laws.OwnMore
namespace Go.Proofs.Ytkkedofbnmjgeaa
set_option maxRecDepth 100000
open Go.RowKit
/-- All blocks of cells stand. -/
def Stays (W W' : World) : Prop := W.heap.size ≤ W'.heap.size ∧ ∀ (k : Nat) (cs : Array Value) (t : TypeId) (m : Nat × Nat), W.heap[k]? = some (.cells cs t m) → W'.heap[k]? = some (.cells cs t m)
theorem Stays.of_below {W W' : World} (h : Below W.heap.size W W') : Stays W W' := ⟨h.size, fun k cs t m hk => (h.block k (Array.getElem?_eq_some_iff.1 hk).1).trans hk⟩
theorem stays_own {W W' : World} {row : Option Nat} (hg : W.grownBy W' row) (hr : ∀ r, row = some r → ∃ o : Obj, W.heap[r]? = some o ∧ o.isCells = false) : Stays W W' := ⟨hg.size, fun k cs t m hk => (hg.block k (Array.getElem?_eq_some_iff.1 hk).1 fun e => by
  obtain ⟨o, ho, hc⟩ := hr k e.symm
  rw [hk] at ho; cases ho; cases hc).trans hk⟩
theorem ownsRow_stays {W W' : World} {N : Nat} {e : TypeId} {sz k : Nat} {v : Value} {xs : List Value} (h : W.ownsRow N e sz v k xs) (hs : Stays W W') : W'.ownsRow N e sz v k xs := by
  refine ⟨h.1, ?_⟩
  rcases h.2 with h2 | ⟨g, cap, cur, h2, h3, h4, h5⟩
  · exact .inl h2
  · exact .inr ⟨g, cap, cur, h2, h3, hs.2 _ _ _ _ h4, h5⟩
theorem Stays.box {W W' : World} (hs : Stays W W') {k : Nat} {t : TypeId} {v : Value} (h : Boxed W k t v) : Boxed W' k t v := hs.2 _ _ _ _ h
theorem keeps_below {W W' : World} (h : Below W.heap.size W W') : KeepsOthers W W' := ⟨h.size, fun k o hk _ => (h.block k (Array.getElem?_eq_some_iff.1 hk).1).trans hk⟩
theorem own_shape {W : World} {N sz k : Nat} {e : TypeId} {v : Value} {xs : List Value} (h : W.ownsRow N e sz v k xs) : ∃ q1 q2 q3, v = .slice q1 q2 q3 := by
  rcases h.2 with ⟨rfl, _⟩ | ⟨g, cap, cur, rfl, _⟩
  · exact ⟨_, _, _, rfl⟩
  · exact ⟨_, _, _, rfl⟩
theorem ownsRow_putObj {W : World} {D B sz k : Nat} {e : TypeId} {v : Value} {xs : List Value} {o : Obj} (h : W.ownsRow B e sz v k xs) (o' : Obj) (hl : W.heap[D]? = some o) (ho : o.isCells = false) : (W.putObj D o').ownsRow B e sz v k xs :=
  ownsRow_stays h (stays_own (grownBy_putObj' W D o') (fun r e => by cases e; exact ⟨o, hl, ho⟩))
/-- Behind an append to a boxed row and the store of it: every block of cells but the box and the row. -/
theorem stays_appended {W w1 : World} {N sz m B k : Nat} {e t : TypeId} {v u : Value} {xs : List Value} {tmp : Obj} {cs : Array Value} {fr : Nat × Nat} (hr : W.ownsRow N e sz v m xs) (hgrow : (W.alloc tmp).grownBy w1 v.ownBlock) (hk : W.heap[k]? = some (.cells cs t fr)) (hne : k ≠ B) (ht : t ≠ e) :
    (w1.setCell ⟨B, 0, none⟩ u).heap[k]? = some (.cells cs t fr) := by
  have lt := (Array.getElem?_eq_some_iff.1 hk).1
  rw [heap_setCell_other _ _ _ _ hne]
  refine (hgrow.block k (by rw [World.size_alloc]; omega) fun e => ?_).trans ((Below.heap_alloc W tmp k lt).trans hk)
  rcases hr.2 with ⟨rfl, _⟩ | ⟨g, cap, cur, rfl, _, hgb, _⟩
  · simp [Value.ownBlock] at e
  · simp only [Value.ownBlock, Option.some.injEq] at e
    subst e
    rw [hk] at hgb; cases hgb; exact ht rfl
end Go.Proofs.Ytkkedofbnmjgeaa
