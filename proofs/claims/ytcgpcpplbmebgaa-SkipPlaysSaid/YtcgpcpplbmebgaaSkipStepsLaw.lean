/-
  SkipSteps: a search goes past no more rows than there are, and, where all are one high, past those that are ahead. No condition.
-/
import Derived.Test.YtcgpcpplbmebgaaSkipAwake
import Derived.Test.YtcgpcpplbmebgaaSkipMath2
import Derived.Test.YtcgpcpplbmebgaaSliceArg
import Derived.Test.YtcgpcpplbmebgaaLaidOut
namespace Go.Proofs.Ytcgpcpplbmebgaa
open Go.RowKit
attribute [local go_sem] eq_node ne_node eq_list
abbrev zeroList : Obj := .cells #[.pointer none, .pointer none, .pointer none, .pointer none, .pointer none, .pointer none, .pointer none, .pointer none, .pointer none, .pointer none, .pointer none, .pointer none, .int .i64 0, .int .i64 0] 29
theorem num_at {a : Option Addr} {n c b o : Nat} {l : List Int} {w : World} (h : SlOf 1 cellsI a n c b o l w) {j : Nat} (hj : j < n) : ∃ x, l[j]? = some x ∧ a = some ⟨b, o, none⟩ ∧ w.cell? ⟨b, o + j, none⟩ = some (.int .i64 x) := by
  obtain ⟨x, hx⟩ : ∃ x, l[j]? = some x := ⟨_, List.getElem?_eq_getElem (by rw [h.len]; exact hj)⟩
  refine ⟨x, hx, (h.addr (by omega)).1, ?_⟩
  have := h.at' j x hx 0 _ rfl
  rw [Nat.mul_one, Nat.add_zero] at this
  exact this
/-- A list of a zoo, and what else a call may know of it. -/
theorem zoo_two (w : World) : Zoo w.heap.size [(w.heap.size, []), (w.heap.size + 1, [])] ((w.alloc zeroList).alloc zeroList) ∧ Below w.heap.size w ((w.alloc zeroList).alloc zeroList) := by
  have h1 := (Zoo.nil w.heap.size w).new (Nat.le_refl _)
  have h2 := h1.new (by rw [World.size_alloc]; omega)
  rw [World.size_alloc] at h2
  exact ⟨h2, below_of (below_alloc _ _) (below_alloc _ _)⟩
--LAW freshetlaw08.SkipSteps steps_walk rows:ra nums:ha string:key uint64:sq
--BEGIN
namespace SkipStepsProof
open Go.ChangeShapes Go.WideShapes Go.ChangeAt Go.RowKit
open Go.ChangeMaps (open_string shut_string)
theorem own : ownKnob Try.prog.godebug = none := by kernel_rfl
end SkipStepsProof
--END
end Go.Proofs.Ytcgpcpplbmebgaa
