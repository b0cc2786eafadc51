/-
  How a batch's writes lie in memory. No condition.
-/
import Derived.Test.YtaanclnppfpocaaBatchMath
import Derived.Test.YtaanclnppfpocaaRows
import Derived.Laws.NewBlocks
namespace Go.Proofs.Ytaanclnppfpocaa
open Go.RowKit
/-- The writes lie one behind the other from ⟨b, o⟩ on. -/
def WrsAt (b o : Nat) (l : List Wr) (w : World) : Prop :=
  ∀ (j : Nat) x, l[j]? = some x → w.cell? ⟨b, o + j * 3, none⟩ = some (.int .i64 x.kind) ∧ w.cell? ⟨b, o + j * 3 + 1, none⟩ = some (.string x.key) ∧ w.cell? ⟨b, o + j * 3 + 2, none⟩ = some (.string x.val)
/-- A slice of writes. -/
structure Ws (a : Option Addr) (n c b o : Nat) (l : List Wr) (w : World) : Prop where
  len : l.length = n
  cap : n ≤ c
  most : c ≤ 9223372036854775807
  addr : 0 < n → a = some ⟨b, o, none⟩ ∧ b < w.heap.size
  at' : WrsAt b o l w
  fit : ∀ x ∈ l, x.key.size ≤ reachBytes ∧ x.val.size ≤ reachBytes
theorem WrsAt.keep {b o : Nat} {l : List Wr} {w w' : World} (h : WrsAt b o l w) (hk : w'.heap[b]? = w.heap[b]?) : WrsAt b o l w' := fun j x hx => by
  have e : ∀ a, w'.cell? ⟨b, a, none⟩ = w.cell? ⟨b, a, none⟩ := fun a => World.cell?_of_block (a := ⟨b, a, none⟩) hk
  rw [e, e, e]; exact h j x hx
theorem WrsAt.nil (b o : Nat) (w : World) : WrsAt b o [] w := fun j x h => by cases h
theorem Ws.keep {a : Option Addr} {n c b o : Nat} {l : List Wr} {w w' : World} (h : Ws a n c b o l w) (hk : 0 < n → w'.heap[b]? = w.heap[b]?) (hs : w.heap.size ≤ w'.heap.size) : Ws a n c b o l w' := by
  refine ⟨h.len, h.cap, h.most, fun h0 => ⟨(h.addr h0).1, Nat.lt_of_lt_of_le (h.addr h0).2 hs⟩, ?_, h.fit⟩
  by_cases h0 : 0 < n
  · exact h.at'.keep (hk h0)
  · have : l = [] := List.length_eq_zero_iff.1 (by rw [h.len]; omega)
    subst this
    exact WrsAt.nil _ _ _
theorem Ws.below {B : Nat} {a : Option Addr} {n c b o : Nat} {l : List Wr} {w w' : World} (h : Ws a n c b o l w) (hb : Below B w w') (hB : w.heap.size ≤ B) : Ws a n c b o l w' := h.keep (fun h0 => hb.block b (Nat.lt_of_lt_of_le (h.addr h0).2 hB)) hb.size
/-- A batch as a value. -/
abbrev batchV (seq : Nat) (a : Option Addr) (n c : Nat) : Value := .agg #[.int .u64 (seq : Int), .slice a n c]
theorem box_batch (w : World) (seq : Nat) (v : Value) : (w.alloc (.cells #[.int .u64 (seq : Int), v] 25)).cell? ⟨w.heap.size, 0, none⟩ = some (.int .u64 (seq : Int)) ∧ (w.alloc (.cells #[.int .u64 (seq : Int), v] 25)).cell? ⟨w.heap.size, 1, none⟩ = some v := by
  constructor <;> (rw [World.cell?_alloc_new]; rfl)
end Go.Proofs.Ytaanclnppfpocaa
