/-
  A row as a value and in a block of its own; a row stands ahead, as the laws say it. No condition.
-/
import Derived.Test.YtkkegdhnkefogaaSkipMath
import Derived.Handy
namespace Go.Proofs.Ytkkegdhnkefogaa
set_option maxRecDepth 100000
open Go.RowKit
theorem cell_keep {w w2 : World} (hb : Below w.heap.size w w2) {b o : Nat} {v : Value} (h : w.cell? ⟨b, o, none⟩ = some v) : w2.cell? ⟨b, o, none⟩ = some v := (hb.cell (p := ⟨b, o, none⟩) (World.block_lt_of_cell? _ _ h)).trans h
/-- A row as a value. -/
abbrev rowV (x : Rw) : Value := .agg #[.string x.key, .int .u64 (x.seq : Int), .int .i64 x.kind, .string x.val]
/-- A row in a block of its own. -/
def RowAt (b : Nat) (x : Rw) (w : World) : Prop := w.heap[b]? = some (.cells #[.string x.key, .int .u64 (x.seq : Int), .int .i64 x.kind, .string x.val] 42 (0, 0))
theorem RowAt.below {b : Nat} {x : Rw} {w w' : World} (h : RowAt b x w) (hb : Below w.heap.size w w') : RowAt b x w' := (hb.block b (Array.getElem?_eq_some_iff.1 h).1).trans h
theorem RowAt.cells {b : Nat} {x : Rw} {w : World} (h : RowAt b x w) : (w.cell? ⟨b, 0, none⟩ = some (.string x.key) ∧ w.cell? ⟨b, 1, none⟩ = some (.int .u64 (x.seq : Int)) ∧ w.cell? ⟨b, 2, none⟩ = some (.int .i64 x.kind) ∧ w.cell? ⟨b, 3, none⟩ = some (.string x.val)) ∧ ∀ o, w.frozen? ⟨b, o, none⟩ = false := by
  unfold RowAt at h
  exact ⟨by simp [World.cell?, h], fun o => by simp [World.frozen?, h]⟩
theorem RowAt.new (x : Rw) (w : World) : RowAt w.heap.size x (w.alloc (.cells #[.string x.key, .int .u64 (x.seq : Int), .int .i64 x.kind, .string x.val] 42)) := heap_alloc_new _ _
/-- A row stands ahead, as the laws say it. -/
theorem ahd_parts (x : Rw) (k : ByteArray) (q : Nat) :
    (Op.bytesLess x.key.toList k.toList = true ∧ ahd x k q = true) ∨ (Op.bytesLess x.key.toList k.toList = false ∧ (x.key.toList == k.toList) = true ∧ ahd x k q = decide ((q : Int) < (x.seq : Int))) ∨ (Op.bytesLess x.key.toList k.toList = false ∧ (x.key.toList == k.toList) = false ∧ ahd x k q = false) := by
  have e2 : (decide (q < x.seq) : Bool) = decide ((q : Int) < (x.seq : Int)) := by congr 1; simp
  unfold ahd
  rw [less_before]
  by_cases e : x.key.toList = k.toList
  · rw [if_pos e]
    right; left
    exact ⟨by rw [e, WideAt.bytes_irrefl], by simpa using e, e2⟩
  · rw [if_neg e]
    cases h : bytesBefore x.key.toList k.toList with
    | true => exact .inl ⟨rfl, rfl⟩
    | false => exact .inr (.inr ⟨rfl, by simpa using e, rfl⟩)
theorem rs_row_at {w : World} {B : Nat} {a : Option Addr} {n c : Nat} {l : List Rw} (h : w.ownsRow B 42 4 (.slice a n c) n (rowR l)) (hl : l.length = n) : ∃ b, Rs a n c b 0 l w := by
  subst hl
  obtain ⟨a', c', b, e, r, _⟩ := rs_of_row h
  cases e
  exact ⟨b, r⟩
theorem grown_below {w w2 w3 : World} {o : Obj} {e : TypeId} {size n : Nat} {v : Value} {xs : List Value} (h : Below w.heap.size w w2) (hr : w2.ownsRow w.heap.size e size v n xs) (hg : (w2.alloc o).grownBy w3 v.ownBlock) : Below w.heap.size w w3 := by
  have h1 := h.alloc h.size o
  exact h1.grown hg h1.size (fun k hk => (World.ownsRow.lt hr k hk).1)
end Go.Proofs.Ytkkegdhnkefogaa
