/-
  A row as a value and in a block of its own; a row stands ahead, as the laws say it. No condition.
-/
import Derived.Test.YtkkedofbnmjgeaaSkipMath
import Derived.Handy
namespace Go.Proofs.Ytkkedofbnmjgeaa
set_option maxRecDepth 100000
open Go.RowKit
theorem cell_keep {w w2 : World} (hb : Below w.heap.size w w2) {b o : Nat} {v : Value} (h : w.cell? ⟨b, o, none⟩ = some v) : w2.cell? ⟨b, o, none⟩ = some v := (hb.cell (p := ⟨b, o, none⟩) (World.block_lt_of_cell? _ _ h)).trans h
/-- A row as a value. -/
abbrev rowV (x : Rw) : Value := .agg #[.string x.key, .int .u64 (x.seq : Int), .int .i64 x.kind, .string x.val]
/-- A row stands ahead, as the laws say it. -/
theorem ahd_parts (x : Rw) (k : ByteArray) (q : Nat) :
    (Op.bytesLess x.key.toList k.toList = true ∧ ahd x k q = true) ∨ (Op.bytesLess x.key.toList k.toList = false ∧ (x.key.toList == k.toList) = true ∧ ahd x k q = decide ((q : Int) < (x.seq : Int))) ∨ (Op.bytesLess x.key.toList k.toList = false ∧ (x.key.toList == k.toList) = false ∧ ahd x k q = false) := by
  have e2 : (decide (q < x.seq) : Bool) = decide ((q : Int) < (x.seq : Int)) := by congr 1; simp
  unfold ahd
  rw [less_before]
  by_cases e : x.key.toList = k.toList
  · rw [if_pos e]
    right; left
    exact ⟨by rw [e, WideAt.bytes_irrefl], by simpa using e, e2⟩
  · rw [if_neg e]
    cases h : bytesBefore x.key.toList k.toList with
    | true => exact .inl ⟨rfl, rfl⟩
    | false => exact .inr (.inr ⟨rfl, by simpa using e, rfl⟩)
theorem grown_below {w w2 w3 : World} {o : Obj} {e : TypeId} {size n : Nat} {v : Value} {xs : List Value} (h : Below w.heap.size w w2) (hr : w2.ownsRow w.heap.size e size v n xs) (hg : (w2.alloc o).grownBy w3 v.ownBlock) : Below w.heap.size w w3 := by
  have h1 := h.alloc h.size o
  exact h1.grown hg h1.size (fun k hk => (World.ownsRow.lt hr k hk).1)
end Go.Proofs.Ytkkedofbnmjgeaa
