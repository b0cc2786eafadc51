/-
  The program's reader: meta, which reads a table's metadata. Condition: a text that came in.
-/
import Derived.Test.YtkkedofbnmjgeaaEditNil
import Derived.Test.YtkkedofbnmjgeaaEditReader
namespace Go.Proofs.Ytkkedofbnmjgeaa
set_option maxRecDepth 100000
open Go.RowKit
def rm1 (s : ByteArray) (f : Bool) := rnum s f
def rm2 (s : ByteArray) (f : Bool) := rup (rm1 s f).2.1 (rm1 s f).2.2 262144
def rm3 (s : ByteArray) (f : Bool) := rup (rm2 s f).2.1 (rm2 s f).2.2 262144
def rm4 (s : ByteArray) (f : Bool) := rkey (rm3 s f).2.1 (rm3 s f).2.2
def rm5 (s : ByteArray) (f : Bool) := rkey (rm4 s f).2.1 (rm4 s f).2.2
def rm6 (s : ByteArray) (f : Bool) := rnum (rm5 s f).2.1 (rm5 s f).2.2
def rm7 (s : ByteArray) (f : Bool) := rnum (rm6 s f).2.1 (rm6 s f).2.2
/-- What meta reads. -/
def rmeta (s : ByteArray) (f : Bool) : Mt × ByteArray × Bool :=
  (⟨(rm1 s f).1, ((rm2 s f).1 : Int), ((rm3 s f).1 : Int), ⟨(rm4 s f).1.toArray⟩, ⟨(rm5 s f).1.toArray⟩, (rm6 s f).1, (rm7 s f).1⟩, (rm7 s f).2)
abbrev rmO (x : Mt) : Obj := .cells #[.int .u64 (x.num : Int), .int .i64 x.size, .int .i64 x.rows, .string x.fst, .string x.lst, .int .u64 (x.least : Int), .int .u64 (x.gr : Int)] 40 (0, 0)
abbrev rzO : Obj := .cells #[.int .u64 0, .int .i64 0, .int .i64 0, .string ⟨#[]⟩, .string ⟨#[]⟩, .int .u64 0, .int .u64 0] 40 (0, 0)
abbrev rmPut (p : Nat) (x : Mt) (w : World) : World := ((((((w.setCell ⟨p, 0, none⟩ (.int .u64 (x.num : Int))).setCell ⟨p, 1, none⟩ (.int .i64 x.size)).setCell ⟨p, 2, none⟩ (.int .i64 x.rows)).setCell ⟨p, 3, none⟩ (.string x.fst)).setCell ⟨p, 4, none⟩ (.string x.lst)).setCell ⟨p, 5, none⟩ (.int .u64 (x.least : Int))).setCell ⟨p, 6, none⟩ (.int .u64 (x.gr : Int))
set_option maxHeartbeats 8000000 in
theorem rm_put {p : Nat} {w : World} (h : w.heap[p]? = some rzO) (x : Mt) : (rmPut p x w).heap[p]? = some (rmO x) :=
  (heap_setCell_same _ _ _ _ _ _ ((heap_setCell_same _ _ _ _ _ _ ((heap_setCell_same _ _ _ _ _ _ ((heap_setCell_same _ _ _ _ _ _ ((heap_setCell_same _ _ _ _ _ _ ((heap_setCell_same _ _ _ _ _ _ ((heap_setCell_same _ _ _ _ _ _ h).trans rfl)).trans rfl)).trans rfl)).trans rfl)).trans rfl)).trans rfl)).trans rfl
theorem rz_cells {p : Nat} {w : World} (h : w.heap[p]? = some rzO) : w.cell? ⟨p, 0, none⟩ = some (.int .u64 0) ∧ w.cell? ⟨p, 1, none⟩ = some (.int .i64 0) ∧ w.cell? ⟨p, 2, none⟩ = some (.int .i64 0) ∧ w.cell? ⟨p, 3, none⟩ = some (.string ⟨#[]⟩) ∧ w.cell? ⟨p, 4, none⟩ = some (.string ⟨#[]⟩) ∧ w.cell? ⟨p, 5, none⟩ = some (.int .u64 0) ∧ w.cell? ⟨p, 6, none⟩ = some (.int .u64 0) := by
  simp only [World.cell?, h]
  exact ⟨rfl, rfl, rfl, rfl, rfl, rfl, rfl⟩
theorem rm_cells {p : Nat} {w : World} {x : Mt} (h : w.heap[p]? = some (rmO x)) : w.cell? ⟨p, 0, none⟩ = some (.int .u64 (x.num : Int)) ∧ w.cell? ⟨p, 1, none⟩ = some (.int .i64 x.size) ∧ w.cell? ⟨p, 2, none⟩ = some (.int .i64 x.rows) ∧ w.cell? ⟨p, 3, none⟩ = some (.string x.fst) ∧ w.cell? ⟨p, 4, none⟩ = some (.string x.lst) ∧ w.cell? ⟨p, 5, none⟩ = some (.int .u64 (x.least : Int)) ∧ w.cell? ⟨p, 6, none⟩ = some (.int .u64 (x.gr : Int)) := by
  simp only [World.cell?, h]
  exact ⟨rfl, rfl, rfl, rfl, rfl, rfl, rfl⟩
theorem rz_frozen {p : Nat} {w : World} (h : w.heap[p]? = some rzO) : ∀ o, w.frozen? ⟨p, o, none⟩ = false := fun o => by simp [World.frozen?, h]
end Go.Proofs.Ytkkedofbnmjgeaa
