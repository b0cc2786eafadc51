/-
  How rows (api.Row) lie in memory, and the contract of the document's SameRows. No condition.
-/
import Derived.Test.YtkkedofbnmjgeaaKit
import Derived.Test.YtkkedofbnmjgeaaRows
import Derived.Test.YtkkedofbnmjgeaaBut
import Derived.Laws.OwnMore
import Derived.Handy
import Derived.Deep.QuietTactic
import Derived.BigQuiet
import Derived.Deep.Cut
import Derived.Deep.DeepCutAuto
namespace Go.Proofs.Ytkkedofbnmjgeaa
set_option maxRecDepth 100000
open Go.RowKit
theorem bytes_inj {s t : ByteArray} (h : s.toList = t.toList) : s = t := by
  rw [ByteArray.toList_eq, ByteArray.toList_eq] at h
  exact ByteArray.ext (Array.toList_inj.1 h)
/-- A row. -/
structure Rw where
  key : ByteArray
  seq : Nat
  kind : Int
  val : ByteArray
/-- Rows as cells. -/
def rowR (l : List Rw) : List Value := l.flatMap fun x => [.string x.key, .int .u64 (x.seq : Int), .int .i64 x.kind, .string x.val]
theorem rowR_len (l : List Rw) : (rowR l).length = l.length * 4 := by
  induction l with
  | nil => rfl
  | cons x r ih => show ([_, _, _, _] ++ rowR r).length = _; rw [List.length_append, ih]; simp; omega
theorem rowR_snoc (l : List Rw) (x : Rw) : rowR (l ++ [x]) = rowR l ++ [.string x.key, .int .u64 (x.seq : Int), .int .i64 x.kind, .string x.val] := by simp [rowR]
theorem rowR_app (l k : List Rw) : rowR (l ++ k) = rowR l ++ rowR k := by simp [rowR]
theorem rowR_at : ∀ (l : List Rw) (j : Nat) {x : Rw}, l[j]? = some x → (rowR l)[j * 4]? = some (.string x.key) ∧ (rowR l)[j * 4 + 1]? = some (.int .u64 (x.seq : Int)) ∧ (rowR l)[j * 4 + 2]? = some (.int .i64 x.kind) ∧ (rowR l)[j * 4 + 3]? = some (.string x.val)
  | [], _, _, h => by cases h
  | y :: r, 0, x, h => by
    obtain rfl : y = x := by simpa using h
    exact ⟨rfl, rfl, rfl, rfl⟩
  | y :: r, j + 1, x, h => by
    obtain ⟨h1, h2, h3, h4⟩ := rowR_at r j (x := x) (by simpa using h)
    refine ⟨?_, ?_, ?_, ?_⟩
    · show (_ :: _ :: _ :: _ :: rowR r)[(j + 1) * 4]? = _
      rw [show (j + 1) * 4 = j * 4 + 1 + 1 + 1 + 1 by omega]; simpa using h1
    · show (_ :: _ :: _ :: _ :: rowR r)[(j + 1) * 4 + 1]? = _
      rw [show (j + 1) * 4 + 1 = j * 4 + 1 + 1 + 1 + 1 + 1 by omega]; simpa using h2
    · show (_ :: _ :: _ :: _ :: rowR r)[(j + 1) * 4 + 2]? = _
      rw [show (j + 1) * 4 + 2 = j * 4 + 2 + 1 + 1 + 1 + 1 by omega]; simpa using h3
    · show (_ :: _ :: _ :: _ :: rowR r)[(j + 1) * 4 + 3]? = _
      rw [show (j + 1) * 4 + 3 = j * 4 + 3 + 1 + 1 + 1 + 1 by omega]; simpa using h4
/-- The rows lie one behind the other from ⟨b, o⟩ on. -/
def RwsAt (b o : Nat) (l : List Rw) (w : World) : Prop :=
  ∀ (j : Nat) x, l[j]? = some x → w.cell? ⟨b, o + j * 4, none⟩ = some (.string x.key) ∧ w.cell? ⟨b, o + j * 4 + 1, none⟩ = some (.int .u64 (x.seq : Int)) ∧ w.cell? ⟨b, o + j * 4 + 2, none⟩ = some (.int .i64 x.kind) ∧ w.cell? ⟨b, o + j * 4 + 3, none⟩ = some (.string x.val)
/-- A slice of rows. -/
structure Rs (a : Option Addr) (n c b o : Nat) (l : List Rw) (w : World) : Prop where
  len : l.length = n
  cap : n ≤ c
  most : c ≤ 9223372036854775807
  addr : 0 < n → a = some ⟨b, o, none⟩ ∧ b < w.heap.size
  at' : RwsAt b o l w
theorem RwsAt.keep {b o : Nat} {l : List Rw} {w w' : World} (h : RwsAt b o l w) (hk : w'.heap[b]? = w.heap[b]?) : RwsAt b o l w' := fun j x hx => by
  have e : ∀ a, w'.cell? ⟨b, a, none⟩ = w.cell? ⟨b, a, none⟩ := fun a => World.cell?_of_block (a := ⟨b, a, none⟩) hk
  rw [e, e, e, e]; exact h j x hx
theorem RwsAt.nil (b o : Nat) (w : World) : RwsAt b o [] w := fun j x h => by cases h
theorem Rs.keep {a : Option Addr} {n c b o : Nat} {l : List Rw} {w w' : World} (h : Rs a n c b o l w) (hk : 0 < n → w'.heap[b]? = w.heap[b]?) (hs : w.heap.size ≤ w'.heap.size) : Rs a n c b o l w' := by
  refine ⟨h.len, h.cap, h.most, fun h0 => ⟨(h.addr h0).1, Nat.lt_of_lt_of_le (h.addr h0).2 hs⟩, ?_⟩
  by_cases h0 : 0 < n
  · exact h.at'.keep (hk h0)
  · have : l = [] := List.length_eq_zero_iff.1 (by rw [h.len]; omega)
    subst this
    exact RwsAt.nil _ _ _
theorem Rs.below {B : Nat} {a : Option Addr} {n c b o : Nat} {l : List Rw} {w w' : World} (h : Rs a n c b o l w) (hb : Below B w w') (hB : w.heap.size ≤ B) : Rs a n c b o l w' := h.keep (fun h0 => hb.block b (Nat.lt_of_lt_of_le (h.addr h0).2 hB)) hb.size
theorem Rs.at4 {a : Option Addr} {n c b o : Nat} {l : List Rw} {w : World} (h : Rs a n c b o l w) {j : Nat} (hj : j < n) : ∃ x, l[j]? = some x ∧ a = some ⟨b, o, none⟩ ∧ w.cell? ⟨b, o + j * 4, none⟩ = some (.string x.key) ∧ w.cell? ⟨b, o + j * 4 + 1, none⟩ = some (.int .u64 (x.seq : Int)) ∧ w.cell? ⟨b, o + j * 4 + 2, none⟩ = some (.int .i64 x.kind) ∧ w.cell? ⟨b, o + j * 4 + 3, none⟩ = some (.string x.val) := by
  obtain ⟨x, hx⟩ : ∃ x, l[j]? = some x := ⟨_, List.getElem?_eq_getElem (by rw [h.len]; exact hj)⟩
  exact ⟨x, hx, (h.addr (by omega)).1, h.at' j x hx⟩
theorem rw_eq {s1 s2 : Nat} {k1 k2 : Int} {a1 a2 v1 v2 : ByteArray} : (⟨a1, s1, k1, v1⟩ : Rw) = ⟨a2, s2, k2, v2⟩ ↔ a1.toList = a2.toList ∧ (s1 : Int) = (s2 : Int) ∧ k1 = k2 ∧ v1.toList = v2.toList := by
  simp only [Rw.mk.injEq]
  exact ⟨fun ⟨h1, h2, h3, h4⟩ => ⟨by rw [h1], by omega, h3, by rw [h4]⟩, fun ⟨h1, h2, h3, h4⟩ => ⟨bytes_inj h1, by omega, h3, bytes_inj h4⟩⟩
end Go.Proofs.Ytkkedofbnmjgeaa
