/-
  A block of bytes that a call made: what it holds, what a store into it leaves, what text it is. No condition.
-/
import Derived.Test.YtkkedofbnmjgeaaRows
import Derived.Test.YtkkedofbnmjgeaaKit
import Derived.Laws.IdiomStrings
namespace Go.Proofs.Ytkkedofbnmjgeaa
set_option maxRecDepth 100000
open Go.RowKit
/-- Block g holds just these bytes at its head, and they may be written. -/
def Holds8 (w : World) (g : Nat) (l : List UInt8) : Prop := ∀ q (h : q < l.length), w.cell? ⟨g, q, none⟩ = some (.int .u8 (l[q].toNat : Int)) ∧ w.frozen? ⟨g, q, none⟩ = false
theorem holds8_set {w : World} {g : Nat} {l : List UInt8} (h : Holds8 w g l) (q : Nat) (hq : q < l.length) (y : UInt8) : Holds8 (w.setCell ⟨g, q, none⟩ (.int .u8 (y.toNat : Int))).drew g (l.set q y) := by
  intro r hr
  rw [List.length_set] at hr
  rw [World.cell?_drew]
  refine ⟨?_, (World.frozen?_setCell _ _ _ _).trans (h r hr).2⟩
  by_cases e : q = r
  · subst e
    rw [World.cell?_setCell_same _ _ _ (h q hq).1, List.getElem_set_self]
  · rw [World.cell?_setCell_other _ _ _ _ (by simp), (h r hr).1, List.getElem_set_ne e]
theorem holds8_turn {w : World} {g : Nat} {l : List UInt8} (h : Holds8 w g l) (q : Nat) (hq : q < l.length) (c : UInt8) : Holds8 (w.setCell ⟨g, q, none⟩ (.int .u8 ((l[q] ^^^ c).toNat : Int))).drew g (l.modify q (· ^^^ c)) := by
  have e : l.modify q (· ^^^ c) = l.set q (l[q] ^^^ c) := by
    apply List.ext_getElem?
    intro j
    rw [List.getElem?_modify, List.getElem?_set]
    by_cases hj : q = j
    · subst hj; simp [hq]
    · simp [hj]
  rw [e]
  exact holds8_set h q hq _
theorem holds8_made (w : World) (b : ByteArray) (c : Nat) : Holds8 (w.alloc (.cells (bytesRow b c) 5 ((bytesRow b c).size, (bytesRow b c).size + 1))).drew w.heap.size b.data.toList := by
  intro q hq
  have hz : q < b.data.size := by simpa using hq
  have hs : q < (bytesRow b c).size := by unfold bytesRow; rw [Array.size_append, Array.size_map]; omega
  have e1 : (bytesRow b c)[q]? = some (.int .u8 (b.data.toList[q].toNat : Int)) := by
    unfold bytesRow
    rw [Array.getElem?_append_left (by rw [Array.size_map]; exact hz), Array.getElem?_map, Array.getElem?_eq_getElem hz]
    simp
  refine ⟨?_, ?_⟩
  · rw [World.cell?_drew, World.cell?_alloc_mark, e1]
  · show (w.alloc _).frozen? _ = false
    rw [World.frozen?_alloc_mark]
    simp; omega
theorem holds8_text {w : World} {g : Nat} {l : List UInt8} (h : Holds8 w g l) (n c : Nat) (hn : l.length = n) : (convert 84 9 (.slice (some ⟨g, 0, none⟩) n c)).run Try.prog w = .ok (.string ⟨l.toArray⟩) w := by
  subst hn
  refine run_convert_bytes_back w _ _ 5 ⟨g, 0, none⟩ c l Try.underlying84 Try.underlying5 Try.underlying9 ?_
  intro j hj
  have : (⟨g, 0, none⟩ : Addr).add j = ⟨g, j, none⟩ := by
    unfold Addr.add
    split
    · rename_i h0; rw [h0]
    · simp
  rw [this]
  exact (h j hj).1
theorem xor8_byte (x y : UInt8) : bits .xor .u8 (x.toNat : Int) (y.toNat : Int) = ((x ^^^ y).toNat : Int) := by
  have e : ∀ z : UInt8, BitVec.ofInt 8 (z.toNat : Int) = z.toBitVec := fun z => by
    rw [BitVec.ofInt_natCast]; apply BitVec.eq_of_toNat_eq; rw [BitVec.toNat_ofNat]; have := UInt8.toNat_lt z; show z.toNat % 256 = z.toNat; omega
  show IntKind.u8.wrap (((BitVec.ofInt 8 (x.toNat : Int) ^^^ BitVec.ofInt 8 (y.toNat : Int)).toNat : Nat) : Int) = _
  rw [e, e, IntKind.wrap_u8]
  have h2 : (x.toBitVec ^^^ y.toBitVec).toNat = (x ^^^ y).toNat := rfl
  rw [h2]
  have := UInt8.toNat_lt (x ^^^ y)
  omega
theorem holds8_alloc {w : World} {g : Nat} {l : List UInt8} (h : Holds8 w g l) (hg : g < w.heap.size) (o : Obj) : Holds8 (w.alloc o) g l := fun q hq =>
  ⟨(World.cell?_alloc_lt _ _ _ hg).trans (h q hq).1, (World.frozen?_alloc_old _ _ _ (Nat.ne_of_lt hg)).trans (h q hq).2⟩
theorem holds8_drew {w : World} {g : Nat} {l : List UInt8} (h : Holds8 w g l) : Holds8 w.drew g l := h
theorem holds8_below {u w : World} {g : Nat} {l : List UInt8} (hb : Below u.heap.size u w) (hg : g < u.heap.size) (h : Holds8 u g l) : Holds8 w g l := fun q hq =>
  ⟨(hb.cell (p := ⟨g, q, none⟩) hg).trans (h q hq).1, (hb.frozen (p := ⟨g, q, none⟩) hg).trans (h q hq).2⟩
theorem holds8_zeros (w : World) (n : Nat) : Holds8 (w.alloc (.cells (madeCells #[.int .u8 0] n) 5)) w.heap.size (List.replicate n 0) := by
  intro q hq
  rw [List.length_replicate] at hq
  refine ⟨?_, World.frozen?_alloc_at _ _ _ _ rfl⟩
  rw [World.cell?_alloc_new, ← Array.getElem?_toList, toList_madeCells_one]
  simp [hq]
end Go.Proofs.Ytkkedofbnmjgeaa
