/-
  The contracts of code.Text and of the document's own, and of the document's PutText: each answers the plain mathematics' ordered text. Condition: a text of a length that there is (the document's PutText: at most 2^31 bytes).
-/
import Derived.Test.YtkkedofbnmjgeaaCodePutText
import Derived.Laws.AppendOwn
import Derived.OwnWalk
import Derived.Laws.DeepStrings4
namespace Go.Proofs.Ytkkedofbnmjgeaa
set_option maxRecDepth 100000
open Go.RowKit
theorem ownsRow_but {w w' : World} {base : Nat} {e : TypeId} {size : Nat} {v : Value} {n b : Nat} {xs : List Value} (h : w.ownsRow base e size v n xs) (hb : But b w w') (hlt : b < base) : w'.ownsRow base e size v n xs := by
  refine ⟨h.1, ?_⟩
  rcases h.2 with h2 | ⟨g, cap, cur, h1, h2, h3, h4⟩
  · exact Or.inl h2
  · refine Or.inr ⟨g, cap, cur, h1, h2, ?_, h4⟩
    have hg : g < w.heap.size := (Array.getElem?_eq_some_iff.1 h3).1
    rw [hb.block g hg (by omega)]; exact h3
theorem cur_grown {w w' : World} {b k : Nat} {s : ByteArray} {row : Option Nat} (h : CurAt w b s k) (hg : w.grownBy w' row) (hr : ∀ r, row = some r → b < r) : CurAt w' b s k := by
  have hb := hg.block b h.lt (fun e => by have := hr b e.symm; omega)
  refine ⟨?_, ?_, ?_⟩
  · have := h.c0; unfold World.cell? at this ⊢; rw [hb]; exact this
  · have := h.c1; unfold World.cell? at this ⊢; rw [hb]; exact this
  · have := h.f1; unfold World.frozen? at this ⊢; rw [hb]; exact this
theorem World.alloc_cur {w : World} {b k : Nat} {s : ByteArray} {o : Obj} (h : CurAt w b s k) : CurAt (w.alloc o) b s k := h.below (below_alloc w o) h.lt
def bytesRowOf (l : List UInt8) : List Value := l.map fun c => .int .u8 (c.toNat : Int)
theorem own_text {w : World} {base : Nat} {v : Value} {n : Nat} {l : List UInt8} (h : w.ownsRow base 5 1 v n (bytesRowOf l)) (x : World) (hx : ∀ a, x.cell? a = w.cell? a) : (convert 84 9 v).run Try.prog x = .ok (.string ⟨l.toArray⟩) x := by
  have hl : l.length = n := by have := h.1; simpa [bytesRowOf] using this
  rcases h.2 with ⟨rfl, rfl⟩ | ⟨g, cap, cur, rfl, h2, h3, h4, h5, h6, h7⟩
  · obtain rfl := List.length_eq_zero_iff.1 hl
    rw [run_convert_bytes_string x 84 9 5 none 0 0 Try.underlying84 Try.underlying5 Try.underlying9]
    rfl
  · subst hl
    refine run_convert_bytes_back x _ _ 5 ⟨g, 0, none⟩ cap l Try.underlying84 Try.underlying5 Try.underlying9 ?_
    intro j hj
    have ha : (⟨g, 0, none⟩ : Addr).add j = ⟨g, j, none⟩ := by
      unfold Addr.add
      split
      · rename_i h0; rw [h0]
      · simp
    rw [ha, hx]
    have e1 : (bytesRowOf l)[j]? = some (.int .u8 (l[j].toNat : Int)) := by unfold bytesRowOf; simp [hj]
    rw [← h7, List.getElem?_take] at e1
    split at e1
    · unfold World.cell?
      rw [h3]
      simpa using e1
    · cases e1
/-- How much a cursor has ahead. -/
def curLeft (w : World) (b n : Nat) : Nat := n - (intOf ((w.cell? ⟨b, 1, none⟩).getD undef)).toNat
theorem CurAt.left {w : World} {b k : Nat} {s : ByteArray} (h : CurAt w b s k) (n : Nat) : curLeft w b n = n - k := by
  unfold curLeft; rw [h.c1]; simp [intOf]
theorem info8 : (Try.prog.info? 5).map (fun i => (i.zero, i.size, i.bytes)) = some (some (.int .u8 0), 1, 1) := by kernel_rfl
theorem new_cell (w : World) (x : Int) (t : TypeId) (j : Nat) (u : Value) (hj : ([Value.int .u8 x])[j]? = some u) : (w.alloc (.cells #[.int .u8 x] t)).cell? ((⟨w.heap.size, 0, none⟩ : Addr).add j) = some u := by
  cases j with
  | zero => simp at hj; subst hj; simp [Addr.add]
  | succ j => simp at hj
theorem extract_one (s : ByteArray) (k : Nat) (h : k < s.size) : s.extract k (k + 1) = ⟨#[s[k]]⟩ := by
  apply ByteArray.ext
  apply Array.toList_inj.1
  rw [ByteArray.data_extract, Array.toList_extract]
  have hl : k < s.data.toList.length := by simpa using h
  rw [List.extract_eq_take_drop, Nat.add_sub_cancel_left, List.drop_eq_getElem_cons hl]
  rfl
theorem slice_one (s : ByteArray) (k : Nat) (h : k < s.size) (w : World) : (Instr.slice 9 (.string s) (some (.int .i64 (k : Int))) (some (.int .i64 ((k : Int) + 1))) none).run Try.prog w = .ok (.string ⟨#[s[k]]⟩) w := by
  rw [run_slice_string_if w 9 s .i64 .i64 _ _ Try.underlying9, if_pos ⟨by omega, by omega⟩, if_pos ⟨by omega, by omega⟩]
  have e1 : (k : Int).toNat = k := by omega
  have e2 : ((k : Int) + 1).toNat = k + 1 := by omega
  rw [e1, e2, extract_one s k h]
end Go.Proofs.Ytkkedofbnmjgeaa
