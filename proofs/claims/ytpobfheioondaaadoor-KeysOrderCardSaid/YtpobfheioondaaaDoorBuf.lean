/-
  A slice of bytes that a call owns, carried from append to append: how it is born, which text it is. No condition.
-/
import Derived.Test.YtpobfheioondaaaDoorCodeText
import Derived.Lib.BufSteps
namespace Go.Proofs.YtpobfheioondaaaDoor
open Go.RowKit
theorem buf_born {W0 w : World} {B : Nat} (hb : Below B W0 w) (hB : B ≤ w.heap.size) (x : Int) (c : UInt8) (hx : x = (c.toNat : Int)) (g : Nat) (hg : g = w.heap.size) :
    Lib.OwnBuf B 5 (.slice (some ⟨g, 0, none⟩) 1 1) 1 (bytesRowOf [c]) W0 (w.alloc (.cells #[.int .u8 x] 5)) := by
  subst hx hg
  refine ⟨⟨rfl, Or.inr ⟨w.heap.size, 1, #[.int .u8 (c.toNat : Int)], (0, 0), rfl, hB, ?_, Nat.zero_le _, Nat.le_refl _, by unfold maxLen; omega, rfl, rfl⟩⟩, hb.alloc hB _, by rw [World.size_alloc]; omega⟩
  show (w.heap.push _)[w.heap.size]? = _
  simp
theorem row_snoc (l : List UInt8) (x : Int) (c : UInt8) (hx : x = (c.toNat : Int)) : bytesRowOf l ++ [.int .u8 x] = bytesRowOf (l ++ [c]) := by subst hx; simp [bytesRowOf]
theorem row_text (l : List UInt8) (s : ByteArray) : bytesRowOf l ++ Lib.strCells s = bytesRowOf (l ++ s.data.toList) := by simp [bytesRowOf, Lib.strCells]
theorem buf_text {W0 w : World} {B n : Nat} {v : Value} {l : List UInt8} (h : Lib.OwnBuf B 5 v n (bytesRowOf l) W0 w) : (convert 45 9 v).run Tryd.prog w = .ok (.string ⟨l.toArray⟩) w := by
  obtain ⟨h, _, _⟩ := h
  have hl : l.length = n := by have := h.1; simpa [bytesRowOf] using this
  rcases h.2 with ⟨rfl, rfl⟩ | ⟨g, cap, cur, fz, rfl, _⟩
  · obtain rfl := List.length_eq_zero_iff.1 hl
    rw [run_convert_bytes_string w 45 9 5 none 0 0 Tryd.underlying45 Tryd.underlying5 Tryd.underlying9]
    rfl
  · subst hl
    refine run_convert_bytes_back w _ _ 5 ⟨g, 0, none⟩ cap l Tryd.underlying45 Tryd.underlying5 Tryd.underlying9 ?_
    intro j hj
    exact h.cells (g := g) rfl j _ (by simp [bytesRowOf, hj])
theorem buf_keep {W0 w w' : World} {B n : Nat} {v : Value} {xs : List Value} (h : Lib.OwnBuf B 5 v n xs W0 w) (hb : Below w.heap.size w w') : Lib.OwnBuf B 5 v n xs W0 w' := by
  obtain ⟨h1, h2, h3⟩ := h
  refine ⟨⟨h1.1, ?_⟩, h2.trans (hb.mono h3), Nat.le_trans h3 hb.size⟩
  rcases h1.2 with hn | ⟨g, cap, cur, fz, rfl, hg, hh, rest⟩
  · exact .inl hn
  · exact .inr ⟨g, cap, cur, fz, rfl, hg, by rw [hb.block g (Array.getElem?_eq_some_iff.1 hh).1]; exact hh, rest⟩
end Go.Proofs.YtpobfheioondaaaDoor
