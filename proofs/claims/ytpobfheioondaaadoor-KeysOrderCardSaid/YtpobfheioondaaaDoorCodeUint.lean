/-
  The contracts of code.Uint, code.PutUint and of the document's own: each answers the plain mathematics' short number. Condition: a text of a length that there is; a number of 64 bits.
-/
import Derived.Test.YtpobfheioondaaaDoorCodeCur
import Derived.Test.YtpobfheioondaaaDoorHolds
import Derived.Outline
namespace Go.Proofs.YtpobfheioondaaaDoor
open Go.RowKit
theorem makes_func : ∀ (fn : Fn) (first cap : Array Value) (w : World), (Instr.makeFunc fn first cap).run Tryd.prog w = .ok (.func fn first cap) w := fun _ _ _ _ => rfl
theorem cur_new (w : World) (s : ByteArray) (t : TypeId) : CurAt (w.alloc (.cells #[.string s, .int .i64 0] t)) w.heap.size s 0 :=
  ⟨by rw [World.cell?_alloc_new]; rfl, by rw [World.cell?_alloc_new]; rfl, World.frozen?_alloc_new _ _ _ _⟩
theorem below_but {w w' : World} {o : Obj} (h : But w.heap.size (w.alloc o) w') : Below w.heap.size w w' := (below_alloc w o).trans (h.below (Nat.le_refl _) (by simp))
theorem holds8_take {w : World} {g : Nat} {l : List UInt8} (h : Holds8 w g l) (n : Nat) : Holds8 w g (l.take n) := by
  intro q hq
  have : q < l.length := by rw [List.length_take] at hq; omega
  rw [List.getElem_take]
  exact h q this
theorem holds8_put {w : World} {g : Nat} {l : List UInt8} (h : Holds8 w g l) (q : Nat) (hq : q < l.length) (x : Int) (y : UInt8) (hx : x = (y.toNat : Int)) : Holds8 (w.setCell ⟨g, q, none⟩ (.int .u8 x)) g (l.set q y) := by
  subst hx; exact holds8_set h q hq y
theorem text_one (v : World) (y : UInt8) (x : Int) (hx : x = (y.toNat : Int)) (t : TypeId) : (convert 45 9 (.slice (some ⟨v.heap.size, 0, none⟩) 1 1)).run Tryd.prog (v.alloc (.cells #[.int .u8 x] t)) = .ok (.string ⟨#[y]⟩) (v.alloc (.cells #[.int .u8 x] t)) := by
  subst hx
  refine holds8_text (l := [y]) ?_ 1 1 rfl
  intro q hq
  have : q = 0 := by simpa using hq
  subst this
  exact ⟨by rw [World.cell?_alloc_new]; rfl, World.frozen?_alloc_new _ _ _ _⟩
theorem getD_byte (s : ByteArray) (k : Nat) (h : k < s.size) : s.data.toList.getD k 0 = s[k] := by
  rw [List.getD_eq_getElem?_getD, Lib.data_getElem? s k h]; rfl
theorem drop_byte (s : ByteArray) (k : Nat) (h : k < s.size) : s.data.toList.drop k = s[k] :: s.data.toList.drop (k + 1) := List.drop_eq_getElem_cons (by simpa using h)
end Go.Proofs.YtpobfheioondaaaDoor
