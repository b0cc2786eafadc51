/-
  The contracts of code.PutText, of the document's own, and of code.PutField. Condition: a text of at most 2^31 bytes; the library's one variable holds some number.
-/
import Derived.Test.YtkkedofbnmjgeaaCodeOrd
import Derived.Test.YtkkedofbnmjgeaaShelf
import Derived.Deep.RegionWith
namespace Go.Proofs.Ytkkedofbnmjgeaa
set_option maxRecDepth 100000
open Go.RowKit
theorem below_after1 {w w' : World} {o : Obj} (h : Below (w.alloc o).drew.heap.size (w.alloc o).drew w') : Below w.heap.size w w' :=
  (below_alloc w o).drew.trans (h.mono (by show w.heap.size ≤ (w.alloc o).heap.size; simp))
theorem below_after2 {w w' : World} {o o' : Obj} (h : Below ((w.alloc o).alloc o').drew.heap.size ((w.alloc o).alloc o').drew w') : Below w.heap.size w w' :=
  ((below_alloc w o).alloc (by simp) o').drew.trans (h.mono (by show w.heap.size ≤ ((w.alloc o).alloc o').heap.size; simp; omega))
theorem two_text (x y : UInt8) (u : World) (g : Nat) (h0 : u.cell? ⟨g, 0, none⟩ = some (.int .u8 (x.toNat : Int))) (h1 : u.cell? ⟨g, 1, none⟩ = some (.int .u8 (y.toNat : Int))) :
    (convert 84 9 (.slice (some ⟨g, 0, none⟩) 2 2)).run Try.prog u = .ok (.string ⟨#[x, y]⟩) u := by
  have := run_convert_bytes_arg (P := Try.prog) u 84 5 Try.underlying84 Try.underlying5 g 0 2 2 [(x.toNat : Int), (y.toNat : Int)] rfl (by
    intro i hi
    rcases (show i = 0 ∨ i = 1 by omega) with rfl | rfl
    · exact h0
    · exact h1) 9 Try.underlying9
  rw [this]
  congr 2
  simp [strOfNums]
theorem putfield_any (t : ByteArray) (ht : t.size ≤ reachBytes) (w : World) :
    Calls Try.prog 53 #[.string t] w fun e w' => e = .returned (.string ⟨(Code.uvar t.size ++ t.data.toList).toArray⟩) ∧ Below w.heap.size w w' := by
  unfold reachBytes at ht
  have hl := Code.uvar_ten (n := t.size) (by omega)
  have C := putuint_any t.size (by omega)
  obtain ⟨V, hV⟩ := named (Code.uvar t.size)
  rw [← hV.out] at hl C ⊢
  have CC := Lib.hid C
  clear C
  have hcon : (⟨V.toArray⟩ : ByteArray) ++ t = ⟨(V ++ t.data.toList).toArray⟩ := by
    apply ByteArray.ext; rw [ByteArray.data_append]; apply Array.toList_inj.1; simp
  go_enter Try.func53, Try.ntmps53
  go_wp2_with (go_at_call 52; ((with_reducible refine (CC.out _).mono ?_); rintro e w' ⟨rfl, hb⟩))
  go_ret
  exact ⟨by rw [← hcon]; rfl, hb⟩
end Go.Proofs.Ytkkedofbnmjgeaa
