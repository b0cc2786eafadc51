/-
  The contracts of the cursor's steps, whatever the world. Condition: the cursor's two cells hold a text and a place in it.
-/
import Derived.Test.YtpobfheioondaaaDoorRows
import Derived.Test.YtpobfheioondaaaDoorCodeSpell
import Derived.Test.YtpobfheioondaaaDoorBut
import Derived.Test.YtpobfheioondaaaDoorFwd
import Derived.Test.YtpobfheioondaaaDoorShelf
import Derived.WalkKit
import Derived.IntWalk
import Derived.WalkMore
import Derived.RegionTactic
import Derived.BigQuiet
import Derived.ChangeAlike
import Derived.Deep.QuietTactic
import Derived.Handy
namespace Go.Proofs.YtpobfheioondaaaDoor
open Go.RowKit
/-- Block b is a cursor over s at place k. -/
structure CurAt (w : World) (b : Nat) (s : ByteArray) (k : Nat) : Prop where
  c0 : w.cell? ⟨b, 0, none⟩ = some (.string s)
  c1 : w.cell? ⟨b, 1, none⟩ = some (.int .i64 (k : Int))
  f1 : w.frozen? ⟨b, 1, none⟩ = false
theorem CurAt.lt {w : World} {b : Nat} {s : ByteArray} {k : Nat} (h : CurAt w b s k) : b < w.heap.size := World.block_lt_of_cell? _ _ h.c0
theorem CurAt.drewN {w : World} {b n : Nat} {s : ByteArray} {k : Nat} (h : CurAt w b s k) : CurAt (w.drewN n) b s k := ⟨h.c0, h.c1, h.f1⟩
theorem CurAt.set {w : World} {b : Nat} {s : ByteArray} {k : Nat} (h : CurAt w b s k) (j : Nat) : CurAt (w.setCell ⟨b, 1, none⟩ (.int .i64 (j : Int))) b s j :=
  ⟨by rw [World.cell?_setCell_other _ _ _ _ (by simp)]; exact h.c0, World.cell?_setCell_same _ _ _ h.c1, (World.frozen?_setCell _ _ _ _).trans h.f1⟩
theorem CurAt.below {B b k : Nat} {w w' : World} {s : ByteArray} (h : CurAt w b s k) (hb : Below B w w') (hB : b < B) : CurAt w' b s k :=
  ⟨(hb.cell (p := ⟨b, 0, none⟩) hB).trans h.c0, (hb.cell (p := ⟨b, 1, none⟩) hB).trans h.c1, (hb.frozen (p := ⟨b, 1, none⟩) hB).trans h.f1⟩
theorem next_none (s : ByteArray) (b k : Nat) (w : World) (h : CurAt w b s k) (hk : k = s.size) :
    Calls Tryd.prog 44 #[.pointer (some ⟨b, 0, none⟩)] w fun e w' => e = .returned (.tuple #[.int .u8 0, .bool false]) ∧ CurAt w' b s k ∧ But b w w' := by
  obtain ⟨h0, h1, hf⟩ := h
  subst hk
  go_enter Tryd.func44, Tryd.ntmps44
  go_wp2
  go_quiet (fail)
  go_wp2
  go_returns
  exact ⟨rfl, CurAt.drewN ⟨h0, h1, hf⟩, (But.refl _ _).drewN⟩
theorem next_some (s : ByteArray) (b k : Nat) (w : World) (h : CurAt w b s k) (hk : k < s.size) (hs : s.size ≤ maxLen) :
    Calls Tryd.prog 44 #[.pointer (some ⟨b, 0, none⟩)] w fun e w' => e = .returned (.tuple #[.int .u8 (s[k].toNat : Int), .bool true]) ∧ CurAt w' b s (k + 1) ∧ But b w w' := by
  unfold maxLen at hs
  obtain ⟨h0, h1, hf⟩ := h
  go_enter Tryd.func44, Tryd.ntmps44
  go_wp2
  go_quiet (fail)
  go_wp2
  go_quiet (fail)
  go_wp2
  go_returns
  exact ⟨rfl, (CurAt.drewN ⟨h0, h1, hf⟩).set (k + 1), ((But.refl b w).drewN (n := _)).setCell (p := ⟨b, 1, none⟩) rfl _⟩
/-- What number reads, by whatever closure steps as the cursor's next does. -/
theorem next_enters : ∀ (args : Array Value) (w : World), (callFunc 44 args).run Tryd.prog w = .ok (.enter 44 args) w := enters_of Tryd.func44 (by kernel_rfl) rfl
end Go.Proofs.YtpobfheioondaaaDoor
