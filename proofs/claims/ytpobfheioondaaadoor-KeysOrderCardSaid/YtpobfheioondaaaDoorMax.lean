/-
  The library's one variable holds some number, and does behind each call that keeps what there was. No condition.
-/
import Derived.Test.YtpobfheioondaaaDoorKit
namespace Go.Proofs.YtpobfheioondaaaDoor
open Go.RowKit
/-- The library's variable holds m. -/
abbrev Max (w : World) (m : Int) : Prop := w.cell? ⟨0, 0, none⟩ = some (.int .i64 m)
theorem carry {u w' : World} {m : Int} (hb : Below u.heap.size u w') (h : Max u m) : Max w' m := (hb.cell (p := ⟨0, 0, none⟩) (World.block_lt_of_cell? _ _ h)).trans h
theorem Max.keep {B : Nat} {u w' : World} {m : Int} (h : Max u m) (hb : Below B u w') (hB : u.heap.size ≤ B) : Max w' m := (hb.cell (p := ⟨0, 0, none⟩) (Nat.lt_of_lt_of_le (World.block_lt_of_cell? _ _ h) hB)).trans h
theorem Max.alloc {u : World} {m : Int} (h : Max u m) (o : Obj) : Max (u.alloc o) m := (World.cell?_alloc_lt _ _ _ (World.block_lt_of_cell? _ _ h)).trans h
end Go.Proofs.YtpobfheioondaaaDoor
