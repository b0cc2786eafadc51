/-
  What Build has made: a block, or nothing. No model's run in this text. No condition.
-/
import Derived.Test.YtnmlifagchdphaaBlockMath2
import Derived.Test.YtnmlifagchdphaaSliceArg
import Derived.Test.YtnmlifagchdphaaBlockSeek
import Derived.Test.YtnmlifagchdphaaBlockAwake
namespace Go.Proofs.Ytnmlifagchdphaa
set_option maxRecDepth 100000
open Go.RowKit
theorem buildB_err {l : List Rw} {d : Int} (h : (buildB l d).2 ≠ 0) : (buildB l d).1 = [] := by
  unfold buildB at h ⊢
  split
  · rfl
  · rename_i h1
    rw [if_neg h1] at h
    split at h
    · rename_i h2; rw [if_pos h2]
    · exact absurd rfl h
theorem buildB_ok {l : List Rw} {d : Int} (h : (buildB l d).2 = 0) : chkA l d = 0 ∧ (blkB d.toNat l).length ≤ 65536 ∧ (buildB l d).1 = blkB d.toNat l := by
  unfold buildB at h ⊢
  by_cases h1 : chkA l d = 0
  · rw [if_neg (by simpa using h1)] at h ⊢
    split at h
    · cases h
    · rename_i h2; rw [if_neg h2]; exact ⟨h1, by omega, rfl⟩
  · rw [if_pos h1] at h
    exact absurd h h1
theorem buildB_isB' {l : List Rw} {d : Int} (h : (buildB l d).2 = 0) : ∃ D : Nat, d = (D : Int) ∧ IsB (buildB l d).1 l D := by
  obtain ⟨h1, h2, h3⟩ := buildB_ok h
  obtain ⟨k1, _⟩ := chkA_ok h1
  refine ⟨d.toNat, by omega, ?_, h3, by rw [h3]; exact h2⟩
  rw [show ((d.toNat : Nat) : Int) = d by omega]
  exact h1
theorem SeekD.yes {L : List UInt8} {l : List Rw} {D q : Nat} {k : ByteArray} {w w' : World} {e : Ending} (h : SeekD L k q w e w') (hB : IsB L l D) : ∃ a c b o, e = .returned (.tuple #[.slice a (l.length - plc l k q) c, .int .i64 0]) ∧ Rs a (l.length - plc l k q) c b o (l.drop (plc l k q)) w' ∧ Below w.heap.size w w' := by
  rcases h with ⟨l', d', a, c, b, o, h1, h2⟩ | ⟨hno, _⟩
  · obtain ⟨rfl, rfl⟩ := isB_one hB h1
    exact ⟨a, c, b, o, h2⟩
  · exact absurd hB (hno l D)
theorem RowsD.yes {L : List UInt8} {l : List Rw} {D : Nat} {w w' : World} {e : Ending} (h : RowsD L w e w') (hB : IsB L l D) : ∃ a c b, e = .returned (.tuple #[.slice a l.length c, .int .i64 0]) ∧ Rs a l.length c b 0 l w' ∧ Below w.heap.size w w' := by
  rcases h with ⟨l', d', a, c, b, h1, h2, h3, _, h4⟩ | ⟨hno, _⟩
  · obtain ⟨rfl, rfl⟩ := isB_one hB h1
    exact ⟨a, c, b, h2, h3, h4⟩
  · exact absurd hB (hno l D)
end Go.Proofs.Ytnmlifagchdphaa
