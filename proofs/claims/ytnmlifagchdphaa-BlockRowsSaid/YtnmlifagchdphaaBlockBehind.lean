/-
  The contracts of Builder.Len and behind. Condition: texts of less than 2^33 bytes.
-/
import Derived.Test.YtnmlifagchdphaaBlockNum
import Derived.Test.YtnmlifagchdphaaBuilder
namespace Go.Proofs.Ytnmlifagchdphaa
set_option maxRecDepth 100000
open Go.RowKit
set_option maxRecDepth 100000 in
set_option maxHeartbeats 1000000 in
theorem bld_len {B b : Nat} {l : List UInt8} {w : World} (h : Bld B b l w) :
    Calls Try.prog 27 #[.pointer (some ⟨b, 0, none⟩)] w fun e w' => e = .returned (.int .i64 (l.length : Int)) ∧ Below w.heap.size w w' := by
  have hbl := Lib.byteCells_length l
  have K : ∃ v c, w.cell? ⟨b, 1, none⟩ = some (.slice v l.length c) := by
    rcases h with h | h
    all_goals (
      obtain ⟨hB, v, hbk, hown, hne⟩ := h
      have c1 : w.cell? ⟨b, 1, none⟩ = some v := by rw [Lib.cell_of_heap hbk]; rfl
      rcases hown.2 with ⟨rfl, hz⟩ | ⟨g, cap, cur, rfl, _⟩
      · rw [hbl] at hz
        rw [c1, hz]
        exact ⟨_, _, rfl⟩
      · rw [c1, hbl]
        exact ⟨_, _, rfl⟩)
  obtain ⟨v, c, c1⟩ := K
  clear h hbl
  go_enter Try.func27, Try.ntmps27
  go_wp2_with fail
  go_returns
  exact ⟨rfl, Below.refl _ _⟩
set_option maxRecDepth 100000 in
set_option maxHeartbeats 2000000 in
theorem behind_any (r : List UInt8) (hr : r.length < 8589934592) (d : Nat) (hd : d < 4294967296) (w : World) :
    Calls Try.prog 29 #[.string ⟨r.toArray⟩, .int .i64 (d : Int)] w fun e w' => e = .returned (.string ⟨(tailB r d).toArray⟩) ∧ Below w.heap.size w w' := by
  have P1 := Lib.hid (putnum_any (r.length / 4) (by omega))
  have P2 := Lib.hid (putnum_any d hd)
  obtain ⟨q, hq⟩ := named (r.length / 4)
  have e1 : ((r.length : Int)) / 4 = (q : Int) := by rw [hq.out]; omega
  have e2 : (r.toArray.size : Int) / 4 = (q : Int) := by rw [List.size_toArray]; exact e1
  have z1 : ¬ 9223372036854775807 < r.length + (le4 q).length := by rw [le4_len]; omega
  have z2 : ¬ 9223372036854775807 < r.length + (le4 q).length + (le4 d).length := by rw [le4_len, le4_len]; omega
  rw [← hq.out] at P1
  have TB : Hid (tailB r d = r ++ le4 q ++ le4 d) := Lib.hid (by rw [hq.out]; rfl)
  obtain ⟨X, hX⟩ := named (tailB r d)
  rw [← hX.out] at TB ⊢
  clear hX hq
  go_enter Try.func29, Try.ntmps29
  go_wp2_with (first
    | (go_at_call 26; ((with_reducible refine (P1.out _).mono ?_); rintro e w1 ⟨rfl, hb1⟩))
    | (go_at_call 26; ((with_reducible refine (P2.out _).mono ?_); rintro e w2 ⟨rfl, hb2⟩)))
  go_returns
  exact ⟨by rw [TB.out, ← cat_ba, ← cat_ba]; rfl, below_of hb1 hb2⟩
end Go.Proofs.Ytnmlifagchdphaa
