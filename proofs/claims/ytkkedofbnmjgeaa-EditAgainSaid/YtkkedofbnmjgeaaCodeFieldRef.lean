/-
  The contracts of the document's own Field and PutField. Condition: as those of the program's.
-/
import Derived.Test.YtkkedofbnmjgeaaCodeField
import Derived.Test.YtkkedofbnmjgeaaCodeUintRef
namespace Go.Proofs.Ytkkedofbnmjgeaa
set_option maxRecDepth 100000
open Go.RowKit
set_option maxRecDepth 100000 in
set_option maxHeartbeats 4000000 in
theorem reffield_any (s : ByteArray) (hs : s.size ≤ reachBytes) (x : Int) (hx : -9223372036854775808 ≤ x ∧ x ≤ 9223372036854775807) (w : World) :
    Calls Try.prog 68 #[.string s, .int .i64 x] w fun e w' =>
      e = .returned (.tuple #[.string ⟨(Code.rdField s.data.toList x).1.toArray⟩, .int .i64 ((Code.rdField s.data.toList x).2.1 : Int), .int .i64 ((Code.rdField s.data.toList x).2.2 : Int)]) ∧ w' = w := by
  have hs' := reach_max hs
  have hsz := Code.rd_size s.data.toList
  have hfit := Code.rd_fits s.data.toList
  have hE := Code.rd_err 0 s.data.toList
  have hn := fun w => refuint_any s hs' w
  have hlen : s.data.toList.length = s.size := by simp
  rw [hlen] at hsz
  have hF : Hid (Code.rdField s.data.toList x = if (Code.rd 0 s.data.toList).2.2 ≠ 0 then ([], 0, (Code.rd 0 s.data.toList).2.2) else if x < (Code.rd 0 s.data.toList).1 then ([], 0, 3) else if s.size - (Code.rd 0 s.data.toList).2.1 < (Code.rd 0 s.data.toList).1 then ([], 0, 6) else ((s.data.toList.drop (Code.rd 0 s.data.toList).2.1).take (Code.rd 0 s.data.toList).1, (Code.rd 0 s.data.toList).2.1 + (Code.rd 0 s.data.toList).1, 0)) := Lib.hid (by rw [← hlen]; rfl)
  obtain ⟨⟨n, k, e⟩, HR⟩ := named (Code.rd 0 s.data.toList)
  simp only [← HR.out] at hn
  rw [← HR.out] at hE hsz hfit hF
  obtain ⟨T, HT⟩ := named (Code.rdField s.data.toList x)
  rw [← HT.out] at hF ⊢
  have HN := Lib.hid hn
  clear hn hlen
  have hsz : k ≤ s.size := hsz
  have hfit : n < 2 ^ 64 := hfit
  have hs2 := hs
  unfold reachBytes at hs2
  go_enter Try.func68, Try.ntmps68
  go_wp2_with fail
  refine (HN.out _).mono ?_
  rintro e' w1 ⟨rfl, rfl⟩
  rcases hE with h0 | ⟨h67, _, _⟩
  · have h0 : e = 0 := h0
    subst h0
    by_cases hlong : x < (n : Int)
    · by_cases hneg : x < 0
      · go_wp2
        go_returns
        have := hF.out
        rw [if_neg (by simp), if_pos hlong] at this
        rw [this]
        exact ⟨rfl, rfl⟩
      · have hpos : 0 ≤ x := by omega
        go_wp2
        go_returns
        have := hF.out
        rw [if_neg (by simp), if_pos hlong] at this
        rw [this]
        exact ⟨rfl, rfl⟩
    · have hpos : 0 ≤ x := by omega
      have hnl : (n : Int) ≤ x := by omega
      have hd0 : 0 ≤ (s.size : Int) - (k : Int) := by omega
      by_cases hshort : s.size - k < n
      · have hns : Hid (s.size - k < n) := hshort
        have hd1 : (s.size : Int) - (k : Int) < (n : Int) := by omega
        go_wp2
        go_returns
        have := hF.out
        rw [if_neg (by simp), if_neg (show ¬ x < (n : Int) by omega), if_pos hns.out] at this
        rw [this]
        exact ⟨rfl, rfl⟩
      · have hd1 : (n : Int) ≤ (s.size : Int) - (k : Int) := by omega
        have hT := hF.out
        rw [if_neg (by simp), if_neg (show ¬ x < (n : Int) by omega), if_neg hshort] at hT
        have HT2 := Lib.hid hT
        clear hT
        have hsl : (Instr.slice 9 (.string s) (some (.int .i64 (k : Int))) (some (.int .i64 ((k : Int) + (n : Int)))) none).run Try.prog w1 = .ok (.string (s.extract k (k + n))) w1 := by
          rw [run_slice_string_if w1 9 s .i64 .i64 _ _ Try.underlying9, if_pos ⟨by omega, by omega⟩, if_pos ⟨by omega, by omega⟩]
          have e1 : (k : Int).toNat = k := by omega
          have e2 : ((k : Int) + (n : Int)).toNat = k + n := by omega
          rw [e1, e2]
        go_wp2
        go_returns
        rw [HT2.out, field_list]
        exact ⟨rfl, rfl⟩
  · have h67 : e = 6 ∨ e = 7 := h67
    have hz : ((e : Int) == 0) = false := beq_eq_false_iff_ne.2 (by omega)
    have hz2 : ((e : Int) != 0) = true := bne_iff_ne.2 (by omega)
    have hne : Hid (¬ e = 0) := Lib.hid (by omega)
    go_wp2
    go_returns
    have := hF.out
    rw [if_pos hne.out] at this
    rw [this]
    exact ⟨rfl, rfl⟩
end Go.Proofs.Ytkkedofbnmjgeaa
