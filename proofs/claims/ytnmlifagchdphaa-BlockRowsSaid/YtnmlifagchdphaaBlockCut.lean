/-
  The contracts of cutNumber and cutField. Condition: texts of at most 2^20 bytes.
-/
import Derived.Test.YtnmlifagchdphaaBlockBehind
import Derived.Test.YtnmlifagchdphaaCodeField
namespace Go.Proofs.Ytnmlifagchdphaa
set_option maxRecDepth 100000
open Go.RowKit
theorem uint_list (L : List UInt8) (h : L.length ≤ 1048576) (w : World) :
    Calls Try.prog 52 #[.string ⟨L.toArray⟩] w fun e w' => e = .returned (.tuple #[.int .u64 ((Code.rd 0 L).1 : Int), .int .i64 ((Code.rd 0 L).2.1 : Int), .int .i64 ((Code.rd 0 L).2.2 : Int)]) ∧ Below w.heap.size w w' :=
  uint_any ⟨L.toArray⟩ (by rw [ofList_size]; unfold maxLen; omega) w
theorem field_list' (L : List UInt8) (h : L.length ≤ 1048576) (x : Int) (hx : 0 ≤ x ∧ x ≤ 4096) (w : World) :
    Calls Try.prog 53 #[.string ⟨L.toArray⟩, .int .i64 x] w fun e w' => e = .returned (.tuple #[.string ⟨(Code.rdField L x).1.toArray⟩, .int .i64 ((Code.rdField L x).2.1 : Int), .int .i64 ((Code.rdField L x).2.2 : Int)]) ∧ Below w.heap.size w w' :=
  field_any ⟨L.toArray⟩ (by rw [ofList_size]; unfold reachBytes; omega) x (by omega) w
set_option maxRecDepth 100000 in
set_option maxHeartbeats 2000000 in
theorem cutnum_any (L : List UInt8) (h : L.length ≤ 1048576) (w : World) :
    Calls Try.prog 46 #[.string ⟨L.toArray⟩] w fun e w' => e = .returned (.tuple #[.int .u64 ((Code.rd 0 L).1 : Int), .string ⟨(L.drop (Code.rd 0 L).2.1).toArray⟩, .bool (decide ((Code.rd 0 L).2.2 = 0))]) ∧ Below w.heap.size w w' := by
  have U := Lib.hid (uint_list L h w)
  have S := slL_from L (Code.rd 0 L).2.1 (Code.rd_size L) _ rfl
  obtain ⟨⟨n, k, e⟩, hR⟩ := named (Code.rd 0 L)
  rw [← hR.out] at U S ⊢
  simp only at U S ⊢
  obtain ⟨T, hT⟩ := named (L.drop k)
  rw [← hT.out] at S ⊢
  obtain ⟨B, hB⟩ := named (decide (e = 0))
  rw [← hB.out]
  have g : (((e : Nat) : Int) == 0) = B := by rw [hB.out, Bool.eq_iff_iff]; simp
  go_enter Try.func46, Try.ntmps46
  go_wp2_with (go_at_call 52; ((with_reducible refine U.out.mono ?_); rintro e w1 ⟨rfl, hb1⟩))
  go_quiet (fail)
  go_wp2_with fail
  go_returns
  exact ⟨rfl, below_drewN hb1⟩
theorem rdField_size (L : List UInt8) (x : Int) : (Code.rdField L x).2.1 ≤ L.length := by
  rcases Code.rdField_err L x with h | ⟨_, _, h⟩
  · exact (Code.put_field L x h).2.1
  · rw [h]; omega
set_option maxRecDepth 100000 in
set_option maxHeartbeats 2000000 in
theorem cutfld_any (L : List UInt8) (h : L.length ≤ 1048576) (x : Int) (hx : 0 ≤ x ∧ x ≤ 4096) (w : World) :
    Calls Try.prog 47 #[.string ⟨L.toArray⟩, .int .i64 x] w fun e w' => e = .returned (.tuple #[.string ⟨(Code.rdField L x).1.toArray⟩, .string ⟨(L.drop (Code.rdField L x).2.1).toArray⟩, .bool (decide ((Code.rdField L x).2.2 = 0))]) ∧ Below w.heap.size w w' := by
  have U := Lib.hid (field_list' L h x hx w)
  have S := slL_from L (Code.rdField L x).2.1 (rdField_size L x) _ rfl
  obtain ⟨⟨n, k, e⟩, hR⟩ := named (Code.rdField L x)
  rw [← hR.out] at U S ⊢
  simp only at U S ⊢
  obtain ⟨T, hT⟩ := named (L.drop k)
  rw [← hT.out] at S ⊢
  obtain ⟨B, hB⟩ := named (decide (e = 0))
  rw [← hB.out]
  have g : (((e : Nat) : Int) == 0) = B := by rw [hB.out, Bool.eq_iff_iff]; simp
  go_enter Try.func47, Try.ntmps47
  go_wp2_with (go_at_call 53; ((with_reducible refine U.out.mono ?_); rintro e w1 ⟨rfl, hb1⟩))
  go_quiet (fail)
  go_wp2_with fail
  go_returns
  exact ⟨rfl, below_drewN hb1⟩
end Go.Proofs.Ytnmlifagchdphaa
