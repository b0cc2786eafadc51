/-
  The contracts of keys.Group and of the document's own: each answers the same group. Condition: a text of a length that there is.
-/
import Derived.Test.YtpobfheioondaaaDoorKeysCheck
import Derived.Test.YtpobfheioondaaaDoorSumHash
import Derived.Handy
namespace Go.Proofs.YtpobfheioondaaaDoor
open Go.RowKit
/-- The group of a key among n, and the error's number. -/
def groupOf (key : List UInt8) (n : Int) : Int × Nat := if n < 1 ∨ 64 < n then (0, 2) else (((Crc.hash 0#32 key).toNat : Int) % n, 0)
set_option maxHeartbeats 1000000 in
theorem group_any (s : ByteArray) (hs : s.size ≤ maxLen) (n : Int) (w : World) :
    Calls Tryd.prog 25 #[.string s, .int .i64 n] w fun e w' => e = .returned (.tuple #[.int .i64 (groupOf s.data.toList n).1, .int .i64 ((groupOf s.data.toList n).2 : Int)]) ∧ Below w.heap.size w w' := by
  have c1 := fun v => hash_any 0#32 s v hs
  have z : ((0#32 : BitVec 32).toNat : Int) = 0 := rfl
  rw [z] at c1
  have hlt := bv_lt (Crc.hash 0#32 s.data.toList)
  unfold groupOf
  obtain ⟨R, hR⟩ := named (Crc.hash 0#32 s.data.toList)
  rw [← hR.out] at c1 hlt ⊢
  have C1 := Lib.hid c1
  clear c1 z
  by_cases h1 : n < 1
  · rw [if_pos (Or.inl h1)]
    go_enter Tryd.func25, Tryd.ntmps25
    go_wp2
    go_returns
    exact ⟨rfl, Below.refl _ _⟩
  by_cases h2 : 64 < n
  · rw [if_pos (Or.inr h2)]
    go_enter Tryd.func25, Tryd.ntmps25
    go_wp2
    go_returns
    exact ⟨rfl, Below.refl _ _⟩
  rw [if_neg (by omega)]
  have h1' : 1 ≤ n := by omega
  have h2' : n ≤ 64 := by omega
  have e1 : n % 4294967296 = n := by omega
  have hn0 : ¬ n = 0 := by omega
  have hm1 : 0 ≤ (R.toNat : Int) % n := Int.emod_nonneg _ hn0
  have hm2 : (R.toNat : Int) % n < n := Int.emod_lt_of_pos _ (by omega)
  have HW : Hid (wrap64 ((R.toNat : Int) % n) = (R.toNat : Int) % n) := Lib.hid (by unfold wrap64; omega)
  clear h1 h2 hm1 hm2 hs hlt
  go_enter Tryd.func25, Tryd.ntmps25
  go_wp2_with (go_at_call 41; ((with_reducible refine (C1.out _).mono ?_); rintro e w' ⟨rfl, rfl⟩))
  go_returns
  refine ⟨?_, below_alloc _ _⟩
  simp [HW.out]
set_option maxHeartbeats 1000000 in
theorem refgroup_any (s : ByteArray) (hs : s.size ≤ maxLen) (n : Int) (w : World) :
    Calls Tryd.prog 26 #[.string s, .int .i64 n] w fun e w' => e = .returned (.tuple #[.int .i64 (groupOf s.data.toList n).1, .int .i64 ((groupOf s.data.toList n).2 : Int)]) ∧ Below w.heap.size w w' := by
  have c1 := fun v => refhash_any 0#32 s v hs
  have z : ((0#32 : BitVec 32).toNat : Int) = 0 := rfl
  rw [z] at c1
  have hlt := bv_lt (Crc.hash 0#32 s.data.toList)
  unfold groupOf
  obtain ⟨R, hR⟩ := named (Crc.hash 0#32 s.data.toList)
  rw [← hR.out] at c1 hlt ⊢
  have C1 := Lib.hid c1
  clear c1 z
  by_cases h1 : n < 1
  · rw [if_pos (Or.inl h1)]
    go_enter Tryd.func26, Tryd.ntmps26
    go_wp2
    go_returns
    exact ⟨rfl, Below.refl _ _⟩
  by_cases h2 : 64 < n
  · rw [if_pos (Or.inr h2)]
    go_enter Tryd.func26, Tryd.ntmps26
    go_wp2
    go_returns
    exact ⟨rfl, Below.refl _ _⟩
  rw [if_neg (by omega)]
  have h1' : 1 ≤ n := by omega
  have h2' : n ≤ 64 := by omega
  have e1 : n % 4294967296 = n := by omega
  have hn0 : ¬ n = 0 := by omega
  have hm1 : 0 ≤ (R.toNat : Int) % n := Int.emod_nonneg _ hn0
  have hm2 : (R.toNat : Int) % n < n := Int.emod_lt_of_pos _ (by omega)
  have HW : Hid (wrap64 ((R.toNat : Int) % n) = (R.toNat : Int) % n) := Lib.hid (by unfold wrap64; omega)
  clear h1 h2 hm1 hm2 hs hlt
  go_enter Tryd.func26, Tryd.ntmps26
  go_wp2_with (go_at_call 42; ((with_reducible refine (C1.out _).mono ?_); rintro e w' ⟨rfl, rfl⟩))
  go_returns
  refine ⟨?_, Below.refl _ _⟩
  simp [HW.out]
end Go.Proofs.YtpobfheioondaaaDoor
