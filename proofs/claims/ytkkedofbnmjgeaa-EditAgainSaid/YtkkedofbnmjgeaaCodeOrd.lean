/-
  The contracts of code.Ord, code.PutOrd and of the document's own: each answers the plain mathematics' ordered number. Condition: a text of a length that there is; a number of 64 bits.
-/
import Derived.Test.YtkkedofbnmjgeaaCodeUint
namespace Go.Proofs.Ytkkedofbnmjgeaa
set_option maxRecDepth 100000
open Go.RowKit
theorem ord_up {n : Int} (h : -9223372036854775808 ≤ n ∧ n ≤ 9223372036854775807) : ∃ U : Nat, U < 2 ^ 64 ∧ n = (U : Int) - 9223372036854775808 := ⟨(n + 9223372036854775808).toNat, by omega, by omega⟩
theorem byte_div (U i : Nat) : ((U / 256 ^ i : Nat) : Int) % 256 = ((UInt8.ofNat (U / 256 ^ i)).toNat : Int) := by rw [UInt8.toNat_ofNat']; omega
theorem ord_in (U : Nat) (hU : U < 2 ^ 64) : IntKind.u64.wrap (IntKind.u64.wrap ((U : Int) - 9223372036854775808) + 9223372036854775808) = (U : Int) := by
  rw [IntKind.wrap_u64, IntKind.wrap_u64]; omega
theorem or_byte (u : Nat) (c : UInt8) (h : u * 256 + c.toNat < 2 ^ 64) : bits .or .u64 ((u : Int) * 256) (c.toNat : Int) = ((u * 256 + c.toNat : Nat) : Int) := by
  have hc := UInt8.toNat_lt c
  have h1 : u * 256 < 2 ^ 64 := Nat.lt_of_le_of_lt (Nat.le_add_right _ _) h
  have h2 : c.toNat < 2 ^ 64 := Nat.lt_of_le_of_lt (Nat.le_add_left _ _) h
  have e0 : ((u * 256 : Nat) : Int) = (u : Int) * 256 := Int.natCast_mul u 256
  have h3 := or64_nat h1 h2
  rw [e0] at h3
  rw [h3]
  have := Nat.two_pow_add_eq_or_of_lt (i := 8) (b := c.toNat) hc u
  rw [Nat.mul_comm] at this
  rw [← this]
theorem ord_out (U : Nat) (hU : U < 2 ^ 64) : IntKind.i64.wrap (IntKind.u64.wrap ((U : Int) - 9223372036854775808)) = (U : Int) - 9223372036854775808 := by
  rw [IntKind.wrap_u64, IntKind.wrap_i64]; omega
end Go.Proofs.Ytkkedofbnmjgeaa
