/-
  How the translated operations on bytes and on 64 bits read as plain numbers. No condition.
-/
import Derived.Test.YtkkedofbnmjgeaaCodeMath
import Derived.Test.YtkkedofbnmjgeaaKit
namespace Go.Proofs.Ytkkedofbnmjgeaa
set_option maxRecDepth 100000
open Go.RowKit
theorem wrap_u64_nat {n : Nat} (h : n < 2 ^ 64) : IntKind.u64.wrap (n : Int) = n := by
  rw [IntKind.wrap_u64]; omega
theorem or64_nat {a b : Nat} (ha : a < 2 ^ 64) (hb : b < 2 ^ 64) : bits .or .u64 (a : Int) (b : Int) = ((a ||| b : Nat) : Int) := by
  show IntKind.u64.wrap (((BitVec.ofInt 64 (a : Int) ||| BitVec.ofInt 64 (b : Int)).toNat : Nat) : Int) = _
  rw [BitVec.ofInt_natCast, BitVec.ofInt_natCast, BitVec.toNat_or, BitVec.toNat_ofNat, BitVec.toNat_ofNat, Nat.mod_eq_of_lt ha, Nat.mod_eq_of_lt hb]
  exact wrap_u64_nat (Nat.or_lt_two_pow ha hb)
theorem andNot128_all : ∀ n : Fin 256, bits .andNot .u8 (n.val : Int) 128 = ((n.val % 128 : Nat) : Int) := by decide +kernel
theorem andNot128 (c : UInt8) : bits .andNot .u8 (c.toNat : Int) 128 = ((c.toNat % 128 : Nat) : Int) := andNot128_all ⟨c.toNat, UInt8.toNat_lt c⟩
theorem or128_all : ∀ n : Fin 256, bits .or .u8 (n.val : Int) 128 = ((n.val % 128 + 128 : Nat) : Int) := by decide +kernel
theorem or128 (c : Nat) (h : c < 256) : bits .or .u8 (c : Int) 128 = ((c % 128 + 128 : Nat) : Int) := or128_all ⟨c, h⟩
theorem part_code (acc i : Nat) (c : UInt8) (hi : i ≤ 9) (ha : acc < 128 ^ i) (h9 : i = 9 → c.toNat ≤ 1) :
    bits .or .u64 (acc : Int) (IntKind.u64.wrap (IntKind.u64.wrap (bits .andNot .u8 (c.toNat : Int) 128) * 2 ^ (7 * i))) = ((acc + 128 ^ i * (c.toNat % 128) : Nat) : Int) := by
  have hp : (128 : Nat) ^ i = 2 ^ (7 * i) := by rw [Nat.pow_mul]
  have hb : 128 ^ i * (c.toNat % 128) < 2 ^ 64 := by
    by_cases h : i = 9
    · subst h; have := h9 rfl
      have : c.toNat % 128 ≤ 1 := by omega
      have := Nat.mul_le_mul_left (128 ^ 9) this
      omega
    · have h8 := Code.pow_le (i := i) (j := 8) (by omega)
      have := Nat.mul_le_mul h8 (show c.toNat % 128 ≤ 127 by omega)
      omega
  have hacc : acc < 2 ^ 64 := by
    have := Code.pow_le (i := i) (j := 9) hi
    omega
  rw [andNot128, wrap_u64_nat (by omega)]
  have e : ((c.toNat % 128 : Nat) : Int) * 2 ^ (7 * i) = ((128 ^ i * (c.toNat % 128) : Nat) : Int) := by
    rw [hp]; simp [Int.mul_comm]
  rw [e, wrap_u64_nat hb, or64_nat hacc hb]
  rw [hp] at ha ⊢
  rw [Nat.add_comm, Nat.two_pow_add_eq_or_of_lt ha, Nat.or_comm]
end Go.Proofs.Ytkkedofbnmjgeaa
