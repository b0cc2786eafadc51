/-
  How the translated operations on 32 bits read as operations on 32 bits in a row. No condition.
-/
import Derived.Test.YtccdbodemoefkaaDoorRows
import Derived.Test.YtccdbodemoefkaaDoorSumMath
import Derived.WalkKit
namespace Go.Proofs.YtccdbodemoefkaaDoor
set_option maxRecDepth 100000
open Go.RowKit
theorem ofInt_bv (a : BitVec 32) : BitVec.ofInt 32 (a.toNat : Int) = a := by
  rw [BitVec.ofInt_natCast, BitVec.ofNat_toNat, BitVec.setWidth_eq]
theorem bv_lt (a : BitVec 32) : (a.toNat : Int) < 4294967296 := by have := a.isLt; omega
theorem wrap_bv (a : BitVec 32) : IntKind.u32.wrap (a.toNat : Int) = a.toNat := by
  rw [IntKind.wrap_u32]; have := bv_lt a; omega
theorem xor_int (x y : Int) : bits .xor .u32 x y = ((BitVec.ofInt 32 x ^^^ BitVec.ofInt 32 y).toNat : Int) := wrap_bv _
theorem and_int (x y : Int) : bits .and .u32 x y = ((BitVec.ofInt 32 x &&& BitVec.ofInt 32 y).toNat : Int) := wrap_bv _
theorem xor_bv (a b : BitVec 32) : bits .xor .u32 (a.toNat : Int) (b.toNat : Int) = ((a ^^^ b).toNat : Int) := by rw [xor_int, ofInt_bv, ofInt_bv]
theorem ofInt_u8 (c : UInt8) : BitVec.ofInt 32 ((c.toNat : Int) % 4294967296) = c.toBitVec.setWidth 32 := by
  have h := UInt8.toNat_lt c
  have e : (c.toNat : Int) % 4294967296 = ((c.toNat : Nat) : Int) := by omega
  rw [e, BitVec.ofInt_natCast]
  apply BitVec.eq_of_toNat_eq
  simp
theorem xor_u8 (r : BitVec 32) (c : UInt8) : bits .xor .u32 (r.toNat : Int) ((c.toNat : Int) % 4294967296) = ((r ^^^ c.toBitVec.setWidth 32).toNat : Int) := by
  rw [xor_int, ofInt_bv, ofInt_u8]
theorem half_bv (r : BitVec 32) : BitVec.ofInt 32 ((r.toNat : Int) / 2) = r >>> 1 := by
  have e : (r.toNat : Int) / 2 = ((r.toNat / 2 : Nat) : Int) := by omega
  rw [e, BitVec.ofInt_natCast]
  apply BitVec.eq_of_toNat_eq
  have := r.isLt
  simp [Nat.shiftRight_eq_div_pow]; omega
theorem low_bv (r : BitVec 32) : r &&& 1#32 = if r.getLsbD 0 then 1#32 else 0#32 := by
  apply BitVec.eq_of_toNat_eq
  have h : (r &&& 1#32).toNat = r.toNat % 2 := by simp
  rw [h]
  have : r.getLsbD 0 = decide (r.toNat % 2 = 1) := by simp [BitVec.getLsbD, Nat.testBit_zero]
  rw [this]
  by_cases e : r.toNat % 2 = 1
  · simp [e]
  · simp [e]; omega
theorem step_code (r : BitVec 32) : bits .xor .u32 ((r.toNat : Int) / 2) (bits .and .u32 2197175160 (-bits .and .u32 (r.toNat : Int) 1 % 4294967296)) = ((Crc.step r).toNat : Int) := by
  have h1 : bits .and .u32 (r.toNat : Int) 1 = ((r &&& 1#32).toNat : Int) := by rw [and_int, ofInt_bv]; rfl
  rw [h1, low_bv, xor_int, half_bv]
  unfold Crc.step
  cases r.getLsbD 0
  · rfl
  · rfl
theorem step_odd (r : BitVec 32) (h : (r.toNat : Int) % 2 = 1) : bits .xor .u32 ((r.toNat : Int) / 2) 2197175160 = ((Crc.step r).toNat : Int) := by
  have e : r.getLsbD 0 = true := by simp [BitVec.getLsbD, Nat.testBit_zero]; omega
  rw [xor_int, half_bv]
  unfold Crc.step
  rw [e]; rfl
theorem step_even (r : BitVec 32) (h : ¬ (r.toNat : Int) % 2 = 1) : (r.toNat : Int) / 2 = ((Crc.step r).toNat : Int) := by
  have e : r.getLsbD 0 = false := by simp [BitVec.getLsbD, Nat.testBit_zero]; omega
  unfold Crc.step
  rw [e]
  simp [Nat.shiftRight_eq_div_pow]
theorem inv_code (r : BitVec 32) : bits .xor .u32 IntKind.u32.max (r.toNat : Int) = ((Crc.inv r).toNat : Int) := by
  have : BitVec.ofInt 32 IntKind.u32.max = BitVec.allOnes 32 := by decide
  rw [xor_int, ofInt_bv, this, BitVec.allOnes_xor]; rfl
theorem inv_code' (r : BitVec 32) : bits .xor .u32 (r.toNat : Int) 4294967295 = ((Crc.inv r).toNat : Int) := by
  rw [← inv_code, xor_int, xor_int, BitVec.xor_comm]; rfl
end Go.Proofs.YtccdbodemoefkaaDoor
