/-
  The contracts of the document's own Bit and Make, over the plain filter. Condition: as the program's.
-/
import Derived.Test.YtccdbodemoefkaaDoorBloomText
namespace Go.Proofs.YtccdbodemoefkaaDoor
set_option maxRecDepth 100000
open Go.RowKit
theorem odd_bv (b : BitVec 32) : ((b ||| 1#32).toNat : Int) = if (b.toNat : Int) % 2 = 0 then (b.toNat : Int) + 1 else (b.toNat : Int) := by
  have h1 : (b ||| 1#32).toNat = b.toNat ||| 1 := by rw [BitVec.toNat_or]; rfl
  rw [h1]
  have h2 : b.toNat ||| 1 = 2 * (b.toNat / 2) + 1 := by
    have h : (b.toNat ||| 1) / 2 = b.toNat / 2 := by rw [Nat.or_div_two]; simp
    have h' : (b.toNat ||| 1) % 2 = 1 := Nat.or_mod_two_eq_one.2 (.inr rfl)
    omega
  rw [h2]
  split <;> omega
theorem idx_mul (key : List UInt8) (i : Nat) (hi : i < 4294967296) (B : BitVec 32) (hB : B = (Crc.hash 2#32 key ||| 1#32)) : (((Crc.hash 1#32 key).toNat : Int) + (i : Int) * (B.toNat : Int)) % 4294967296 = ((Blm.idx key i).toNat : Int) := by
  subst hB
  unfold Blm.idx
  rw [BitVec.toNat_add, BitVec.toNat_mul, BitVec.toNat_ofNat, Nat.mod_eq_of_lt hi, Nat.add_mod_mod]
  generalize (Crc.hash 1#32 key).toNat = a
  generalize (Crc.hash 2#32 key ||| 1#32).toNat = b
  rw [Int.natCast_emod, Int.natCast_add, Int.natCast_mul]
  rfl
theorem bit_any (key : ByteArray) (hkey : key.size ≤ maxLen) (i m : Nat) (hi : i ≤ 1000) (hm : 0 < m) (hm2 : m ≤ 268435456) (w : World) :
    Calls Tryd.prog 16 #[.string key, .int .i64 (i : Int), .int .u32 (m : Int)] w fun e w' => e = .returned (.int .u32 ((Blm.pos m key.data.toList i : Nat) : Int)) ∧ w' = w := by
  have hend := fun B h => idx_mul key.data.toList i (by omega) B h
  obtain ⟨H1, e1⟩ := named (Crc.hash 1#32 key.data.toList)
  obtain ⟨H2, e2⟩ := named (Crc.hash 2#32 key.data.toList)
  have C1 : ∀ u, Hid (Calls Tryd.prog 19 #[.int .u32 1, .string key] u fun e w' => e = .returned (.int .u32 (H1.toNat : Int)) ∧ w' = u) := fun u => Lib.hid ((refhash_any 1#32 key u hkey).mono fun e w' ⟨h, h'⟩ => ⟨by rw [h, e1.out], h'⟩)
  have C2 : ∀ u, Hid (Calls Tryd.prog 19 #[.int .u32 2, .string key] u fun e w' => e = .returned (.int .u32 (H2.toNat : Int)) ∧ w' = u) := fun u => Lib.hid ((refhash_any 2#32 key u hkey).mono fun e w' ⟨h, h'⟩ => ⟨by rw [h, e2.out], h'⟩)
  simp only [← e1.out, ← e2.out] at hend
  have ho := odd_bv H2
  obtain ⟨B, hB⟩ := named (H2 ||| 1#32)
  rw [← hB.out] at ho
  have he := Lib.hid (hend B hB.out)
  clear hend hkey
  have hp : ((Blm.pos m key.data.toList i : Nat) : Int) = ((Blm.idx key.data.toList i).toNat : Int) % (m : Int) := Int.natCast_emod _ _
  rw [hp]
  by_cases c : (H2.toNat : Int) % 2 = 0
  · rw [if_pos c] at ho
    have hB1 := B.isLt
    rw [ho] at he
    go_enter Tryd.func16, Tryd.ntmps16
    go_wp2_with (go_at_call 19; first | ((with_reducible refine (C1 _).out.mono ?_); rintro e w1 ⟨rfl, rfl⟩) | ((with_reducible refine (C2 _).out.mono ?_); rintro e w2 ⟨rfl, rfl⟩) | fail "no arm")
    rw [he.out]
    go_returns
    exact ⟨rfl, rfl⟩
  · rw [if_neg c] at ho
    rw [ho] at he
    go_enter Tryd.func16, Tryd.ntmps16
    go_wp2_with (go_at_call 19; first | ((with_reducible refine (C1 _).out.mono ?_); rintro e w1 ⟨rfl, rfl⟩) | ((with_reducible refine (C2 _).out.mono ?_); rintro e w2 ⟨rfl, rfl⟩) | fail "no arm")
    rw [he.out]
    go_returns
    exact ⟨rfl, rfl⟩
end Go.Proofs.YtccdbodemoefkaaDoor
