/-
  The contracts of the seeded hash, the program's and the document's: both answer one plain number. Condition: a text of a length that there is.
-/
import Derived.Test.YtccdbodemoefkaaDoorSumCalls
namespace Go.Proofs.YtccdbodemoefkaaDoor
set_option maxRecDepth 100000
open Go.RowKit
namespace Crc
def hbyte (h : BitVec 32) (c : UInt8) : BitVec 32 := (h ^^^ c.toBitVec.setWidth 32) * 16777619#32
def mix (h : BitVec 32) : BitVec 32 := (h ^^^ (h >>> 15)) * 739982445#32
def mixes : Nat → BitVec 32 → BitVec 32
  | 0, h => h
  | n + 1, h => mix (mixes n h)
def start (seed : BitVec 32) : BitVec 32 := seed ^^^ 2166136261#32
def hash (seed : BitVec 32) (l : List UInt8) : BitVec 32 := mixes 3 (fold hbyte (start seed) l)
end Crc
theorem mul_bv (a : BitVec 32) (m : Nat) (hm : m < 4294967296) : (a.toNat : Int) * (m : Int) % 4294967296 = ((a * BitVec.ofNat 32 m).toNat : Int) := by
  rw [BitVec.toNat_mul, BitVec.toNat_ofNat, Nat.mod_eq_of_lt (show m < 2 ^ 32 by omega)]
  omega
theorem hbyte_code (r : BitVec 32) (c : UInt8) : bits .xor .u32 (r.toNat : Int) ((c.toNat : Int) % 4294967296) * 16777619 % 4294967296 = ((Crc.hbyte r c).toNat : Int) := by
  rw [xor_u8]; exact mul_bv _ 16777619 (by omega)
theorem shr15 (r : BitVec 32) : BitVec.ofInt 32 ((r.toNat : Int) / 32768) = r >>> 15 := by
  have e : (r.toNat : Int) / 32768 = ((r.toNat / 32768 : Nat) : Int) := by omega
  rw [e, BitVec.ofInt_natCast]
  apply BitVec.eq_of_toNat_eq
  have := r.isLt
  simp [Nat.shiftRight_eq_div_pow]; omega
theorem mixx_code (r : BitVec 32) : bits .xor .u32 (r.toNat : Int) ((r.toNat : Int) / 32768) = ((r ^^^ (r >>> 15)).toNat : Int) := by
  rw [xor_int, ofInt_bv, shr15]
theorem mix_code (r : BitVec 32) : bits .xor .u32 (r.toNat : Int) ((r.toNat : Int) / 32768) * 739982445 % 4294967296 = ((Crc.mix r).toNat : Int) := by
  rw [mixx_code]; exact mul_bv _ 739982445 (by omega)
theorem start_code (s : BitVec 32) : bits .xor .u32 (s.toNat : Int) 2166136261 = ((Crc.start s).toNat : Int) := by
  rw [xor_int, ofInt_bv]; rfl
theorem hclo_any (r : BitVec 32) (c : UInt8) (w : World) :
    Calls Tryd.prog 22 #[.int .u8 (c.toNat : Int), .pointer (some ⟨w.heap.size, 0, none⟩)] (w.alloc (.cells #[.int .u32 (r.toNat : Int)] 34)) fun e w' => e = .returned (.tuple #[]) ∧ w' = w.alloc (.cells #[.int .u32 ((Crc.hbyte r c).toNat : Int)] 34) := by
  go_enter Tryd.func22, Tryd.ntmps22
  go_wp2
  go_end0
  exact ⟨rfl, by rw [hbyte_code]⟩
theorem hclo_enters : ∀ (args : Array Value) (w : World), (callFunc 22 args).run Tryd.prog w = .ok (.enter 22 args) w := enters_of Tryd.func22 (by kernel_rfl) rfl
theorem hash_any (s : BitVec 32) (b : ByteArray) (w : World) (hb : b.size ≤ maxLen) :
    Calls Tryd.prog 18 #[.int .u32 (s.toNat : Int), .string b] w fun e w' => e = .returned (.int .u32 ((Crc.hash s b.data.toList).toNat : Int)) ∧ w' = w.alloc (.cells #[.int .u32 ((Crc.hash s b.data.toList).toNat : Int)] 34) := by
  have hmf : ∀ (fn : Fn) (first cap : Array Value) (w : World), (Instr.makeFunc fn first cap).run Tryd.prog w = .ok (.func fn first cap) w := fun _ _ _ _ => rfl
  have hs := start_code s
  go_enter Tryd.func18, Tryd.ntmps18
  go_wp2_with fail
  refine (each_any _ hclo_enters Crc.hbyte w (fun r c => hclo_any r c w) (Crc.start s) b hb).mono ?_
  rintro e w' ⟨rfl, rfl⟩
  obtain ⟨R, HR⟩ := named (Crc.fold Crc.hbyte (Crc.start s) b.data.toList)
  rw [← HR.out]
  go_wp2
  go_loopw [11] (fun d wr => ∃ k : Nat, k ≤ 3 ∧ d = .int .i64 k ∧ wr = w.alloc (.cells #[.int .u32 ((Crc.mixes k R).toNat : Int)] 34)) (fun d _ => 3 - (intOf d).toNat)
  case atStart => exact ⟨0, by omega, rfl, rfl⟩
  case round =>
    obtain ⟨k, hk, rfl, rfl⟩ := hrel
    by_cases h3 : k = 3
    · subst h3
      go_wp2
      go_ret
      unfold Crc.hash
      rw [← HR.out]
      exact ⟨rfl, rfl⟩
    · go_wp2
      go_roundw
      case rel => exact ⟨k + 1, by omega, by go_num, by rw [mix_code]; rfl⟩
      case measure => simp [intOf]; omega
theorem refhash_any (s : BitVec 32) (b : ByteArray) (w : World) (hb : b.size ≤ maxLen) :
    Calls Tryd.prog 19 #[.int .u32 (s.toNat : Int), .string b] w fun e w' => e = .returned (.int .u32 ((Crc.hash s b.data.toList).toNat : Int)) ∧ w' = w := by
  unfold maxLen at hb
  go_enter Tryd.func19, Tryd.ntmps19
  go_wp2
  go_loop [5, 6] (fun r d => ∃ k : Nat, k ≤ b.size ∧ d = .int .i64 k ∧ r = .int .u32 ((Crc.fold Crc.hbyte (Crc.start s) (b.data.toList.take k)).toNat : Int)) (fun _ d => b.size - (intOf d).toNat)
  case atStart => exact ⟨0, by omega, rfl, by rw [start_code]; rfl⟩
  case round =>
    obtain ⟨k, hk, rfl, rfl⟩ := hrel
    by_cases hlt : k < b.size
    · have hts : b.data.toList.take (k + 1) = b.data.toList.take k ++ [b[k]] := by
        rw [List.take_succ_eq_append_getElem (by simpa using hlt)]; rfl
      have HS : Hid (Crc.fold Crc.hbyte (Crc.start s) (b.data.toList.take (k + 1)) = Crc.hbyte (Crc.fold Crc.hbyte (Crc.start s) (b.data.toList.take k)) b[k]) := by
        rw [hts]; exact Crc.fold_snoc _ _ _ _
      clear hts
      go_wp2
      go_round
      case rel => exact ⟨k + 1, by omega, by go_num, by rw [HS.out, hbyte_code]⟩
      case measure => simp [intOf]; omega
    · have hks : k = b.size := by omega
      subst hks
      go_wp2
      obtain ⟨R, HR⟩ := named (Crc.fold Crc.hbyte (Crc.start s) b.data.toList)
      have hfull : List.take b.size b.data.toList = b.data.toList := List.take_of_length_le (by simp)
      rw [hfull, ← HR.out]
      clear hfull
      go_loop [5, 7] (fun r d => ∃ k : Nat, k ≤ 3 ∧ d = .int .i64 k ∧ r = .int .u32 ((Crc.mixes k R).toNat : Int)) (fun _ d => 3 - (intOf d).toNat)
      case atStart => exact ⟨0, by omega, rfl, rfl⟩
      case round =>
        obtain ⟨k, hk, rfl, rfl⟩ := hrel
        by_cases h3 : k = 3
        · subst h3
          go_wp2
          go_ret
          unfold Crc.hash
          rw [← HR.out]
          exact ⟨rfl, rfl⟩
        · go_wp2
          go_round
          case rel => exact ⟨k + 1, by omega, by go_num, by rw [mix_code]; rfl⟩
          case measure => simp [intOf]; omega
end Go.Proofs.YtccdbodemoefkaaDoor
