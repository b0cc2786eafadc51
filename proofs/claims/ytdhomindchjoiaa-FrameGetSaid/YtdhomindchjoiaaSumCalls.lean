/-
  The contracts of sum.More, sum.Of and of the document's own: each answers the plain mathematics' check sum. Condition: a text of a length that there is.
-/
import Derived.Test.YtdhomindchjoiaaSumClo
import Derived.Shelf.Abstract
import Derived.Test.YtdhomindchjoiaaKit
namespace Go.Proofs.Ytdhomindchjoiaa
open Go.RowKit
theorem clo_enters : ∀ (args : Array Value) (w : World), (callFunc 39 args).run Try.prog w = .ok (.enter 39 args) w := enters_of Try.func39 (by kernel_rfl) rfl
abbrev bytesOf (s : ByteArray) : List UInt8 := s.data.toList
theorem more_any (s : BitVec 32) (b : ByteArray) (w : World) (hb : b.size ≤ maxLen) :
    Calls Try.prog 35 #[.int .u32 (s.toNat : Int), .string b] w fun e w' => e = .returned (.int .u32 ((Crc.more s b.data.toList).toNat : Int)) ∧ w' = w.alloc (.cells #[.int .u32 ((Crc.inv (Crc.more s b.data.toList)).toNat : Int)] 37) := by
  have hmf : ∀ (fn : Fn) (first cap : Array Value) (w : World), (Instr.makeFunc fn first cap).run Try.prog w = .ok (.func fn first cap) w := fun _ _ _ _ => rfl
  have hn : bits .xor .u32 IntKind.u32.max (s.toNat : Int) = ((Crc.inv s).toNat : Int) := inv_code s
  go_enter Try.func35, Try.ntmps35
  go_wp2_with fail
  refine (each_any _ clo_enters Crc.byte w (fun r c => clo_any r c w) (Crc.inv s) b hb).mono ?_
  rintro e w' ⟨rfl, rfl⟩
  go_wp2
  go_ret
  refine ⟨?_, ?_⟩
  · rw [inv_code]; rfl
  · unfold Crc.more; rw [Crc.inv_inv, Crc.run]
theorem of_any (b : ByteArray) (w : World) (hb : b.size ≤ maxLen) :
    Calls Try.prog 29 #[.string b] w fun e w' => e = .returned (.int .u32 ((Crc.more 0#32 b.data.toList).toNat : Int)) ∧ w' = w.alloc (.cells #[.int .u32 ((Crc.inv (Crc.more 0#32 b.data.toList)).toNat : Int)] 37) := by
  go_enter Try.func29, Try.ntmps29
  go_wp2_with (go_at_call 35; refine (more_any 0#32 b _ hb).mono ?_; rintro e w' ⟨rfl, rfl⟩)
  go_ret
  exact ⟨rfl, rfl⟩
set_option maxHeartbeats 1000000 in
theorem refmore_any (s : BitVec 32) (b : ByteArray) (w : World) (hb : b.size ≤ maxLen) :
    Calls Try.prog 36 #[.int .u32 (s.toNat : Int), .string b] w fun e w' => e = .returned (.int .u32 ((Crc.more s b.data.toList).toNat : Int)) ∧ w' = w := by
  unfold maxLen at hb
  have hn : bits .xor .u32 (s.toNat : Int) 4294967295 = ((Crc.inv s).toNat : Int) := inv_code' s
  go_enter Try.func36, Try.ntmps36
  go_wp2
  go_loop [5, 6, 7] (fun r d _ => ∃ k : Nat, k ≤ b.size ∧ d = .int .i64 k ∧ r = .int .u32 ((Crc.run (Crc.inv s) (b.data.toList.take k)).toNat : Int)) (fun _ d _ => b.size - (intOf d).toNat)
  case atStart => exact ⟨0, by omega, rfl, rfl⟩
  case round =>
    obtain ⟨k, hk, rfl, rfl⟩ := hrel
    by_cases hlt : k < b.size
    · have hts : b.data.toList.take (k + 1) = b.data.toList.take k ++ [b[k]] := by
        rw [List.take_succ_eq_append_getElem (by simpa using hlt)]; rfl
      have HS : Hid (Crc.run (Crc.inv s) (b.data.toList.take (k + 1)) = Crc.byte (Crc.run (Crc.inv s) (b.data.toList.take k)) b[k]) := by
        rw [hts]; exact Crc.fold_snoc _ _ _ _
      clear hts
      obtain ⟨R, HR⟩ := named (Crc.run (Crc.inv s) (b.data.toList.take k))
      rw [← HR.out] at HS ⊢
      go_wp2
      go_loop [5, 7] (fun r d => ∃ j : Nat, j ≤ 8 ∧ d = .int .i64 j ∧ r = .int .u32 ((Crc.steps j (R ^^^ b[k].toBitVec.setWidth 32)).toNat : Int)) (fun _ d => 8 - (intOf d).toNat)
      case atStart => exact ⟨0, by omega, rfl, by rw [xor_u8]; rfl⟩
      case round =>
        obtain ⟨j, hj, rfl, rfl⟩ := hrel
        by_cases h8 : j = 8
        · subst h8
          go_wp2
          go_round
          case rel => exact ⟨k + 1, by omega, by go_num, by rw [HS.out]; rfl⟩
          case measure => simp [intOf]; omega
        · obtain ⟨T, HT⟩ := named (Crc.steps j (R ^^^ b[k].toBitVec.setWidth 32))
          rw [← HT.out]
          have HU : Hid (Crc.steps (j + 1) (R ^^^ b[k].toBitVec.setWidth 32) = Crc.step T) := by rw [HT.out]; rfl
          by_cases ho : (T.toNat : Int) % 2 = 1
          · go_wp2
            go_round
            case rel => exact ⟨j + 1, by omega, by go_num, by rw [HU.out, step_odd T ho]⟩
            case measure => simp [intOf]; omega
          · go_wp2
            go_round
            case rel => exact ⟨j + 1, by omega, by go_num, by rw [HU.out, step_even T ho]⟩
            case measure => simp [intOf]; omega
    · go_wp2
      go_ret
      have : k = b.size := by omega
      subst this
      rw [inv_code', List.take_of_length_le (by simp)]
      exact ⟨rfl, rfl⟩
end Go.Proofs.Ytdhomindchjoiaa
