/-
  The contracts of common, putNumber, number, behind. Condition: texts of less than 2^47 bytes.
-/
import Derived.Test.YtnmlifagchdphaaBlockMath
import Derived.Test.YtnmlifagchdphaaCodeUint
import Derived.Test.YtnmlifagchdphaaTextOps
import Derived.Deep.QuietTactic
import Derived.BigQuiet
import Derived.Deep.Cut
import Derived.Deep.DeepCutAuto
import Derived.Handy
namespace Go.Proofs.Ytnmlifagchdphaa
set_option maxRecDepth 100000
open Go.RowKit
theorem byte_drop (s : ByteArray) (k : Nat) (h : k < s.size) : s.toList.drop k = s[k] :: s.toList.drop (k + 1) := by rw [ByteArray.toList_eq]; exact drop_byte s k h
theorem lss_int (a b : Nat) (B : Bool) (h : decide (a < b) = B) (u : World) : (binOp .lss 3 (.int .i64 (a : Int)) (.int .i64 (b : Int))).run Try.prog u = .ok (.bool B) u := by
  subst h
  go_simp
theorem wrap_u32_nat {n : Nat} (h : n < 2 ^ 32) : IntKind.u32.wrap (n : Int) = n := by
  have := IntKind.wrap_u32 (n : Int)
  rw [this]; omega
theorem or32_nat {a b : Nat} (ha : a < 2 ^ 32) (hb : b < 2 ^ 32) : bits .or .u32 (a : Int) (b : Int) = ((a ||| b : Nat) : Int) := by
  show IntKind.u32.wrap (((BitVec.ofInt 32 (a : Int) ||| BitVec.ofInt 32 (b : Int)).toNat : Nat) : Int) = _
  rw [BitVec.ofInt_natCast, BitVec.ofInt_natCast, BitVec.toNat_or, BitVec.toNat_ofNat, BitVec.toNat_ofNat, Nat.mod_eq_of_lt ha, Nat.mod_eq_of_lt hb]
  exact wrap_u32_nat (Nat.or_lt_two_pow ha hb)
theorem or_low {a b : Nat} (i : Nat) (ha : a < 2 ^ i) : a ||| b * 2 ^ i = a + b * 2 ^ i := by
  have := Nat.two_pow_add_eq_or_of_lt ha b
  rw [Nat.or_comm, Nat.mul_comm b, ← this]; omega
set_option maxRecDepth 100000 in
set_option maxHeartbeats 2000000 in
theorem common_any (a b : ByteArray) (ha : a.size ≤ maxLen) (hb : b.size ≤ maxLen) (w : World) : Calls Try.prog 41 #[.string a, .string b] w fun e w' => e = .returned (.int .i64 (com a.toList b.toList : Nat)) ∧ Below w.heap.size w w' := by
  unfold maxLen at ha hb
  obtain ⟨R, hR⟩ := named (com a.toList b.toList)
  rw [← hR.out]
  obtain ⟨M, hM⟩ := named (min a.size b.size)
  have hmin : ∀ (ts : Array TypeId) (t : TypeId) (u : World), (Builtin.min_ ts t #[.int .i64 (a.size : Int), .int .i64 (b.size : Int)]).run Try.prog u = .ok (.int .i64 (M : Int)) u := by
    intro ts t u
    rw [run_min_int2, hM.out]
    have e : (if (b.size : Int) < (a.size : Int) then (b.size : Int) else (a.size : Int)) = ((min a.size b.size : Nat) : Int) := by split <;> omega
    rw [e]
  go_enter Try.func41, Try.ntmps41
  go_wp2_with fail
  go_loopw [5] (fun i wr => ∃ j : Nat, j ≤ a.size ∧ j ≤ b.size ∧ i = .int .i64 (j : Int) ∧ R = j + com (a.toList.drop j) (b.toList.drop j) ∧ Below w.heap.size w wr) (fun i _ => a.size - (intOf i).toNat)
  case atStart => exact ⟨0, Nat.zero_le _, Nat.zero_le _, rfl, by rw [hR.out]; simp, Below.refl _ _⟩
  case round =>
    obtain ⟨j, hj1, hj2, rfl, hrj, hw⟩ := hrel
    have hw := Lib.hid hw
    by_cases hlt : j < a.size ∧ j < b.size
    · obtain ⟨l1, l2⟩ := hlt
      have g : j < M := by have := hM.out; omega
      have g2 : (j : Int) < (M : Int) := by omega
      rw [byte_drop a j l1, byte_drop b j l2, com] at hrj
      by_cases he : a[j] = b[j]
      · rw [if_pos he] at hrj
        have hrj2 : Hid (R = j + 1 + com (a.toList.drop (j + 1)) (b.toList.drop (j + 1))) := Lib.hid (by omega)
        clear hrj
        go_upto_region 2 with fail
        go_quiet (fail)
        go_wp2_with fail
        go_roundw
        case rel => exact ⟨j + 1, by omega, by omega, by go_num, hrj2.out, below_drewN hw.out⟩
        case measure => simp [intOf]; omega
      · rw [if_neg he] at hrj
        have hrj2 : Hid (R = j) := Lib.hid (by omega)
        have he2 : ((a[j].toNat : Int) == (b[j].toNat : Int)) = false := by
          rw [beq_eq_false_iff_ne]
          intro h
          exact he (UInt8.toNat_inj.1 (by omega))
        clear hrj
        go_upto_region 2 with fail
        go_quiet (fail)
        go_wp2_with fail
        go_returns
        exact ⟨by rw [hrj2.out]; rfl, below_drewN hw.out⟩
    · have g : decide (j < M) = false := by have := hM.out; rw [decide_eq_false_iff_not]; omega
      have g2 : decide ((j : Int) < (M : Int)) = false := by have := hM.out; rw [decide_eq_false_iff_not]; omega
      have hrj2 : Hid (R = j) := Lib.hid (by
        have : com (a.toList.drop j) (b.toList.drop j) = 0 := by
          by_cases l1 : j < a.size
          · rw [List.drop_eq_nil_of_le (show b.toList.length ≤ j by rw [toL_len]; omega)]
            cases a.toList.drop j <;> simp [com]
          · rw [List.drop_eq_nil_of_le (show a.toList.length ≤ j by rw [toL_len]; omega), com_nil]
        omega)
      clear hrj
      go_upto_region 2 with fail
      go_quiet (fail)
      go_wp2_with fail
      go_returns
      exact ⟨by rw [hrj2.out]; rfl, below_drewN hw.out⟩
theorem text_four (v : World) (x0 x1 x2 x3 : Int) (y0 y1 y2 y3 : UInt8) (h0 : x0 = (y0.toNat : Int)) (h1 : x1 = (y1.toNat : Int)) (h2 : x2 = (y2.toNat : Int)) (h3 : x3 = (y3.toNat : Int)) (t : TypeId) :
    (convert 51 9 (.slice (some ⟨v.heap.size, 0, none⟩) 4 4)).run Try.prog (v.alloc (.cells #[.int .u8 x0, .int .u8 x1, .int .u8 x2, .int .u8 x3] t)) = .ok (.string ⟨#[y0, y1, y2, y3]⟩) (v.alloc (.cells #[.int .u8 x0, .int .u8 x1, .int .u8 x2, .int .u8 x3] t)) := by
  subst h0 h1 h2 h3
  refine holds8_text (l := [y0, y1, y2, y3]) ?_ 4 4 rfl
  intro q hq
  have : q = 0 ∨ q = 1 ∨ q = 2 ∨ q = 3 := by simp at hq; omega
  rcases this with rfl | rfl | rfl | rfl <;> exact ⟨by rw [World.cell?_alloc_new]; rfl, World.frozen?_alloc_new _ _ _ _⟩
set_option maxRecDepth 100000 in
set_option maxHeartbeats 2000000 in
theorem putnum_any (n : Nat) (hn : n < 4294967296) (w : World) : Calls Try.prog 26 #[.int .i64 (n : Int)] w fun e w' => e = .returned (.string ⟨(le4 n).toArray⟩) ∧ Below w.heap.size w w' := by
  have TF := fun (v : World) (t : TypeId) => text_four v ((n : Int) % 256) ((n : Int) / 256 % 256) ((n : Int) / 65536 % 256) ((n : Int) / 16777216) (UInt8.ofNat n) (UInt8.ofNat (n / 256)) (UInt8.ofNat (n / 65536)) (UInt8.ofNat (n / 16777216)) (by simp) (by simp) (by simp) (by rw [UInt8.toNat_ofNat']; omega) t
  go_enter Try.func26, Try.ntmps26
  go_wp2_with fail
  go_returns
  exact ⟨rfl, below_alloc _ _⟩
set_option maxRecDepth 100000 in
set_option maxHeartbeats 2000000 in
theorem num4_any (s : ByteArray) (b0 b1 b2 b3 : UInt8) (h0 : s.toList[0]? = some b0) (h1 : s.toList[1]? = some b1) (h2 : s.toList[2]? = some b2) (h3 : s.toList[3]? = some b3) (w : World) : Calls Try.prog 45 #[.string s] w fun e w' => e = .returned (.int .u32 (b0.toNat + 256 * b1.toNat + 65536 * b2.toNat + 16777216 * b3.toNat : Nat)) ∧ Below w.heap.size w w' := by
  have I0 := idx_text s 0 b0 h0 0 rfl
  have I1 := idx_text s 1 b1 h1 1 rfl
  have I2 := idx_text s 2 b2 h2 2 rfl
  have I3 := idx_text s 3 b3 h3 3 rfl
  have l0 := UInt8.toNat_lt b0
  have l1 := UInt8.toNat_lt b1
  have l2 := UInt8.toNat_lt b2
  have l3 := UInt8.toNat_lt b3
  have w0 : IntKind.u32.wrap (b0.toNat : Int) = (b0.toNat : Int) := wrap_u32_nat (by omega)
  have w1 : IntKind.u32.wrap (b1.toNat : Int) = (b1.toNat : Int) := wrap_u32_nat (by omega)
  have w2 : IntKind.u32.wrap (b2.toNat : Int) = (b2.toNat : Int) := wrap_u32_nat (by omega)
  have w3 : IntKind.u32.wrap (b3.toNat : Int) = (b3.toNat : Int) := wrap_u32_nat (by omega)
  clear h0 h1 h2 h3
  go_enter Try.func45, Try.ntmps45
  go_wp2_with fail
  go_quiet (fail)
  go_wp2_with fail
  have e1 : bits .or .u32 (b0.toNat : Int) ((b1.toNat : Int) * 256) = ((b0.toNat + b1.toNat * 256 : Nat) : Int) := (or32_nat (b := b1.toNat * 256) (by omega) (by omega)).trans (by rw [or_low 8 (by omega)])
  have e2 : bits .or .u32 ((b0.toNat + b1.toNat * 256 : Nat) : Int) ((b2.toNat : Int) * 65536) = ((b0.toNat + b1.toNat * 256 + b2.toNat * 65536 : Nat) : Int) := (or32_nat (b := b2.toNat * 65536) (by omega) (by omega)).trans (by rw [or_low 16 (by omega)])
  have e3 : bits .or .u32 ((b0.toNat + b1.toNat * 256 + b2.toNat * 65536 : Nat) : Int) ((b3.toNat : Int) * 16777216) = ((b0.toNat + b1.toNat * 256 + b2.toNat * 65536 + b3.toNat * 16777216 : Nat) : Int) := (or32_nat (b := b3.toNat * 16777216) (by omega) (by omega)).trans (by rw [or_low 24 (by omega)])
  go_returns
  refine ⟨?_, below_drewN (Below.refl _ _)⟩
  show Ending.returned (.int .u32 (bits .or .u32 (bits .or .u32 (bits .or .u32 (b0.toNat : Int) ((b1.toNat : Int) * 256)) ((b2.toNat : Int) * 65536)) ((b3.toNat : Int) * 16777216))) = _
  rw [e1, e2, e3]
  congr 2
  omega
end Go.Proofs.Ytnmlifagchdphaa
