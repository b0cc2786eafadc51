/-
  The walk of the statement FrameBurst. Condition: the contracts of the program's four calls ('Face').
-/
import Derived.Test.YtdhomindchjoiaaFrameWalks
import Derived.Test.YtdhomindchjoiaaHolds
import Derived.RegionTactic
import Derived.BigRegion
import Derived.ChangeAlike
namespace Go.Proofs.Ytdhomindchjoiaa
open Go.RowKit
theorem frame_xor8 (x : UInt8) (p : Nat) (hp : p < 8) : bits .xor .u8 (x.toNat : Int) (2 ^ p % 256) = ((x ^^^ Crc.bit p).toNat : Int) := by
  rw [← xor8_byte]
  rcases (show p = 0 ∨ p = 1 ∨ p = 2 ∨ p = 3 ∨ p = 4 ∨ p = 5 ∨ p = 6 ∨ p = 7 by omega) with rfl | rfl | rfl | rfl | rfl | rfl | rfl | rfl <;> rfl
theorem frame_bit (p : BitVec 32) (i : Nat) : (bits .and .u32 ((p.toNat : Int) / 2 ^ i) 1 == 1) = p.getLsbD i := by
  have e : (p.toNat : Int) / 2 ^ i = (((p >>> i).toNat : Nat) : Int) := by
    rw [BitVec.toNat_ushiftRight, Nat.shiftRight_eq_div_pow]
    simp
  rw [e, and_int, ofInt_bv]
  have h1 : BitVec.ofInt 32 1 = 1#32 := rfl
  rw [h1, low_bv, BitVec.getLsbD_ushiftRight, Nat.add_zero]
  cases p.getLsbD i <;> rfl
set_option maxHeartbeats 8000000 in
theorem frameBurst_at (F : Face) (p : ByteArray) (hp : p.size ≤ 4096) (x : Int) (k : Nat) (hk : k + 32 ≤ 8 * (p.size + 4))
    (hc : x = (k : Int) ∨ (x < 0 ∧ k + 32 = 8 * (p.size + 4)) ∨ (((p.size : Int) + 4) * 8 - 32 < x ∧ 0 ≤ x ∧ k + 32 = 8 * (p.size + 4))) (b : BitVec 32) (hb : b ≠ 0#32) (w : World) :
    Calls Try.prog 8 #[.string p, .int .i64 x, .int .u32 (b.toNat : Int)] w fun e w' => e = .returned (.bool true) ∧ Below w.heap.size w w' := by
  have hp1 : (p.size : Int) ≤ 4096 := by omega
  have C9 := Lib.hid fun v => awake_any F v
  have hz : ((b.toNat : Int) == 0) = false := by
    rw [beq_eq_false_iff_ne]; intro h; exact hb (BitVec.eq_of_toNat_eq (by simp; omega))
  have c1 := fun v => F.put p v (by omega)
  have e : putOf p.data.toList = (Frame.put p.data.toList, 0) := by unfold putOf; rw [if_neg (by rw [frame_len]; omega)]
  rw [e] at c1
  have hl := Frame.put_length p.data.toList
  rw [frame_len] at hl
  have h10 := Code.uvar_ten (n := p.size) (by omega)
  have h1 := Code.uvar_len p.size
  have hbu := Frame.get_burst p.data.toList (by rw [frame_len]; omega) k (by rw [frame_len]; omega) b hb
  rw [frame_len] at hbu
  obtain ⟨h, hh0⟩ := named (Code.uvar p.size).length
  rw [← hh0.out] at hl h10 h1 hbu
  obtain ⟨L, hL⟩ := named (Frame.put p.data.toList)
  rw [← hL.out] at hl hbu c1
  have hSz := frame_size L
  have hSL : (⟨L.toArray⟩ : ByteArray).data.toList = L := rfl
  obtain ⟨S, hS⟩ := named (⟨L.toArray⟩ : ByteArray)
  have c1' : ∀ v, Calls Try.prog 11 #[.string p] v fun e w' => e = .returned (.tuple #[.string S, .int .i64 0]) ∧ Below v.heap.size v w' := by rw [hS.out]; exact c1
  rw [← hS.out] at hSz hSL
  rw [hl] at hSz
  have hS1 : (S.size : Int) - (p.size : Int) - 4 = (h : Int) := by omega
  have hh1 : 1 ≤ (h : Int) := by omega
  have hh2 : (h : Int) ≤ 10 := by omega
  have c2 := fun u => F.get ⟨(Crc.burst L (8 * h + k) b 32).toArray⟩ u (by rw [frame_size, Crc.burst_length]; omega)
  have ed : (⟨(Crc.burst L (8 * h + k) b 32).toArray⟩ : ByteArray).data.toList = Crc.burst L (8 * h + k) b 32 := rfl
  rw [ed, hbu] at c2
  have C1 := Lib.hid c1'
  have C2 := Lib.hid c2
  have hcv := fun u => run_bytes_of_string (P := Try.prog) u 9 38 5 S Try.underlying9 Try.underlying38 Try.underlying5
  have hSz' : (S.size : Int) ≤ 5000 := by omega
  have HSz := Lib.hid hSz
  have HSL := Lib.hid hSL
  have HL := Lib.hid hl
  clear c1 c1' c2 ed hbu e hl h10 h1 hSz hSL hp
  rcases hc with rfl | ⟨h0, hk2⟩ | ⟨h0, h1, hk2⟩
  · have hkl : (k : Int) ≤ ((p.size : Int) + 4) * 8 - 32 := by omega
    go_enter Try.func8, Try.ntmps8
    go_wp2_with (go_at_call 11; ((with_reducible refine (C1.out _).mono ?_); rintro e w1 ⟨rfl, hb1⟩))
    obtain ⟨c, hC⟩ := named (grownCap w1 S.size 0 5)
    rw [← hC.out]
    go_loopw [13] (fun d wr => ∃ i : Nat, i ≤ 32 ∧ d = .int .i64 i ∧ Holds8 wr w1.heap.size (Crc.burst L (8 * h + k) b i) ∧ Below w1.heap.size w1 wr ∧ w1.heap.size < wr.heap.size) (fun d _ => 32 - (intOf d).toNat)
    case atStart => exact ⟨0, by omega, rfl, by have := holds8_made w1 S c; rw [HSL.out] at this; exact this, (below_alloc _ _).drew, by simp⟩
    case round =>
      obtain ⟨i, hi, rfl, hh, hbe, hsz⟩ := hrel
      by_cases hlt : i < 32
      · have hcell : h + (k + i) / 8 < L.length := by have := HL.out; omega
        have hx := hh (h + (k + i) / 8) (by rw [Crc.burst_length]; exact hcell)
        obtain ⟨y, hY⟩ := named ((Crc.burst L (8 * h + k) b i)[h + (k + i) / 8]'(by rw [Crc.burst_length]; exact hcell))
        rw [← hY.out] at hx
        obtain ⟨hx1, hx2⟩ := hx
        have HH := Lib.hid hh
        clear hh
        have hb1' := frame_bit b i
        have hin : (h : Int) + ((k : Int) + (i : Int)) / 8 < (S.size : Int) := by have := HL.out; have := HSz.out; omega
        cases hpi : b.getLsbD i
        · rw [hpi] at hb1'
          have HP := Lib.hid hpi
          clear hpi
          go_wp2
          go_roundw
          case rel => exact ⟨i + 1, by omega, by go_num, by rw [Crc.burst, if_neg (by rw [HP.out]; simp)]; exact HH.out, hbe, hsz⟩
          case measure => simp [intOf]; omega
        · rw [hpi] at hb1'
          have HP := Lib.hid hpi
          clear hpi
          go_wp2
          go_region
          go_wp2
          go_roundw
          case rel =>
            rw [frame_xor8 _ _ (by omega), hY.out]
            refine ⟨i + 1, by omega, by go_num, ?_, (hbe.setCell (by simp) _).drew, by simpa using hsz⟩
            have e1 : (8 * h + k + i) / 8 = h + (k + i) / 8 := by omega
            have e2 : (8 * h + k + i) % 8 = (k + i) % 8 := by omega
            rw [Crc.burst, if_pos (by rw [HP.out]), e1, e2]
            exact holds8_turn HH.out _ (by rw [Crc.burst_length]; exact hcell) _
          case measure => simp [intOf]; omega
      · have e32 : i = 32 := by omega
        subst e32
        obtain ⟨l, hll⟩ := named (Crc.burst L (8 * h + k) b 32)
        have hlen : l.length = S.size := by rw [hll.out, Crc.burst_length]; have := HL.out; have := HSz.out; omega
        rw [← hll.out] at hh
        have hcv2 := holds8_text hh S.size c hlen
        have C2' : Hid (∀ u, Calls Try.prog 16 #[.string ⟨l.toArray⟩] u fun e w' => e = .returned (.tuple #[.string emptyText, .int .i64 0, .int .i64 7]) ∧ Below u.heap.size u w') := Lib.hid (by rw [hll.out]; exact C2.out)
        clear hh hlen hcv
        go_wp2_with (first
          | (go_at_call 16; ((with_reducible refine (C2'.out _).mono ?_); rintro e w2 ⟨rfl, hb2⟩))
          | (go_at_call 15; ((with_reducible refine (C9.out _).mono ?_); rintro e w3 ⟨rfl, hb3⟩)))
        go_ret
        exact ⟨rfl, below_of hb1 (hbe.trans ((below_of hb2 hb3).mono (Nat.le_of_lt hsz)))⟩
  · have hkl : ((p.size : Int) + 4) * 8 - 32 = (k : Int) := by omega
    go_enter Try.func8, Try.ntmps8
    go_wp2_with (go_at_call 11; ((with_reducible refine (C1.out _).mono ?_); rintro e w1 ⟨rfl, hb1⟩))
    obtain ⟨c, hC⟩ := named (grownCap w1 S.size 0 5)
    rw [← hC.out]
    go_loopw [13] (fun d wr => ∃ i : Nat, i ≤ 32 ∧ d = .int .i64 i ∧ Holds8 wr w1.heap.size (Crc.burst L (8 * h + k) b i) ∧ Below w1.heap.size w1 wr ∧ w1.heap.size < wr.heap.size) (fun d _ => 32 - (intOf d).toNat)
    case atStart => exact ⟨0, by omega, rfl, by have := holds8_made w1 S c; rw [HSL.out] at this; exact this, (below_alloc _ _).drew, by simp⟩
    case round =>
      obtain ⟨i, hi, rfl, hh, hbe, hsz⟩ := hrel
      by_cases hlt : i < 32
      · have hcell : h + (k + i) / 8 < L.length := by have := HL.out; omega
        have hx := hh (h + (k + i) / 8) (by rw [Crc.burst_length]; exact hcell)
        obtain ⟨y, hY⟩ := named ((Crc.burst L (8 * h + k) b i)[h + (k + i) / 8]'(by rw [Crc.burst_length]; exact hcell))
        rw [← hY.out] at hx
        obtain ⟨hx1, hx2⟩ := hx
        have HH := Lib.hid hh
        clear hh
        have hb1' := frame_bit b i
        have hin : (h : Int) + ((k : Int) + (i : Int)) / 8 < (S.size : Int) := by have := HL.out; have := HSz.out; omega
        cases hpi : b.getLsbD i
        · rw [hpi] at hb1'
          have HP := Lib.hid hpi
          clear hpi
          go_wp2
          go_roundw
          case rel => exact ⟨i + 1, by omega, by go_num, by rw [Crc.burst, if_neg (by rw [HP.out]; simp)]; exact HH.out, hbe, hsz⟩
          case measure => simp [intOf]; omega
        · rw [hpi] at hb1'
          have HP := Lib.hid hpi
          clear hpi
          go_wp2
          go_region
          go_wp2
          go_roundw
          case rel =>
            rw [frame_xor8 _ _ (by omega), hY.out]
            refine ⟨i + 1, by omega, by go_num, ?_, (hbe.setCell (by simp) _).drew, by simpa using hsz⟩
            have e1 : (8 * h + k + i) / 8 = h + (k + i) / 8 := by omega
            have e2 : (8 * h + k + i) % 8 = (k + i) % 8 := by omega
            rw [Crc.burst, if_pos (by rw [HP.out]), e1, e2]
            exact holds8_turn HH.out _ (by rw [Crc.burst_length]; exact hcell) _
          case measure => simp [intOf]; omega
      · have e32 : i = 32 := by omega
        subst e32
        obtain ⟨l, hll⟩ := named (Crc.burst L (8 * h + k) b 32)
        have hlen : l.length = S.size := by rw [hll.out, Crc.burst_length]; have := HL.out; have := HSz.out; omega
        rw [← hll.out] at hh
        have hcv2 := holds8_text hh S.size c hlen
        have C2' : Hid (∀ u, Calls Try.prog 16 #[.string ⟨l.toArray⟩] u fun e w' => e = .returned (.tuple #[.string emptyText, .int .i64 0, .int .i64 7]) ∧ Below u.heap.size u w') := Lib.hid (by rw [hll.out]; exact C2.out)
        clear hh hlen hcv
        go_wp2_with (first
          | (go_at_call 16; ((with_reducible refine (C2'.out _).mono ?_); rintro e w2 ⟨rfl, hb2⟩))
          | (go_at_call 15; ((with_reducible refine (C9.out _).mono ?_); rintro e w3 ⟨rfl, hb3⟩)))
        go_ret
        exact ⟨rfl, below_of hb1 (hbe.trans ((below_of hb2 hb3).mono (Nat.le_of_lt hsz)))⟩
  · have hkl : ((p.size : Int) + 4) * 8 - 32 = (k : Int) := by omega
    rw [hkl] at h0
    go_enter Try.func8, Try.ntmps8
    go_wp2_with (go_at_call 11; ((with_reducible refine (C1.out _).mono ?_); rintro e w1 ⟨rfl, hb1⟩))
    obtain ⟨c, hC⟩ := named (grownCap w1 S.size 0 5)
    rw [← hC.out]
    go_loopw [13] (fun d wr => ∃ i : Nat, i ≤ 32 ∧ d = .int .i64 i ∧ Holds8 wr w1.heap.size (Crc.burst L (8 * h + k) b i) ∧ Below w1.heap.size w1 wr ∧ w1.heap.size < wr.heap.size) (fun d _ => 32 - (intOf d).toNat)
    case atStart => exact ⟨0, by omega, rfl, by have := holds8_made w1 S c; rw [HSL.out] at this; exact this, (below_alloc _ _).drew, by simp⟩
    case round =>
      obtain ⟨i, hi, rfl, hh, hbe, hsz⟩ := hrel
      by_cases hlt : i < 32
      · have hcell : h + (k + i) / 8 < L.length := by have := HL.out; omega
        have hx := hh (h + (k + i) / 8) (by rw [Crc.burst_length]; exact hcell)
        obtain ⟨y, hY⟩ := named ((Crc.burst L (8 * h + k) b i)[h + (k + i) / 8]'(by rw [Crc.burst_length]; exact hcell))
        rw [← hY.out] at hx
        obtain ⟨hx1, hx2⟩ := hx
        have HH := Lib.hid hh
        clear hh
        have hb1' := frame_bit b i
        have hin : (h : Int) + ((k : Int) + (i : Int)) / 8 < (S.size : Int) := by have := HL.out; have := HSz.out; omega
        cases hpi : b.getLsbD i
        · rw [hpi] at hb1'
          have HP := Lib.hid hpi
          clear hpi
          go_wp2
          go_roundw
          case rel => exact ⟨i + 1, by omega, by go_num, by rw [Crc.burst, if_neg (by rw [HP.out]; simp)]; exact HH.out, hbe, hsz⟩
          case measure => simp [intOf]; omega
        · rw [hpi] at hb1'
          have HP := Lib.hid hpi
          clear hpi
          go_wp2
          go_region
          go_wp2
          go_roundw
          case rel =>
            rw [frame_xor8 _ _ (by omega), hY.out]
            refine ⟨i + 1, by omega, by go_num, ?_, (hbe.setCell (by simp) _).drew, by simpa using hsz⟩
            have e1 : (8 * h + k + i) / 8 = h + (k + i) / 8 := by omega
            have e2 : (8 * h + k + i) % 8 = (k + i) % 8 := by omega
            rw [Crc.burst, if_pos (by rw [HP.out]), e1, e2]
            exact holds8_turn HH.out _ (by rw [Crc.burst_length]; exact hcell) _
          case measure => simp [intOf]; omega
      · have e32 : i = 32 := by omega
        subst e32
        obtain ⟨l, hll⟩ := named (Crc.burst L (8 * h + k) b 32)
        have hlen : l.length = S.size := by rw [hll.out, Crc.burst_length]; have := HL.out; have := HSz.out; omega
        rw [← hll.out] at hh
        have hcv2 := holds8_text hh S.size c hlen
        have C2' : Hid (∀ u, Calls Try.prog 16 #[.string ⟨l.toArray⟩] u fun e w' => e = .returned (.tuple #[.string emptyText, .int .i64 0, .int .i64 7]) ∧ Below u.heap.size u w') := Lib.hid (by rw [hll.out]; exact C2.out)
        clear hh hlen hcv
        go_wp2_with (first
          | (go_at_call 16; ((with_reducible refine (C2'.out _).mono ?_); rintro e w2 ⟨rfl, hb2⟩))
          | (go_at_call 15; ((with_reducible refine (C9.out _).mono ?_); rintro e w3 ⟨rfl, hb3⟩)))
        go_ret
        exact ⟨rfl, below_of hb1 (hbe.trans ((below_of hb2 hb3).mono (Nat.le_of_lt hsz)))⟩
theorem frameBurst_walk (F : Face) (p : ByteArray) (_hp : p.size ≤ reachBytes) (x : Int) (_hx : (Lit.int .i64 x).wf = true) (y : Int) (hy : (Lit.int .u32 y).wf = true) (w : World) :
    Calls Try.prog 8 #[.string p, .int .i64 x, .int .u32 y] w fun e w' => e = .returned (.bool true) ∧ Below w.heap.size w w' := by
  have C9 := Lib.hid fun v => awake_any F v
  obtain ⟨b, rfl⟩ := u32_bv hy
  by_cases h : 4096 < p.size
  · have h' : 4096 < (p.size : Int) := by omega
    clear h
    go_enter Try.func8, Try.ntmps8
    go_wp2_with (go_at_call 15; ((with_reducible refine (C9.out _).mono ?_); rintro e w' ⟨rfl, hb⟩))
    go_ret
    exact ⟨rfl, hb⟩
  by_cases hb : b = 0#32
  · subst hb
    have h' : (p.size : Int) ≤ 4096 := by omega
    clear h hy
    have z : (((0#32 : BitVec 32).toNat : Nat) : Int) = 0 := rfl
    rw [z]
    go_enter Try.func8, Try.ntmps8
    go_wp2_with (go_at_call 15; ((with_reducible refine (C9.out _).mono ?_); rintro e w' ⟨rfl, hb⟩))
    go_ret
    exact ⟨rfl, hb⟩
  · rcases Int.lt_or_le x 0 with g | g
    · exact frameBurst_at F p (by omega) x (8 * (p.size + 4) - 32) (by omega) (Or.inr (Or.inl ⟨g, by omega⟩)) b hb w
    · rcases Int.lt_or_le (((p.size : Int) + 4) * 8 - 32) x with g' | g'
      · exact frameBurst_at F p (by omega) x (8 * (p.size + 4) - 32) (by omega) (Or.inr (Or.inr ⟨g', g, by omega⟩)) b hb w
      · exact frameBurst_at F p (by omega) x x.toNat (by omega) (Or.inl (by omega)) b hb w
end Go.Proofs.Ytdhomindchjoiaa
