/-
  A burst of at most 32 bits, laid on any bytes anywhere, changes their sum (SumBurst). No condition.
-/
import Derived.Test.YtkmkombmkaihiaaSumAwake
import Derived.Test.YtkmkombmkaihiaaSumMath2
import Derived.Test.YtkmkombmkaihiaaHolds
import Derived.RegionTactic
import Derived.BigRegion
import Derived.ChangeAlike
import Derived.Outline
namespace Go.Proofs.Ytkmkombmkaihiaa
open Go.RowKit
theorem xor8_code (x : UInt8) (p : Nat) (hp : p < 8) : bits .xor .u8 (x.toNat : Int) (2 ^ p % 256) = ((x ^^^ Crc.bit p).toNat : Int) := by
  rw [← xor8_byte]
  rcases (show p = 0 ∨ p = 1 ∨ p = 2 ∨ p = 3 ∨ p = 4 ∨ p = 5 ∨ p = 6 ∨ p = 7 by omega) with rfl | rfl | rfl | rfl | rfl | rfl | rfl | rfl <;> rfl
theorem bit_code (p : BitVec 32) (i : Nat) : (bits .and .u32 ((p.toNat : Int) / 2 ^ i) 1 == 1) = p.getLsbD i := by
  have e : (p.toNat : Int) / 2 ^ i = (((p >>> i).toNat : Nat) : Int) := by
    rw [BitVec.toNat_ushiftRight, Nat.shiftRight_eq_div_pow]
    simp
  rw [e, and_int, ofInt_bv]
  have h1 : BitVec.ofInt 32 1 = 1#32 := rfl
  rw [h1, low_bv, BitVec.getLsbD_ushiftRight, Nat.add_zero]
  cases p.getLsbD i <;> rfl
set_option maxHeartbeats 8000000 in
theorem burst_at (b : ByteArray) (hb : b.size ≤ reachBytes) (h5 : 5 ≤ b.size) (x : Int) (k : Nat) (hk : k + 32 ≤ 8 * b.size)
    (hc : x = (k : Int) ∨ (x < 0 ∧ k + 32 = 8 * b.size) ∨ ((b.size : Int) * 8 - 32 < x ∧ 0 ≤ x ∧ k + 32 = 8 * b.size)) (p : BitVec 32) (hp : p ≠ 0#32) (w : World) :
    Calls Try.prog 6 #[.string b, .int .i64 x, .int .u32 (p.toNat : Int)] w fun e w' => e = .returned (.bool true) ∧ Below w.heap.size w w' := by
  have hm := reach_max hb
  have hb' := hb
  unfold reachBytes at hb'
  have hcv := fun u => run_bytes_of_string (P := Try.prog) u 9 29 5 b Try.underlying9 Try.underlying29 Try.underlying5
  have hz : ((p.toNat : Int) == 0) = false := by
    rw [beq_eq_false_iff_ne]; intro h; exact hp (BitVec.eq_of_toNat_eq (by simp; omega))
  rcases hc with rfl | ⟨h0, hk2⟩ | ⟨h0, h1, hk2⟩
  ·   go_enter Try.func6, Try.ntmps6
      go_wp2
      obtain ⟨c, hC⟩ := named (grownCap w b.size 0 5)
      rw [← hC.out]
      go_loopw [10] (fun d wr => ∃ i : Nat, i ≤ 32 ∧ d = .int .i64 i ∧ Holds8 wr w.heap.size (Crc.burst b.data.toList k p i) ∧ Below w.heap.size w wr ∧ w.heap.size < wr.heap.size) (fun d _ => 32 - (intOf d).toNat)
      case atStart => exact ⟨0, by omega, rfl, holds8_made w b c, (below_alloc _ _).drew, by simp⟩
      case round =>
        obtain ⟨i, hi, rfl, hh, hbe, hsz⟩ := hrel
        by_cases hlt : i < 32
        · have hcell : (k + i) / 8 < b.data.toList.length := by simp; omega
          have hx := hh ((k + i) / 8) (by rw [Crc.burst_length]; exact hcell)
          obtain ⟨x, hX⟩ := named ((Crc.burst b.data.toList k p i)[(k + i) / 8]'(by rw [Crc.burst_length]; exact hcell))
          rw [← hX.out] at hx
          obtain ⟨hx1, hx2⟩ := hx
          have HH := Lib.hid hh
          clear hh
          have hb1 := bit_code p i
          cases hpi : p.getLsbD i
          · rw [hpi] at hb1
            have HP := Lib.hid hpi
            clear hpi
            go_wp2
            go_roundw
            case rel => exact ⟨i + 1, by omega, by go_num, by rw [Crc.burst, if_neg (by rw [HP.out]; simp)]; exact HH.out, hbe, hsz⟩
            case measure => simp [intOf]; omega
          · rw [hpi] at hb1
            have HP := Lib.hid hpi
            clear hpi
            go_wp2
            go_region
            go_wp2
            go_roundw
            case rel =>
              rw [xor8_code _ _ (by omega), hX.out]
              refine ⟨i + 1, by omega, by go_num, ?_, (hbe.setCell (by simp) _).drew, by simpa using hsz⟩
              rw [Crc.burst, if_pos (by rw [HP.out])]
              exact holds8_turn HH.out _ (by rw [Crc.burst_length]; exact hcell) _
            case measure => simp [intOf]; omega
        · have e32 : i = 32 := by omega
          subst e32
          obtain ⟨l, hL⟩ := named (Crc.burst b.data.toList k p 32)
          rw [← hL.out] at hh
          have hlen : l.length = b.size := by rw [hL.out, Crc.burst_length]; simp
          have hcv2 := holds8_text hh b.size c hlen
          have hne : Crc.more 0#32 l ≠ Crc.more 0#32 b.data.toList := by rw [hL.out]; exact Crc.more_burst _ _ _ _ (by simpa using hk) hp
          obtain ⟨m1, hM1⟩ := named (Crc.more 0#32 l)
          obtain ⟨m2, hM2⟩ := named (Crc.more 0#32 b.data.toList)
          have C1 : ∀ u, Calls Try.prog 11 #[.string ⟨l.toArray⟩] u fun e w' => e = .returned (.int .u32 (m1.toNat : Int)) ∧ ∃ x, w' = u.alloc (.cells #[.int .u32 x] 22) := by
            intro u; rw [hM1.out]; exact (of_any ⟨l.toArray⟩ u (by show l.toArray.size ≤ _; rw [List.size_toArray, hlen]; exact hm)).mono fun e w' ⟨h, h'⟩ => ⟨h, _, h'⟩
          have C2 : ∀ u, Calls Try.prog 11 #[.string b] u fun e w' => e = .returned (.int .u32 (m2.toNat : Int)) ∧ ∃ x, w' = u.alloc (.cells #[.int .u32 x] 22) := by
            intro u; rw [hM2.out]; exact (of_any b u hm).mono fun e w' ⟨h, h'⟩ => ⟨h, _, h'⟩
          have D1 := Lib.hid C1
          have D2 := Lib.hid C2
          rw [← hM1.out, ← hM2.out] at hne
          have n1 : ((m1.toNat : Int) == (m2.toNat : Int)) = false := by
            rw [beq_eq_false_iff_ne]; intro h; exact hne (BitVec.eq_of_toNat_eq (by omega))
          have n2 : ((m1.toNat : Int) != (m2.toNat : Int)) = true := by
            rw [bne_iff_ne]; intro h; exact hne (BitVec.eq_of_toNat_eq (by omega))
          have HN := Lib.hid hlen
          clear C1 C2 hne hlen hh
          go_wp2_with (first
            | (go_at_call 11; ((with_reducible refine (D1.out _).mono ?_); rintro e w' ⟨rfl, x1, rfl⟩))
            | (go_at_call 11; ((with_reducible refine (D2.out _).mono ?_); rintro e w' ⟨rfl, x2, rfl⟩))
            | (go_at_call 15; refine (awake_any _).mono ?_; rintro e w' ⟨rfl, hg⟩))
          go_ret
          exact ⟨rfl, hbe.trans ((below_of (below_of (below_alloc _ _) (below_alloc _ _)) hg).mono (by omega))⟩
  all_goals
    have e2 : (b.size : Int) * 8 - 32 = (k : Int) := by omega
    clear hk2
    go_enter Try.func6, Try.ntmps6
    go_wp2
    obtain ⟨c, hC⟩ := named (grownCap w b.size 0 5)
    rw [← hC.out]
    go_loopw [10] (fun d wr => ∃ i : Nat, i ≤ 32 ∧ d = .int .i64 i ∧ Holds8 wr w.heap.size (Crc.burst b.data.toList k p i) ∧ Below w.heap.size w wr ∧ w.heap.size < wr.heap.size) (fun d _ => 32 - (intOf d).toNat)
    case atStart => exact ⟨0, by omega, rfl, holds8_made w b c, (below_alloc _ _).drew, by simp⟩
    case round =>
      obtain ⟨i, hi, rfl, hh, hbe, hsz⟩ := hrel
      by_cases hlt : i < 32
      · have hcell : (k + i) / 8 < b.data.toList.length := by simp; omega
        have hx := hh ((k + i) / 8) (by rw [Crc.burst_length]; exact hcell)
        obtain ⟨x, hX⟩ := named ((Crc.burst b.data.toList k p i)[(k + i) / 8]'(by rw [Crc.burst_length]; exact hcell))
        rw [← hX.out] at hx
        obtain ⟨hx1, hx2⟩ := hx
        have HH := Lib.hid hh
        clear hh
        have hb1 := bit_code p i
        cases hpi : p.getLsbD i
        · rw [hpi] at hb1
          have HP := Lib.hid hpi
          clear hpi
          go_wp2
          go_roundw
          case rel => exact ⟨i + 1, by omega, by go_num, by rw [Crc.burst, if_neg (by rw [HP.out]; simp)]; exact HH.out, hbe, hsz⟩
          case measure => simp [intOf]; omega
        · rw [hpi] at hb1
          have HP := Lib.hid hpi
          clear hpi
          go_wp2
          go_region
          go_wp2
          go_roundw
          case rel =>
            rw [xor8_code _ _ (by omega), hX.out]
            refine ⟨i + 1, by omega, by go_num, ?_, (hbe.setCell (by simp) _).drew, by simpa using hsz⟩
            rw [Crc.burst, if_pos (by rw [HP.out])]
            exact holds8_turn HH.out _ (by rw [Crc.burst_length]; exact hcell) _
          case measure => simp [intOf]; omega
      · have e32 : i = 32 := by omega
        subst e32
        obtain ⟨l, hL⟩ := named (Crc.burst b.data.toList k p 32)
        rw [← hL.out] at hh
        have hlen : l.length = b.size := by rw [hL.out, Crc.burst_length]; simp
        have hcv2 := holds8_text hh b.size c hlen
        have hne : Crc.more 0#32 l ≠ Crc.more 0#32 b.data.toList := by rw [hL.out]; exact Crc.more_burst _ _ _ _ (by simpa using hk) hp
        obtain ⟨m1, hM1⟩ := named (Crc.more 0#32 l)
        obtain ⟨m2, hM2⟩ := named (Crc.more 0#32 b.data.toList)
        have C1 : ∀ u, Calls Try.prog 11 #[.string ⟨l.toArray⟩] u fun e w' => e = .returned (.int .u32 (m1.toNat : Int)) ∧ ∃ x, w' = u.alloc (.cells #[.int .u32 x] 22) := by
          intro u; rw [hM1.out]; exact (of_any ⟨l.toArray⟩ u (by show l.toArray.size ≤ _; rw [List.size_toArray, hlen]; exact hm)).mono fun e w' ⟨h, h'⟩ => ⟨h, _, h'⟩
        have C2 : ∀ u, Calls Try.prog 11 #[.string b] u fun e w' => e = .returned (.int .u32 (m2.toNat : Int)) ∧ ∃ x, w' = u.alloc (.cells #[.int .u32 x] 22) := by
          intro u; rw [hM2.out]; exact (of_any b u hm).mono fun e w' ⟨h, h'⟩ => ⟨h, _, h'⟩
        have D1 := Lib.hid C1
        have D2 := Lib.hid C2
        rw [← hM1.out, ← hM2.out] at hne
        have n1 : ((m1.toNat : Int) == (m2.toNat : Int)) = false := by
          rw [beq_eq_false_iff_ne]; intro h; exact hne (BitVec.eq_of_toNat_eq (by omega))
        have n2 : ((m1.toNat : Int) != (m2.toNat : Int)) = true := by
          rw [bne_iff_ne]; intro h; exact hne (BitVec.eq_of_toNat_eq (by omega))
        have HN := Lib.hid hlen
        clear C1 C2 hne hlen hh
        go_wp2_with (first
          | (go_at_call 11; ((with_reducible refine (D1.out _).mono ?_); rintro e w' ⟨rfl, x1, rfl⟩))
          | (go_at_call 11; ((with_reducible refine (D2.out _).mono ?_); rintro e w' ⟨rfl, x2, rfl⟩))
          | (go_at_call 15; refine (awake_any _).mono ?_; rintro e w' ⟨rfl, hg⟩))
        go_ret
        exact ⟨rfl, hbe.trans ((below_of (below_of (below_alloc _ _) (below_alloc _ _)) hg).mono (by omega))⟩
theorem burst_small (b : ByteArray) (h5 : b.size < 5) (x : Int) (p : Int) (w : World) :
    Calls Try.prog 6 #[.string b, .int .i64 x, .int .u32 p] w fun e w' => e = .returned (.bool true) ∧ Below w.heap.size w w' := by
  have h5' : (b.size : Int) < 5 := by omega
  go_enter Try.func6, Try.ntmps6
  go_wp2_with (go_at_call 15; refine (awake_any _).mono ?_; rintro e w' ⟨rfl, hg⟩)
  go_ret
  exact ⟨rfl, hg⟩
theorem burst_none (b : ByteArray) (h5 : 5 ≤ b.size) (x : Int) (w : World) :
    Calls Try.prog 6 #[.string b, .int .i64 x, .int .u32 0] w fun e w' => e = .returned (.bool true) ∧ Below w.heap.size w w' := by
  have h5' : (5 : Int) ≤ b.size := by omega
  go_enter Try.func6, Try.ntmps6
  go_wp2_with (go_at_call 15; refine (awake_any _).mono ?_; rintro e w' ⟨rfl, hg⟩)
  go_ret
  exact ⟨rfl, hg⟩
theorem sumBurst_walk (b : ByteArray) (hb : b.size ≤ reachBytes) (x : Int) (_hx : (Lit.int .i64 x).wf = true) (y : Int) (hy : (Lit.int .u32 y).wf = true) (w : World) :
    Calls Try.prog 6 #[.string b, .int .i64 x, .int .u32 y] w fun e w' => e = .returned (.bool true) ∧ Below w.heap.size w w' := by
  by_cases h5 : b.size < 5
  · exact burst_small b h5 x y w
  · obtain ⟨p, rfl⟩ := u32_bv hy
    by_cases hp : p = 0#32
    · subst hp; exact burst_none b (by omega) x w
    · rcases Int.lt_or_le x 0 with h | h
      · exact burst_at b hb (by omega) x (8 * b.size - 32) (by omega) (Or.inr (Or.inl ⟨h, by omega⟩)) p hp w
      · rcases Int.lt_or_le ((b.size : Int) * 8 - 32) x with h' | h'
        · exact burst_at b hb (by omega) x (8 * b.size - 32) (by omega) (Or.inr (Or.inr ⟨h', h, by omega⟩)) p hp w
        · exact burst_at b hb (by omega) x x.toNat (by omega) (Or.inl (by omega)) p hp w
--LAW freshetlaw01.SumBurst sumBurst_walk string:b int:x uint32:y
--BEGIN
namespace SumBurstProof
open Go.ChangeShapes Go.WideShapes Go.ChangeAt Go.RowKit
open Go.ChangeMaps (open_string shut_string)
theorem own : ownKnob Try.prog.godebug = none := by kernel_rfl
set_option maxRecDepth 100000 in
theorem lifted (os : Os) (started : os.Started) (H : Type) (enc : TypeId × Value → H) :
    ReturnsInHanded {} Try.checked os 6 .any (Rows.sumBurstSpec.pre6 enc Try.prog Try.f6 Rows.sumBurstRow.domain false) (Rows.sumBurstSpec.post enc Try.prog Try.f6 false true false false) := by
  refine returnsInHanded_of_change_sized (C := Try.checked) own started (by kernel_rfl) Try.func6
    (ChangeSpec.witness6 (enc := enc) (C := Try.checked) false ⟨#[], #[.string .empty, .int .i64 0, .int .u32 0], []⟩ 8 (by kernel_rfl) (by kernel_rfl) (by kernel_rfl) (by kernel_rfl)) ?_
  intro W base args ds gs before hval0 hW _ hsz _
  have hval : ∀ (j : Nat) t v, Try.f6.params[j]? = some t → args[j]? = some v → Value.okWide Try.prog W .any base t v := hval0
  have hW' := hW
  obtain ⟨p, q, hA0, hV, rfl, hfz, hnd⟩ := hW
  have hA : DataW.TrodAll enc Try.prog W 0 (fun _ => true) true Try.f6.params.toList args.toList ds p := hA0
  rw [Try.params6] at hA hval hsz
  obtain ⟨v0, vs0, d0, ds0, p0, q0, hargs, rfl, rfl, h0, r0⟩ := trodAll_cons hA
  obtain ⟨v1, vs1, d1, ds1, p1, q1, rfl, rfl, rfl, h1, r1⟩ := trodAll_cons r0
  obtain ⟨v2, vs2, d2, ds2, p2, q2, rfl, rfl, rfl, h2, r2⟩ := trodAll_cons r1
  obtain ⟨rfl, rfl, rfl⟩ := trodAll_nil r2
  obtain rfl : args = #[v0, v1, v2] := by cases args; simp_all
  obtain ⟨rfl, rfl⟩ := trodVars_none hV
  obtain ⟨b, rfl, rfl, rfl, m0⟩ := open_string Try.underlying9 (hval 0 9 v0 rfl rfl) h0
  obtain ⟨x, rfl, rfl, rfl, m1⟩ := open_int Try.underlying3 (hval 1 3 v1 rfl rfl) h1
  obtain ⟨y, rfl, rfl, rfl, m2⟩ := open_int Try.underlying22 (hval 2 22 v2 rfl rfl) h2
  have z0 : b.size ≤ reachBytes := by have := sized_string hsz (j := 0) (t := 9) (bytes := b.data.toList) rfl rfl; simpa using this
  clear hA0 hval0
  simp only [List.append_nil] at hW'
  refine (sumBurst_walk b z0 x m1 y m2 W).mono fun e W' ⟨he, hg⟩ => ?_
  subst he
  exact ⟨_, rfl, _, _, _, [], [], [], hW', (trodAll_cons_mk (shut_bool Try.underlying4 _) trodAll_mk0), (trodAll_cons_mk (shut_string Try.underlying9 m0) (trodAll_cons_mk (shut_int Try.underlying3 m1) (trodAll_cons_mk (shut_int Try.underlying22 m2) trodAll_mk0))), rfl, hg.frame _, fun h => by cases h⟩
theorem holds : Rows.SumBurstSaid :=
  OpenClaim.holds_of_wide 6 Try.f6 rfl rfl rfl rfl rfl rfl rfl ⟨rfl, rfl, rfl, rfl, rfl⟩ rfl rfl rfl rfl rfl (by kernel_rfl) Try.func6 (by kernel_rfl)
    (of_decide_eq_true (by kernel_rfl)) (by unfold Func.isWrapper; first | (rw [if_pos (by decide +kernel)]; kernel_rfl) | (rw [if_neg (by decide +kernel)]; exact ⟨rfl, rfl⟩))
    (fun os started H enc _ => lifted os started H enc)
end SumBurstProof
--END
end Go.Proofs.Ytkmkombmkaihiaa
