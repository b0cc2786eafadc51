/-
  The contracts of code.Ord, code.PutOrd and of the document's own: each answers the plain mathematics' ordered number. Condition: a text of a length that there is; a number of 64 bits.
-/
import Derived.Test.YtfmdjlhoikedpaaDoorCodeUint
namespace Go.Proofs.YtfmdjlhoikedpaaDoor
open Go.RowKit
theorem slice_eight (g : Nat) (v : World) : (Instr.sliceAt 55 (.pointer (some ⟨g, 0, none⟩)) none none none).run Tryd.prog v = .ok (.slice (some ⟨g, 0, none⟩) 8 8) v := by
  have hL : Tryd.prog.arrayLen 55 = 8 := by kernel_rfl
  have hE : Tryd.prog.elem 55 = 5 := by kernel_rfl
  have ht : Tryd.prog.underlying 55 = some (.array (Tryd.prog.arrayLen 55) (Tryd.prog.elem 55)) := by rw [hL, hE]; exact Tryd.underlying55
  rw [run_sliceAt_array_all v _ _ ht, hE, Tryd.sizeOf5 v, hL]
  simp [slicedAt, go_sem]
theorem ord_up {n : Int} (h : -9223372036854775808 ≤ n ∧ n ≤ 9223372036854775807) : ∃ U : Nat, U < 2 ^ 64 ∧ n = (U : Int) - 9223372036854775808 := ⟨(n + 9223372036854775808).toNat, by omega, by omega⟩
theorem byte_div (U i : Nat) : ((U / 256 ^ i : Nat) : Int) % 256 = ((UInt8.ofNat (U / 256 ^ i)).toNat : Int) := by rw [UInt8.toNat_ofNat']; omega
theorem ord_in (U : Nat) (hU : U < 2 ^ 64) : IntKind.u64.wrap (IntKind.u64.wrap ((U : Int) - 9223372036854775808) + 9223372036854775808) = (U : Int) := by
  rw [IntKind.wrap_u64, IntKind.wrap_u64]; omega
set_option maxRecDepth 100000 in
set_option maxHeartbeats 1000000 in
theorem putord_any (U : Nat) (hU : U < 2 ^ 64) (w : World) :
    Calls Tryd.prog 20 #[.int .i64 ((U : Int) - 9223372036854775808)] w fun e w' => e = .returned (.string ⟨(Code.be 8 U).toArray⟩) ∧ Below w.heap.size w w' := by
  have hin := ord_in U hU
  go_enter Tryd.func20, Tryd.ntmps20
  go_wp2
  go_loopw [3, 9] (fun u d wr => ∃ i q : Nat, i ≤ 8 ∧ q = U / 256 ^ i ∧ u = .int .u64 (q : Int) ∧ d = .int .i64 (i : Int) ∧ Holds8 wr w.heap.size (List.replicate (8 - i) 0 ++ Code.be i U) ∧ Below w.heap.size w wr ∧ w.heap.size < wr.heap.size) (fun _ d _ => 8 - (intOf d).toNat)
  case atStart =>
    refine ⟨0, U, by omega, by simp, rfl, rfl, ?_, below_alloc _ _, by simp⟩
    intro q hq
    have hq : q < 8 := by simpa [Code.be] using hq
    refine ⟨?_, World.frozen?_alloc_new _ _ _ _⟩
    rw [World.cell?_alloc_new]
    rcases (show q = 0 ∨ q = 1 ∨ q = 2 ∨ q = 3 ∨ q = 4 ∨ q = 5 ∨ q = 6 ∨ q = 7 by omega) with rfl | rfl | rfl | rfl | rfl | rfl | rfl | rfl <;> rfl
  case round =>
    obtain ⟨i, q, hi, hq, rfl, rfl, hH, hB, hsz⟩ := hrel
    have HQ := Lib.hid hq
    clear hq
    by_cases h8 : i = 8
    · subst h8
      have hcv := holds8_text hH 8 8 (by simp [Code.be_length])
      have hsl := slice_eight w.heap.size wr
      go_wp2
      go_ret
      exact ⟨rfl, hB⟩
    · obtain ⟨hx1, hx2⟩ := hH (7 - i) (by simp; omega)
      have HH := Lib.hid hH
      clear hH
      go_wp2
      go_roundw
      case rel =>
        refine ⟨i + 1, q / 256, by omega, by rw [HQ.out, Nat.div_div_eq_div_mul, Nat.pow_succ], by go_num, by go_num, ?_, hB.setCell (by simp) _, by simpa using hsz⟩
        have e : (List.replicate (8 - i) 0 ++ Code.be i U).set (7 - i) (UInt8.ofNat q) = List.replicate (8 - (i + 1)) 0 ++ Code.be (i + 1) U := by
          rw [Code.be_front, ← HQ.out, List.set_append_left _ _ (by simp; omega)]
          have e1 : 8 - i = (8 - (i + 1)) + 1 := by omega
          rw [e1, List.replicate_succ', List.set_append_right _ _ (by simp)]
          have e2 : 7 - i - (List.replicate (8 - (i + 1)) (0 : UInt8)).length = 0 := by simp
          rw [e2, List.append_assoc]; rfl
        rw [← e]
        exact holds8_put HH.out (7 - i) (by simp; omega) _ _ (by rw [UInt8.toNat_ofNat']; omega)
      case measure => simp [intOf]; omega
set_option maxRecDepth 100000 in
set_option maxHeartbeats 1000000 in
theorem refputord_any (U : Nat) (hU : U < 2 ^ 64) (w : World) :
    Calls Tryd.prog 21 #[.int .i64 ((U : Int) - 9223372036854775808)] w fun e w' => e = .returned (.string ⟨(Code.be 8 U).toArray⟩) ∧ Below w.heap.size w w' := by
  have hin := ord_in U hU
  go_enter Tryd.func21, Tryd.ntmps21
  go_wp2
  go_loopw [3, 4, 5] (fun u t d wr => ∃ (i q : Nat) (l : List UInt8), i ≤ 8 ∧ q < 2 ^ 64 ∧ q = U / 256 ^ i ∧ l = Code.be i U ∧ l.length = i ∧ u = .int .u64 (q : Int) ∧ t = .string ⟨l.toArray⟩ ∧ d = .int .i64 (i : Int) ∧ Below w.heap.size w wr) (fun _ _ d _ => 8 - (intOf d).toNat)
  case atStart => exact ⟨0, U, [], by omega, hU, by simp, rfl, rfl, rfl, rfl, rfl, Below.refl _ _⟩
  case round =>
    obtain ⟨i, q, l, hi, hq64, hq, hl, hll, rfl, rfl, rfl, hB⟩ := hrel
    have HQ := Lib.hid hq
    have HL := Lib.hid hl
    clear hq hl
    by_cases h8 : i = 8
    · subst h8
      go_wp2
      go_ret
      exact ⟨by rw [← HL.out]; rfl, hB⟩
    · obtain ⟨y, hY⟩ := named (UInt8.ofNat q)
      have hcv := text_one wr y ((q : Int) % 256) (by rw [hY.out, UInt8.toNat_ofNat']; omega) 5
      go_wp2
      go_roundw
      case rel =>
        exact ⟨i + 1, q / 256, y :: l, by omega, by omega, by rw [HQ.out, Nat.div_div_eq_div_mul, Nat.pow_succ], by rw [Code.be_front, ← HQ.out, ← HL.out, ← hY.out], by simp [hll], by go_num, rfl, by go_num, hB.alloc hB.size _⟩
      case measure => simp [intOf]; omega
theorem or_byte (u : Nat) (c : UInt8) (h : u * 256 + c.toNat < 2 ^ 64) : bits .or .u64 ((u : Int) * 256) (c.toNat : Int) = ((u * 256 + c.toNat : Nat) : Int) := by
  have hc := UInt8.toNat_lt c
  have h1 : u * 256 < 2 ^ 64 := Nat.lt_of_le_of_lt (Nat.le_add_right _ _) h
  have h2 : c.toNat < 2 ^ 64 := Nat.lt_of_le_of_lt (Nat.le_add_left _ _) h
  have e0 : ((u * 256 : Nat) : Int) = (u : Int) * 256 := Int.natCast_mul u 256
  have h3 := or64_nat h1 h2
  rw [e0] at h3
  rw [h3]
  have := Nat.two_pow_add_eq_or_of_lt (i := 8) (b := c.toNat) hc u
  rw [Nat.mul_comm] at this
  rw [← this]
theorem ord_out (U : Nat) (hU : U < 2 ^ 64) : IntKind.i64.wrap (IntKind.u64.wrap ((U : Int) - 9223372036854775808)) = (U : Int) - 9223372036854775808 := by
  rw [IntKind.wrap_u64, IntKind.wrap_i64]; omega
set_option maxRecDepth 100000 in
set_option maxHeartbeats 1000000 in
theorem ord_any (s : ByteArray) (hs : s.size ≤ maxLen) (w : World) :
    Calls Tryd.prog 18 #[.string s] w fun e w' =>
      e = .returned (.tuple #[.int .i64 (Code.rdOrd s.data.toList).1, .int .i64 ((Code.rdOrd s.data.toList).2 : Int)]) ∧ Below w.heap.size w w' := by
  have hmf := makes_func
  go_enter Tryd.func18, Tryd.ntmps18
  go_wp2
  refine wp_scope_fwd 0 rfl ?_
  go_wp2
  go_loopw [6, 12] (fun u d wr => ∃ i q : Nat, i ≤ 8 ∧ i ≤ s.size ∧ q = Code.unbe (s.data.toList.take i) ∧ u = .int .u64 (q : Int) ∧ d = .int .i64 (i : Int) ∧ CurAt wr w.heap.size s i ∧ Below w.heap.size w wr) (fun _ d _ => 8 - (intOf d).toNat)
  case atStart => exact ⟨0, 0, by omega, by omega, rfl, rfl, rfl, cur_new _ _ _, below_alloc _ _⟩
  case round =>
    obtain ⟨i, q, hi, his, hq, rfl, rfl, hc, hB⟩ := hrel
    have hqb : q < 256 ^ i := by rw [hq]; exact Code.unbe_lt i _ (by simp; omega)
    have HQ := Lib.hid hq
    clear hq
    by_cases h8 : i = 8
    · subst h8
      have hq64 : q < 2 ^ 64 := by omega
      have hout := ord_out q hq64
      go_wp2
      rw [jump_ret]
      go_returns
      have hlen : ¬ s.data.toList.length < 8 := by simp; omega
      unfold Code.rdOrd
      rw [if_neg hlen, ← HQ.out]
      exact ⟨rfl, hB⟩
    · have hlt8 : i < 8 := by omega
      go_wp2_with fail
      by_cases he : i = s.size
      · refine (next_none s w.heap.size i wr hc he).mono ?_
        rintro e w' ⟨rfl, hc', hB'⟩
        go_wp2
        go_step3
        refine ⟨rfl, ?_⟩
        go_wp2
        rw [Exit.noGoto_ret]
        go_returns
        have hlen : s.data.toList.length < 8 := by simp; omega
        unfold Code.rdOrd
        rw [if_pos hlen]
        exact ⟨rfl, hB.trans (hB'.below (Nat.le_refl _) hB.size)⟩
      · have hlt : i < s.size := by omega
        refine (next_some s w.heap.size i wr hc hlt hs).mono ?_
        have hsn := Code.take_snoc s.data.toList i (by simpa using hlt)
        have hix : s.data.toList[i]'(by simpa using hlt) = s[i] := rfl
        rw [hix] at hsn
        obtain ⟨c, hC⟩ := named s[i]
        rw [← hC.out] at hsn ⊢
        have HS := Lib.hid hsn
        clear hsn hix
        rintro e w' ⟨rfl, hc', hB'⟩
        have hcl := UInt8.toNat_lt c
        have hp7 : 256 ^ i ≤ 256 ^ 7 := Nat.pow_le_pow_right (by omega) (by omega)
        have hsum : q * 256 + c.toNat < 2 ^ 64 := by omega
        have hor := or_byte q c hsum
        clear hqb hp7
        go_wp2
        go_roundw
        case rel => exact ⟨i + 1, q * 256 + c.toNat, by omega, by omega, by rw [HS.out, Code.unbe_snoc, ← HQ.out], by go_num, by go_num, hc', hB.trans (hB'.below (Nat.le_refl _) hB.size)⟩
        case measure => simp [intOf]; omega
set_option maxRecDepth 100000 in
set_option maxHeartbeats 1000000 in
theorem reford_any (s : ByteArray) (hs : s.size ≤ maxLen) (w : World) :
    Calls Tryd.prog 19 #[.string s] w fun e w' =>
      e = .returned (.tuple #[.int .i64 (Code.rdOrd s.data.toList).1, .int .i64 ((Code.rdOrd s.data.toList).2 : Int)]) ∧ w' = w := by
  unfold maxLen at hs
  unfold Code.rdOrd
  go_enter Tryd.func19, Tryd.ntmps19
  by_cases h8 : s.size < 8
  · have hlen : s.data.toList.length < 8 := by simpa using h8
    rw [if_pos hlen]
    clear hlen
    go_wp2
    go_returns
    exact ⟨rfl, rfl⟩
  · have hlen : ¬ s.data.toList.length < 8 := by simpa using h8
    rw [if_neg hlen]
    clear hlen
    have h8' : 8 ≤ s.size := by omega
    go_wp2
    go_loop [4, 5] (fun u d => ∃ i q : Nat, i ≤ 8 ∧ q = Code.unbe (s.data.toList.take i) ∧ u = .int .u64 (q : Int) ∧ d = .int .i64 (i : Int)) (fun _ d => 8 - (intOf d).toNat)
    case atStart => exact ⟨0, 0, by omega, rfl, rfl, rfl⟩
    case round =>
      obtain ⟨i, q, hi, hq, rfl, rfl⟩ := hrel
      have hqb : q < 256 ^ i := by rw [hq]; exact Code.unbe_lt i _ (by simp; omega)
      have HQ := Lib.hid hq
      clear hq
      by_cases h8 : i = 8
      · subst h8
        have hq64 : q < 2 ^ 64 := by omega
        have hout := ord_out q hq64
        go_wp2
        go_returns
        rw [← HQ.out]
        exact ⟨rfl, rfl⟩
      · have hlt : i < s.size := by omega
        have hsn := Code.take_snoc s.data.toList i (by simpa using hlt)
        have hix : s.data.toList[i]'(by simpa using hlt) = s[i] := rfl
        rw [hix] at hsn
        have HS := Lib.hid hsn
        clear hsn hix
        have hcl := UInt8.toNat_lt s[i]
        have hp7 : 256 ^ i ≤ 256 ^ 7 := Nat.pow_le_pow_right (by omega) (by omega)
        have hsum : q * 256 + s[i].toNat < 2 ^ 64 := by omega
        clear hqb hp7
        go_wp2
        go_round
        case rel => exact ⟨i + 1, q * 256 + s[i].toNat, by omega, by rw [HS.out, Code.unbe_snoc, ← HQ.out], by go_num, by go_num⟩
        case measure => simp [intOf]; omega
end Go.Proofs.YtfmdjlhoikedpaaDoor
