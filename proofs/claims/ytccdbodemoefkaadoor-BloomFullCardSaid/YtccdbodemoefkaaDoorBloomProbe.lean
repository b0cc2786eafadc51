/-
  The contract of the program's inner function that hands the bits of a key on, whatever is done with them. Condition: a text of a length that there is, at most 1000 probes, at most 2^28 bytes.
-/
import Derived.Test.YtccdbodemoefkaaDoorBloomMath
import Derived.Test.YtccdbodemoefkaaDoorSumHash
namespace Go.Proofs.YtccdbodemoefkaaDoor
set_option maxRecDepth 100000
open Go.RowKit
theorem or1_code (s : BitVec 32) : bits .or .u32 (s.toNat : Int) 1 = ((s ||| 1#32).toNat : Int) := by
  show IntKind.u32.wrap (((BitVec.ofInt 32 (s.toNat : Int) ||| BitVec.ofInt 32 1).toNat : Nat) : Int) = _
  rw [ofInt_bv]
  exact wrap_bv _
theorem idx_code (key : List UInt8) (i : Nat) : (((Blm.idx key i).toNat : Int) + ((Crc.hash 2#32 key ||| 1#32).toNat : Int)) % 4294967296 = ((Blm.idx key (i + 1)).toNat : Int) := by
  rw [Blm.idx_succ, BitVec.toNat_add]; omega
set_option maxHeartbeats 1000000 in
theorem probe_any (key : ByteArray) (hkey : key.size ≤ maxLen) (k n : Nat) (hk : k ≤ 1000) (hn : 0 < n) (hn2 : n ≤ 268435456) (G : FuncId) (caps : Array Value)
    (hE : ∀ (args : Array Value) (w : World), (callFunc G args).run Tryd.prog w = .ok (.enter G args) w) (w : World) (J : Nat → World → Prop) (K : World → Prop)
    (h0 : ∀ u, Below w.heap.size w u → J 0 u)
    (hV : ∀ i u, i < k → J i u → Calls Tryd.prog G (#[.int .u32 ((Blm.pos (8 * n) key.data.toList i / 8 : Nat) : Int), .int .u32 ((Blm.pos (8 * n) key.data.toList i % 8 : Nat) : Int)] ++ caps) u fun e u' => ∃ b, e = .returned (.bool b) ∧ (b = true → J (i + 1) u') ∧ (b = false → K u')) :
    Calls Tryd.prog 14 #[.string key, .int .i64 (k : Int), .int .i64 (n : Int), .func (.func G) #[] caps] w fun e w' => e = .returned (.tuple #[]) ∧ (J k w' ∨ K w') := by
  obtain ⟨H1, e1⟩ := named (Crc.hash 1#32 key.data.toList)
  obtain ⟨H2, e2⟩ := named (Crc.hash 2#32 key.data.toList)
  have C1 : ∀ u, Hid (Calls Tryd.prog 18 #[.int .u32 1, .string key] u fun e w' => e = .returned (.int .u32 (H1.toNat : Int)) ∧ Below u.heap.size u w') := fun u => Lib.hid ((hash_any 1#32 key u hkey).mono fun e w' ⟨h, h'⟩ => ⟨by rw [h, e1.out], by rw [h']; exact below_alloc _ _⟩)
  have C2 : ∀ u, Hid (Calls Tryd.prog 18 #[.int .u32 2, .string key] u fun e w' => e = .returned (.int .u32 (H2.toNat : Int)) ∧ Below u.heap.size u w') := fun u => Lib.hid ((hash_any 2#32 key u hkey).mono fun e w' ⟨h, h'⟩ => ⟨by rw [h, e2.out], by rw [h']; exact below_alloc _ _⟩)
  have HV : Hid (∀ i u, i < k → J i u → Calls Tryd.prog G (#[.int .u32 (((Blm.idx key.data.toList i).toNat : Int) % ((n : Int) * 8) / 8), .int .u32 (((Blm.idx key.data.toList i).toNat : Int) % 8)] ++ caps) u fun e u' => ∃ b, e = .returned (.bool b) ∧ (b = true → J (i + 1) u') ∧ (b = false → K u')) := Lib.hid (by
    intro i u hi hj
    have h := hV i u hi hj
    unfold Blm.pos at h
    rw [show ((Blm.idx key.data.toList i).toNat : Int) % 8 = (((Blm.idx key.data.toList i).toNat % (8 * n) % 8 : Nat) : Int) by rw [Nat.mod_mul_right_mod]; omega, show ((Blm.idx key.data.toList i).toNat : Int) % ((n : Int) * 8) = (((Blm.idx key.data.toList i).toNat % (8 * n) : Nat) : Int) by rw [Int.natCast_emod]; congr 1; omega]
    exact h)
  have H0 := Lib.hid h0
  clear hV h0 hkey
  go_enter Tryd.func14, Tryd.ntmps14
  go_wp2_with (go_at_call 18; first | ((with_reducible refine (C1 _).out.mono ?_); rintro e w1 ⟨rfl, b1⟩) | ((with_reducible refine (C2 _).out.mono ?_); rintro e w2 ⟨rfl, b2⟩) | fail "no arm")
  have B2 := below_of b1 b2
  obtain ⟨X, hX⟩ : ∃ X : Nat → BitVec 32, Hid (∀ i, X i = Blm.idx key.data.toList i) := ⟨_, Lib.hid fun _ => rfl⟩
  have hX0 : H1 = X 0 := by rw [hX.out, Blm.idx_zero, e1.out]
  obtain ⟨H3, e3⟩ := named (H2 ||| 1#32)
  rw [or1_code, hX0, ← e3.out]
  have HB := Lib.hid B2
  clear b1 b2 B2 C1 C2
  go_loopw [9, 21] (fun x d wr => ∃ i : Nat, i ≤ k ∧ x = .int .u32 ((X i).toNat : Int) ∧ d = .int .i64 i ∧ J i wr) (fun _ d _ => k - (intOf d).toNat)
  case atStart => exact ⟨0, by omega, rfl, rfl, H0.out _ HB.out⟩
  case round =>
    obtain ⟨i, hi, rfl, rfl, hJ⟩ := hrel
    have HJ := Lib.hid hJ
    clear hJ
    by_cases hlt : i < k
    · have HC := HV.out i wr hlt HJ.out
      rw [← hX.out] at HC
      have HH := Lib.hid HC
      clear HC
      have x0 : 0 ≤ ((X i).toNat : Int) % ((n : Int) * 8) := Int.emod_nonneg _ (by omega)
      have x1 : ((X i).toNat : Int) % ((n : Int) * 8) < 4294967296 := Int.lt_of_lt_of_le (Int.emod_lt_of_pos _ (by omega)) (by omega)
      go_wp2_with fail
      refine HH.out.mono ?_
      rintro e w3 ⟨b, rfl, p1, p2⟩
      cases b
      · have P2 := Lib.hid (p2 rfl)
        clear p1 p2
        go_wp2
        first | go_end0 | (simp only [Exit.inBlock, Exit.then]; refine bodyPost_ret (results_none rfl _ _ _) rfl ?_) | refine bodyPost_ret (results_none rfl _ _ _) rfl ?_
        exact ⟨rfl, .inr P2.out⟩
      · have P1 := Lib.hid (p1 rfl)
        clear p1 p2
        go_wp2
        go_roundw
        case rel =>
          refine ⟨i + 1, by omega, ?_, by go_num, P1.out⟩
          rw [e3.out, hX.out, hX.out, e2.out, idx_code]
        case measure => simp [intOf]; omega
    · go_wp2
      go_end0
      obtain rfl : i = k := by omega
      exact ⟨rfl, .inl HJ.out⟩
end Go.Proofs.YtccdbodemoefkaaDoor
