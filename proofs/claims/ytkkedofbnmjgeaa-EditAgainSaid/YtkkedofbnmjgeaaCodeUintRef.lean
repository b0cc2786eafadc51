/-
  The contracts of the document's own Uint and PutUint. Condition: as those of the program's.
-/
import Derived.Test.YtkkedofbnmjgeaaCodeUint
namespace Go.Proofs.Ytkkedofbnmjgeaa
set_option maxRecDepth 100000
open Go.RowKit
set_option maxRecDepth 100000 in
set_option maxHeartbeats 2000000 in
theorem refuint_any (s : ByteArray) (hs : s.size ≤ maxLen) (w : World) :
    Calls Try.prog 67 #[.string s] w fun e w' =>
      e = .returned (.tuple #[.int .u64 ((Code.rd 0 s.data.toList).1 : Int), .int .i64 ((Code.rd 0 s.data.toList).2.1 : Int), .int .i64 ((Code.rd 0 s.data.toList).2.2 : Int)]) ∧ w' = w := by
  unfold maxLen at hs
  have hfit := Code.rd_fits s.data.toList
  obtain ⟨R, HR⟩ := named (Code.rd 0 s.data.toList)
  rw [← HR.out] at hfit ⊢
  go_enter Try.func67, Try.ntmps67
  go_wp2
  go_loop [5] (fun d => ∃ k : Nat, k ≤ s.size ∧ k ≤ 10 ∧ d = .int .i64 (k : Int) ∧ (∀ i, i < k → 128 ≤ (s.data.toList.getD i 0).toNat)) (fun d => 10 - (intOf d).toNat)
  case atStart => exact ⟨0, by omega, by omega, rfl, fun i h => by omega⟩
  case round =>
    obtain ⟨k, hk, hk10, rfl, hlead⟩ := hrel
    have hL := Lib.hid hlead
    clear hlead
    by_cases hend : k = s.size
    · by_cases h10 : k < 10
      · go_wp2
        go_returns
        have hR := HR.out
        rw [Code.rd_lead _ k (by omega) (by simp; omega) hL.out, List.drop_eq_nil_of_le (by simp; omega), Code.lift_nil] at hR
        rw [hR]; exact ⟨rfl, rfl⟩
      · have h10' : k = 10 := by omega
        subst h10'
        have hlen : s.size = 10 := hend.symm
        clear hend
        go_wp2
        go_returns
        have hR := HR.out
        have h9 := hL.out 9 (by omega)
        rw [Code.rd_lead _ 9 (by omega) (by simp; omega) (fun i hi => hL.out i (by omega)), drop_byte s 9 (by omega), Code.lift_form _ _ _ (Or.inr ⟨by rw [← getD_byte s 9 (by omega)]; omega, rfl⟩)] at hR
        rw [hR]; exact ⟨rfl, rfl⟩
    · have hlt : k < s.size := by omega
      by_cases h10 : k = 10
      · subst h10
        go_wp2
        go_returns
        have hR := HR.out
        have h9 := hL.out 9 (by omega)
        rw [Code.rd_lead _ 9 (by omega) (by simp; omega) (fun i hi => hL.out i (by omega)), drop_byte s 9 (by omega), Code.lift_form _ _ _ (Or.inr ⟨by rw [← getD_byte s 9 (by omega)]; omega, rfl⟩)] at hR
        rw [hR]; exact ⟨rfl, rfl⟩
      · have hlt10 : k < 10 := by omega
        obtain ⟨c, hC⟩ := named s[k]
        have hcl := UInt8.toNat_lt c
        have HC := Lib.hid hC.out.symm
        have hc0 := hC.out.symm
        by_cases hbig : 128 ≤ c.toNat
        · have hbig' : 128 ≤ (c.toNat : Int) := by omega
          go_wp2
          go_round
          case rel =>
            refine ⟨k + 1, by omega, by omega, by go_num, fun i hi => ?_⟩
            by_cases h : i = k
            · subst h; rw [getD_byte s _ hlt, HC.out]; exact hbig
            · exact hL.out i (by omega)
          case measure => simp [intOf]; omega
        · have hbig' : (c.toNat : Int) < 128 := by omega
          by_cases hf1 : 0 < k ∧ c.toNat = 0
          · obtain ⟨h1, h2⟩ := hf1
            have H2 := Lib.hid h2
            go_wp2
            go_returns
            have hR := HR.out
            rw [Code.rd_lead _ k (by omega) (by simp; omega) hL.out, drop_byte s k hlt, HC.out, Code.lift_form _ _ _ (Or.inl ⟨H2.out, h1⟩)] at hR
            rw [hR]; exact ⟨rfl, rfl⟩
          by_cases hf2 : k = 9 ∧ 1 < c.toNat
          · obtain ⟨rfl, h2⟩ := hf2
            have h2' : 1 < (c.toNat : Int) := by omega
            go_wp2
            go_returns
            have hR := HR.out
            rw [Code.rd_lead _ 9 (by omega) (by simp; omega) hL.out, drop_byte s 9 hlt, HC.out, Code.lift_form _ _ _ (Or.inr ⟨h2, rfl⟩)] at hR
            rw [hR]; exact ⟨rfl, rfl⟩
          have hR : R = (Code.accOf s.data.toList k + 128 ^ k * c.toNat, k + 1, 0) := by
            have hR := HR.out
            rw [Code.rd_lead _ k (by omega) (by simp; omega) hL.out, drop_byte s k hlt, HC.out, Code.lift_last _ _ _ (by omega) (by omega)] at hR
            exact hR
          have HT := Lib.hid hR
          clear hR
          have htop : Code.accOf s.data.toList (k + 1) = R.1 := by
            rw [HT.out, Code.accOf, getD_byte s k hlt, HC.out, Nat.mod_eq_of_lt (by omega)]
          have HA := Lib.hid htop
          have HFit := Lib.hid hfit
          clear htop hfit
          have hkk : (c.toNat = 0 ∧ (k : Int) ≤ 0) ∨ (k = 9 ∧ c.toNat = 1) ∨ (((c.toNat : Int) == 0) = false ∧ ((k : Int) == 9) = false) := by
            by_cases hz : c.toNat = 0
            · exact Or.inl ⟨hz, by omega⟩
            by_cases h1 : k = 9
            · exact Or.inr (Or.inl ⟨h1, by omega⟩)
            · exact Or.inr (Or.inr ⟨beq_eq_false_iff_ne.2 (by omega), beq_eq_false_iff_ne.2 (by omega)⟩)
          obtain ⟨K, hK⟩ : ∃ K, K = k + 1 := ⟨_, rfl⟩
          have hKs : K ≤ s.size := by omega
          rw [← hK] at HA
          have hfin : ((R.1 : Int) = R.1 ∧ (R.2.1 : Int) = (K : Int) ∧ (R.2.2 : Int) = 0) := by rw [HT.out]; exact ⟨rfl, by rw [hK], rfl⟩
          have HF := Lib.hid hfin
          have hkK : (k : Int) = (K : Int) - 1 := by omega
          clear hfin HT
          have HK := Lib.hid hkK
          clear hkK hK
          rcases hkk with ⟨hz, hk0⟩ | ⟨rfl, h1⟩ | ⟨hz, hk9⟩
          all_goals clear hC hf1 hf2
          all_goals go_wp2
          all_goals
            go_loop [6, 7] (fun n d => ∃ j m : Nat, j ≤ K ∧ n = .int .u64 (m : Int) ∧ d = .int .i64 ((j : Int) - 1) ∧ m * 128 ^ j + Code.accOf s.data.toList j = R.1) (fun _ d => (intOf d + 1).toNat)
            case atStart => exact ⟨K, 0, by omega, rfl, by have := HK.out; congr 1, by rw [Nat.zero_mul, Nat.zero_add]; exact HA.out⟩
            case round =>
              obtain ⟨j, m, hj, rfl, rfl, hm⟩ := hrel
              cases j with
              | zero =>
                go_wp2
                go_returns
                have e1 : m = R.1 := by simpa [Code.accOf] using hm
                have e2 : (R.2.1 : Int) = ((K : Int) - 1) + 1 := by have := HF.out.2.1; omega
                rw [← HK.out] at e2
                rw [e2, HF.out.2.2, e1]
                exact ⟨rfl, rfl⟩
              | succ j =>
                have hd : ((j + 1 : Nat) : Int) - 1 = (j : Int) := by omega
                rw [hd]
                have hjs : j < s.size := by omega
                rw [Code.accOf, getD_byte s j hjs, Nat.pow_succ, ← Nat.mul_assoc, Nat.mul_right_comm, ← Nat.add_assoc, Nat.add_right_comm, Nat.mul_comm (128 ^ j), ← Nat.add_mul] at hm
                have hb := HFit.out
                have hle : m * 128 + s[j].toNat % 128 ≤ R.1 := by
                  have := Nat.mul_le_mul_left (m * 128 + s[j].toNat % 128) (Nat.pow_pos (n := j) (show 0 < 128 by omega))
                  omega
                have HM := Lib.hid hm
                clear hm
                go_wp2
                go_round
                case rel =>
                  refine ⟨j, m * 128 + s[j].toNat % 128, by omega, ?_, rfl, HM.out⟩
                  go_num
                case measure => first | (simp [intOf]; done) | (simp [intOf]; omega)
end Go.Proofs.Ytkkedofbnmjgeaa
