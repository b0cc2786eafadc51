/-
  The contracts of the document's own Text and PutText. Condition: as those of the program's.
-/
import Derived.Test.YtpobfheioondaaaDoorCodeText
namespace Go.Proofs.YtpobfheioondaaaDoor
open Go.RowKit
set_option maxRecDepth 100000 in
set_option maxHeartbeats 4000000 in
theorem reftext_any (s : ByteArray) (hs : s.size ≤ reachBytes) (w : World) :
    Calls Tryd.prog 35 #[.string s] w fun e w' =>
      e = .returned (.tuple #[.string ⟨(Code.untxt s.data.toList).1.toArray⟩, .int .i64 ((Code.untxt s.data.toList).2.1 : Int), .int .i64 ((Code.untxt s.data.toList).2.2 : Int)]) ∧ w' = w := by
  unfold reachBytes at hs
  obtain ⟨R, HR⟩ := named (Code.untxt s.data.toList)
  rw [← HR.out]
  go_enter Tryd.func35, Tryd.ntmps35
  go_wp2
  go_loop [5, 6] (fun t d => ∃ (k : Nat) (pre : List UInt8), k ≤ s.size ∧ pre.length ≤ k ∧ t = .string ⟨pre.toArray⟩ ∧ d = .int .i64 (k : Int) ∧ R = Code.liftT k pre (Code.untxt (s.data.toList.drop k))) (fun _ d => s.size - (intOf d).toNat)
  case atStart => exact ⟨0, [], by omega, by simp, rfl, rfl, by rw [List.drop_zero, Code.liftT_zero]; exact HR.out⟩
  case round =>
    obtain ⟨k, pre, hk, hpk, rfl, rfl, hR⟩ := hrel
    have HR2 := Lib.hid hR
    clear hR
    by_cases he : k = s.size
    · go_wp2
      go_returns
      have hd : s.data.toList.drop k = [] := List.drop_eq_nil_of_le (by simp; omega)
      have := HR2.out
      rw [hd, Code.liftT_nil] at this
      rw [this]
      exact ⟨rfl, rfl⟩
    have hks : k < s.size := by omega
    have hd := Lib.hid (drop_byte s k hks)
    have hx := slice_one s k hks w
    have hcl := UInt8.toNat_lt s[k]
    by_cases h0 : s[k].toNat = 0
    · have hc0 : s[k] = 0 := UInt8.toNat_inj.1 h0
      rw [hc0] at hd
      clear hx hcl hc0
      by_cases he2 : k + 1 = s.size
      · have he2' : (k : Int) + 1 = (s.size : Int) := by omega
        go_wp2
        go_returns
        have hd2 : s.data.toList.drop (k + 1) = [] := List.drop_eq_nil_of_le (by simp; omega)
        have := HR2.out
        rw [hd.out, hd2, Code.liftT_one] at this
        rw [this]
        exact ⟨rfl, rfl⟩
      have hks2 : k + 1 < s.size := by omega
      have hne2 : (((k : Int) + 1) == (s.size : Int)) = false := beq_eq_false_iff_ne.2 (by omega)
      have hd2 := Lib.hid (drop_byte s (k + 1) hks2)
      have hdl := UInt8.toNat_lt s[k + 1]
      by_cases h1 : s[k + 1].toNat = 1
      · have hd1 : s[k + 1] = 1 := UInt8.toNat_inj.1 h1
        rw [hd1] at hd2
        clear hd1
        go_wp2
        go_returns
        have := HR2.out
        rw [hd.out, hd2.out, Code.liftT_end] at this
        rw [this]
        exact ⟨rfl, rfl⟩
      by_cases h255 : s[k + 1].toNat = 255
      · have hd1 : s[k + 1] = 255 := UInt8.toNat_inj.1 h255
        rw [hd1] at hd2
        clear hd1
        have hR3 := HR2.out
        rw [hd.out, hd2.out, Code.liftT_zero_byte] at hR3
        have HR3 := Lib.hid hR3
        clear hR3
        go_wp2
        go_round
        case rel => exact ⟨k + 2, pre ++ [0], by omega, by simp; omega, rfl, by go_num, HR3.out⟩
        case measure => simp [intOf]; omega
      · have e1 : ((s[k + 1].toNat : Int) == 1) = false := beq_eq_false_iff_ne.2 (by omega)
        have e2 : ((s[k + 1].toNat : Int) == 255) = false := beq_eq_false_iff_ne.2 (by omega)
        have e3 : ((s[k + 1].toNat : Int) != 255) = true := bne_iff_ne.2 (by omega)
        go_wp2
        go_returns
        have := HR2.out
        rw [hd.out, hd2.out, Code.liftT_form _ _ _ (fun e => h1 (by rw [e]; rfl)) (fun e => h255 (by rw [e]; rfl))] at this
        rw [this]
        exact ⟨rfl, rfl⟩
    · have e0 : ((s[k].toNat : Int) == 0) = false := beq_eq_false_iff_ne.2 (by omega)
      have e1 : ((s[k].toNat : Int) != 0) = true := bne_iff_ne.2 (by omega)
      have hR3 := HR2.out
      rw [hd.out, Code.liftT_byte _ _ _ (fun e => h0 (by rw [e]; rfl))] at hR3
      have HR3 := Lib.hid hR3
      clear hR3
      go_wp2
      go_round
      case rel => exact ⟨k + 1, pre ++ [s[k]], by omega, by simp; omega, rfl, by go_num, HR3.out⟩
      case measure => simp [intOf]; omega
set_option maxRecDepth 100000 in
set_option maxHeartbeats 4000000 in
theorem refputtext_any (t : ByteArray) (ht : t.size ≤ 2147483648) (w : World) :
    Calls Tryd.prog 29 #[.string t] w fun e w' => e = .returned (.string ⟨(Code.txt t.data.toList).toArray⟩) ∧ w' = w := by
  go_enter Tryd.func29, Tryd.ntmps29
  go_wp2
  go_loop [3, 4] (fun u d => ∃ (k : Nat) (l : List UInt8), k ≤ t.size ∧ l.length ≤ 2 * k ∧ l = Code.esc (t.data.toList.take k) ∧ u = .string ⟨l.toArray⟩ ∧ d = .int .i64 (k : Int)) (fun _ d => t.size - (intOf d).toNat)
  case atStart => exact ⟨0, [], by omega, by simp, rfl, rfl, rfl⟩
  case round =>
    obtain ⟨k, l, hk, hlk, hl, rfl, rfl⟩ := hrel
    have HL := Lib.hid hl
    clear hl
    by_cases he : k = t.size
    · go_wp2
      go_ret
      have hl := HL.out
      rw [List.take_of_length_le (by simp; omega)] at hl
      unfold Code.txt
      rw [← hl]
      exact ⟨rfl, rfl⟩
    have hks : k < t.size := by omega
    have hx := slice_one t k hks w
    have hcl := UInt8.toNat_lt t[k]
    have hsn := Code.take_snoc t.data.toList k (by simpa using hks)
    have hix : t.data.toList[k]'(by simpa using hks) = t[k] := rfl
    rw [hix] at hsn
    have HS := Lib.hid hsn
    clear hsn hix
    by_cases h0 : t[k].toNat = 0
    · have hc0 : Hid (t[k] = 0) := Lib.hid (UInt8.toNat_inj.1 h0)
      go_wp2
      go_round
      case rel => exact ⟨k + 1, l ++ [t[k]] ++ [255], by omega, by simp; omega, by rw [HS.out, Code.esc_app, ← HL.out, hc0.out, List.append_assoc]; rfl, rfl, by go_num⟩
      case measure => simp [intOf]; omega
    · have e0 : ((t[k].toNat : Int) == 0) = false := beq_eq_false_iff_ne.2 (by omega)
      have hne : Hid (t[k] ≠ 0) := Lib.hid (fun e => h0 (by rw [e]; rfl))
      go_wp2
      go_round
      case rel => exact ⟨k + 1, l ++ [t[k]], by omega, by simp; omega, by rw [HS.out, Code.esc_app, ← HL.out]; simp [Code.esc, hne.out], rfl, by go_num⟩
      case measure => simp [intOf]; omega
end Go.Proofs.YtpobfheioondaaaDoor
