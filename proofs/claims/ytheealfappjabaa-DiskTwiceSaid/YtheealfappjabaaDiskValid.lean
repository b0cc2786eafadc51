/-
  The contract of the program's valid: which texts are names. Condition: at most the model's longest length.
-/
import Derived.Test.YtheealfappjabaaDiskTell
import Derived.Handy
import Derived.Laws.Strings
namespace Go.Proofs.Ytheealfappjabaa
open Go.RowKit
theorem okByte_iff (c : UInt8) : okByte c = true ↔ (97 ≤ (c.toNat : Int) ∧ (c.toNat : Int) ≤ 122) ∨ (48 ≤ (c.toNat : Int) ∧ (c.toNat : Int) ≤ 57) ∨ (c.toNat : Int) = 45 ∨ (c.toNat : Int) = 46 := by
  simp only [okByte, Bool.or_eq_true, Bool.and_eq_true, decide_eq_true_eq, UInt8.le_iff_toNat_le, beq_iff_eq, ← UInt8.toNat_inj]
  simp only [UInt8.reduceToNat]
  omega
def okUpto (s : ByteArray) (k : Nat) : Prop := ∀ j (h : j < s.size), j < k → okByte s[j] = true
theorem okUpto_succ {s : ByteArray} {k : Nat} (h : okUpto s k) (hk : k < s.size) (ho : okByte s[k] = true) : okUpto s (k + 1) := fun j hj hjk => by
  by_cases e : j = k
  · subst e; exact ho
  · exact h j hj (by omega)
theorem valid_all {s : ByteArray} {k : Nat} (h : okUpto s k) (hk : ¬ k < s.size) : validN s.data.toList = (!s.toList.isEmpty && decide (s.size ≤ 32)) := by
  rw [ByteArray.toList_eq]
  have : s.data.toList.all okByte = true := by
    rw [List.all_eq_true]
    intro c hc
    obtain ⟨j, hj, e⟩ := List.getElem_of_mem hc
    rw [Array.length_toList] at hj
    have := h j hj (by have : s.data.size = s.size := rfl; omega)
    rw [← e]; rw [Array.getElem_toList]; exact this
  unfold validN
  rw [this, Bool.true_and, Array.length_toList]; rfl
theorem valid_bad {s : ByteArray} {k : Nat} (hk : k < s.size) (ho : ¬ okByte s[k] = true) : validN s.data.toList = false := by
  have : s.data.toList.all okByte = false := by
    rw [Bool.eq_false_iff]
    intro h
    exact ho (List.all_eq_true.1 h s[k] (Array.getElem_mem_toList _))
  unfold validN
  rw [this, Bool.false_and]
set_option maxHeartbeats 2000000 in
set_option maxRecDepth 100000 in
theorem valid_any (s : ByteArray) (hs : s.size ≤ maxLen) (w : World) : Calls Try.prog 27 #[.string s] w fun e w' => e = .returned (.bool (validN s.data.toList)) ∧ w = w' := by
  unfold maxLen at hs
  obtain ⟨x, hx⟩ := named (validN s.data.toList)
  rw [← hx.out]
  go_enter Try.func27, Try.ntmps27
  go_wp2
  go_loop [7] (fun i => ∃ k : Nat, k ≤ s.size ∧ i = .int .i64 k ∧ okUpto s k) (fun i => s.size - (intOf i).toNat)
  case atStart => exact ⟨0, Nat.zero_le _, rfl, fun j _ h => absurd h (Nat.not_lt_zero _)⟩
  case round =>
    obtain ⟨k, hk, rfl, hok⟩ := hrel
    by_cases hlt : k < s.size
    · have hb := okByte_iff s[k]
      by_cases ho : okByte s[k] = true
      · have hb := Lib.hid (hb.1 ho)
        have H := Lib.hid (okUpto_succ hok hlt ho)
        clear ho hok
        go_wp2
        all_goals first
          | exact ⟨⟨k + 1, by omega, by go_num, H.out⟩, by simp [intOf]; omega⟩
          | (exfalso; have hh := hb.out; simp only [Bool.not_eq_true', decide_eq_false_iff_not, beq_eq_false_iff_ne] at *; omega)
      · have hb := Lib.hid (mt hb.2 ho)
        have H := Lib.hid (valid_bad hlt ho)
        clear ho hok
        go_wp2
        all_goals first
          | (exfalso; have hh := hb.out; simp only [Bool.not_eq_false', decide_eq_true_eq, beq_iff_eq] at *; omega)
          | (go_returns; exact ⟨by rw [hx.out, H.out]; rfl, rfl⟩)
    · have H := Lib.hid (valid_all hok hlt)
      clear hok
      go_wp2
      all_goals (go_returns; refine ⟨?_, rfl⟩; rw [hx.out, H.out]; first | (rw [show s.toList = [] by assumption]; rfl) | (rw [List.isEmpty_eq_false_iff.2 (show s.toList ≠ [] by assumption)]; simp; omega))
end Go.Proofs.Ytheealfappjabaa
