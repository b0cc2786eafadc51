/-
  The contract of the statements' own 'same': have two state's keys the same first fields? Condition: a number of parts from 1 to 4.
-/
import Derived.Test.YtpobfheioondaaaDoorKeysAwake
namespace Go.Proofs.YtpobfheioondaaaDoor
open Go.RowKit
theorem same_1_0 (st gr : Int) (k p u : ByteArray) (st' gr' : Int) (k' p' u' : ByteArray)  (h0 : (st == st') = false) (w : World) :
    Calls Tryd.prog 27 #[keyVal st gr k p u, keyVal st' gr' k' p' u', .int .i64 1] w fun e w' => e = .returned (.bool false) ∧ Below w.heap.size w w' := by
  go_enter Tryd.func27, Tryd.ntmps27
  go_wp2
  go_ret
  exact ⟨rfl, key_block _ _ _⟩
theorem same_1_1 (st gr : Int) (k p u : ByteArray) (st' gr' : Int) (k' p' u' : ByteArray) (h0 : (st == st') = true) (w : World) :
    Calls Tryd.prog 27 #[keyVal st gr k p u, keyVal st' gr' k' p' u', .int .i64 1] w fun e w' => e = .returned (.bool true) ∧ Below w.heap.size w w' := by
  go_enter Tryd.func27, Tryd.ntmps27
  go_wp2
  go_ret
  exact ⟨rfl, key_block _ _ _⟩
theorem same_2_0 (st gr : Int) (k p u : ByteArray) (st' gr' : Int) (k' p' u' : ByteArray)  (h0 : (st == st') = false) (w : World) :
    Calls Tryd.prog 27 #[keyVal st gr k p u, keyVal st' gr' k' p' u', .int .i64 2] w fun e w' => e = .returned (.bool false) ∧ Below w.heap.size w w' := by
  go_enter Tryd.func27, Tryd.ntmps27
  go_wp2
  go_ret
  exact ⟨rfl, key_block _ _ _⟩
theorem same_2_1 (st gr : Int) (k p u : ByteArray) (st' gr' : Int) (k' p' u' : ByteArray) (h0 : (st == st') = true) (h1 : (gr == gr') = false) (w : World) :
    Calls Tryd.prog 27 #[keyVal st gr k p u, keyVal st' gr' k' p' u', .int .i64 2] w fun e w' => e = .returned (.bool false) ∧ Below w.heap.size w w' := by
  go_enter Tryd.func27, Tryd.ntmps27
  go_wp2
  go_ret
  exact ⟨rfl, key_block _ _ _⟩
theorem same_2_2 (st gr : Int) (k p u : ByteArray) (st' gr' : Int) (k' p' u' : ByteArray) (h0 : (st == st') = true) (h1 : (gr == gr') = true) (w : World) :
    Calls Tryd.prog 27 #[keyVal st gr k p u, keyVal st' gr' k' p' u', .int .i64 2] w fun e w' => e = .returned (.bool true) ∧ Below w.heap.size w w' := by
  go_enter Tryd.func27, Tryd.ntmps27
  go_wp2
  go_ret
  exact ⟨rfl, key_block _ _ _⟩
theorem same_3_0 (st gr : Int) (k p u : ByteArray) (st' gr' : Int) (k' p' u' : ByteArray)  (h0 : (st == st') = false) (w : World) :
    Calls Tryd.prog 27 #[keyVal st gr k p u, keyVal st' gr' k' p' u', .int .i64 3] w fun e w' => e = .returned (.bool false) ∧ Below w.heap.size w w' := by
  go_enter Tryd.func27, Tryd.ntmps27
  go_wp2
  go_ret
  exact ⟨rfl, key_block _ _ _⟩
theorem same_3_1 (st gr : Int) (k p u : ByteArray) (st' gr' : Int) (k' p' u' : ByteArray) (h0 : (st == st') = true) (h1 : (gr == gr') = false) (w : World) :
    Calls Tryd.prog 27 #[keyVal st gr k p u, keyVal st' gr' k' p' u', .int .i64 3] w fun e w' => e = .returned (.bool false) ∧ Below w.heap.size w w' := by
  go_enter Tryd.func27, Tryd.ntmps27
  go_wp2
  go_ret
  exact ⟨rfl, key_block _ _ _⟩
theorem same_3_2 (st gr : Int) (k p u : ByteArray) (st' gr' : Int) (k' p' u' : ByteArray) (h0 : (st == st') = true) (h1 : (gr == gr') = true) (h2 : (k.toList == k'.toList) = false) (w : World) :
    Calls Tryd.prog 27 #[keyVal st gr k p u, keyVal st' gr' k' p' u', .int .i64 3] w fun e w' => e = .returned (.bool false) ∧ Below w.heap.size w w' := by
  go_enter Tryd.func27, Tryd.ntmps27
  go_wp2
  go_ret
  exact ⟨rfl, key_block _ _ _⟩
theorem same_3_3 (st gr : Int) (k p u : ByteArray) (st' gr' : Int) (k' p' u' : ByteArray) (h0 : (st == st') = true) (h1 : (gr == gr') = true) (h2 : (k.toList == k'.toList) = true) (w : World) :
    Calls Tryd.prog 27 #[keyVal st gr k p u, keyVal st' gr' k' p' u', .int .i64 3] w fun e w' => e = .returned (.bool true) ∧ Below w.heap.size w w' := by
  go_enter Tryd.func27, Tryd.ntmps27
  go_wp2
  go_ret
  exact ⟨rfl, key_block _ _ _⟩
theorem same_4_0 (st gr : Int) (k p u : ByteArray) (st' gr' : Int) (k' p' u' : ByteArray)  (h0 : (st == st') = false) (w : World) :
    Calls Tryd.prog 27 #[keyVal st gr k p u, keyVal st' gr' k' p' u', .int .i64 4] w fun e w' => e = .returned (.bool false) ∧ Below w.heap.size w w' := by
  go_enter Tryd.func27, Tryd.ntmps27
  go_wp2
  go_ret
  exact ⟨rfl, key_block _ _ _⟩
theorem same_4_1 (st gr : Int) (k p u : ByteArray) (st' gr' : Int) (k' p' u' : ByteArray) (h0 : (st == st') = true) (h1 : (gr == gr') = false) (w : World) :
    Calls Tryd.prog 27 #[keyVal st gr k p u, keyVal st' gr' k' p' u', .int .i64 4] w fun e w' => e = .returned (.bool false) ∧ Below w.heap.size w w' := by
  go_enter Tryd.func27, Tryd.ntmps27
  go_wp2
  go_ret
  exact ⟨rfl, key_block _ _ _⟩
theorem same_4_2 (st gr : Int) (k p u : ByteArray) (st' gr' : Int) (k' p' u' : ByteArray) (h0 : (st == st') = true) (h1 : (gr == gr') = true) (h2 : (k.toList == k'.toList) = false) (w : World) :
    Calls Tryd.prog 27 #[keyVal st gr k p u, keyVal st' gr' k' p' u', .int .i64 4] w fun e w' => e = .returned (.bool false) ∧ Below w.heap.size w w' := by
  go_enter Tryd.func27, Tryd.ntmps27
  go_wp2
  go_ret
  exact ⟨rfl, key_block _ _ _⟩
theorem same_4_3 (st gr : Int) (k p u : ByteArray) (st' gr' : Int) (k' p' u' : ByteArray) (h0 : (st == st') = true) (h1 : (gr == gr') = true) (h2 : (k.toList == k'.toList) = true) (h3 : (p.toList == p'.toList) = false) (w : World) :
    Calls Tryd.prog 27 #[keyVal st gr k p u, keyVal st' gr' k' p' u', .int .i64 4] w fun e w' => e = .returned (.bool false) ∧ Below w.heap.size w w' := by
  go_enter Tryd.func27, Tryd.ntmps27
  go_wp2
  go_ret
  exact ⟨rfl, key_block _ _ _⟩
theorem same_4_4 (st gr : Int) (k p u : ByteArray) (st' gr' : Int) (k' p' u' : ByteArray) (h0 : (st == st') = true) (h1 : (gr == gr') = true) (h2 : (k.toList == k'.toList) = true) (h3 : (p.toList == p'.toList) = true) (w : World) :
    Calls Tryd.prog 27 #[keyVal st gr k p u, keyVal st' gr' k' p' u', .int .i64 4] w fun e w' => e = .returned (.bool true) ∧ Below w.heap.size w w' := by
  go_enter Tryd.func27, Tryd.ntmps27
  go_wp2
  go_ret
  exact ⟨rfl, key_block _ _ _⟩
theorem int_way (x y : Int) : (x = y ∧ (x == y) = true) ∨ (x ≠ y ∧ (x == y) = false) := by
  by_cases h : x = y
  · exact Or.inl ⟨h, by simp [h]⟩
  · exact Or.inr ⟨h, beq_eq_false_iff_ne.2 h⟩
theorem text_way (x y : ByteArray) : (x.data.toList = y.data.toList ∧ (x.toList == y.toList) = true) ∨ (x.data.toList ≠ y.data.toList ∧ (x.toList == y.toList) = false) := by
  rw [Lib.toList_data, Lib.toList_data]
  by_cases h : x.data.toList = y.data.toList
  · exact Or.inl ⟨h, by simp [h]⟩
  · exact Or.inr ⟨h, beq_eq_false_iff_ne.2 h⟩
/-- Whatever the two, 'same' tells whether their first fields are the same. -/
theorem same_any (st gr : Int) (k p u : ByteArray) (st' gr' : Int) (k' p' u' : ByteArray) (n : Int) (hn : 1 ≤ n ∧ n ≤ 4) :
    ∃ b : Bool, (b = true ↔ Keys.Same (skOf st gr k p u) (skOf st' gr' k' p' u') n) ∧ ∀ w, Calls Tryd.prog 27 #[keyVal st gr k p u, keyVal st' gr' k' p' u', .int .i64 n] w fun e w' => e = .returned (.bool b) ∧ Below w.heap.size w w' := by
  rcases (show n = 1 ∨ n = 2 ∨ n = 3 ∨ n = 4 by omega) with rfl | rfl | rfl | rfl
  · rcases int_way st st' with ⟨e0, b0⟩ | ⟨e0, b0⟩
    rotate_left 1
    · exact ⟨false, ⟨fun h => (by cases h), fun h => absurd h.1 e0⟩, fun w => same_1_0 st gr k p u st' gr' k' p' u' b0 w⟩
    exact ⟨true, ⟨fun _ => ⟨e0, fun h => by omega, fun h => by omega, fun h => by omega⟩, fun _ => rfl⟩, fun w => same_1_1 st gr k p u st' gr' k' p' u' b0 w⟩
  · rcases int_way st st' with ⟨e0, b0⟩ | ⟨e0, b0⟩
    rotate_left 1
    · exact ⟨false, ⟨fun h => (by cases h), fun h => absurd h.1 e0⟩, fun w => same_2_0 st gr k p u st' gr' k' p' u' b0 w⟩
    rcases int_way gr gr' with ⟨e1, b1⟩ | ⟨e1, b1⟩
    rotate_left 1
    · exact ⟨false, ⟨fun h => (by cases h), fun h => absurd (h.2.1 (by omega)) e1⟩, fun w => same_2_1 st gr k p u st' gr' k' p' u' b0 b1 w⟩
    exact ⟨true, ⟨fun _ => ⟨e0, fun _ => e1, fun h => by omega, fun h => by omega⟩, fun _ => rfl⟩, fun w => same_2_2 st gr k p u st' gr' k' p' u' b0 b1 w⟩
  · rcases int_way st st' with ⟨e0, b0⟩ | ⟨e0, b0⟩
    rotate_left 1
    · exact ⟨false, ⟨fun h => (by cases h), fun h => absurd h.1 e0⟩, fun w => same_3_0 st gr k p u st' gr' k' p' u' b0 w⟩
    rcases int_way gr gr' with ⟨e1, b1⟩ | ⟨e1, b1⟩
    rotate_left 1
    · exact ⟨false, ⟨fun h => (by cases h), fun h => absurd (h.2.1 (by omega)) e1⟩, fun w => same_3_1 st gr k p u st' gr' k' p' u' b0 b1 w⟩
    rcases text_way k k' with ⟨e2, b2⟩ | ⟨e2, b2⟩
    rotate_left 1
    · exact ⟨false, ⟨fun h => (by cases h), fun h => absurd (h.2.2.1 (by omega)) e2⟩, fun w => same_3_2 st gr k p u st' gr' k' p' u' b0 b1 b2 w⟩
    exact ⟨true, ⟨fun _ => ⟨e0, fun _ => e1, fun _ => e2, fun h => by omega⟩, fun _ => rfl⟩, fun w => same_3_3 st gr k p u st' gr' k' p' u' b0 b1 b2 w⟩
  · rcases int_way st st' with ⟨e0, b0⟩ | ⟨e0, b0⟩
    rotate_left 1
    · exact ⟨false, ⟨fun h => (by cases h), fun h => absurd h.1 e0⟩, fun w => same_4_0 st gr k p u st' gr' k' p' u' b0 w⟩
    rcases int_way gr gr' with ⟨e1, b1⟩ | ⟨e1, b1⟩
    rotate_left 1
    · exact ⟨false, ⟨fun h => (by cases h), fun h => absurd (h.2.1 (by omega)) e1⟩, fun w => same_4_1 st gr k p u st' gr' k' p' u' b0 b1 w⟩
    rcases text_way k k' with ⟨e2, b2⟩ | ⟨e2, b2⟩
    rotate_left 1
    · exact ⟨false, ⟨fun h => (by cases h), fun h => absurd (h.2.2.1 (by omega)) e2⟩, fun w => same_4_2 st gr k p u st' gr' k' p' u' b0 b1 b2 w⟩
    rcases text_way p p' with ⟨e3, b3⟩ | ⟨e3, b3⟩
    rotate_left 1
    · exact ⟨false, ⟨fun h => (by cases h), fun h => absurd (h.2.2.2 (by omega)) e3⟩, fun w => same_4_3 st gr k p u st' gr' k' p' u' b0 b1 b2 b3 w⟩
    exact ⟨true, ⟨fun _ => ⟨e0, fun _ => e1, fun _ => e2, fun _ => e3⟩, fun _ => rfl⟩, fun w => same_4_4 st gr k p u st' gr' k' p' u' b0 b1 b2 b3 w⟩
/-- 'From on', said by what is less. -/
theorem leq_not (x y : ByteArray) : (Op.bytesLess x.toList y.toList || x.toList == y.toList) = !(Op.bytesLess y.toList x.toList) := by
  rw [Lib.toList_data, Lib.toList_data]
  rcases Keys.less_or x.data.toList y.data.toList with h | h | h
  · rw [h, Keys.less_irrefl]; simp
  · rw [h, Keys.less_asymm _ _ h]; simp
  · have hn : (x.data.toList == y.data.toList) = false := beq_eq_false_iff_ne.2 fun e => by rw [e, Keys.less_irrefl] at h; cases h
    rw [h, Keys.less_asymm _ _ h, hn]; simp
/-- How the plain mathematics' order reads in the walk's spelling. -/
theorem less_list (l r : List UInt8) : Op.bytesLess (⟨l.toArray⟩ : ByteArray).toList (⟨r.toArray⟩ : ByteArray).toList = Op.bytesLess l r := by
  rw [Lib.toList_data, Lib.toList_data]
theorem beq_list (l r : List UInt8) : ((⟨l.toArray⟩ : ByteArray).toList == (⟨r.toArray⟩ : ByteArray).toList) = (l == r) := by
  rw [Lib.toList_data, Lib.toList_data]
theorem encode_zero {k : Keys.SK} (h : (Keys.encode k).2 = 0) : Keys.Valid k ∧ Keys.encode k = (Keys.enc k, 0) := by
  by_cases hc : Keys.check k = 0
  · exact ⟨Keys.valid_check hc, Keys.encode_ok hc⟩
  · rw [Keys.encode_no hc] at h; exact absurd h hc
theorem encode_empty {k : Keys.SK} (h : (Keys.encode k).2 ≠ 0) : (Keys.encode k).1 = [] := by
  by_cases hc : Keys.check k = 0
  · rw [Keys.encode_ok hc] at h; exact absurd rfl h
  · rw [Keys.encode_no hc]
end Go.Proofs.YtpobfheioondaaaDoor
