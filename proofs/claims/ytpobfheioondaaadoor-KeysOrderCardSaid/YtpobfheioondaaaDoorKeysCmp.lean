/-
  The contracts of the document's own Check, and of Cmp, the program's and the document's: each answers the plain mathematics. No condition.
-/
import Derived.Test.YtpobfheioondaaaDoorKeysCheck
namespace Go.Proofs.YtpobfheioondaaaDoor
open Go.RowKit
theorem refcheck_0 (st gr : Int) (k p u : ByteArray)  (h0 : st < 0) (w : World) :
    Calls Tryd.prog 17 #[keyVal st gr k p u] w fun e w' => e = .returned (.int .i64 2) ∧ Below w.heap.size w w' := by
  go_enter Tryd.func17, Tryd.ntmps17
  go_wp2
  go_ret
  exact ⟨rfl, below_alloc _ _⟩
theorem refcheck_1 (st gr : Int) (k p u : ByteArray) (h0 : 0 ≤ st) (h1 : 63 < st) (w : World) :
    Calls Tryd.prog 17 #[keyVal st gr k p u] w fun e w' => e = .returned (.int .i64 2) ∧ Below w.heap.size w w' := by
  go_enter Tryd.func17, Tryd.ntmps17
  go_wp2
  go_ret
  exact ⟨rfl, below_alloc _ _⟩
theorem refcheck_2 (st gr : Int) (k p u : ByteArray) (h0 : 0 ≤ st) (h1 : st ≤ 63) (h2 : gr < 0) (w : World) :
    Calls Tryd.prog 17 #[keyVal st gr k p u] w fun e w' => e = .returned (.int .i64 2) ∧ Below w.heap.size w w' := by
  go_enter Tryd.func17, Tryd.ntmps17
  go_wp2
  go_ret
  exact ⟨rfl, below_alloc _ _⟩
theorem refcheck_3 (st gr : Int) (k p u : ByteArray) (h0 : 0 ≤ st) (h1 : st ≤ 63) (h2 : 0 ≤ gr) (h3 : 63 < gr) (w : World) :
    Calls Tryd.prog 17 #[keyVal st gr k p u] w fun e w' => e = .returned (.int .i64 2) ∧ Below w.heap.size w w' := by
  go_enter Tryd.func17, Tryd.ntmps17
  go_wp2
  go_ret
  exact ⟨rfl, below_alloc _ _⟩
theorem refcheck_4 (st gr : Int) (k p u : ByteArray) (h0 : 0 ≤ st) (h1 : st ≤ 63) (h2 : 0 ≤ gr) (h3 : gr ≤ 63) (h4 : 64 < (k.size : Int)) (w : World) :
    Calls Tryd.prog 17 #[keyVal st gr k p u] w fun e w' => e = .returned (.int .i64 3) ∧ Below w.heap.size w w' := by
  go_enter Tryd.func17, Tryd.ntmps17
  go_wp2
  go_ret
  exact ⟨rfl, below_alloc _ _⟩
theorem refcheck_5 (st gr : Int) (k p u : ByteArray) (h0 : 0 ≤ st) (h1 : st ≤ 63) (h2 : 0 ≤ gr) (h3 : gr ≤ 63) (h4 : (k.size : Int) ≤ 64) (h5 : 64 < (p.size : Int)) (w : World) :
    Calls Tryd.prog 17 #[keyVal st gr k p u] w fun e w' => e = .returned (.int .i64 3) ∧ Below w.heap.size w w' := by
  go_enter Tryd.func17, Tryd.ntmps17
  go_wp2
  go_ret
  exact ⟨rfl, below_alloc _ _⟩
theorem refcheck_6 (st gr : Int) (k p u : ByteArray) (h0 : 0 ≤ st) (h1 : st ≤ 63) (h2 : 0 ≤ gr) (h3 : gr ≤ 63) (h4 : (k.size : Int) ≤ 64) (h5 : (p.size : Int) ≤ 64) (h6 : 64 < (u.size : Int)) (w : World) :
    Calls Tryd.prog 17 #[keyVal st gr k p u] w fun e w' => e = .returned (.int .i64 3) ∧ Below w.heap.size w w' := by
  go_enter Tryd.func17, Tryd.ntmps17
  go_wp2
  go_ret
  exact ⟨rfl, below_alloc _ _⟩
theorem refcheck_7 (st gr : Int) (k p u : ByteArray) (h0 : 0 ≤ st) (h1 : st ≤ 63) (h2 : 0 ≤ gr) (h3 : gr ≤ 63) (h4 : (k.size : Int) ≤ 64) (h5 : (p.size : Int) ≤ 64) (h6 : (u.size : Int) ≤ 64) (w : World) :
    Calls Tryd.prog 17 #[keyVal st gr k p u] w fun e w' => e = .returned (.int .i64 0) ∧ Below w.heap.size w w' := by
  go_enter Tryd.func17, Tryd.ntmps17
  go_wp2
  go_ret
  exact ⟨rfl, below_alloc _ _⟩
theorem refcheck_any (st gr : Int) (k p u : ByteArray) (w : World) :
    Calls Tryd.prog 17 #[keyVal st gr k p u] w fun e w' => e = .returned (.int .i64 (Keys.check (skOf st gr k p u) : Int)) ∧ Below w.heap.size w w' := by
  have hv : Keys.check (skOf st gr k p u) = if ¬ (0 ≤ st ∧ st < 64) ∨ ¬ (0 ≤ gr ∧ gr < 64) then 2 else if 64 < k.size ∨ 64 < p.size ∨ 64 < u.size then 3 else 0 := by
    unfold Keys.check; simp only [size_len]
  rw [hv]
  by_cases h0 : st < 0
  · rw [if_pos (by omega)]; exact refcheck_0 st gr k p u h0 w
  replace h0 : 0 ≤ st := by omega
  by_cases h1 : 63 < st
  · rw [if_pos (by omega)]; exact refcheck_1 st gr k p u h0 h1 w
  replace h1 : st ≤ 63 := by omega
  by_cases h2 : gr < 0
  · rw [if_pos (by omega)]; exact refcheck_2 st gr k p u h0 h1 h2 w
  replace h2 : 0 ≤ gr := by omega
  by_cases h3 : 63 < gr
  · rw [if_pos (by omega)]; exact refcheck_3 st gr k p u h0 h1 h2 h3 w
  replace h3 : gr ≤ 63 := by omega
  by_cases h4 : 64 < (k.size : Int)
  · rw [if_neg (by omega), if_pos (by omega)]; exact refcheck_4 st gr k p u h0 h1 h2 h3 h4 w
  replace h4 : (k.size : Int) ≤ 64 := by omega
  by_cases h5 : 64 < (p.size : Int)
  · rw [if_neg (by omega), if_pos (by omega)]; exact refcheck_5 st gr k p u h0 h1 h2 h3 h4 h5 w
  replace h5 : (p.size : Int) ≤ 64 := by omega
  by_cases h6 : 64 < (u.size : Int)
  · rw [if_neg (by omega), if_pos (by omega)]; exact refcheck_6 st gr k p u h0 h1 h2 h3 h4 h5 h6 w
  replace h6 : (u.size : Int) ≤ 64 := by omega
  rw [if_neg (by omega), if_neg (by omega)]; exact refcheck_7 st gr k p u h0 h1 h2 h3 h4 h5 h6 w
theorem nan_int (x : Int) (w : World) : Calls Tryd.prog 51 #[.int .i64 x] w fun e w' => e = .returned (.bool false) ∧ w' = w := by
  go_enter Tryd.func51, Tryd.ntmps51
  go_wp2
  go_ret
  exact ⟨by simp, rfl⟩
theorem nan_string (x : ByteArray) (w : World) : Calls Tryd.prog 52 #[.string x] w fun e w' => e = .returned (.bool false) ∧ w' = w := by
  go_enter Tryd.func52, Tryd.ntmps52
  go_wp2
  go_ret
  exact ⟨by simp, rfl⟩
theorem compare_int (x y : Int) (w : World) : Calls Tryd.prog 46 #[.int .i64 x, .int .i64 y] w fun e w' => e = .returned (.int .i64 (Keys.ints x y)) ∧ w' = w := by
  have C1 := Lib.hid fun v => nan_int x v
  have C2 := Lib.hid fun v => nan_int y v
  unfold Keys.ints
  by_cases h : x < y
  · rw [if_pos h]
    go_enter Tryd.func46, Tryd.ntmps46
    go_wp2_with (first
      | (go_at_call 51; ((with_reducible refine (C1.out _).mono ?_); rintro e w' ⟨rfl, rfl⟩))
      | (go_at_call 51; ((with_reducible refine (C2.out _).mono ?_); rintro e w' ⟨rfl, rfl⟩)))
    go_ret
    exact ⟨rfl, rfl⟩
  · rw [if_neg h]
    by_cases h2 : y < x
    · rw [if_pos h2]
      go_enter Tryd.func46, Tryd.ntmps46
      go_wp2_with (first
        | (go_at_call 51; ((with_reducible refine (C1.out _).mono ?_); rintro e w' ⟨rfl, rfl⟩))
        | (go_at_call 51; ((with_reducible refine (C2.out _).mono ?_); rintro e w' ⟨rfl, rfl⟩)))
      go_ret
      exact ⟨rfl, rfl⟩
    · rw [if_neg h2]
      go_enter Tryd.func46, Tryd.ntmps46
      go_wp2_with (first
        | (go_at_call 51; ((with_reducible refine (C1.out _).mono ?_); rintro e w' ⟨rfl, rfl⟩))
        | (go_at_call 51; ((with_reducible refine (C2.out _).mono ?_); rintro e w' ⟨rfl, rfl⟩)))
      go_ret
      exact ⟨rfl, rfl⟩
/-- How two texts stand, in the walk's spelling. -/
theorem texts_way (x y : ByteArray) : (Op.bytesLess x.toList y.toList = true ∧ Keys.texts x.data.toList y.data.toList = -1) ∨
    (Op.bytesLess x.toList y.toList = false ∧ (x.toList == y.toList) = false ∧ (Op.bytesLess x.toList y.toList || x.toList == y.toList) = false ∧ Keys.texts x.data.toList y.data.toList = 1) ∨
    (Op.bytesLess x.toList y.toList = false ∧ (x.toList == y.toList) = true ∧ (Op.bytesLess x.toList y.toList || x.toList == y.toList) = true ∧ Keys.texts x.data.toList y.data.toList = 0) := by
  rw [Lib.toList_data, Lib.toList_data]
  unfold Keys.texts
  rcases Keys.less_or x.data.toList y.data.toList with h | h | h
  · rw [h, Keys.less_irrefl]; simp
  · rw [h]; simp
  · have hn : (x.data.toList == y.data.toList) = false := beq_eq_false_iff_ne.2 fun e => by rw [e, Keys.less_irrefl] at h; cases h
    rw [h, Keys.less_asymm _ _ h, hn]; simp
theorem compare_string (x y : ByteArray) (w : World) : Calls Tryd.prog 47 #[.string x, .string y] w fun e w' => e = .returned (.int .i64 (Keys.texts x.data.toList y.data.toList)) ∧ w' = w := by
  have C1 := Lib.hid fun v => nan_string x v
  have C2 := Lib.hid fun v => nan_string y v
  rcases texts_way x y with ⟨h, e⟩ | ⟨h, h2, h3, e⟩ | ⟨h, h2, h3, e⟩
  all_goals
    rw [e]
    clear e
    go_enter Tryd.func47, Tryd.ntmps47
    go_wp2_with (first
      | (go_at_call 52; ((with_reducible refine (C1.out _).mono ?_); rintro e w' ⟨rfl, rfl⟩))
      | (go_at_call 52; ((with_reducible refine (C2.out _).mono ?_); rintro e w' ⟨rfl, rfl⟩)))
    go_ret
    exact ⟨rfl, rfl⟩
theorem refints_any (x y : Int) (w : World) : Calls Tryd.prog 38 #[.int .i64 x, .int .i64 y] w fun e w' => e = .returned (.int .i64 (Keys.ints x y)) ∧ w' = w := by
  unfold Keys.ints
  by_cases h : x < y
  · rw [if_pos h]
    go_enter Tryd.func38, Tryd.ntmps38
    go_wp2
    go_ret
    exact ⟨rfl, rfl⟩
  · rw [if_neg h]
    by_cases h2 : y < x
    · rw [if_pos h2]
      go_enter Tryd.func38, Tryd.ntmps38
      go_wp2
      go_ret
      exact ⟨rfl, rfl⟩
    · rw [if_neg h2]
      go_enter Tryd.func38, Tryd.ntmps38
      go_wp2
      go_ret
      exact ⟨rfl, rfl⟩
theorem reftexts_any (x y : ByteArray) (w : World) : Calls Tryd.prog 39 #[.string x, .string y] w fun e w' => e = .returned (.int .i64 (Keys.texts x.data.toList y.data.toList)) ∧ w' = w := by
  rcases texts_way x y with ⟨h, e⟩ | ⟨h, h2, h3, e⟩ | ⟨h, h2, h3, e⟩
  all_goals
    rw [e]
    clear e
    go_enter Tryd.func39, Tryd.ntmps39
    go_wp2
    go_ret
    exact ⟨rfl, rfl⟩
theorem then_int (d x y : Int) (w : World) : Calls Tryd.prog 36 #[.int .i64 d, .int .i64 x, .int .i64 y] w fun e w' => e = .returned (.int .i64 (Keys.next d (Keys.ints x y))) ∧ w' = w := by
  have C1 := Lib.hid fun v => compare_int x y v
  unfold Keys.next
  by_cases h : d = 0
  · subst h
    rw [if_pos rfl]
    go_enter Tryd.func36, Tryd.ntmps36
    go_wp2_with (go_at_call 46; ((with_reducible refine (C1.out _).mono ?_); rintro e w' ⟨rfl, rfl⟩))
    go_ret
    exact ⟨rfl, rfl⟩
  · rw [if_neg h]
    have h2 : (d != 0) = true := bne_iff_ne.2 h
    clear h
    go_enter Tryd.func36, Tryd.ntmps36
    go_wp2
    go_ret
    exact ⟨rfl, rfl⟩
theorem then_string (d : Int) (x y : ByteArray) (w : World) : Calls Tryd.prog 37 #[.int .i64 d, .string x, .string y] w fun e w' => e = .returned (.int .i64 (Keys.next d (Keys.texts x.data.toList y.data.toList))) ∧ w' = w := by
  have C1 := Lib.hid fun v => compare_string x y v
  unfold Keys.next
  by_cases h : d = 0
  · subst h
    rw [if_pos rfl]
    go_enter Tryd.func37, Tryd.ntmps37
    go_wp2_with (go_at_call 47; ((with_reducible refine (C1.out _).mono ?_); rintro e w' ⟨rfl, rfl⟩))
    go_ret
    exact ⟨rfl, rfl⟩
  · rw [if_neg h]
    have h2 : (d != 0) = true := bne_iff_ne.2 h
    clear h
    go_enter Tryd.func37, Tryd.ntmps37
    go_wp2
    go_ret
    exact ⟨rfl, rfl⟩
end Go.Proofs.YtpobfheioondaaaDoor
