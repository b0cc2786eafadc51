/-
  The contracts of keys.Cmp and of the document's own: each answers how two state's keys stand in plain mathematics. No condition.
-/
import Derived.Test.YtpobfheioondaaaDoorKeysCmp
namespace Go.Proofs.YtpobfheioondaaaDoor
open Go.RowKit
theorem cmp_any (st gr : Int) (k p u : ByteArray) (st' gr' : Int) (k' p' u' : ByteArray) (w : World) :
    Calls Tryd.prog 21 #[keyVal st gr k p u, keyVal st' gr' k' p' u'] w fun e w' => e = .returned (.int .i64 (Keys.cmp (skOf st gr k p u) (skOf st' gr' k' p' u'))) ∧ Below w.heap.size w w' := by
  have c1 := fun v => then_int 0 st st' v
  have e1 : Keys.next 0 (Keys.ints st st') = Keys.ints st st' := if_pos rfl
  rw [e1] at c1
  unfold Keys.cmp
  show Calls _ _ _ _ fun e w' => e = .returned (.int .i64 (Keys.next (Keys.next (Keys.next (Keys.next (Keys.ints st st') (Keys.ints gr gr')) (Keys.texts k.data.toList k'.data.toList)) (Keys.texts p.data.toList p'.data.toList)) (Keys.texts u.data.toList u'.data.toList))) ∧ _
  obtain ⟨x1, h1⟩ := named (Keys.ints st st')
  rw [← h1.out] at c1 ⊢
  have c2 := fun v => then_int x1 gr gr' v
  obtain ⟨x2, h2⟩ := named (Keys.next x1 (Keys.ints gr gr'))
  rw [← h2.out] at c2 ⊢
  have c3 := fun v => then_string x2 k k' v
  obtain ⟨x3, h3⟩ := named (Keys.next x2 (Keys.texts k.data.toList k'.data.toList))
  rw [← h3.out] at c3 ⊢
  have c4 := fun v => then_string x3 p p' v
  obtain ⟨x4, h4⟩ := named (Keys.next x3 (Keys.texts p.data.toList p'.data.toList))
  rw [← h4.out] at c4 ⊢
  have c5 := fun v => then_string x4 u u' v
  obtain ⟨x5, h5⟩ := named (Keys.next x4 (Keys.texts u.data.toList u'.data.toList))
  rw [← h5.out] at c5 ⊢
  have C1 := Lib.hid c1
  have C2 := Lib.hid c2
  have C3 := Lib.hid c3
  have C4 := Lib.hid c4
  have C5 := Lib.hid c5
  clear c1 c2 c3 c4 c5 e1
  go_enter Tryd.func21, Tryd.ntmps21
  go_wp2_with (first
    | (go_at_call 36; ((with_reducible refine (C1.out _).mono ?_); rintro e w' ⟨rfl, rfl⟩))
    | (go_at_call 36; ((with_reducible refine (C2.out _).mono ?_); rintro e w' ⟨rfl, rfl⟩))
    | (go_at_call 37; ((with_reducible refine (C3.out _).mono ?_); rintro e w' ⟨rfl, rfl⟩))
    | (go_at_call 37; ((with_reducible refine (C4.out _).mono ?_); rintro e w' ⟨rfl, rfl⟩))
    | (go_at_call 37; ((with_reducible refine (C5.out _).mono ?_); rintro e w' ⟨rfl, rfl⟩)))
  go_ret
  exact ⟨rfl, key_block _ _ _⟩
theorem refcmp_0 (st gr : Int) (k p u : ByteArray) (st' gr' : Int) (k' p' u' : ByteArray)  (h0 : Keys.ints st st' ≠ 0) (w : World) :
    Calls Tryd.prog 22 #[keyVal st gr k p u, keyVal st' gr' k' p' u'] w fun e w' => e = .returned (.int .i64 (Keys.ints st st')) ∧ Below w.heap.size w w' := by
  have c0 := fun v => refints_any st st' v
  obtain ⟨x, hx⟩ := named (Keys.ints st st')
  rw [← hx.out] at c0 ⊢
  rw [← hx.out] at h0
  have hz : (x == 0) = false := beq_eq_false_iff_ne.2 h0
  have C0 := Lib.hid c0
  clear c0 h0
  go_enter Tryd.func22, Tryd.ntmps22
  go_wp2_with (first
    | (go_at_call 38; ((with_reducible refine (C0.out _).mono ?_); rintro e w' ⟨rfl, rfl⟩)))
  go_ret
  exact ⟨rfl, key_block _ _ _⟩
theorem refcmp_1 (st gr : Int) (k p u : ByteArray) (st' gr' : Int) (k' p' u' : ByteArray) (h0 : Keys.ints st st' = 0) (h1 : Keys.ints gr gr' ≠ 0) (w : World) :
    Calls Tryd.prog 22 #[keyVal st gr k p u, keyVal st' gr' k' p' u'] w fun e w' => e = .returned (.int .i64 (Keys.ints gr gr')) ∧ Below w.heap.size w w' := by
  have c0 := fun v => refints_any st st' v
  rw [h0] at c0
  have C0 := Lib.hid c0
  have c1 := fun v => refints_any gr gr' v
  obtain ⟨x, hx⟩ := named (Keys.ints gr gr')
  rw [← hx.out] at c1 ⊢
  rw [← hx.out] at h1
  have hz : (x == 0) = false := beq_eq_false_iff_ne.2 h1
  have C1 := Lib.hid c1
  clear c0 c1 h0 h1
  go_enter Tryd.func22, Tryd.ntmps22
  go_wp2_with (first
    | (go_at_call 38; ((with_reducible refine (C0.out _).mono ?_); rintro e w' ⟨rfl, rfl⟩))
    | (go_at_call 38; ((with_reducible refine (C1.out _).mono ?_); rintro e w' ⟨rfl, rfl⟩)))
  go_ret
  exact ⟨rfl, key_block _ _ _⟩
theorem refcmp_2 (st gr : Int) (k p u : ByteArray) (st' gr' : Int) (k' p' u' : ByteArray) (h0 : Keys.ints st st' = 0) (h1 : Keys.ints gr gr' = 0) (h2 : Keys.texts k.data.toList k'.data.toList ≠ 0) (w : World) :
    Calls Tryd.prog 22 #[keyVal st gr k p u, keyVal st' gr' k' p' u'] w fun e w' => e = .returned (.int .i64 (Keys.texts k.data.toList k'.data.toList)) ∧ Below w.heap.size w w' := by
  have c0 := fun v => refints_any st st' v
  rw [h0] at c0
  have C0 := Lib.hid c0
  have c1 := fun v => refints_any gr gr' v
  rw [h1] at c1
  have C1 := Lib.hid c1
  have c2 := fun v => reftexts_any k k' v
  obtain ⟨x, hx⟩ := named (Keys.texts k.data.toList k'.data.toList)
  rw [← hx.out] at c2 ⊢
  rw [← hx.out] at h2
  have hz : (x == 0) = false := beq_eq_false_iff_ne.2 h2
  have C2 := Lib.hid c2
  clear c0 c1 c2 h0 h1 h2
  go_enter Tryd.func22, Tryd.ntmps22
  go_wp2_with (first
    | (go_at_call 38; ((with_reducible refine (C0.out _).mono ?_); rintro e w' ⟨rfl, rfl⟩))
    | (go_at_call 38; ((with_reducible refine (C1.out _).mono ?_); rintro e w' ⟨rfl, rfl⟩))
    | (go_at_call 39; ((with_reducible refine (C2.out _).mono ?_); rintro e w' ⟨rfl, rfl⟩)))
  go_ret
  exact ⟨rfl, key_block _ _ _⟩
theorem refcmp_3 (st gr : Int) (k p u : ByteArray) (st' gr' : Int) (k' p' u' : ByteArray) (h0 : Keys.ints st st' = 0) (h1 : Keys.ints gr gr' = 0) (h2 : Keys.texts k.data.toList k'.data.toList = 0) (h3 : Keys.texts p.data.toList p'.data.toList ≠ 0) (w : World) :
    Calls Tryd.prog 22 #[keyVal st gr k p u, keyVal st' gr' k' p' u'] w fun e w' => e = .returned (.int .i64 (Keys.texts p.data.toList p'.data.toList)) ∧ Below w.heap.size w w' := by
  have c0 := fun v => refints_any st st' v
  rw [h0] at c0
  have C0 := Lib.hid c0
  have c1 := fun v => refints_any gr gr' v
  rw [h1] at c1
  have C1 := Lib.hid c1
  have c2 := fun v => reftexts_any k k' v
  rw [h2] at c2
  have C2 := Lib.hid c2
  have c3 := fun v => reftexts_any p p' v
  obtain ⟨x, hx⟩ := named (Keys.texts p.data.toList p'.data.toList)
  rw [← hx.out] at c3 ⊢
  rw [← hx.out] at h3
  have hz : (x == 0) = false := beq_eq_false_iff_ne.2 h3
  have C3 := Lib.hid c3
  clear c0 c1 c2 c3 h0 h1 h2 h3
  go_enter Tryd.func22, Tryd.ntmps22
  go_wp2_with (first
    | (go_at_call 38; ((with_reducible refine (C0.out _).mono ?_); rintro e w' ⟨rfl, rfl⟩))
    | (go_at_call 38; ((with_reducible refine (C1.out _).mono ?_); rintro e w' ⟨rfl, rfl⟩))
    | (go_at_call 39; ((with_reducible refine (C2.out _).mono ?_); rintro e w' ⟨rfl, rfl⟩))
    | (go_at_call 39; ((with_reducible refine (C3.out _).mono ?_); rintro e w' ⟨rfl, rfl⟩)))
  go_ret
  exact ⟨rfl, key_block _ _ _⟩
theorem refcmp_4 (st gr : Int) (k p u : ByteArray) (st' gr' : Int) (k' p' u' : ByteArray) (h0 : Keys.ints st st' = 0) (h1 : Keys.ints gr gr' = 0) (h2 : Keys.texts k.data.toList k'.data.toList = 0) (h3 : Keys.texts p.data.toList p'.data.toList = 0) (w : World) :
    Calls Tryd.prog 22 #[keyVal st gr k p u, keyVal st' gr' k' p' u'] w fun e w' => e = .returned (.int .i64 (Keys.texts u.data.toList u'.data.toList)) ∧ Below w.heap.size w w' := by
  have c0 := fun v => refints_any st st' v
  rw [h0] at c0
  have C0 := Lib.hid c0
  have c1 := fun v => refints_any gr gr' v
  rw [h1] at c1
  have C1 := Lib.hid c1
  have c2 := fun v => reftexts_any k k' v
  rw [h2] at c2
  have C2 := Lib.hid c2
  have c3 := fun v => reftexts_any p p' v
  rw [h3] at c3
  have C3 := Lib.hid c3
  have c4 := fun v => reftexts_any u u' v
  obtain ⟨x, hx⟩ := named (Keys.texts u.data.toList u'.data.toList)
  rw [← hx.out] at c4 ⊢
  have C4 := Lib.hid c4
  clear c0 c1 c2 c3 c4 h0 h1 h2 h3
  go_enter Tryd.func22, Tryd.ntmps22
  go_wp2_with (first
    | (go_at_call 38; ((with_reducible refine (C0.out _).mono ?_); rintro e w' ⟨rfl, rfl⟩))
    | (go_at_call 38; ((with_reducible refine (C1.out _).mono ?_); rintro e w' ⟨rfl, rfl⟩))
    | (go_at_call 39; ((with_reducible refine (C2.out _).mono ?_); rintro e w' ⟨rfl, rfl⟩))
    | (go_at_call 39; ((with_reducible refine (C3.out _).mono ?_); rintro e w' ⟨rfl, rfl⟩))
    | (go_at_call 39; ((with_reducible refine (C4.out _).mono ?_); rintro e w' ⟨rfl, rfl⟩)))
  go_ret
  exact ⟨rfl, key_block _ _ _⟩
theorem refcmp_any (st gr : Int) (k p u : ByteArray) (st' gr' : Int) (k' p' u' : ByteArray) (w : World) :
    Calls Tryd.prog 22 #[keyVal st gr k p u, keyVal st' gr' k' p' u'] w fun e w' => e = .returned (.int .i64 (Keys.cmp (skOf st gr k p u) (skOf st' gr' k' p' u'))) ∧ Below w.heap.size w w' := by
  unfold Keys.cmp Keys.next
  by_cases h0 : Keys.ints st st' = 0
  · by_cases h1 : Keys.ints gr gr' = 0
    · by_cases h2 : Keys.texts k.data.toList k'.data.toList = 0
      · by_cases h3 : Keys.texts p.data.toList p'.data.toList = 0
        · simp only [h0, h1, h2, h3, if_true]
          exact refcmp_4 st gr k p u st' gr' k' p' u' h0 h1 h2 h3 w
        · simp only [h0, h1, h2, h3, if_true, if_false]
          exact refcmp_3 st gr k p u st' gr' k' p' u' h0 h1 h2 h3 w
      · simp only [h0, h1, h2, if_true, if_false]
        exact refcmp_2 st gr k p u st' gr' k' p' u' h0 h1 h2 w
    · simp only [h0, h1, if_true, if_false]
      exact refcmp_1 st gr k p u st' gr' k' p' u' h0 h1 w
  · simp only [h0, if_false]
    exact refcmp_0 st gr k p u st' gr' k' p' u' h0 w
end Go.Proofs.YtpobfheioondaaaDoor
