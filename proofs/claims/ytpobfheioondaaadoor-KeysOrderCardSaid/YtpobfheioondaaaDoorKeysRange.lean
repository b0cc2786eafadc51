/-
  The contract of keys.Range: it answers the plain mathematics' range of the first fields, whatever the key and the number of parts. Condition: the library's one variable holds some number.
-/
import Derived.Test.YtpobfheioondaaaDoorKeysNext
import Derived.Test.YtpobfheioondaaaDoorKeysMath2
namespace Go.Proofs.YtpobfheioondaaaDoor
open Go.RowKit
/-- Behind a call the boxed key holds what it held. -/
theorem kept_box {w w' : World} {a b c d f : Value} (hb : Below (w.alloc (.cells #[a, b, c, d, f] 23)).heap.size (w.alloc (.cells #[a, b, c, d, f] 23)) w') :
    w'.cell? ⟨w.heap.size, 0, none⟩ = some a ∧ w'.cell? ⟨w.heap.size, 1, none⟩ = some b ∧ w'.cell? ⟨w.heap.size, 2, none⟩ = some c ∧ w'.cell? ⟨w.heap.size, 3, none⟩ = some d ∧ w'.cell? ⟨w.heap.size, 4, none⟩ = some f := by
  have h : ∀ i : Nat, w'.cell? ⟨w.heap.size, i, none⟩ = _ := fun i => (hb.cell (p := ⟨w.heap.size, i, none⟩) (by simp)).trans (World.cell?_alloc_new _ _ _ _)
  exact ⟨h 0, h 1, h 2, h 3, h 4⟩
abbrev noText : ByteArray := ⟨#[]⟩
theorem carry' {u w' : World} {o : Obj} {m : Int} (hb : Below (u.alloc o).heap.size (u.alloc o) w') (h : Max u m) : Max w' m := carry hb (h.alloc o)
theorem below_after {w w' : World} {o : Obj} (hb : Below (w.alloc o).heap.size (w.alloc o) w') : Below w.heap.size w w' := (below_alloc w o).trans (hb.mono (by simp))
set_option maxHeartbeats 4000000 in
theorem range_1 (st gr : Int) (k p u : ByteArray) (m : Int) (w : World) (hm : Max w m) :
    Calls Tryd.prog 23 #[keyVal st gr k p u, .int .i64 1] w fun e w' => e = .returned (.tuple #[.string ⟨(Keys.rng (skOf st gr k p u) 1).1.toArray⟩, .string ⟨(Keys.rng (skOf st gr k p u) 1).2.1.toArray⟩, .int .i64 ((Keys.rng (skOf st gr k p u) 1).2.2 : Int)]) ∧ Below w.heap.size w w' := by
  have hcut : Keys.cut (skOf st gr k p u) 1 = skOf st 0 noText noText noText := by simp [Keys.cut]
  have c1 := fun v => check_any st 0 noText noText noText v
  unfold Keys.rng
  rw [if_neg (by omega), hcut]
  by_cases hE : Keys.check (skOf st 0 noText noText noText) = 0
  · rw [if_neg (by simpa using hE)]
    rw [hE] at c1
    have hv := Keys.valid_check hE
    have c2 := fun v h => first_1 st 0 noText noText noText (by exact hv.st) m v h
    have hF : Keys.first (skOf st 0 noText noText noText) 1 = Keys.first (skOf st gr k p u) 1 := by rw [← hcut]; exact Keys.first_of_cut _ _
    have hlow := (Keys.fit_of (k := skOf st gr k p u) (n := 1) (by omega) (by rw [hcut]; exact hE)).low
    have hlen := Keys.first_len hv.key hv.space 1
    rw [hF] at c2 hlen
    obtain ⟨a, c, e1, e2, e3⟩ := Keys.low_split _ hlow
    have c3 := fun v => next_any ⟨(Keys.first (skOf st gr k p u) 1).toArray⟩ a c (by rw [e1]) e2 (by rw [e1, List.length_append] at hlen; omega) v
    rw [← e3] at c3
    obtain ⟨F, hFF⟩ := named (⟨(Keys.first (skOf st gr k p u) 1).toArray⟩ : ByteArray)
    obtain ⟨U, hUU⟩ := named (⟨(Keys.up (Keys.first (skOf st gr k p u) 1)).toArray⟩ : ByteArray)
    rw [← hFF.out] at c2 c3
    rw [← hUU.out] at c3
    show Calls _ _ _ _ fun e w' => e = .returned (.tuple #[.string ⟨(Keys.first (skOf st gr k p u) 1).toArray⟩, .string ⟨(Keys.up (Keys.first (skOf st gr k p u) 1)).toArray⟩, .int .i64 0]) ∧ _
    rw [← hFF.out, ← hUU.out]
    have C1 := Lib.hid c1
    have C2 := Lib.hid c2
    have C3 := Lib.hid c3
    clear c1 c2 c3 e1 e2 e3 hlow hlen hF hE hcut hv
    go_enter Tryd.func23, Tryd.ntmps23
    go_wp2_with (first
      | (go_at_call 16; ((with_reducible refine (C1.out _).mono ?_); rintro e w' ⟨rfl, hb⟩; have hB' := below_after hb; have hm' := carry' hb hm; have hx := kept_box hb))
      | (go_at_call 28; ((with_reducible refine (C2.out _ (by assumption)).mono ?_); rintro e w' ⟨rfl, hb⟩; have hB' := below_of (w := w) (by assumption) hb))
      | (go_at_call 40; ((with_reducible refine (C3.out _).mono ?_); rintro e w' ⟨rfl, hb⟩; have hB' := below_of (w := w) (by assumption) hb)))
    go_returns
    exact ⟨rfl, by assumption⟩
  · rw [if_pos hE]
    have hlen : Keys.check (skOf st 0 noText noText noText) < 10 := Keys.check_lt _
    obtain ⟨E, hEE⟩ := named (Keys.check (skOf st 0 noText noText noText))
    rw [← hEE.out] at c1 hE ⊢
    show Calls _ _ _ _ fun e w' => e = .returned (.tuple #[.string noText, .string noText, .int .i64 (E : Int)]) ∧ _
    have hne : ((E : Int) != 0) = true := bne_iff_ne.2 (by omega)
    have C1 := Lib.hid c1
    clear c1 hE hcut hlen
    go_enter Tryd.func23, Tryd.ntmps23
    go_wp2_with (go_at_call 16; ((with_reducible refine (C1.out _).mono ?_); rintro e w' ⟨rfl, hb⟩; have hB' := below_after hb))
    go_returns
    exact ⟨rfl, by assumption⟩
set_option maxHeartbeats 4000000 in
theorem range_2 (st gr : Int) (k p u : ByteArray) (m : Int) (w : World) (hm : Max w m) :
    Calls Tryd.prog 23 #[keyVal st gr k p u, .int .i64 2] w fun e w' => e = .returned (.tuple #[.string ⟨(Keys.rng (skOf st gr k p u) 2).1.toArray⟩, .string ⟨(Keys.rng (skOf st gr k p u) 2).2.1.toArray⟩, .int .i64 ((Keys.rng (skOf st gr k p u) 2).2.2 : Int)]) ∧ Below w.heap.size w w' := by
  have hcut : Keys.cut (skOf st gr k p u) 2 = skOf st gr noText noText noText := by simp [Keys.cut]
  have c1 := fun v => check_any st gr noText noText noText v
  unfold Keys.rng
  rw [if_neg (by omega), hcut]
  by_cases hE : Keys.check (skOf st gr noText noText noText) = 0
  · rw [if_neg (by simpa using hE)]
    rw [hE] at c1
    have hv := Keys.valid_check hE
    have c2 := fun v h => first_2 st gr noText noText noText hv.st hv.gr m v h
    have hF : Keys.first (skOf st gr noText noText noText) 2 = Keys.first (skOf st gr k p u) 2 := by rw [← hcut]; exact Keys.first_of_cut _ _
    have hlow := (Keys.fit_of (k := skOf st gr k p u) (n := 2) (by omega) (by rw [hcut]; exact hE)).low
    have hlen := Keys.first_len hv.key hv.space 2
    rw [hF] at c2 hlen
    obtain ⟨a, c, e1, e2, e3⟩ := Keys.low_split _ hlow
    have c3 := fun v => next_any ⟨(Keys.first (skOf st gr k p u) 2).toArray⟩ a c (by rw [e1]) e2 (by rw [e1, List.length_append] at hlen; omega) v
    rw [← e3] at c3
    obtain ⟨F, hFF⟩ := named (⟨(Keys.first (skOf st gr k p u) 2).toArray⟩ : ByteArray)
    obtain ⟨U, hUU⟩ := named (⟨(Keys.up (Keys.first (skOf st gr k p u) 2)).toArray⟩ : ByteArray)
    rw [← hFF.out] at c2 c3
    rw [← hUU.out] at c3
    show Calls _ _ _ _ fun e w' => e = .returned (.tuple #[.string ⟨(Keys.first (skOf st gr k p u) 2).toArray⟩, .string ⟨(Keys.up (Keys.first (skOf st gr k p u) 2)).toArray⟩, .int .i64 0]) ∧ _
    rw [← hFF.out, ← hUU.out]
    have C1 := Lib.hid c1
    have C2 := Lib.hid c2
    have C3 := Lib.hid c3
    clear c1 c2 c3 e1 e2 e3 hlow hlen hF hE hcut hv
    go_enter Tryd.func23, Tryd.ntmps23
    go_wp2_with (first
      | (go_at_call 16; ((with_reducible refine (C1.out _).mono ?_); rintro e w' ⟨rfl, hb⟩; have hB' := below_after hb; have hm' := carry' hb hm; have hx := kept_box hb))
      | (go_at_call 28; ((with_reducible refine (C2.out _ (by assumption)).mono ?_); rintro e w' ⟨rfl, hb⟩; have hB' := below_of (w := w) (by assumption) hb))
      | (go_at_call 40; ((with_reducible refine (C3.out _).mono ?_); rintro e w' ⟨rfl, hb⟩; have hB' := below_of (w := w) (by assumption) hb)))
    go_returns
    exact ⟨rfl, by assumption⟩
  · rw [if_pos hE]
    have hlen : Keys.check (skOf st gr noText noText noText) < 10 := Keys.check_lt _
    obtain ⟨E, hEE⟩ := named (Keys.check (skOf st gr noText noText noText))
    rw [← hEE.out] at c1 hE ⊢
    show Calls _ _ _ _ fun e w' => e = .returned (.tuple #[.string noText, .string noText, .int .i64 (E : Int)]) ∧ _
    have hne : ((E : Int) != 0) = true := bne_iff_ne.2 (by omega)
    have C1 := Lib.hid c1
    clear c1 hE hcut hlen
    go_enter Tryd.func23, Tryd.ntmps23
    go_wp2_with (go_at_call 16; ((with_reducible refine (C1.out _).mono ?_); rintro e w' ⟨rfl, hb⟩; have hB' := below_after hb))
    go_returns
    exact ⟨rfl, by assumption⟩
set_option maxHeartbeats 4000000 in
theorem range_3 (st gr : Int) (k p u : ByteArray) (m : Int) (w : World) (hm : Max w m) :
    Calls Tryd.prog 23 #[keyVal st gr k p u, .int .i64 3] w fun e w' => e = .returned (.tuple #[.string ⟨(Keys.rng (skOf st gr k p u) 3).1.toArray⟩, .string ⟨(Keys.rng (skOf st gr k p u) 3).2.1.toArray⟩, .int .i64 ((Keys.rng (skOf st gr k p u) 3).2.2 : Int)]) ∧ Below w.heap.size w w' := by
  have hcut : Keys.cut (skOf st gr k p u) 3 = skOf st gr k noText noText := by simp [Keys.cut]
  have c1 := fun v => check_any st gr k noText noText v
  unfold Keys.rng
  rw [if_neg (by omega), hcut]
  by_cases hE : Keys.check (skOf st gr k noText noText) = 0
  · rw [if_neg (by simpa using hE)]
    rw [hE] at c1
    have hv := Keys.valid_check hE
    have hk : k.size ≤ 64 := by have := hv.key; rwa [show (skOf st gr k noText noText).key = k.data.toList from rfl, size_len] at this
    have c2 := fun v h => first_3 st gr k noText noText hv.st hv.gr hk m v h
    have hF : Keys.first (skOf st gr k noText noText) 3 = Keys.first (skOf st gr k p u) 3 := by rw [← hcut]; exact Keys.first_of_cut _ _
    have hlow := (Keys.fit_of (k := skOf st gr k p u) (n := 3) (by omega) (by rw [hcut]; exact hE)).low
    have hlen := Keys.first_len hv.key hv.space 3
    rw [hF] at c2 hlen
    obtain ⟨a, c, e1, e2, e3⟩ := Keys.low_split _ hlow
    have c3 := fun v => next_any ⟨(Keys.first (skOf st gr k p u) 3).toArray⟩ a c (by rw [e1]) e2 (by rw [e1, List.length_append] at hlen; omega) v
    rw [← e3] at c3
    obtain ⟨F, hFF⟩ := named (⟨(Keys.first (skOf st gr k p u) 3).toArray⟩ : ByteArray)
    obtain ⟨U, hUU⟩ := named (⟨(Keys.up (Keys.first (skOf st gr k p u) 3)).toArray⟩ : ByteArray)
    rw [← hFF.out] at c2 c3
    rw [← hUU.out] at c3
    show Calls _ _ _ _ fun e w' => e = .returned (.tuple #[.string ⟨(Keys.first (skOf st gr k p u) 3).toArray⟩, .string ⟨(Keys.up (Keys.first (skOf st gr k p u) 3)).toArray⟩, .int .i64 0]) ∧ _
    rw [← hFF.out, ← hUU.out]
    have C1 := Lib.hid c1
    have C2 := Lib.hid c2
    have C3 := Lib.hid c3
    clear c1 c2 c3 e1 e2 e3 hlow hlen hF hE hcut hv
    go_enter Tryd.func23, Tryd.ntmps23
    go_wp2_with (first
      | (go_at_call 16; ((with_reducible refine (C1.out _).mono ?_); rintro e w' ⟨rfl, hb⟩; have hB' := below_after hb; have hm' := carry' hb hm; have hx := kept_box hb))
      | (go_at_call 28; ((with_reducible refine (C2.out _ (by assumption)).mono ?_); rintro e w' ⟨rfl, hb⟩; have hB' := below_of (w := w) (by assumption) hb))
      | (go_at_call 40; ((with_reducible refine (C3.out _).mono ?_); rintro e w' ⟨rfl, hb⟩; have hB' := below_of (w := w) (by assumption) hb)))
    go_returns
    exact ⟨rfl, by assumption⟩
  · rw [if_pos hE]
    have hlen : Keys.check (skOf st gr k noText noText) < 10 := Keys.check_lt _
    obtain ⟨E, hEE⟩ := named (Keys.check (skOf st gr k noText noText))
    rw [← hEE.out] at c1 hE ⊢
    show Calls _ _ _ _ fun e w' => e = .returned (.tuple #[.string noText, .string noText, .int .i64 (E : Int)]) ∧ _
    have hne : ((E : Int) != 0) = true := bne_iff_ne.2 (by omega)
    have C1 := Lib.hid c1
    clear c1 hE hcut hlen
    go_enter Tryd.func23, Tryd.ntmps23
    go_wp2_with (go_at_call 16; ((with_reducible refine (C1.out _).mono ?_); rintro e w' ⟨rfl, hb⟩; have hB' := below_after hb))
    go_returns
    exact ⟨rfl, by assumption⟩
set_option maxHeartbeats 4000000 in
theorem range_4 (st gr : Int) (k p u : ByteArray) (m : Int) (w : World) (hm : Max w m) :
    Calls Tryd.prog 23 #[keyVal st gr k p u, .int .i64 4] w fun e w' => e = .returned (.tuple #[.string ⟨(Keys.rng (skOf st gr k p u) 4).1.toArray⟩, .string ⟨(Keys.rng (skOf st gr k p u) 4).2.1.toArray⟩, .int .i64 ((Keys.rng (skOf st gr k p u) 4).2.2 : Int)]) ∧ Below w.heap.size w w' := by
  have hcut : Keys.cut (skOf st gr k p u) 4 = skOf st gr k p noText := by simp [Keys.cut]
  have c1 := fun v => check_any st gr k p noText v
  unfold Keys.rng
  rw [if_neg (by omega), hcut]
  by_cases hE : Keys.check (skOf st gr k p noText) = 0
  · rw [if_neg (by simpa using hE)]
    rw [hE] at c1
    have hv := Keys.valid_check hE
    have hk : k.size ≤ 64 := by have := hv.key; rwa [show (skOf st gr k p noText).key = k.data.toList from rfl, size_len] at this
    have hp : p.size ≤ 64 := by have := hv.space; rwa [show (skOf st gr k p noText).space = p.data.toList from rfl, size_len] at this
    have c2 := fun v h => first_4 st gr k p noText hv.st hv.gr hk hp m v h
    have hF : Keys.first (skOf st gr k p noText) 4 = Keys.first (skOf st gr k p u) 4 := by rw [← hcut]; exact Keys.first_of_cut _ _
    have hlow := (Keys.fit_of (k := skOf st gr k p u) (n := 4) (by omega) (by rw [hcut]; exact hE)).low
    have hlen := Keys.first_len hv.key hv.space 4
    rw [hF] at c2 hlen
    obtain ⟨a, c, e1, e2, e3⟩ := Keys.low_split _ hlow
    have c3 := fun v => next_any ⟨(Keys.first (skOf st gr k p u) 4).toArray⟩ a c (by rw [e1]) e2 (by rw [e1, List.length_append] at hlen; omega) v
    rw [← e3] at c3
    obtain ⟨F, hFF⟩ := named (⟨(Keys.first (skOf st gr k p u) 4).toArray⟩ : ByteArray)
    obtain ⟨U, hUU⟩ := named (⟨(Keys.up (Keys.first (skOf st gr k p u) 4)).toArray⟩ : ByteArray)
    rw [← hFF.out] at c2 c3
    rw [← hUU.out] at c3
    show Calls _ _ _ _ fun e w' => e = .returned (.tuple #[.string ⟨(Keys.first (skOf st gr k p u) 4).toArray⟩, .string ⟨(Keys.up (Keys.first (skOf st gr k p u) 4)).toArray⟩, .int .i64 0]) ∧ _
    rw [← hFF.out, ← hUU.out]
    have C1 := Lib.hid c1
    have C2 := Lib.hid c2
    have C3 := Lib.hid c3
    clear c1 c2 c3 e1 e2 e3 hlow hlen hF hE hcut hv
    go_enter Tryd.func23, Tryd.ntmps23
    go_wp2_with (first
      | (go_at_call 16; ((with_reducible refine (C1.out _).mono ?_); rintro e w' ⟨rfl, hb⟩; have hB' := below_after hb; have hm' := carry' hb hm; have hx := kept_box hb))
      | (go_at_call 28; ((with_reducible refine (C2.out _ (by assumption)).mono ?_); rintro e w' ⟨rfl, hb⟩; have hB' := below_of (w := w) (by assumption) hb))
      | (go_at_call 40; ((with_reducible refine (C3.out _).mono ?_); rintro e w' ⟨rfl, hb⟩; have hB' := below_of (w := w) (by assumption) hb)))
    go_returns
    exact ⟨rfl, by assumption⟩
  · rw [if_pos hE]
    have hlen : Keys.check (skOf st gr k p noText) < 10 := Keys.check_lt _
    obtain ⟨E, hEE⟩ := named (Keys.check (skOf st gr k p noText))
    rw [← hEE.out] at c1 hE ⊢
    show Calls _ _ _ _ fun e w' => e = .returned (.tuple #[.string noText, .string noText, .int .i64 (E : Int)]) ∧ _
    have hne : ((E : Int) != 0) = true := bne_iff_ne.2 (by omega)
    have C1 := Lib.hid c1
    clear c1 hE hcut hlen
    go_enter Tryd.func23, Tryd.ntmps23
    go_wp2_with (go_at_call 16; ((with_reducible refine (C1.out _).mono ?_); rintro e w' ⟨rfl, hb⟩; have hB' := below_after hb))
    go_returns
    exact ⟨rfl, by assumption⟩
end Go.Proofs.YtpobfheioondaaaDoor
