/-
  State's keys are held in an order: signs, transitivity, and level just if they are the same (KeysOrder). No condition.
-/
import Derived.Test.YtpobfheioondaaaDoorKeysCmp2
import Derived.Test.YtpobfheioondaaaDoorKeysSame
import Derived.Test.YtpobfheioondaaaDoorCard
import Derived.Deep.RegionHeld
namespace Go.Proofs.YtpobfheioondaaaDoor
open Go.RowKit
set_option maxHeartbeats 16000000 in
theorem order_ne (st gr : Int) (k p u : ByteArray) (st1 gr1 : Int) (k1 p1 u1 : ByteArray) (st2 gr2 : Int) (k2 p2 u2 : ByteArray) (m : Int) (X X4 Y Z : Int) (w : World) (hm : Max w m)
    (C1 : Hid (∀ v, Calls Tryd.prog 21 #[keyVal st gr k p u, keyVal st1 gr1 k1 p1 u1] v fun e v' => e = .returned (.int .i64 X) ∧ Below v.heap.size v v'))
    (C2 : Hid (∀ v, Calls Tryd.prog 21 #[keyVal st1 gr1 k1 p1 u1, keyVal st2 gr2 k2 p2 u2] v fun e v' => e = .returned (.int .i64 Y) ∧ Below v.heap.size v v'))
    (C3 : Hid (∀ v, Calls Tryd.prog 21 #[keyVal st gr k p u, keyVal st2 gr2 k2 p2 u2] v fun e v' => e = .returned (.int .i64 Z) ∧ Below v.heap.size v v'))
    (C4 : Hid (∀ v, Calls Tryd.prog 21 #[keyVal st1 gr1 k1 p1 u1, keyVal st gr k p u] v fun e v' => e = .returned (.int .i64 X4) ∧ Below v.heap.size v v'))
    (C5 : Hid (∀ st gr k p u v, Calls Tryd.prog 21 #[keyVal st gr k p u, keyVal st gr k p u] v fun e v' => e = .returned (.int .i64 0) ∧ Below v.heap.size v v'))
    (hne : Hid (¬ (st = st1 ∧ gr = gr1 ∧ k.toList = k1.toList ∧ p.toList = p1.toList ∧ u.toList = u1.toList)))
    (hx : (X = -1 ∧ X4 = 1 ∧ ((Y = -1 ∧ Z = -1) ∨ (Y = 0 ∧ Z = -1) ∨ (Y = 1 ∧ Z = -1) ∨ (Y = 1 ∧ Z = 0) ∨ (Y = 1 ∧ Z = 1))) ∨
      (X = 1 ∧ X4 = -1 ∧ ((Y = -1 ∧ Z = -1) ∨ (Y = -1 ∧ Z = 0) ∨ (Y = -1 ∧ Z = 1) ∨ (Y = 0 ∧ Z = 1) ∨ (Y = 1 ∧ Z = 1)))) :
    Calls Tryd.prog 10 #[keyVal st gr k p u, keyVal st1 gr1 k1 p1 u1, keyVal st2 gr2 k2 p2 u2] w fun e w' => e = .returned (.bool true) ∧ Below w.heap.size w w' := by
  have x0 := box_below (box_below (box_new w st gr k p u) (below_alloc (w.alloc (.cells #[.int .i64 st, .int .i64 gr, .string k, .string p, .string u] 23)) (.cells #[.int .i64 st1, .int .i64 gr1, .string k1, .string p1, .string u1] 23))) (below_alloc ((w.alloc (.cells #[.int .i64 st, .int .i64 gr, .string k, .string p, .string u] 23)).alloc (.cells #[.int .i64 st1, .int .i64 gr1, .string k1, .string p1, .string u1] 23)) (.cells #[.int .i64 st2, .int .i64 gr2, .string k2, .string p2, .string u2] 23))
  have y0 := box_below (box_new (w.alloc (.cells #[.int .i64 st, .int .i64 gr, .string k, .string p, .string u] 23)) st1 gr1 k1 p1 u1) (below_alloc ((w.alloc (.cells #[.int .i64 st, .int .i64 gr, .string k, .string p, .string u] 23)).alloc (.cells #[.int .i64 st1, .int .i64 gr1, .string k1, .string p1, .string u1] 23)) (.cells #[.int .i64 st2, .int .i64 gr2, .string k2, .string p2, .string u2] 23))
  rw [World.size_alloc] at y0
  have v0 := box_new ((w.alloc (.cells #[.int .i64 st, .int .i64 gr, .string k, .string p, .string u] 23)).alloc (.cells #[.int .i64 st1, .int .i64 gr1, .string k1, .string p1, .string u1] 23)) st2 gr2 k2 p2 u2
  rw [World.size_alloc, World.size_alloc] at v0
  have z0 : Below w.heap.size w _ := (key_block w (.cells #[.int .i64 st, .int .i64 gr, .string k, .string p, .string u] 23) (.cells #[.int .i64 st1, .int .i64 gr1, .string k1, .string p1, .string u1] 23)).alloc (by simp; omega) (.cells #[.int .i64 st2, .int .i64 gr2, .string k2, .string p2, .string u2] 23)
  have hm0 := ((hm.alloc (.cells #[.int .i64 st, .int .i64 gr, .string k, .string p, .string u] 23)).alloc (.cells #[.int .i64 st1, .int .i64 gr1, .string k1, .string p1, .string u1] 23)).alloc (.cells #[.int .i64 st2, .int .i64 gr2, .string k2, .string p2, .string u2] 23)
  have HX := Lib.hid hx
  clear hx
  go_enter Tryd.func10, Tryd.ntmps10
  go_wp2
  go_region_held (fun v => (v.cell? ⟨w.heap.size, 0, none⟩ = some (.int .i64 st) ∧ v.cell? ⟨w.heap.size, 1, none⟩ = some (.int .i64 gr) ∧ v.cell? ⟨w.heap.size, 2, none⟩ = some (.string k) ∧ v.cell? ⟨w.heap.size, 3, none⟩ = some (.string p) ∧ v.cell? ⟨w.heap.size, 4, none⟩ = some (.string u)) ∧ (v.cell? ⟨w.heap.size + 1, 0, none⟩ = some (.int .i64 st1) ∧ v.cell? ⟨w.heap.size + 1, 1, none⟩ = some (.int .i64 gr1) ∧ v.cell? ⟨w.heap.size + 1, 2, none⟩ = some (.string k1) ∧ v.cell? ⟨w.heap.size + 1, 3, none⟩ = some (.string p1) ∧ v.cell? ⟨w.heap.size + 1, 4, none⟩ = some (.string u1)) ∧ (v.cell? ⟨w.heap.size + 1 + 1, 0, none⟩ = some (.int .i64 st2) ∧ v.cell? ⟨w.heap.size + 1 + 1, 1, none⟩ = some (.int .i64 gr2) ∧ v.cell? ⟨w.heap.size + 1 + 1, 2, none⟩ = some (.string k2) ∧ v.cell? ⟨w.heap.size + 1 + 1, 3, none⟩ = some (.string p2) ∧ v.cell? ⟨w.heap.size + 1 + 1, 4, none⟩ = some (.string u2)))
    (first
      | exact ⟨x3, y3, v3⟩
      | exact ⟨x2, y2, v2⟩
      | exact ⟨x1, y1, v1⟩
      | exact ⟨x0, y0, v0⟩)
    (first
      | (go_at_call 21; ((with_reducible refine (C1.out _).mono ?_); rintro e w1 ⟨rfl, hb1⟩; have z1 := below_of (w := w) (by first | exact z3 | exact z2 | exact z0 | exact z0.drew) hb1; have hm1 : Max w1 m := carry hb1 (by first | exact hm3 | exact hm2 | exact hm0); have x1 := box_below (by first | exact x3 | exact x2 | exact x0) hb1; have y1 := box_below (by first | exact y3 | exact y2 | exact y0) hb1; have v1 := box_below (by first | exact v3 | exact v2 | exact v0) hb1))
      | (go_at_call 21; ((with_reducible refine (C2.out _).mono ?_); rintro e w2 ⟨rfl, hb2⟩; have z2 := below_of (w := w) (by first | exact z3 | exact z1 | exact z0 | exact z0.drew) hb2; have hm2 : Max w2 m := carry hb2 (by first | exact hm3 | exact hm1 | exact hm0); have x2 := box_below (by first | exact x3 | exact x1 | exact x0) hb2; have y2 := box_below (by first | exact y3 | exact y1 | exact y0) hb2; have v2 := box_below (by first | exact v3 | exact v1 | exact v0) hb2))
      | (go_at_call 21; ((with_reducible refine (C3.out _).mono ?_); rintro e w3 ⟨rfl, hb3⟩; have z3 := below_of (w := w) (by first | exact z2 | exact z1 | exact z0 | exact z0.drew) hb3; have hm3 : Max w3 m := carry hb3 (by first | exact hm2 | exact hm1 | exact hm0); have x3 := box_below (by first | exact x2 | exact x1 | exact x0) hb3; have y3 := box_below (by first | exact y2 | exact y1 | exact y0) hb3; have v3 := box_below (by first | exact v2 | exact v1 | exact v0) hb3)))
  all_goals obtain ⟨a0, a1, a2, a3, a4⟩ := id x3
  all_goals obtain ⟨b0, b1, b2, b3, b4⟩ := id y3
  all_goals rcases HX.out with ⟨rfl, rfl, h | h | h | h | h⟩ | ⟨rfl, rfl, h | h | h | h | h⟩
  all_goals obtain ⟨rfl, rfl⟩ := h
  all_goals go_wp2_with (first
      | (go_at_call 21; ((with_reducible refine (C4.out _).mono ?_); rintro e w4 ⟨rfl, hb4⟩; have z4 := below_of (w := w) z3 hb4; have hm4 : Max w4 m := carry hb4 hm3; obtain ⟨a0, a1, a2, a3, a4⟩ := box_below x3 hb4; obtain ⟨b0, b1, b2, b3, b4⟩ := box_below y3 hb4))
      | (go_at_call 21; ((with_reducible refine (C5.out _ _ _ _ _ _).mono ?_); rintro e w5 ⟨rfl, hb5⟩; have z5 := below_of (w := w) z4 hb5; have hm5 : Max w5 m := carry hb5 hm4))
      | (go_at_call 18; refine (awake_any m _ hm5).mono ?_; rintro e w9 ⟨rfl, hb9⟩; have z9 := below_of (w := w) z5 hb9))
  all_goals first
    | (go_ret; exact ⟨rfl, z9⟩)
    | exact absurd ⟨by assumption, by assumption, by assumption, by assumption, by assumption⟩ hne.out
set_option maxHeartbeats 16000000 in
theorem order_eq (st gr : Int) (k p u : ByteArray) (st2 gr2 : Int) (k2 p2 u2 : ByteArray) (m : Int) (Y : Int) (w : World) (hm : Max w m)
    (C2 : Hid (∀ v, Calls Tryd.prog 21 #[keyVal st gr k p u, keyVal st2 gr2 k2 p2 u2] v fun e v' => e = .returned (.int .i64 Y) ∧ Below v.heap.size v v'))
    (C5 : Hid (∀ v, Calls Tryd.prog 21 #[keyVal st gr k p u, keyVal st gr k p u] v fun e v' => e = .returned (.int .i64 0) ∧ Below v.heap.size v v'))
    (hx : Y = -1 ∨ Y = 0 ∨ Y = 1) :
    Calls Tryd.prog 10 #[keyVal st gr k p u, keyVal st gr k p u, keyVal st2 gr2 k2 p2 u2] w fun e w' => e = .returned (.bool true) ∧ Below w.heap.size w w' := by
  have x0 := box_below (box_below (box_new w st gr k p u) (below_alloc (w.alloc (.cells #[.int .i64 st, .int .i64 gr, .string k, .string p, .string u] 23)) (.cells #[.int .i64 st, .int .i64 gr, .string k, .string p, .string u] 23))) (below_alloc ((w.alloc (.cells #[.int .i64 st, .int .i64 gr, .string k, .string p, .string u] 23)).alloc (.cells #[.int .i64 st, .int .i64 gr, .string k, .string p, .string u] 23)) (.cells #[.int .i64 st2, .int .i64 gr2, .string k2, .string p2, .string u2] 23))
  have y0 := box_below (box_new (w.alloc (.cells #[.int .i64 st, .int .i64 gr, .string k, .string p, .string u] 23)) st gr k p u) (below_alloc ((w.alloc (.cells #[.int .i64 st, .int .i64 gr, .string k, .string p, .string u] 23)).alloc (.cells #[.int .i64 st, .int .i64 gr, .string k, .string p, .string u] 23)) (.cells #[.int .i64 st2, .int .i64 gr2, .string k2, .string p2, .string u2] 23))
  rw [World.size_alloc] at y0
  have v0 := box_new ((w.alloc (.cells #[.int .i64 st, .int .i64 gr, .string k, .string p, .string u] 23)).alloc (.cells #[.int .i64 st, .int .i64 gr, .string k, .string p, .string u] 23)) st2 gr2 k2 p2 u2
  rw [World.size_alloc, World.size_alloc] at v0
  have z0 : Below w.heap.size w _ := (key_block w (.cells #[.int .i64 st, .int .i64 gr, .string k, .string p, .string u] 23) (.cells #[.int .i64 st, .int .i64 gr, .string k, .string p, .string u] 23)).alloc (by simp; omega) (.cells #[.int .i64 st2, .int .i64 gr2, .string k2, .string p2, .string u2] 23)
  have hm0 := ((hm.alloc (.cells #[.int .i64 st, .int .i64 gr, .string k, .string p, .string u] 23)).alloc (.cells #[.int .i64 st, .int .i64 gr, .string k, .string p, .string u] 23)).alloc (.cells #[.int .i64 st2, .int .i64 gr2, .string k2, .string p2, .string u2] 23)
  have HX := Lib.hid hx
  clear hx
  go_enter Tryd.func10, Tryd.ntmps10
  go_wp2
  go_region_held (fun v => (v.cell? ⟨w.heap.size, 0, none⟩ = some (.int .i64 st) ∧ v.cell? ⟨w.heap.size, 1, none⟩ = some (.int .i64 gr) ∧ v.cell? ⟨w.heap.size, 2, none⟩ = some (.string k) ∧ v.cell? ⟨w.heap.size, 3, none⟩ = some (.string p) ∧ v.cell? ⟨w.heap.size, 4, none⟩ = some (.string u)) ∧ (v.cell? ⟨w.heap.size + 1, 0, none⟩ = some (.int .i64 st) ∧ v.cell? ⟨w.heap.size + 1, 1, none⟩ = some (.int .i64 gr) ∧ v.cell? ⟨w.heap.size + 1, 2, none⟩ = some (.string k) ∧ v.cell? ⟨w.heap.size + 1, 3, none⟩ = some (.string p) ∧ v.cell? ⟨w.heap.size + 1, 4, none⟩ = some (.string u)) ∧ (v.cell? ⟨w.heap.size + 1 + 1, 0, none⟩ = some (.int .i64 st2) ∧ v.cell? ⟨w.heap.size + 1 + 1, 1, none⟩ = some (.int .i64 gr2) ∧ v.cell? ⟨w.heap.size + 1 + 1, 2, none⟩ = some (.string k2) ∧ v.cell? ⟨w.heap.size + 1 + 1, 3, none⟩ = some (.string p2) ∧ v.cell? ⟨w.heap.size + 1 + 1, 4, none⟩ = some (.string u2)))
    (first
      | exact ⟨xx, yy, vv⟩
      | exact ⟨x0, y0, v0⟩)
    (first
      | (go_at_call 21; ((with_reducible refine (C5.out _).mono ?_); rintro e wx ⟨rfl, hbx⟩; have zz := below_of (w := w) (by first | exact zz | exact z0.drew) hbx; have hmm : Max wx m := carry hbx (by first | exact hmm | exact hm0); have xx := box_below (by first | exact xx | exact x0) hbx; have yy := box_below (by first | exact yy | exact y0) hbx; have vv := box_below (by first | exact vv | exact v0) hbx))
      | (go_at_call 21; ((with_reducible refine (C2.out _).mono ?_); rintro e wx ⟨rfl, hbx⟩; have zz := below_of (w := w) (by first | exact zz | exact z0.drew) hbx; have hmm : Max wx m := carry hbx (by first | exact hmm | exact hm0); have xx := box_below (by first | exact xx | exact x0) hbx; have yy := box_below (by first | exact yy | exact y0) hbx; have vv := box_below (by first | exact vv | exact v0) hbx)))
  all_goals obtain ⟨a0, a1, a2, a3, a4⟩ := id xx
  all_goals obtain ⟨b0, b1, b2, b3, b4⟩ := id yy
  all_goals rcases HX.out with rfl | rfl | rfl
  all_goals go_wp2_with (first
      | (go_at_call 21; ((with_reducible refine (C5.out _).mono ?_); rintro e wx ⟨rfl, hbx⟩; have zz := below_of (w := w) zz hbx; have hmm : Max wx m := carry hbx hmm; have xx := box_below xx hbx; have yy := box_below yy hbx; obtain ⟨a0, a1, a2, a3, a4⟩ := id xx; obtain ⟨b0, b1, b2, b3, b4⟩ := id yy))
      | (go_at_call 18; refine (awake_any m _ hmm).mono ?_; rintro e w9 ⟨rfl, hb9⟩; have z9 := below_of (w := w) zz hb9))
  all_goals go_ret
  all_goals exact ⟨rfl, z9⟩
theorem sk_eq {st gr st1 gr1 : Int} {k p u k1 p1 u1 : ByteArray} (h : skOf st gr k p u = skOf st1 gr1 k1 p1 u1) : st = st1 ∧ gr = gr1 ∧ k = k1 ∧ p = p1 ∧ u = u1 := by
  have e : ∀ x y : ByteArray, x.data.toList = y.data.toList → x = y := fun x y h => ByteArray.ext (Array.toList_inj.1 h)
  simp only [skOf, Keys.SK.mk.injEq] at h
  exact ⟨h.1, h.2.1, e _ _ h.2.2.1, e _ _ h.2.2.2.1, e _ _ h.2.2.2.2⟩
theorem keysOrder_walk (st gr : Int) (k p u : ByteArray) (st1 gr1 : Int) (k1 p1 u1 : ByteArray) (st2 gr2 : Int) (k2 p2 u2 : ByteArray) (m : Int) (w : World) (hm : Max w m) :
    Calls Tryd.prog 10 #[keyVal st gr k p u, keyVal st1 gr1 k1 p1 u1, keyVal st2 gr2 k2 p2 u2] w fun e w' => e = .returned (.bool true) ∧ Below w.heap.size w w' := by
  have O := Keys.cmp_ord
  by_cases hab : skOf st gr k p u = skOf st1 gr1 k1 p1 u1
  · obtain ⟨rfl, rfl, rfl, rfl, rfl⟩ := sk_eq hab
    have c2 := fun v => cmp_any st gr k p u st2 gr2 k2 p2 u2 v
    have c5 := fun v => cmp_any st gr k p u st gr k p u v
    rw [(O.zero _ _).2 rfl] at c5
    exact order_eq st gr k p u st2 gr2 k2 p2 u2 m _ w hm (Lib.hid c2) (Lib.hid c5) (O.range _ _)
  · have c1 := fun v => cmp_any st gr k p u st1 gr1 k1 p1 u1 v
    have c2 := fun v => cmp_any st1 gr1 k1 p1 u1 st2 gr2 k2 p2 u2 v
    have c3 := fun v => cmp_any st gr k p u st2 gr2 k2 p2 u2 v
    have c4 := fun v => cmp_any st1 gr1 k1 p1 u1 st gr k p u v
    have c5 : ∀ st gr k p u v, Calls Tryd.prog 21 #[keyVal st gr k p u, keyVal st gr k p u] v fun e v' => e = .returned (.int .i64 0) ∧ Below v.heap.size v v' := fun st gr k p u v => by
      have := cmp_any st gr k p u st gr k p u v
      rwa [(O.zero _ _).2 rfl] at this
    have hne : ¬ (st = st1 ∧ gr = gr1 ∧ k.toList = k1.toList ∧ p.toList = p1.toList ∧ u.toList = u1.toList) := fun h => hab (by
      obtain ⟨h1, h2, h3, h4, h5⟩ := h
      rw [Lib.toList_data, Lib.toList_data] at h3 h4 h5
      exact Keys.SK.ext' h1 h2 h3 h4 h5)
    have x0 : Keys.cmp (skOf st gr k p u) (skOf st1 gr1 k1 p1 u1) ≠ 0 := fun h => hab ((O.zero _ _).1 h)
    have r1 := O.range (skOf st gr k p u) (skOf st1 gr1 k1 p1 u1)
    have r2 := O.range (skOf st1 gr1 k1 p1 u1) (skOf st2 gr2 k2 p2 u2)
    have r3 := O.range (skOf st gr k p u) (skOf st2 gr2 k2 p2 u2)
    have t1 := O.turn (skOf st gr k p u) (skOf st1 gr1 k1 p1 u1)
    have t2 := O.turn (skOf st1 gr1 k1 p1 u1) (skOf st2 gr2 k2 p2 u2)
    have t3 := O.turn (skOf st gr k p u) (skOf st2 gr2 k2 p2 u2)
    have s1 := fun h1 h2 h3 => O.strict (a := skOf st gr k p u) (b := skOf st1 gr1 k1 p1 u1) (c := skOf st2 gr2 k2 p2 u2) h1 h2 h3
    have s2 := fun h1 h2 h3 => O.strict (a := skOf st2 gr2 k2 p2 u2) (b := skOf st1 gr1 k1 p1 u1) (c := skOf st gr k p u) h1 h2 h3
    rw [t1, t2, t3] at s2
    refine order_ne st gr k p u st1 gr1 k1 p1 u1 st2 gr2 k2 p2 u2 m _ _ _ _ w hm (Lib.hid c1) (Lib.hid c2) (Lib.hid c3) (Lib.hid c4) (Lib.hid c5) (Lib.hid hne) ?_
    rw [t1]
    rcases r1 with h | h | h
    · left
      refine ⟨h, by omega, ?_⟩
      rcases r2 with g | g | g
      · have := s1 (by omega) (by omega) (Or.inl (by omega)); omega
      · have := s1 (by omega) (by omega) (Or.inl (by omega)); omega
      · omega
    · exact absurd h x0
    · right
      refine ⟨h, by omega, ?_⟩
      rcases r2 with g | g | g
      · omega
      · have := s2 (by omega) (by omega) (Or.inr (by omega)); omega
      · have := s2 (by omega) (by omega) (Or.inr (by omega)); omega
--CARD freshetlaw03.KeysOrder keysOrder_walk key:a key:b key:c
--BEGIN
namespace KeysOrderProof
open Go.ChangeShapes Go.WideShapes Go.ChangeAt Go.RowKit
open Go.ChangeMaps (open_string shut_string)
theorem own : ownKnob Tryd.prog.godebug = none := by kernel_rfl
theorem reads (os : Os) {H : Type} (enc : TypeId × Value → H) : ∃ places, DataW.whole enc Tryd.prog ((World.laidAll Tryd.prog os Rows.keysOrderRow.laid).forCall (fun _ _ => 0) ⟨#[], #[.agg #[.int .i64 0, .int .i64 0, .string .empty, .string .empty, .string .empty], .agg #[.int .i64 0, .int .i64 0, .string .empty, .string .empty, .string .empty], .agg #[.int .i64 0, .int .i64 0, .string .empty, .string .empty, .string .empty]], []⟩).memory Tryd.f10.params.toList Rows.keysOrderSpec.vars false (#[.agg #[.int .i64 0, .int .i64 0, .string .empty, .string .empty, .string .empty], .agg #[.int .i64 0, .int .i64 0, .string .empty, .string .empty, .string .empty], .agg #[.int .i64 0, .int .i64 0, .string .empty, .string .empty, .string .empty]] : Array Value).toList 8 = some ([.agg [.lit (.int .i64 0), .lit (.int .i64 0), .lit (.string []), .lit (.string []), .lit (.string [])], .agg [.lit (.int .i64 0), .lit (.int .i64 0), .lit (.string []), .lit (.string []), .lit (.string [])], .agg [.lit (.int .i64 0), .lit (.int .i64 0), .lit (.string []), .lit (.string []), .lit (.string [])]], [], places) :=
  ⟨[], by kernel_rfl⟩
theorem laid_met (os : Os) (args : Array Value) : laidMetH Tryd.prog Rows.keysOrderRow.laid ((World.laidAll Tryd.prog os Rows.keysOrderRow.laid).forCall (fun _ _ => 0) ⟨#[], args, []⟩).memory := by
  rw [MakeChecks.laidMetH_plain _ _ _ (by kernel_rfl)]; exact laidMet_laidAll _ (by kernel_rfl) (by kernel_rfl)
set_option maxRecDepth 100000 in
theorem lifted (os : Os) (started : os.Started) (H : Type) (enc : TypeId × Value → H) (F : Stop.Interp) :
    ReturnsInHanded {} Tryd.checked os 10 .any ((OpenSpec.ofChange Rows.keysOrderSpec).preRow enc Tryd.prog Tryd.f10 Rows.keysOrderRow.domain false Rows.keysOrderRow.laid) (((OpenSpec.ofChange Rows.keysOrderSpec).at F).post enc Tryd.prog Tryd.f10 false true false false) := by
  obtain ⟨places, hx⟩ := reads os enc
  refine returnsInHanded_of_row (C := Tryd.checked) (s := OpenSpec.ofChange Rows.keysOrderSpec) own started (by kernel_rfl) Tryd.func10
    (witness_row_shaped (enc := enc) (C := Tryd.checked) false (World.laidAll Tryd.prog os Rows.keysOrderRow.laid) #[.agg #[.int .i64 0, .int .i64 0, .string .empty, .string .empty, .string .empty], .agg #[.int .i64 0, .int .i64 0, .string .empty, .string .empty, .string .empty], .agg #[.int .i64 0, .int .i64 0, .string .empty, .string .empty, .string .empty]] (World.laidAll_os _ _ _) (World.shaped_of_ZipB (by kernel_rfl) (by kernel_rfl)) (by kernel_rfl)
      (OpenSpec.preRow_of_cond 8 hx (by kernel_rfl) (fun k hk => by cases hk) (by kernel_rfl) (laid_met os _))) ?_
  intro W base args ds gs before hval0 hW _ hcond hsz _ hsh _
  have hval : ∀ (j : Nat) t v, Tryd.f10.params[j]? = some t → args[j]? = some v → Value.okWide Tryd.prog W .any base t v := hval0
  have hW' := hW
  obtain ⟨p, q, hA0, hV, rfl, hfz, hnd⟩ := hW
  have hA : DataW.TrodAll enc Tryd.prog W 0 (fun _ => true) true Tryd.f10.params.toList args.toList ds p := hA0
  rw [Tryd.params10] at hA hval hsz
  obtain ⟨v0, vs0, d0, ds0, p0, q0, hargs, rfl, rfl, h0, r0⟩ := trodAll_cons hA
  obtain ⟨v1, vs1, d1, ds1, p1, q1, rfl, rfl, rfl, h1, r1⟩ := trodAll_cons r0
  obtain ⟨v2, vs2, d2, ds2, p2, q2, rfl, rfl, rfl, h2, r2⟩ := trodAll_cons r1
  obtain ⟨rfl, rfl, rfl⟩ := trodAll_nil r2
  obtain rfl : args = #[v0, v1, v2] := by cases args; simp_all
  obtain ⟨rfl, rfl⟩ := trodVars_none hV
  obtain ⟨ast, agr, ak, ap, au, rfl, rfl, rfl, m0, q0a, q0b, q0c⟩ := open_key (hval 0 23 v0 rfl rfl) h0
  obtain ⟨bst, bgr, bk, bp, bu, rfl, rfl, rfl, m1, q1a, q1b, q1c⟩ := open_key (hval 1 23 v1 rfl rfl) h1
  obtain ⟨cst, cgr, ck, cp, cu, rfl, rfl, rfl, m2, q2a, q2b, q2c⟩ := open_key (hval 2 23 v2 rfl rfl) h2
  have z0 := sized_key hsz (j := 0) (st := ast) (gr := agr) (k := ak) (p := ap) (u := au) rfl rfl
  have z1 := sized_key hsz (j := 1) (st := bst) (gr := bgr) (k := bk) (p := bp) (u := bu) rfl rfl
  have z2 := sized_key hsz (j := 2) (st := cst) (gr := cgr) (k := ck) (p := cp) (u := cu) rfl rfl
  clear hA0 hval0
  simp only [List.append_nil] at hW'
  obtain ⟨mx, hmx⟩ := Tryd.laysM155.s1_3 W hsh
  refine (keysOrder_walk ast agr ak ap au bst bgr bk bp bu cst cgr ck cp cu mx W hmx).mono fun e W' ⟨he, hg⟩ => ?_
  subst he
  exact ⟨_, rfl, _, _, _, [], [], [], hW', (trodAll_cons_mk (shut_bool Tryd.underlying4 _) trodAll_mk0), (trodAll_cons_mk (shut_key m0.1 m0.2 q0a q0b q0c) (trodAll_cons_mk (shut_key m1.1 m1.2 q1a q1b q1c) (trodAll_cons_mk (shut_key m2.1 m2.2 q2a q2b q2c) trodAll_mk0))), rfl, hg.frame _, fun h => by cases h⟩
theorem said : Rows.KeysOrderSaid :=
  OpenClaim.holds_of_cond 10 Tryd.f10 rfl rfl rfl rfl rfl rfl rfl ⟨rfl, rfl, rfl, rfl, rfl⟩ rfl rfl rfl rfl rfl (by kernel_rfl) Tryd.func10 (by kernel_rfl)
    (of_decide_eq_true (by kernel_rfl)) (by unfold Func.isWrapper; first | (rw [if_pos (by decide +kernel)]; kernel_rfl) | (rw [if_neg (by decide +kernel)]; exact ⟨rfl, rfl⟩))
    (fun os started H enc _ F => by rw [OpenClaim.pre_eq_preRow]; exact lifted os started H enc F)
theorem plain (f : FuncId) (fn : Func) (hf : Tryd.pinned.checked.prog.funcNamed "freshet/freshetlaw03.KeysOrder" = some f) (hfn : Tryd.pinned.checked.prog.funcs[f]? = some fn) :
    false = Tryd.pinned.checked.prog.looks [] ∧ ∀ (j : Nat) t, fn.params[j]? = some t → Tryd.pinned.checked.prog.wantsStandIn t = false := by
  obtain rfl : f = 10 := Option.some.inj ((show Tryd.prog.funcNamed "freshet/freshetlaw03.KeysOrder" = some 10 by kernel_rfl).symm.trans hf) |>.symm
  obtain rfl : fn = Tryd.f10 := (Option.some.inj (Tryd.func10.symm.trans hfn)).symm
  refine ⟨by kernel_rfl, fun j t ht => ?_⟩
  rw [Tryd.params10] at ht
  have hm : t ∈ ([23, 23, 23] : List Nat) := by simpa using Array.mem_of_getElem? ht
  have hall : (([23, 23, 23] : List Nat).all fun u => !Tryd.prog.wantsStandIn u) = true := by kernel_rfl
  exact (show Tryd.prog.wantsStandIn t = false by simpa using List.all_eq_true.1 hall t hm)
theorem holds : Rows.KeysOrderCardSaid :=
  Claim7.holds_tied_plain_at .later [] _ _ _ _ said (fun _ h => by cases h) (by kernel_rfl) (fun _ h => by cases h) keysOrder_row_tie rfl ⟨rfl, rfl⟩ (by kernel_rfl) rfl plain (by kernel_rfl)
end KeysOrderProof
--END
end Go.Proofs.YtpobfheioondaaaDoor
