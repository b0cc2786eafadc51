/-
  A state's key that is written is read back, and two stand as their texts do (KeysBack). No condition.
-/
import Derived.Test.YtpobfheioondaaaDoorKeysCmp2
import Derived.Test.YtpobfheioondaaaDoorKeysSame
import Derived.Test.YtpobfheioondaaaDoorCard
namespace Go.Proofs.YtpobfheioondaaaDoor
open Go.RowKit
set_option maxHeartbeats 16000000 in
theorem back_no1 (st gr : Int) (k p u : ByteArray) (st' gr' : Int) (k' p' u' : ByteArray) (m : Int) (E F : Nat) (hE : ((E : Int) != 0) = true) (hE2 : ((E : Int) == 0) = false) (hF2 : ((F : Int) == 0) = false)
    (C1 : Hid (∀ v, Max v m → Calls Tryd.prog 14 #[keyVal st gr k p u] v fun e v' => e = .returned (.tuple #[.string noText, .int .i64 (E : Int)]) ∧ Below v.heap.size v v'))
    (C2 : Hid (∀ v, Max v m → Calls Tryd.prog 14 #[keyVal st' gr' k' p' u'] v fun e v' => e = .returned (.tuple #[.string noText, .int .i64 (F : Int)]) ∧ Below v.heap.size v v')) (w : World) (hm : Max w m) :
    Calls Tryd.prog 8 #[keyVal st gr k p u, keyVal st' gr' k' p' u'] w fun e w' => e = .returned (.bool true) ∧ Below w.heap.size w w' := by
  have x0 := box_below (box_new w st gr k p u) (below_alloc (w.alloc (.cells #[.int .i64 st, .int .i64 gr, .string k, .string p, .string u] 23)) (.cells #[.int .i64 st', .int .i64 gr', .string k', .string p', .string u'] 23))
  have y0 := box_new (w.alloc (.cells #[.int .i64 st, .int .i64 gr, .string k, .string p, .string u] 23)) st' gr' k' p' u'
  rw [World.size_alloc] at y0
  have z0 : Below w.heap.size w _ := key_block w (.cells #[.int .i64 st, .int .i64 gr, .string k, .string p, .string u] 23) (.cells #[.int .i64 st', .int .i64 gr', .string k', .string p', .string u'] 23)
  have hm0 := (hm.alloc (.cells #[.int .i64 st, .int .i64 gr, .string k, .string p, .string u] 23)).alloc (.cells #[.int .i64 st', .int .i64 gr', .string k', .string p', .string u'] 23)
  go_enter Tryd.func8, Tryd.ntmps8
  go_wp2_with (first
    | (go_at_call 14; ((with_reducible refine (C1.out _ hm0).mono ?_); rintro e w1 ⟨rfl, hb1⟩; have z1 := below_of (w := w) z0 hb1; have hm1 : Max w1 m := carry hb1 hm0; have x1 := box_below x0 hb1; have y1 := box_below y0 hb1; obtain ⟨a0, a1, a2, a3, a4⟩ := id x1; obtain ⟨b0, b1, b2, b3, b4⟩ := id y1))
    | (go_at_call 14; ((with_reducible refine (C2.out _ hm1).mono ?_); rintro e w2 ⟨rfl, hb2⟩; have z2 := below_of (w := w) z1 hb2; have hm2 : Max w2 m := carry hb2 hm1; have x2 := box_below x1 hb2; have y2 := box_below y1 hb2; obtain ⟨a0, a1, a2, a3, a4⟩ := id x2; obtain ⟨b0, b1, b2, b3, b4⟩ := id y2))
    | (go_at_call 18; refine (awake_any m _ (by first | exact hm2)).mono ?_; rintro e w9 ⟨rfl, hb9⟩; have z9 := below_of (w := w) (by first | exact z2) hb9))
  go_ret
  exact ⟨rfl, by assumption⟩
set_option maxHeartbeats 16000000 in
theorem back_no2 (st gr : Int) (k p u : ByteArray) (st' gr' : Int) (k' p' u' : ByteArray) (m : Int) (S : ByteArray) (F : Nat) (hF : ((F : Int) != 0) = true) (hF2 : ((F : Int) == 0) = false)
    (C1 : Hid (∀ v, Max v m → Calls Tryd.prog 14 #[keyVal st gr k p u] v fun e v' => e = .returned (.tuple #[.string S, .int .i64 0]) ∧ Below v.heap.size v v'))
    (C2 : Hid (∀ v, Max v m → Calls Tryd.prog 14 #[keyVal st' gr' k' p' u'] v fun e v' => e = .returned (.tuple #[.string noText, .int .i64 (F : Int)]) ∧ Below v.heap.size v v')) (w : World) (hm : Max w m) :
    Calls Tryd.prog 8 #[keyVal st gr k p u, keyVal st' gr' k' p' u'] w fun e w' => e = .returned (.bool true) ∧ Below w.heap.size w w' := by
  have x0 := box_below (box_new w st gr k p u) (below_alloc (w.alloc (.cells #[.int .i64 st, .int .i64 gr, .string k, .string p, .string u] 23)) (.cells #[.int .i64 st', .int .i64 gr', .string k', .string p', .string u'] 23))
  have y0 := box_new (w.alloc (.cells #[.int .i64 st, .int .i64 gr, .string k, .string p, .string u] 23)) st' gr' k' p' u'
  rw [World.size_alloc] at y0
  have z0 : Below w.heap.size w _ := key_block w (.cells #[.int .i64 st, .int .i64 gr, .string k, .string p, .string u] 23) (.cells #[.int .i64 st', .int .i64 gr', .string k', .string p', .string u'] 23)
  have hm0 := (hm.alloc (.cells #[.int .i64 st, .int .i64 gr, .string k, .string p, .string u] 23)).alloc (.cells #[.int .i64 st', .int .i64 gr', .string k', .string p', .string u'] 23)
  go_enter Tryd.func8, Tryd.ntmps8
  go_wp2_with (first
    | (go_at_call 14; ((with_reducible refine (C1.out _ hm0).mono ?_); rintro e w1 ⟨rfl, hb1⟩; have z1 := below_of (w := w) z0 hb1; have hm1 : Max w1 m := carry hb1 hm0; have x1 := box_below x0 hb1; have y1 := box_below y0 hb1; obtain ⟨a0, a1, a2, a3, a4⟩ := id x1; obtain ⟨b0, b1, b2, b3, b4⟩ := id y1))
    | (go_at_call 14; ((with_reducible refine (C2.out _ hm1).mono ?_); rintro e w2 ⟨rfl, hb2⟩; have z2 := below_of (w := w) z1 hb2; have hm2 : Max w2 m := carry hb2 hm1; have x2 := box_below x1 hb2; have y2 := box_below y1 hb2; obtain ⟨a0, a1, a2, a3, a4⟩ := id x2; obtain ⟨b0, b1, b2, b3, b4⟩ := id y2))
    | (go_at_call 18; refine (awake_any m _ (by first | exact hm2)).mono ?_; rintro e w9 ⟨rfl, hb9⟩; have z9 := below_of (w := w) (by first | exact z2) hb9))
  go_ret
  exact ⟨rfl, by assumption⟩
set_option maxHeartbeats 16000000 in
theorem back_no3 (st gr : Int) (k p u : ByteArray) (st' gr' : Int) (k' p' u' : ByteArray) (m : Int) (T : ByteArray) (E : Nat) (hE : ((E : Int) != 0) = true) (hE2 : ((E : Int) == 0) = false)
    (C1 : Hid (∀ v, Max v m → Calls Tryd.prog 14 #[keyVal st gr k p u] v fun e v' => e = .returned (.tuple #[.string noText, .int .i64 (E : Int)]) ∧ Below v.heap.size v v'))
    (C2 : Hid (∀ v, Max v m → Calls Tryd.prog 14 #[keyVal st' gr' k' p' u'] v fun e v' => e = .returned (.tuple #[.string T, .int .i64 0]) ∧ Below v.heap.size v v')) (w : World) (hm : Max w m) :
    Calls Tryd.prog 8 #[keyVal st gr k p u, keyVal st' gr' k' p' u'] w fun e w' => e = .returned (.bool true) ∧ Below w.heap.size w w' := by
  have x0 := box_below (box_new w st gr k p u) (below_alloc (w.alloc (.cells #[.int .i64 st, .int .i64 gr, .string k, .string p, .string u] 23)) (.cells #[.int .i64 st', .int .i64 gr', .string k', .string p', .string u'] 23))
  have y0 := box_new (w.alloc (.cells #[.int .i64 st, .int .i64 gr, .string k, .string p, .string u] 23)) st' gr' k' p' u'
  rw [World.size_alloc] at y0
  have z0 : Below w.heap.size w _ := key_block w (.cells #[.int .i64 st, .int .i64 gr, .string k, .string p, .string u] 23) (.cells #[.int .i64 st', .int .i64 gr', .string k', .string p', .string u'] 23)
  have hm0 := (hm.alloc (.cells #[.int .i64 st, .int .i64 gr, .string k, .string p, .string u] 23)).alloc (.cells #[.int .i64 st', .int .i64 gr', .string k', .string p', .string u'] 23)
  go_enter Tryd.func8, Tryd.ntmps8
  go_wp2_with (first
    | (go_at_call 14; ((with_reducible refine (C1.out _ hm0).mono ?_); rintro e w1 ⟨rfl, hb1⟩; have z1 := below_of (w := w) z0 hb1; have hm1 : Max w1 m := carry hb1 hm0; have x1 := box_below x0 hb1; have y1 := box_below y0 hb1; obtain ⟨a0, a1, a2, a3, a4⟩ := id x1; obtain ⟨b0, b1, b2, b3, b4⟩ := id y1))
    | (go_at_call 14; ((with_reducible refine (C2.out _ hm1).mono ?_); rintro e w2 ⟨rfl, hb2⟩; have z2 := below_of (w := w) z1 hb2; have hm2 : Max w2 m := carry hb2 hm1; have x2 := box_below x1 hb2; have y2 := box_below y1 hb2; obtain ⟨a0, a1, a2, a3, a4⟩ := id x2; obtain ⟨b0, b1, b2, b3, b4⟩ := id y2))
    | (go_at_call 18; refine (awake_any m _ (by first | exact hm2)).mono ?_; rintro e w9 ⟨rfl, hb9⟩; have z9 := below_of (w := w) (by first | exact z2) hb9))
  go_ret
  exact ⟨rfl, by assumption⟩
set_option maxHeartbeats 16000000 in
theorem back_lt (st gr : Int) (k p u : ByteArray) (st' gr' : Int) (k' p' u' : ByteArray) (m : Int) (S T : ByteArray) (q1 : Op.bytesLess S.toList T.toList = true) (q2 : (S.toList == T.toList) = false)
    (C1 : Hid (∀ v, Max v m → Calls Tryd.prog 14 #[keyVal st gr k p u] v fun e v' => e = .returned (.tuple #[.string S, .int .i64 0]) ∧ Below v.heap.size v v'))
    (C2 : Hid (∀ v, Max v m → Calls Tryd.prog 14 #[keyVal st' gr' k' p' u'] v fun e v' => e = .returned (.tuple #[.string T, .int .i64 0]) ∧ Below v.heap.size v v'))
    (C3 : Hid (∀ v, Calls Tryd.prog 19 #[.string S] v fun e v' => e = .returned (.tuple #[keyVal st gr k p u, .int .i64 0]) ∧ Below v.heap.size v v'))
    (C4 : Hid (∀ v, Calls Tryd.prog 19 #[.string T] v fun e v' => e = .returned (.tuple #[keyVal st' gr' k' p' u', .int .i64 0]) ∧ Below v.heap.size v v'))
    (C5 : Hid (∀ v, Calls Tryd.prog 21 #[keyVal st gr k p u, keyVal st' gr' k' p' u'] v fun e v' => e = .returned (.int .i64 (-1)) ∧ Below v.heap.size v v')) (w : World) (hm : Max w m) :
    Calls Tryd.prog 8 #[keyVal st gr k p u, keyVal st' gr' k' p' u'] w fun e w' => e = .returned (.bool true) ∧ Below w.heap.size w w' := by
  have x0 := box_below (box_new w st gr k p u) (below_alloc (w.alloc (.cells #[.int .i64 st, .int .i64 gr, .string k, .string p, .string u] 23)) (.cells #[.int .i64 st', .int .i64 gr', .string k', .string p', .string u'] 23))
  have y0 := box_new (w.alloc (.cells #[.int .i64 st, .int .i64 gr, .string k, .string p, .string u] 23)) st' gr' k' p' u'
  rw [World.size_alloc] at y0
  have z0 : Below w.heap.size w _ := key_block w (.cells #[.int .i64 st, .int .i64 gr, .string k, .string p, .string u] 23) (.cells #[.int .i64 st', .int .i64 gr', .string k', .string p', .string u'] 23)
  have hm0 := (hm.alloc (.cells #[.int .i64 st, .int .i64 gr, .string k, .string p, .string u] 23)).alloc (.cells #[.int .i64 st', .int .i64 gr', .string k', .string p', .string u'] 23)
  go_enter Tryd.func8, Tryd.ntmps8
  go_wp2_with (first
    | (go_at_call 14; ((with_reducible refine (C1.out _ hm0).mono ?_); rintro e w1 ⟨rfl, hb1⟩; have z1 := below_of (w := w) z0 hb1; have hm1 : Max w1 m := carry hb1 hm0; have x1 := box_below x0 hb1; have y1 := box_below y0 hb1; obtain ⟨a0, a1, a2, a3, a4⟩ := id x1; obtain ⟨b0, b1, b2, b3, b4⟩ := id y1))
    | (go_at_call 14; ((with_reducible refine (C2.out _ hm1).mono ?_); rintro e w2 ⟨rfl, hb2⟩; have z2 := below_of (w := w) z1 hb2; have hm2 : Max w2 m := carry hb2 hm1; have x2 := box_below x1 hb2; have y2 := box_below y1 hb2; obtain ⟨a0, a1, a2, a3, a4⟩ := id x2; obtain ⟨b0, b1, b2, b3, b4⟩ := id y2))
    | (go_at_call 19; ((with_reducible refine (C3.out _).mono ?_); rintro e w3 ⟨rfl, hb3⟩; have z3 := (below_of (w := w) z2 hb3).alloc (below_of (w := w) z2 hb3).size (.cells #[.int .i64 st, .int .i64 gr, .string k, .string p, .string u] 23); have hm3 := (carry hb3 hm2).alloc (.cells #[.int .i64 st, .int .i64 gr, .string k, .string p, .string u] 23); have x3 := box_below (box_below x2 hb3) (below_alloc w3 (.cells #[.int .i64 st, .int .i64 gr, .string k, .string p, .string u] 23)); have y3 := box_below (box_below y2 hb3) (below_alloc w3 (.cells #[.int .i64 st, .int .i64 gr, .string k, .string p, .string u] 23)); have n3 := box_new w3 st gr k p u))
    | (go_at_call 19; ((with_reducible refine (C4.out _).mono ?_); rintro e w4 ⟨rfl, hb4⟩; have z4 := (below_of (w := w) z3 hb4).alloc (below_of (w := w) z3 hb4).size (.cells #[.int .i64 st', .int .i64 gr', .string k', .string p', .string u'] 23); have hm4 := (carry hb4 hm3).alloc (.cells #[.int .i64 st', .int .i64 gr', .string k', .string p', .string u'] 23); have x4 := box_below (box_below x3 hb4) (below_alloc w4 (.cells #[.int .i64 st', .int .i64 gr', .string k', .string p', .string u'] 23)); have y4 := box_below (box_below y3 hb4) (below_alloc w4 (.cells #[.int .i64 st', .int .i64 gr', .string k', .string p', .string u'] 23)); have n4 := box_below (box_below n3 hb4) (below_alloc w4 (.cells #[.int .i64 st', .int .i64 gr', .string k', .string p', .string u'] 23)); have o4 := box_new w4 st' gr' k' p' u'; obtain ⟨a0, a1, a2, a3, a4⟩ := id x4; obtain ⟨b0, b1, b2, b3, b4⟩ := id y4; obtain ⟨d0, d1, d2, d3, d4⟩ := id n4))
    | (go_at_call 21; ((with_reducible refine (C5.out _).mono ?_); rintro e w5 ⟨rfl, hb5⟩; have z5 := below_of (w := w) z4 hb5; have hm5 : Max w5 m := carry hb5 hm4))
    | (go_at_call 18; refine (awake_any m _ (by first | exact hm5)).mono ?_; rintro e w9 ⟨rfl, hb9⟩; have z9 := below_of (w := w) (by first | exact z5) hb9))
  go_ret
  exact ⟨rfl, by assumption⟩
set_option maxHeartbeats 16000000 in
theorem back_eq (st gr : Int) (k p u : ByteArray) (st' gr' : Int) (k' p' u' : ByteArray) (m : Int) (S T : ByteArray) (q1 : Op.bytesLess S.toList T.toList = false) (q2 : (S.toList == T.toList) = true)
    (C1 : Hid (∀ v, Max v m → Calls Tryd.prog 14 #[keyVal st gr k p u] v fun e v' => e = .returned (.tuple #[.string S, .int .i64 0]) ∧ Below v.heap.size v v'))
    (C2 : Hid (∀ v, Max v m → Calls Tryd.prog 14 #[keyVal st' gr' k' p' u'] v fun e v' => e = .returned (.tuple #[.string T, .int .i64 0]) ∧ Below v.heap.size v v'))
    (C3 : Hid (∀ v, Calls Tryd.prog 19 #[.string S] v fun e v' => e = .returned (.tuple #[keyVal st gr k p u, .int .i64 0]) ∧ Below v.heap.size v v'))
    (C4 : Hid (∀ v, Calls Tryd.prog 19 #[.string T] v fun e v' => e = .returned (.tuple #[keyVal st' gr' k' p' u', .int .i64 0]) ∧ Below v.heap.size v v'))
    (C5 : Hid (∀ v, Calls Tryd.prog 21 #[keyVal st gr k p u, keyVal st' gr' k' p' u'] v fun e v' => e = .returned (.int .i64 (0)) ∧ Below v.heap.size v v')) (w : World) (hm : Max w m) :
    Calls Tryd.prog 8 #[keyVal st gr k p u, keyVal st' gr' k' p' u'] w fun e w' => e = .returned (.bool true) ∧ Below w.heap.size w w' := by
  have x0 := box_below (box_new w st gr k p u) (below_alloc (w.alloc (.cells #[.int .i64 st, .int .i64 gr, .string k, .string p, .string u] 23)) (.cells #[.int .i64 st', .int .i64 gr', .string k', .string p', .string u'] 23))
  have y0 := box_new (w.alloc (.cells #[.int .i64 st, .int .i64 gr, .string k, .string p, .string u] 23)) st' gr' k' p' u'
  rw [World.size_alloc] at y0
  have z0 : Below w.heap.size w _ := key_block w (.cells #[.int .i64 st, .int .i64 gr, .string k, .string p, .string u] 23) (.cells #[.int .i64 st', .int .i64 gr', .string k', .string p', .string u'] 23)
  have hm0 := (hm.alloc (.cells #[.int .i64 st, .int .i64 gr, .string k, .string p, .string u] 23)).alloc (.cells #[.int .i64 st', .int .i64 gr', .string k', .string p', .string u'] 23)
  go_enter Tryd.func8, Tryd.ntmps8
  go_wp2_with (first
    | (go_at_call 14; ((with_reducible refine (C1.out _ hm0).mono ?_); rintro e w1 ⟨rfl, hb1⟩; have z1 := below_of (w := w) z0 hb1; have hm1 : Max w1 m := carry hb1 hm0; have x1 := box_below x0 hb1; have y1 := box_below y0 hb1; obtain ⟨a0, a1, a2, a3, a4⟩ := id x1; obtain ⟨b0, b1, b2, b3, b4⟩ := id y1))
    | (go_at_call 14; ((with_reducible refine (C2.out _ hm1).mono ?_); rintro e w2 ⟨rfl, hb2⟩; have z2 := below_of (w := w) z1 hb2; have hm2 : Max w2 m := carry hb2 hm1; have x2 := box_below x1 hb2; have y2 := box_below y1 hb2; obtain ⟨a0, a1, a2, a3, a4⟩ := id x2; obtain ⟨b0, b1, b2, b3, b4⟩ := id y2))
    | (go_at_call 19; ((with_reducible refine (C3.out _).mono ?_); rintro e w3 ⟨rfl, hb3⟩; have z3 := (below_of (w := w) z2 hb3).alloc (below_of (w := w) z2 hb3).size (.cells #[.int .i64 st, .int .i64 gr, .string k, .string p, .string u] 23); have hm3 := (carry hb3 hm2).alloc (.cells #[.int .i64 st, .int .i64 gr, .string k, .string p, .string u] 23); have x3 := box_below (box_below x2 hb3) (below_alloc w3 (.cells #[.int .i64 st, .int .i64 gr, .string k, .string p, .string u] 23)); have y3 := box_below (box_below y2 hb3) (below_alloc w3 (.cells #[.int .i64 st, .int .i64 gr, .string k, .string p, .string u] 23)); have n3 := box_new w3 st gr k p u))
    | (go_at_call 19; ((with_reducible refine (C4.out _).mono ?_); rintro e w4 ⟨rfl, hb4⟩; have z4 := (below_of (w := w) z3 hb4).alloc (below_of (w := w) z3 hb4).size (.cells #[.int .i64 st', .int .i64 gr', .string k', .string p', .string u'] 23); have hm4 := (carry hb4 hm3).alloc (.cells #[.int .i64 st', .int .i64 gr', .string k', .string p', .string u'] 23); have x4 := box_below (box_below x3 hb4) (below_alloc w4 (.cells #[.int .i64 st', .int .i64 gr', .string k', .string p', .string u'] 23)); have y4 := box_below (box_below y3 hb4) (below_alloc w4 (.cells #[.int .i64 st', .int .i64 gr', .string k', .string p', .string u'] 23)); have n4 := box_below (box_below n3 hb4) (below_alloc w4 (.cells #[.int .i64 st', .int .i64 gr', .string k', .string p', .string u'] 23)); have o4 := box_new w4 st' gr' k' p' u'; obtain ⟨a0, a1, a2, a3, a4⟩ := id x4; obtain ⟨b0, b1, b2, b3, b4⟩ := id y4; obtain ⟨d0, d1, d2, d3, d4⟩ := id n4))
    | (go_at_call 21; ((with_reducible refine (C5.out _).mono ?_); rintro e w5 ⟨rfl, hb5⟩; have z5 := below_of (w := w) z4 hb5; have hm5 : Max w5 m := carry hb5 hm4))
    | (go_at_call 18; refine (awake_any m _ (by first | exact hm5)).mono ?_; rintro e w9 ⟨rfl, hb9⟩; have z9 := below_of (w := w) (by first | exact z5) hb9))
  go_ret
  exact ⟨rfl, by assumption⟩
set_option maxHeartbeats 16000000 in
theorem back_gt (st gr : Int) (k p u : ByteArray) (st' gr' : Int) (k' p' u' : ByteArray) (m : Int) (S T : ByteArray) (q1 : Op.bytesLess S.toList T.toList = false) (q2 : (S.toList == T.toList) = false)
    (C1 : Hid (∀ v, Max v m → Calls Tryd.prog 14 #[keyVal st gr k p u] v fun e v' => e = .returned (.tuple #[.string S, .int .i64 0]) ∧ Below v.heap.size v v'))
    (C2 : Hid (∀ v, Max v m → Calls Tryd.prog 14 #[keyVal st' gr' k' p' u'] v fun e v' => e = .returned (.tuple #[.string T, .int .i64 0]) ∧ Below v.heap.size v v'))
    (C3 : Hid (∀ v, Calls Tryd.prog 19 #[.string S] v fun e v' => e = .returned (.tuple #[keyVal st gr k p u, .int .i64 0]) ∧ Below v.heap.size v v'))
    (C4 : Hid (∀ v, Calls Tryd.prog 19 #[.string T] v fun e v' => e = .returned (.tuple #[keyVal st' gr' k' p' u', .int .i64 0]) ∧ Below v.heap.size v v'))
    (C5 : Hid (∀ v, Calls Tryd.prog 21 #[keyVal st gr k p u, keyVal st' gr' k' p' u'] v fun e v' => e = .returned (.int .i64 (1)) ∧ Below v.heap.size v v')) (w : World) (hm : Max w m) :
    Calls Tryd.prog 8 #[keyVal st gr k p u, keyVal st' gr' k' p' u'] w fun e w' => e = .returned (.bool true) ∧ Below w.heap.size w w' := by
  have x0 := box_below (box_new w st gr k p u) (below_alloc (w.alloc (.cells #[.int .i64 st, .int .i64 gr, .string k, .string p, .string u] 23)) (.cells #[.int .i64 st', .int .i64 gr', .string k', .string p', .string u'] 23))
  have y0 := box_new (w.alloc (.cells #[.int .i64 st, .int .i64 gr, .string k, .string p, .string u] 23)) st' gr' k' p' u'
  rw [World.size_alloc] at y0
  have z0 : Below w.heap.size w _ := key_block w (.cells #[.int .i64 st, .int .i64 gr, .string k, .string p, .string u] 23) (.cells #[.int .i64 st', .int .i64 gr', .string k', .string p', .string u'] 23)
  have hm0 := (hm.alloc (.cells #[.int .i64 st, .int .i64 gr, .string k, .string p, .string u] 23)).alloc (.cells #[.int .i64 st', .int .i64 gr', .string k', .string p', .string u'] 23)
  go_enter Tryd.func8, Tryd.ntmps8
  go_wp2_with (first
    | (go_at_call 14; ((with_reducible refine (C1.out _ hm0).mono ?_); rintro e w1 ⟨rfl, hb1⟩; have z1 := below_of (w := w) z0 hb1; have hm1 : Max w1 m := carry hb1 hm0; have x1 := box_below x0 hb1; have y1 := box_below y0 hb1; obtain ⟨a0, a1, a2, a3, a4⟩ := id x1; obtain ⟨b0, b1, b2, b3, b4⟩ := id y1))
    | (go_at_call 14; ((with_reducible refine (C2.out _ hm1).mono ?_); rintro e w2 ⟨rfl, hb2⟩; have z2 := below_of (w := w) z1 hb2; have hm2 : Max w2 m := carry hb2 hm1; have x2 := box_below x1 hb2; have y2 := box_below y1 hb2; obtain ⟨a0, a1, a2, a3, a4⟩ := id x2; obtain ⟨b0, b1, b2, b3, b4⟩ := id y2))
    | (go_at_call 19; ((with_reducible refine (C3.out _).mono ?_); rintro e w3 ⟨rfl, hb3⟩; have z3 := (below_of (w := w) z2 hb3).alloc (below_of (w := w) z2 hb3).size (.cells #[.int .i64 st, .int .i64 gr, .string k, .string p, .string u] 23); have hm3 := (carry hb3 hm2).alloc (.cells #[.int .i64 st, .int .i64 gr, .string k, .string p, .string u] 23); have x3 := box_below (box_below x2 hb3) (below_alloc w3 (.cells #[.int .i64 st, .int .i64 gr, .string k, .string p, .string u] 23)); have y3 := box_below (box_below y2 hb3) (below_alloc w3 (.cells #[.int .i64 st, .int .i64 gr, .string k, .string p, .string u] 23)); have n3 := box_new w3 st gr k p u))
    | (go_at_call 19; ((with_reducible refine (C4.out _).mono ?_); rintro e w4 ⟨rfl, hb4⟩; have z4 := (below_of (w := w) z3 hb4).alloc (below_of (w := w) z3 hb4).size (.cells #[.int .i64 st', .int .i64 gr', .string k', .string p', .string u'] 23); have hm4 := (carry hb4 hm3).alloc (.cells #[.int .i64 st', .int .i64 gr', .string k', .string p', .string u'] 23); have x4 := box_below (box_below x3 hb4) (below_alloc w4 (.cells #[.int .i64 st', .int .i64 gr', .string k', .string p', .string u'] 23)); have y4 := box_below (box_below y3 hb4) (below_alloc w4 (.cells #[.int .i64 st', .int .i64 gr', .string k', .string p', .string u'] 23)); have n4 := box_below (box_below n3 hb4) (below_alloc w4 (.cells #[.int .i64 st', .int .i64 gr', .string k', .string p', .string u'] 23)); have o4 := box_new w4 st' gr' k' p' u'; obtain ⟨a0, a1, a2, a3, a4⟩ := id x4; obtain ⟨b0, b1, b2, b3, b4⟩ := id y4; obtain ⟨d0, d1, d2, d3, d4⟩ := id n4))
    | (go_at_call 21; ((with_reducible refine (C5.out _).mono ?_); rintro e w5 ⟨rfl, hb5⟩; have z5 := below_of (w := w) z4 hb5; have hm5 : Max w5 m := carry hb5 hm4))
    | (go_at_call 18; refine (awake_any m _ (by first | exact hm5)).mono ?_; rintro e w9 ⟨rfl, hb9⟩; have z9 := below_of (w := w) (by first | exact z5) hb9))
  go_ret
  exact ⟨rfl, by assumption⟩
theorem array_back (x : ByteArray) : (⟨x.data.toList.toArray⟩ : ByteArray) = x := by
  apply ByteArray.ext; simp
theorem decode_back (st gr : Int) (k p u : ByteArray) (hv : Keys.Valid (skOf st gr k p u)) (v : World) :
    Calls Tryd.prog 19 #[.string ⟨(Keys.enc (skOf st gr k p u)).toArray⟩] v fun e v' => e = .returned (.tuple #[keyVal st gr k p u, .int .i64 0]) ∧ Below v.heap.size v v' := by
  have h := decode_any ⟨(Keys.enc (skOf st gr k p u)).toArray⟩ (by have := Keys.enc_len hv; rw [list_size]; omega) v
  have e : Keys.dec (⟨(Keys.enc (skOf st gr k p u)).toArray⟩ : ByteArray).data.toList = (skOf st gr k p u, 0) := Keys.dec_enc hv
  rw [e] at h
  have e1 := array_back k
  have e2 := array_back p
  have e3 := array_back u
  refine h.mono fun e' v' ⟨he, hb⟩ => ⟨?_, hb⟩
  rw [he]
  show Ending.returned (.tuple #[keyVal st gr ⟨k.data.toList.toArray⟩ ⟨p.data.toList.toArray⟩ ⟨u.data.toList.toArray⟩, .int .i64 0]) = _
  rw [e1, e2, e3]
theorem keysBack_walk (st gr : Int) (k p u : ByteArray) (st' gr' : Int) (k' p' u' : ByteArray) (m : Int) (w : World) (hm : Max w m) :
    Calls Tryd.prog 8 #[keyVal st gr k p u, keyVal st' gr' k' p' u'] w fun e w' => e = .returned (.bool true) ∧ Below w.heap.size w w' := by
  have c1 := fun v h => encode_any st gr k p u m v h
  have c2 := fun v h => encode_any st' gr' k' p' u' m v h
  have nz : ∀ E : Nat, E ≠ 0 → ((E : Int) != 0) = true ∧ ((E : Int) == 0) = false := fun E h => ⟨bne_iff_ne.2 (by omega), beq_eq_false_iff_ne.2 (by omega)⟩
  by_cases hE : (Keys.encode (skOf st gr k p u)).2 = 0
  · obtain ⟨hv, he⟩ := encode_zero hE
    rw [he] at c1
    by_cases hF : (Keys.encode (skOf st' gr' k' p' u')).2 = 0
    · obtain ⟨hv', he'⟩ := encode_zero hF
      rw [he'] at c2
      have O := Keys.cmp_ord
      have c5 := fun v => cmp_any st gr k p u st' gr' k' p' u' v
      have hl := Keys.enc_less hv hv'
      have C3 := Lib.hid fun v => decode_back st gr k p u hv v
      have C4 := Lib.hid fun v => decode_back st' gr' k' p' u' hv' v
      have hz := O.zero (skOf st gr k p u) (skOf st' gr' k' p' u')
      have q2 : Keys.cmp (skOf st gr k p u) (skOf st' gr' k' p' u') ≠ 0 → ((⟨(Keys.enc (skOf st gr k p u)).toArray⟩ : ByteArray).toList == (⟨(Keys.enc (skOf st' gr' k' p' u')).toArray⟩ : ByteArray).toList) = false := fun h => by
        rw [beq_list]; exact beq_eq_false_iff_ne.2 fun e => h (hz.2 (Keys.enc_inj hv hv' e))
      rcases O.range (skOf st gr k p u) (skOf st' gr' k' p' u') with h | h | h
      · rw [h] at c5 hl q2
        exact back_lt st gr k p u st' gr' k' p' u' m _ _ (by rw [less_list, hl]; rfl) (q2 (by omega)) (Lib.hid c1) (Lib.hid c2) C3 C4 (Lib.hid c5) w hm
      · have hab := hz.1 h
        rw [h] at c5 hl
        exact back_eq st gr k p u st' gr' k' p' u' m _ _ (by rw [less_list, hl]; rfl) (by rw [beq_list, hab]; simp) (Lib.hid c1) (Lib.hid c2) C3 C4 (Lib.hid c5) w hm
      · rw [h] at c5 hl q2
        exact back_gt st gr k p u st' gr' k' p' u' m _ _ (by rw [less_list, hl]; rfl) (q2 (by omega)) (Lib.hid c1) (Lib.hid c2) C3 C4 (Lib.hid c5) w hm
    · rw [encode_empty hF] at c2
      exact back_no2 st gr k p u st' gr' k' p' u' m _ _ (nz _ hF).1 (nz _ hF).2 (Lib.hid c1) (Lib.hid c2) w hm
  · rw [encode_empty hE] at c1
    by_cases hF : (Keys.encode (skOf st' gr' k' p' u')).2 = 0
    · obtain ⟨hv', he'⟩ := encode_zero hF
      rw [he'] at c2
      exact back_no3 st gr k p u st' gr' k' p' u' m _ _ (nz _ hE).1 (nz _ hE).2 (Lib.hid c1) (Lib.hid c2) w hm
    · rw [encode_empty hF] at c2
      exact back_no1 st gr k p u st' gr' k' p' u' m _ _ (nz _ hE).1 (nz _ hE).2 (nz _ hF).2 (Lib.hid c1) (Lib.hid c2) w hm
--CARD freshetlaw03.KeysBack keysBack_walk key:a key:b
--BEGIN
namespace KeysBackProof
open Go.ChangeShapes Go.WideShapes Go.ChangeAt Go.RowKit
open Go.ChangeMaps (open_string shut_string)
theorem own : ownKnob Tryd.prog.godebug = none := by kernel_rfl
theorem reads (os : Os) {H : Type} (enc : TypeId × Value → H) : ∃ places, DataW.whole enc Tryd.prog ((World.laidAll Tryd.prog os Rows.keysBackRow.laid).forCall (fun _ _ => 0) ⟨#[], #[.agg #[.int .i64 0, .int .i64 0, .string .empty, .string .empty, .string .empty], .agg #[.int .i64 0, .int .i64 0, .string .empty, .string .empty, .string .empty]], []⟩).memory Tryd.f8.params.toList Rows.keysBackSpec.vars false (#[.agg #[.int .i64 0, .int .i64 0, .string .empty, .string .empty, .string .empty], .agg #[.int .i64 0, .int .i64 0, .string .empty, .string .empty, .string .empty]] : Array Value).toList 8 = some ([.agg [.lit (.int .i64 0), .lit (.int .i64 0), .lit (.string []), .lit (.string []), .lit (.string [])], .agg [.lit (.int .i64 0), .lit (.int .i64 0), .lit (.string []), .lit (.string []), .lit (.string [])]], [], places) :=
  ⟨[], by kernel_rfl⟩
theorem laid_met (os : Os) (args : Array Value) : laidMetH Tryd.prog Rows.keysBackRow.laid ((World.laidAll Tryd.prog os Rows.keysBackRow.laid).forCall (fun _ _ => 0) ⟨#[], args, []⟩).memory := by
  rw [MakeChecks.laidMetH_plain _ _ _ (by kernel_rfl)]; exact laidMet_laidAll _ (by kernel_rfl) (by kernel_rfl)
set_option maxRecDepth 100000 in
theorem lifted (os : Os) (started : os.Started) (H : Type) (enc : TypeId × Value → H) (F : Stop.Interp) :
    ReturnsInHanded {} Tryd.checked os 8 .any ((OpenSpec.ofChange Rows.keysBackSpec).preRow enc Tryd.prog Tryd.f8 Rows.keysBackRow.domain false Rows.keysBackRow.laid) (((OpenSpec.ofChange Rows.keysBackSpec).at F).post enc Tryd.prog Tryd.f8 false true false false) := by
  obtain ⟨places, hx⟩ := reads os enc
  refine returnsInHanded_of_row (C := Tryd.checked) (s := OpenSpec.ofChange Rows.keysBackSpec) own started (by kernel_rfl) Tryd.func8
    (witness_row_shaped (enc := enc) (C := Tryd.checked) false (World.laidAll Tryd.prog os Rows.keysBackRow.laid) #[.agg #[.int .i64 0, .int .i64 0, .string .empty, .string .empty, .string .empty], .agg #[.int .i64 0, .int .i64 0, .string .empty, .string .empty, .string .empty]] (World.laidAll_os _ _ _) (World.shaped_of_ZipB (by kernel_rfl) (by kernel_rfl)) (by kernel_rfl)
      (OpenSpec.preRow_of_cond 8 hx (by kernel_rfl) (fun k hk => by cases hk) (by kernel_rfl) (laid_met os _))) ?_
  intro W base args ds gs before hval0 hW _ hcond hsz _ hsh _
  have hval : ∀ (j : Nat) t v, Tryd.f8.params[j]? = some t → args[j]? = some v → Value.okWide Tryd.prog W .any base t v := hval0
  have hW' := hW
  obtain ⟨p, q, hA0, hV, rfl, hfz, hnd⟩ := hW
  have hA : DataW.TrodAll enc Tryd.prog W 0 (fun _ => true) true Tryd.f8.params.toList args.toList ds p := hA0
  rw [Tryd.params8] at hA hval hsz
  obtain ⟨v0, vs0, d0, ds0, p0, q0, hargs, rfl, rfl, h0, r0⟩ := trodAll_cons hA
  obtain ⟨v1, vs1, d1, ds1, p1, q1, rfl, rfl, rfl, h1, r1⟩ := trodAll_cons r0
  obtain ⟨rfl, rfl, rfl⟩ := trodAll_nil r1
  obtain rfl : args = #[v0, v1] := by cases args; simp_all
  obtain ⟨rfl, rfl⟩ := trodVars_none hV
  obtain ⟨ast, agr, ak, ap, au, rfl, rfl, rfl, m0, q0a, q0b, q0c⟩ := open_key (hval 0 23 v0 rfl rfl) h0
  obtain ⟨bst, bgr, bk, bp, bu, rfl, rfl, rfl, m1, q1a, q1b, q1c⟩ := open_key (hval 1 23 v1 rfl rfl) h1
  have z0 := sized_key hsz (j := 0) (st := ast) (gr := agr) (k := ak) (p := ap) (u := au) rfl rfl
  have z1 := sized_key hsz (j := 1) (st := bst) (gr := bgr) (k := bk) (p := bp) (u := bu) rfl rfl
  clear hA0 hval0
  simp only [List.append_nil] at hW'
  obtain ⟨mx, hmx⟩ := Tryd.laysM155.s1_3 W hsh
  refine (keysBack_walk ast agr ak ap au bst bgr bk bp bu mx W hmx).mono fun e W' ⟨he, hg⟩ => ?_
  subst he
  exact ⟨_, rfl, _, _, _, [], [], [], hW', (trodAll_cons_mk (shut_bool Tryd.underlying4 _) trodAll_mk0), (trodAll_cons_mk (shut_key m0.1 m0.2 q0a q0b q0c) (trodAll_cons_mk (shut_key m1.1 m1.2 q1a q1b q1c) trodAll_mk0)), rfl, hg.frame _, fun h => by cases h⟩
theorem said : Rows.KeysBackSaid :=
  OpenClaim.holds_of_cond 8 Tryd.f8 rfl rfl rfl rfl rfl rfl rfl ⟨rfl, rfl, rfl, rfl, rfl⟩ rfl rfl rfl rfl rfl (by kernel_rfl) Tryd.func8 (by kernel_rfl)
    (of_decide_eq_true (by kernel_rfl)) (by unfold Func.isWrapper; first | (rw [if_pos (by decide +kernel)]; kernel_rfl) | (rw [if_neg (by decide +kernel)]; exact ⟨rfl, rfl⟩))
    (fun os started H enc _ F => by rw [OpenClaim.pre_eq_preRow]; exact lifted os started H enc F)
theorem plain (f : FuncId) (fn : Func) (hf : Tryd.pinned.checked.prog.funcNamed "freshet/freshetlaw03.KeysBack" = some f) (hfn : Tryd.pinned.checked.prog.funcs[f]? = some fn) :
    false = Tryd.pinned.checked.prog.looks [] ∧ ∀ (j : Nat) t, fn.params[j]? = some t → Tryd.pinned.checked.prog.wantsStandIn t = false := by
  obtain rfl : f = 8 := Option.some.inj ((show Tryd.prog.funcNamed "freshet/freshetlaw03.KeysBack" = some 8 by kernel_rfl).symm.trans hf) |>.symm
  obtain rfl : fn = Tryd.f8 := (Option.some.inj (Tryd.func8.symm.trans hfn)).symm
  refine ⟨by kernel_rfl, fun j t ht => ?_⟩
  rw [Tryd.params8] at ht
  have hm : t ∈ ([23, 23] : List Nat) := by simpa using Array.mem_of_getElem? ht
  have hall : (([23, 23] : List Nat).all fun u => !Tryd.prog.wantsStandIn u) = true := by kernel_rfl
  exact (show Tryd.prog.wantsStandIn t = false by simpa using List.all_eq_true.1 hall t hm)
theorem holds : Rows.KeysBackCardSaid :=
  Claim7.holds_tied_plain_at .later [] _ _ _ _ said (fun _ h => by cases h) (by kernel_rfl) (fun _ h => by cases h) keysBack_row_tie rfl ⟨rfl, rfl⟩ (by kernel_rfl) rfl plain (by kernel_rfl)
end KeysBackProof
--END
end Go.Proofs.YtpobfheioondaaaDoor
