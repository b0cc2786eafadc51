/-
  Of two ranges of as many parts nothing is in both, unless they are the same (KeysApart). No condition.
-/
import Derived.Test.YtpobfheioondaaaDoorKeysSame
import Derived.Test.YtpobfheioondaaaDoorCard
namespace Go.Proofs.YtpobfheioondaaaDoor
open Go.RowKit
set_option maxHeartbeats 4000000 in
theorem apart_no1 (st gr : Int) (k p u : ByteArray) (st' gr' : Int) (k' p' u' : ByteArray) (n : Int) (m : Int) (A B C D : ByteArray) (E : Nat) (F : Nat) (hE : ((E : Int) != 0) = true) (w : World) (hm : Max w m)
    (C1 : Hid (∀ v, Max v m → Calls Tryd.prog 23 #[keyVal st gr k p u, .int .i64 n] v fun e v' => e = .returned (.tuple #[.string A, .string B, .int .i64 (E : Int)]) ∧ Below v.heap.size v v'))
    (C2 : Hid (∀ v, Max v m → Calls Tryd.prog 23 #[keyVal st' gr' k' p' u', .int .i64 n] v fun e v' => e = .returned (.tuple #[.string C, .string D, .int .i64 (F : Int)]) ∧ Below v.heap.size v v')) :
    Calls Tryd.prog 12 #[keyVal st gr k p u, keyVal st' gr' k' p' u', .int .i64 n] w fun e w' => e = .returned (.bool true) ∧ Below w.heap.size w w' := by
  have x0 := box_below (box_new w st gr k p u) (below_alloc (w.alloc (.cells #[.int .i64 st, .int .i64 gr, .string k, .string p, .string u] 23)) (.cells #[.int .i64 st', .int .i64 gr', .string k', .string p', .string u'] 23))
  have y0 := box_new (w.alloc (.cells #[.int .i64 st, .int .i64 gr, .string k, .string p, .string u] 23)) st' gr' k' p' u'
  rw [World.size_alloc] at y0
  have z0 : Below w.heap.size w _ := key_block w (.cells #[.int .i64 st, .int .i64 gr, .string k, .string p, .string u] 23) (.cells #[.int .i64 st', .int .i64 gr', .string k', .string p', .string u'] 23)
  have hm0 := (hm.alloc (.cells #[.int .i64 st, .int .i64 gr, .string k, .string p, .string u] 23)).alloc (.cells #[.int .i64 st', .int .i64 gr', .string k', .string p', .string u'] 23)
  go_enter Tryd.func12, Tryd.ntmps12
  go_wp2_with (first
    | (go_at_call 23; ((with_reducible refine (C1.out _ hm0).mono ?_); rintro e w1 ⟨rfl, hb1⟩; have z1 := below_of (w := w) z0 hb1; have hm1 : Max w1 m := carry hb1 hm0; have x1 := box_below x0 hb1; have y1 := box_below y0 hb1; obtain ⟨a0, a1, a2, a3, a4⟩ := id x1; obtain ⟨b0, b1, b2, b3, b4⟩ := id y1))
    | (go_at_call 23; ((with_reducible refine (C2.out _ hm1).mono ?_); rintro e w2 ⟨rfl, hb2⟩; have z2 := below_of (w := w) z1 hb2; have hm2 : Max w2 m := carry hb2 hm1; have x2 := box_below x1 hb2; have y2 := box_below y1 hb2; obtain ⟨a0, a1, a2, a3, a4⟩ := id x2; obtain ⟨b0, b1, b2, b3, b4⟩ := id y2))
    | (go_at_call 18; refine (awake_any m _ (by first | exact hm2)).mono ?_; rintro e w9 ⟨rfl, hb9⟩; have z9 := below_of (w := w) (by first | exact z2) hb9))
  go_ret
  exact ⟨rfl, by assumption⟩
set_option maxHeartbeats 4000000 in
theorem apart_no2 (st gr : Int) (k p u : ByteArray) (st' gr' : Int) (k' p' u' : ByteArray) (n : Int) (m : Int) (A B C D : ByteArray) (F : Nat) (hF : ((F : Int) != 0) = true) (w : World) (hm : Max w m)
    (C1 : Hid (∀ v, Max v m → Calls Tryd.prog 23 #[keyVal st gr k p u, .int .i64 n] v fun e v' => e = .returned (.tuple #[.string A, .string B, .int .i64 0]) ∧ Below v.heap.size v v'))
    (C2 : Hid (∀ v, Max v m → Calls Tryd.prog 23 #[keyVal st' gr' k' p' u', .int .i64 n] v fun e v' => e = .returned (.tuple #[.string C, .string D, .int .i64 (F : Int)]) ∧ Below v.heap.size v v')) :
    Calls Tryd.prog 12 #[keyVal st gr k p u, keyVal st' gr' k' p' u', .int .i64 n] w fun e w' => e = .returned (.bool true) ∧ Below w.heap.size w w' := by
  have x0 := box_below (box_new w st gr k p u) (below_alloc (w.alloc (.cells #[.int .i64 st, .int .i64 gr, .string k, .string p, .string u] 23)) (.cells #[.int .i64 st', .int .i64 gr', .string k', .string p', .string u'] 23))
  have y0 := box_new (w.alloc (.cells #[.int .i64 st, .int .i64 gr, .string k, .string p, .string u] 23)) st' gr' k' p' u'
  rw [World.size_alloc] at y0
  have z0 : Below w.heap.size w _ := key_block w (.cells #[.int .i64 st, .int .i64 gr, .string k, .string p, .string u] 23) (.cells #[.int .i64 st', .int .i64 gr', .string k', .string p', .string u'] 23)
  have hm0 := (hm.alloc (.cells #[.int .i64 st, .int .i64 gr, .string k, .string p, .string u] 23)).alloc (.cells #[.int .i64 st', .int .i64 gr', .string k', .string p', .string u'] 23)
  go_enter Tryd.func12, Tryd.ntmps12
  go_wp2_with (first
    | (go_at_call 23; ((with_reducible refine (C1.out _ hm0).mono ?_); rintro e w1 ⟨rfl, hb1⟩; have z1 := below_of (w := w) z0 hb1; have hm1 : Max w1 m := carry hb1 hm0; have x1 := box_below x0 hb1; have y1 := box_below y0 hb1; obtain ⟨a0, a1, a2, a3, a4⟩ := id x1; obtain ⟨b0, b1, b2, b3, b4⟩ := id y1))
    | (go_at_call 23; ((with_reducible refine (C2.out _ hm1).mono ?_); rintro e w2 ⟨rfl, hb2⟩; have z2 := below_of (w := w) z1 hb2; have hm2 : Max w2 m := carry hb2 hm1; have x2 := box_below x1 hb2; have y2 := box_below y1 hb2; obtain ⟨a0, a1, a2, a3, a4⟩ := id x2; obtain ⟨b0, b1, b2, b3, b4⟩ := id y2))
    | (go_at_call 18; refine (awake_any m _ (by first | exact hm2)).mono ?_; rintro e w9 ⟨rfl, hb9⟩; have z9 := below_of (w := w) (by first | exact z2) hb9))
  go_ret
  exact ⟨rfl, by assumption⟩
set_option maxHeartbeats 4000000 in
theorem apart_same (st gr : Int) (k p u : ByteArray) (st' gr' : Int) (k' p' u' : ByteArray) (n : Int) (m : Int) (A B C D : ByteArray) (q1 : (A.toList == C.toList) = true) (q2 : (B.toList == D.toList) = true) (w : World) (hm : Max w m)
    (C1 : Hid (∀ v, Max v m → Calls Tryd.prog 23 #[keyVal st gr k p u, .int .i64 n] v fun e v' => e = .returned (.tuple #[.string A, .string B, .int .i64 0]) ∧ Below v.heap.size v v'))
    (C2 : Hid (∀ v, Max v m → Calls Tryd.prog 23 #[keyVal st' gr' k' p' u', .int .i64 n] v fun e v' => e = .returned (.tuple #[.string C, .string D, .int .i64 0]) ∧ Below v.heap.size v v'))
    (C3 : Hid (∀ v, Calls Tryd.prog 27 #[keyVal st gr k p u, keyVal st' gr' k' p' u', .int .i64 n] v fun e v' => e = .returned (.bool true) ∧ Below v.heap.size v v')) :
    Calls Tryd.prog 12 #[keyVal st gr k p u, keyVal st' gr' k' p' u', .int .i64 n] w fun e w' => e = .returned (.bool true) ∧ Below w.heap.size w w' := by
  have x0 := box_below (box_new w st gr k p u) (below_alloc (w.alloc (.cells #[.int .i64 st, .int .i64 gr, .string k, .string p, .string u] 23)) (.cells #[.int .i64 st', .int .i64 gr', .string k', .string p', .string u'] 23))
  have y0 := box_new (w.alloc (.cells #[.int .i64 st, .int .i64 gr, .string k, .string p, .string u] 23)) st' gr' k' p' u'
  rw [World.size_alloc] at y0
  have z0 : Below w.heap.size w _ := key_block w (.cells #[.int .i64 st, .int .i64 gr, .string k, .string p, .string u] 23) (.cells #[.int .i64 st', .int .i64 gr', .string k', .string p', .string u'] 23)
  have hm0 := (hm.alloc (.cells #[.int .i64 st, .int .i64 gr, .string k, .string p, .string u] 23)).alloc (.cells #[.int .i64 st', .int .i64 gr', .string k', .string p', .string u'] 23)
  go_enter Tryd.func12, Tryd.ntmps12
  go_wp2_with (first
    | (go_at_call 23; ((with_reducible refine (C1.out _ hm0).mono ?_); rintro e w1 ⟨rfl, hb1⟩; have z1 := below_of (w := w) z0 hb1; have hm1 : Max w1 m := carry hb1 hm0; have x1 := box_below x0 hb1; have y1 := box_below y0 hb1; obtain ⟨a0, a1, a2, a3, a4⟩ := id x1; obtain ⟨b0, b1, b2, b3, b4⟩ := id y1))
    | (go_at_call 23; ((with_reducible refine (C2.out _ hm1).mono ?_); rintro e w2 ⟨rfl, hb2⟩; have z2 := below_of (w := w) z1 hb2; have hm2 : Max w2 m := carry hb2 hm1; have x2 := box_below x1 hb2; have y2 := box_below y1 hb2; obtain ⟨a0, a1, a2, a3, a4⟩ := id x2; obtain ⟨b0, b1, b2, b3, b4⟩ := id y2))
    | (go_at_call 27; ((with_reducible refine (C3.out _).mono ?_); rintro e w3 ⟨rfl, hb3⟩; have z3 := below_of (w := w) z2 hb3; have hm3 : Max w3 m := carry hb3 hm2))
    | (go_at_call 18; refine (awake_any m _ (by first | exact hm3)).mono ?_; rintro e w9 ⟨rfl, hb9⟩; have z9 := below_of (w := w) (by first | exact z3) hb9))
  go_ret
  exact ⟨rfl, by assumption⟩
set_option maxHeartbeats 4000000 in
theorem apart_below (st gr : Int) (k p u : ByteArray) (st' gr' : Int) (k' p' u' : ByteArray) (n : Int) (m : Int) (A B C D : ByteArray) (q1 : (A.toList == C.toList) = false) (q2 : (Op.bytesLess B.toList C.toList || B.toList == C.toList) = true) (w : World) (hm : Max w m)
    (C1 : Hid (∀ v, Max v m → Calls Tryd.prog 23 #[keyVal st gr k p u, .int .i64 n] v fun e v' => e = .returned (.tuple #[.string A, .string B, .int .i64 0]) ∧ Below v.heap.size v v'))
    (C2 : Hid (∀ v, Max v m → Calls Tryd.prog 23 #[keyVal st' gr' k' p' u', .int .i64 n] v fun e v' => e = .returned (.tuple #[.string C, .string D, .int .i64 0]) ∧ Below v.heap.size v v'))
    (C3 : Hid (∀ v, Calls Tryd.prog 27 #[keyVal st gr k p u, keyVal st' gr' k' p' u', .int .i64 n] v fun e v' => e = .returned (.bool false) ∧ Below v.heap.size v v')) :
    Calls Tryd.prog 12 #[keyVal st gr k p u, keyVal st' gr' k' p' u', .int .i64 n] w fun e w' => e = .returned (.bool true) ∧ Below w.heap.size w w' := by
  have x0 := box_below (box_new w st gr k p u) (below_alloc (w.alloc (.cells #[.int .i64 st, .int .i64 gr, .string k, .string p, .string u] 23)) (.cells #[.int .i64 st', .int .i64 gr', .string k', .string p', .string u'] 23))
  have y0 := box_new (w.alloc (.cells #[.int .i64 st, .int .i64 gr, .string k, .string p, .string u] 23)) st' gr' k' p' u'
  rw [World.size_alloc] at y0
  have z0 : Below w.heap.size w _ := key_block w (.cells #[.int .i64 st, .int .i64 gr, .string k, .string p, .string u] 23) (.cells #[.int .i64 st', .int .i64 gr', .string k', .string p', .string u'] 23)
  have hm0 := (hm.alloc (.cells #[.int .i64 st, .int .i64 gr, .string k, .string p, .string u] 23)).alloc (.cells #[.int .i64 st', .int .i64 gr', .string k', .string p', .string u'] 23)
  go_enter Tryd.func12, Tryd.ntmps12
  go_wp2_with (first
    | (go_at_call 23; ((with_reducible refine (C1.out _ hm0).mono ?_); rintro e w1 ⟨rfl, hb1⟩; have z1 := below_of (w := w) z0 hb1; have hm1 : Max w1 m := carry hb1 hm0; have x1 := box_below x0 hb1; have y1 := box_below y0 hb1; obtain ⟨a0, a1, a2, a3, a4⟩ := id x1; obtain ⟨b0, b1, b2, b3, b4⟩ := id y1))
    | (go_at_call 23; ((with_reducible refine (C2.out _ hm1).mono ?_); rintro e w2 ⟨rfl, hb2⟩; have z2 := below_of (w := w) z1 hb2; have hm2 : Max w2 m := carry hb2 hm1; have x2 := box_below x1 hb2; have y2 := box_below y1 hb2; obtain ⟨a0, a1, a2, a3, a4⟩ := id x2; obtain ⟨b0, b1, b2, b3, b4⟩ := id y2))
    | (go_at_call 27; ((with_reducible refine (C3.out _).mono ?_); rintro e w3 ⟨rfl, hb3⟩; have z3 := below_of (w := w) z2 hb3; have hm3 : Max w3 m := carry hb3 hm2))
    | (go_at_call 18; refine (awake_any m _ (by first | exact hm3)).mono ?_; rintro e w9 ⟨rfl, hb9⟩; have z9 := below_of (w := w) (by first | exact z3) hb9))
  go_ret
  exact ⟨rfl, by assumption⟩
set_option maxHeartbeats 4000000 in
theorem apart_above (st gr : Int) (k p u : ByteArray) (st' gr' : Int) (k' p' u' : ByteArray) (n : Int) (m : Int) (A B C D : ByteArray) (q1 : (A.toList == C.toList) = false) (q2 : (Op.bytesLess B.toList C.toList || B.toList == C.toList) = false) (q3 : (Op.bytesLess D.toList A.toList || D.toList == A.toList) = true) (w : World) (hm : Max w m)
    (C1 : Hid (∀ v, Max v m → Calls Tryd.prog 23 #[keyVal st gr k p u, .int .i64 n] v fun e v' => e = .returned (.tuple #[.string A, .string B, .int .i64 0]) ∧ Below v.heap.size v v'))
    (C2 : Hid (∀ v, Max v m → Calls Tryd.prog 23 #[keyVal st' gr' k' p' u', .int .i64 n] v fun e v' => e = .returned (.tuple #[.string C, .string D, .int .i64 0]) ∧ Below v.heap.size v v'))
    (C3 : Hid (∀ v, Calls Tryd.prog 27 #[keyVal st gr k p u, keyVal st' gr' k' p' u', .int .i64 n] v fun e v' => e = .returned (.bool false) ∧ Below v.heap.size v v')) :
    Calls Tryd.prog 12 #[keyVal st gr k p u, keyVal st' gr' k' p' u', .int .i64 n] w fun e w' => e = .returned (.bool true) ∧ Below w.heap.size w w' := by
  have x0 := box_below (box_new w st gr k p u) (below_alloc (w.alloc (.cells #[.int .i64 st, .int .i64 gr, .string k, .string p, .string u] 23)) (.cells #[.int .i64 st', .int .i64 gr', .string k', .string p', .string u'] 23))
  have y0 := box_new (w.alloc (.cells #[.int .i64 st, .int .i64 gr, .string k, .string p, .string u] 23)) st' gr' k' p' u'
  rw [World.size_alloc] at y0
  have z0 : Below w.heap.size w _ := key_block w (.cells #[.int .i64 st, .int .i64 gr, .string k, .string p, .string u] 23) (.cells #[.int .i64 st', .int .i64 gr', .string k', .string p', .string u'] 23)
  have hm0 := (hm.alloc (.cells #[.int .i64 st, .int .i64 gr, .string k, .string p, .string u] 23)).alloc (.cells #[.int .i64 st', .int .i64 gr', .string k', .string p', .string u'] 23)
  go_enter Tryd.func12, Tryd.ntmps12
  go_wp2_with (first
    | (go_at_call 23; ((with_reducible refine (C1.out _ hm0).mono ?_); rintro e w1 ⟨rfl, hb1⟩; have z1 := below_of (w := w) z0 hb1; have hm1 : Max w1 m := carry hb1 hm0; have x1 := box_below x0 hb1; have y1 := box_below y0 hb1; obtain ⟨a0, a1, a2, a3, a4⟩ := id x1; obtain ⟨b0, b1, b2, b3, b4⟩ := id y1))
    | (go_at_call 23; ((with_reducible refine (C2.out _ hm1).mono ?_); rintro e w2 ⟨rfl, hb2⟩; have z2 := below_of (w := w) z1 hb2; have hm2 : Max w2 m := carry hb2 hm1; have x2 := box_below x1 hb2; have y2 := box_below y1 hb2; obtain ⟨a0, a1, a2, a3, a4⟩ := id x2; obtain ⟨b0, b1, b2, b3, b4⟩ := id y2))
    | (go_at_call 27; ((with_reducible refine (C3.out _).mono ?_); rintro e w3 ⟨rfl, hb3⟩; have z3 := below_of (w := w) z2 hb3; have hm3 : Max w3 m := carry hb3 hm2))
    | (go_at_call 18; refine (awake_any m _ (by first | exact hm3)).mono ?_; rintro e w9 ⟨rfl, hb9⟩; have z9 := below_of (w := w) (by first | exact z3) hb9))
  go_ret
  exact ⟨rfl, by assumption⟩
theorem keysApart_walk (st gr : Int) (k p u : ByteArray) (st' gr' : Int) (k' p' u' : ByteArray) (n : Int) (_hn : (Lit.int .i64 n).wf = true) (m : Int) (w : World) (hm : Max w m) :
    Calls Tryd.prog 12 #[keyVal st gr k p u, keyVal st' gr' k' p' u', .int .i64 n] w fun e w' => e = .returned (.bool true) ∧ Below w.heap.size w w' := by
  have c1 := fun v h => range_any st gr k p u n m v h
  have c2 := fun v h => range_any st' gr' k' p' u' n m v h
  by_cases hE : (Keys.rng (skOf st gr k p u) n).2.2 = 0
  · by_cases hF : (Keys.rng (skOf st' gr' k' p' u') n).2.2 = 0
    · obtain ⟨ha, s1, s2, _⟩ := Keys.rng_ok hE
      obtain ⟨hb, r1, r2, _⟩ := Keys.rng_ok hF
      rw [s1, s2, hE] at c1
      rw [r1, r2, hF] at c2
      have C1 := Lib.hid c1
      have C2 := Lib.hid c2
      obtain ⟨b, hs, c3⟩ := same_any st gr k p u st' gr' k' p' u' n hb.parts
      cases b with
      | true =>
        have h := Keys.first_same (hs.1 rfl)
        exact apart_same st gr k p u st' gr' k' p' u' n m _ _ _ _ (by rw [beq_list, h]; simp) (by rw [beq_list, h]; simp) w hm C1 C2 (Lib.hid c3)
      | false =>
        have hns : ¬ Keys.Same (skOf st gr k p u) (skOf st' gr' k' p' u') n := fun q => Bool.false_ne_true (hs.2 q)
        have hne : Keys.first (skOf st gr k p u) n ≠ Keys.first (skOf st' gr' k' p' u') n := fun q => hns (Keys.first_begins ha hb [] (by rw [List.append_nil, q]; exact List.prefix_refl _))
        have q1 : ((⟨(Keys.first (skOf st gr k p u) n).toArray⟩ : ByteArray).toList == (⟨(Keys.first (skOf st' gr' k' p' u') n).toArray⟩ : ByteArray).toList) = false := by rw [beq_list]; exact beq_eq_false_iff_ne.2 hne
        cases hl : Op.bytesLess (Keys.first (skOf st' gr' k' p' u') n) (Keys.up (Keys.first (skOf st gr k p u) n)) with
        | false => exact apart_below st gr k p u st' gr' k' p' u' n m _ _ _ _ q1 (by rw [leq_not, less_list, hl]; rfl) w hm C1 C2 (Lib.hid c3)
        | true =>
          rcases Keys.first_apart ha hb hns with h | h
          · rw [hl] at h; cases h
          · exact apart_above st gr k p u st' gr' k' p' u' n m _ _ _ _ q1 (by rw [leq_not, less_list, hl]; rfl) (by rw [leq_not, less_list, h]; rfl) w hm C1 C2 (Lib.hid c3)
    · rw [hE] at c1
      exact apart_no2 st gr k p u st' gr' k' p' u' n m _ _ _ _ _ (bne_iff_ne.2 (fun h => hF (by exact_mod_cast h))) w hm (Lib.hid c1) (Lib.hid c2)
  · exact apart_no1 st gr k p u st' gr' k' p' u' n m _ _ _ _ _ _ (bne_iff_ne.2 (fun h => hE (by exact_mod_cast h))) w hm (Lib.hid c1) (Lib.hid c2)
--CARD freshetlaw03.KeysApart keysApart_walk key:a key:b int:n
--BEGIN
namespace KeysApartProof
open Go.ChangeShapes Go.WideShapes Go.ChangeAt Go.RowKit
open Go.ChangeMaps (open_string shut_string)
theorem own : ownKnob Tryd.prog.godebug = none := by kernel_rfl
theorem reads (os : Os) {H : Type} (enc : TypeId × Value → H) : ∃ places, DataW.whole enc Tryd.prog ((World.laidAll Tryd.prog os Rows.keysApartRow.laid).forCall (fun _ _ => 0) ⟨#[], #[.agg #[.int .i64 0, .int .i64 0, .string .empty, .string .empty, .string .empty], .agg #[.int .i64 0, .int .i64 0, .string .empty, .string .empty, .string .empty], .int .i64 0], []⟩).memory Tryd.f12.params.toList Rows.keysApartSpec.vars false (#[.agg #[.int .i64 0, .int .i64 0, .string .empty, .string .empty, .string .empty], .agg #[.int .i64 0, .int .i64 0, .string .empty, .string .empty, .string .empty], .int .i64 0] : Array Value).toList 8 = some ([.agg [.lit (.int .i64 0), .lit (.int .i64 0), .lit (.string []), .lit (.string []), .lit (.string [])], .agg [.lit (.int .i64 0), .lit (.int .i64 0), .lit (.string []), .lit (.string []), .lit (.string [])], .lit (.int .i64 0)], [], places) :=
  ⟨[], by kernel_rfl⟩
theorem laid_met (os : Os) (args : Array Value) : laidMetH Tryd.prog Rows.keysApartRow.laid ((World.laidAll Tryd.prog os Rows.keysApartRow.laid).forCall (fun _ _ => 0) ⟨#[], args, []⟩).memory := by
  rw [MakeChecks.laidMetH_plain _ _ _ (by kernel_rfl)]; exact laidMet_laidAll _ (by kernel_rfl) (by kernel_rfl)
set_option maxRecDepth 100000 in
theorem lifted (os : Os) (started : os.Started) (H : Type) (enc : TypeId × Value → H) (F : Stop.Interp) :
    ReturnsInHanded {} Tryd.checked os 12 .any ((OpenSpec.ofChange Rows.keysApartSpec).preRow enc Tryd.prog Tryd.f12 Rows.keysApartRow.domain false Rows.keysApartRow.laid) (((OpenSpec.ofChange Rows.keysApartSpec).at F).post enc Tryd.prog Tryd.f12 false true false false) := by
  obtain ⟨places, hx⟩ := reads os enc
  refine returnsInHanded_of_row (C := Tryd.checked) (s := OpenSpec.ofChange Rows.keysApartSpec) own started (by kernel_rfl) Tryd.func12
    (witness_row_shaped (enc := enc) (C := Tryd.checked) false (World.laidAll Tryd.prog os Rows.keysApartRow.laid) #[.agg #[.int .i64 0, .int .i64 0, .string .empty, .string .empty, .string .empty], .agg #[.int .i64 0, .int .i64 0, .string .empty, .string .empty, .string .empty], .int .i64 0] (World.laidAll_os _ _ _) (World.shaped_of_ZipB (by kernel_rfl) (by kernel_rfl)) (by kernel_rfl)
      (OpenSpec.preRow_of_cond 8 hx (by kernel_rfl) (fun k hk => by cases hk) (by kernel_rfl) (laid_met os _))) ?_
  intro W base args ds gs before hval0 hW _ hcond hsz _ hsh _
  have hval : ∀ (j : Nat) t v, Tryd.f12.params[j]? = some t → args[j]? = some v → Value.okWide Tryd.prog W .any base t v := hval0
  have hW' := hW
  obtain ⟨p, q, hA0, hV, rfl, hfz, hnd⟩ := hW
  have hA : DataW.TrodAll enc Tryd.prog W 0 (fun _ => true) true Tryd.f12.params.toList args.toList ds p := hA0
  rw [Tryd.params12] at hA hval hsz
  obtain ⟨v0, vs0, d0, ds0, p0, q0, hargs, rfl, rfl, h0, r0⟩ := trodAll_cons hA
  obtain ⟨v1, vs1, d1, ds1, p1, q1, rfl, rfl, rfl, h1, r1⟩ := trodAll_cons r0
  obtain ⟨v2, vs2, d2, ds2, p2, q2, rfl, rfl, rfl, h2, r2⟩ := trodAll_cons r1
  obtain ⟨rfl, rfl, rfl⟩ := trodAll_nil r2
  obtain rfl : args = #[v0, v1, v2] := by cases args; simp_all
  obtain ⟨rfl, rfl⟩ := trodVars_none hV
  obtain ⟨ast, agr, ak, ap, au, rfl, rfl, rfl, m0, q0a, q0b, q0c⟩ := open_key (hval 0 23 v0 rfl rfl) h0
  obtain ⟨bst, bgr, bk, bp, bu, rfl, rfl, rfl, m1, q1a, q1b, q1c⟩ := open_key (hval 1 23 v1 rfl rfl) h1
  obtain ⟨n, rfl, rfl, rfl, m2⟩ := open_int Tryd.underlying3 (hval 2 3 v2 rfl rfl) h2
  have z0 := sized_key hsz (j := 0) (st := ast) (gr := agr) (k := ak) (p := ap) (u := au) rfl rfl
  have z1 := sized_key hsz (j := 1) (st := bst) (gr := bgr) (k := bk) (p := bp) (u := bu) rfl rfl
  clear hA0 hval0
  simp only [List.append_nil] at hW'
  obtain ⟨mx, hmx⟩ := Tryd.laysM155.s1_3 W hsh
  refine (keysApart_walk ast agr ak ap au bst bgr bk bp bu n m2 mx W hmx).mono fun e W' ⟨he, hg⟩ => ?_
  subst he
  exact ⟨_, rfl, _, _, _, [], [], [], hW', (trodAll_cons_mk (shut_bool Tryd.underlying4 _) trodAll_mk0), (trodAll_cons_mk (shut_key m0.1 m0.2 q0a q0b q0c) (trodAll_cons_mk (shut_key m1.1 m1.2 q1a q1b q1c) (trodAll_cons_mk (shut_int Tryd.underlying3 m2) trodAll_mk0))), rfl, hg.frame _, fun h => by cases h⟩
theorem said : Rows.KeysApartSaid :=
  OpenClaim.holds_of_cond 12 Tryd.f12 rfl rfl rfl rfl rfl rfl rfl ⟨rfl, rfl, rfl, rfl, rfl⟩ rfl rfl rfl rfl rfl (by kernel_rfl) Tryd.func12 (by kernel_rfl)
    (of_decide_eq_true (by kernel_rfl)) (by unfold Func.isWrapper; first | (rw [if_pos (by decide +kernel)]; kernel_rfl) | (rw [if_neg (by decide +kernel)]; exact ⟨rfl, rfl⟩))
    (fun os started H enc _ F => by rw [OpenClaim.pre_eq_preRow]; exact lifted os started H enc F)
theorem plain (f : FuncId) (fn : Func) (hf : Tryd.pinned.checked.prog.funcNamed "freshet/freshetlaw03.KeysApart" = some f) (hfn : Tryd.pinned.checked.prog.funcs[f]? = some fn) :
    false = Tryd.pinned.checked.prog.looks [] ∧ ∀ (j : Nat) t, fn.params[j]? = some t → Tryd.pinned.checked.prog.wantsStandIn t = false := by
  obtain rfl : f = 12 := Option.some.inj ((show Tryd.prog.funcNamed "freshet/freshetlaw03.KeysApart" = some 12 by kernel_rfl).symm.trans hf) |>.symm
  obtain rfl : fn = Tryd.f12 := (Option.some.inj (Tryd.func12.symm.trans hfn)).symm
  refine ⟨by kernel_rfl, fun j t ht => ?_⟩
  rw [Tryd.params12] at ht
  have hm : t ∈ ([23, 23, 3] : List Nat) := by simpa using Array.mem_of_getElem? ht
  have hall : (([23, 23, 3] : List Nat).all fun u => !Tryd.prog.wantsStandIn u) = true := by kernel_rfl
  exact (show Tryd.prog.wantsStandIn t = false by simpa using List.all_eq_true.1 hall t hm)
theorem holds : Rows.KeysApartCardSaid :=
  Claim7.holds_tied_plain_at .later [] _ _ _ _ said (fun _ h => by cases h) (by kernel_rfl) (fun _ h => by cases h) keysApart_row_tie rfl ⟨rfl, rfl⟩ (by kernel_rfl) rfl plain (by kernel_rfl)
end KeysApartProof
--END
end Go.Proofs.YtpobfheioondaaaDoor
