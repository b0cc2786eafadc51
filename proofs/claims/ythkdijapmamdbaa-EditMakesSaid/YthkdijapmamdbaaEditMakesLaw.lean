/-
  EditMakes: an edit of a right version makes a right one, or nothing, and a right version is made of the first one by its whole edit. Condition: at most 80 tables a level, 300 in each of the edit's lists (the law's own).
-/
import Derived.Test.YthkdijapmamdbaaEditAwake
import Derived.Test.YthkdijapmamdbaaEditApplyAny
import Derived.Test.YthkdijapmamdbaaEditWhole
namespace Go.Proofs.Ythkdijapmamdbaa
set_option maxRecDepth 100000
open Go.RowKit
theorem WhD.yesM {v : Vr} {r : Ending} {w' : World} (h : WhD v r w') (hp : RightP v) : ∃ hg ha, r = .returned (edV (wholeE v) hg ha) ∧ EdAt (wholeE v) hg ha w' := by
  rcases h with h | h
  · exact h.2
  · exact absurd hp h.1
/-- The version and the edit that came in, in their boxes. -/
structure VeI (v : Vr) (H : Nat → Hd) (e : Ed) (hg ha : Hd) (w wr : World) : Prop where
  x : VerB w.heap.size v H wr
  y : EdB (w.heap.size + 1) e hg ha wr
  f : Below w.heap.size w wr
theorem VeI.below {v : Vr} {H : Nat → Hd} {e : Ed} {hg ha : Hd} {w wr u : World} (h : VeI v H e hg ha w wr) (hb : Below wr.heap.size wr u) : VeI v H e hg ha w u := ⟨h.x.below hb, h.y.below hb, below_of h.f hb⟩
theorem VeI.new (v : Vr) (H : Nat → Hd) (e : Ed) (hg ha : Hd) (w : World) : VeI v H e hg ha w ((w.alloc (verO v H)).alloc (edO e hg ha)) := by
  refine ⟨(VerB.new v H w).below (below_alloc _ _), ?_, (below_alloc w _).alloc (by simp) _⟩
  have := EdB.new e hg ha (w.alloc (verO v H))
  rwa [World.size_alloc] at this
/-- What Apply comes to at a right version. -/
theorem apply_cases {v : Vr} {H : Nat → Hd} {e : Ed} {hg ha : Hd} {w : World} (hM : VrAt v H w) (hI : VrIn v) (hE : EdAt e hg ha w) (iE : EdIn e) (hgn : hg.n ≤ 1000) (han : ha.n ≤ 1000) :
    (∃ c : Nat, c ≠ 0 ∧ ∀ u, Below w.heap.size w u → Calls Try.prog 12 #[verV v H, edV e hg ha] u fun r u' => r = .returned (.tuple #[zV, .int .i64 (c : Int)]) ∧ Below u.heap.size u u') ∨
    (RightP (madeV v e (newLv v e)) ∧ ∀ u, Below w.heap.size w u → Calls Try.prog 12 #[verV v H, edV e hg ha] u fun r u' => (∃ G2, r = .returned (.tuple #[verV (madeV v e (newLv v e)) G2, .int .i64 0]) ∧ VrAt (madeV v e (newLv v e)) G2 u') ∧ Below u.heap.size u u') := by
  by_cases hA : ArgP v e
  · exact .inl ⟨2, by decide, fun u hu => apply_arg (hM.below hu) (fun i hi x hx => (hI.2.2.2 i hi x hx).1) (hE.below hu) hA⟩
  have AP := fun u (hu : Below w.heap.size w u) => apply_yes (hM.below hu) hI (hE.below hu) iE hA hgn han
  by_cases h1 : NoneP v e
  · by_cases h2 : ThereP v e
    · by_cases h3 : RightP (madeV v e (newLv v e))
      · refine .inr ⟨h3, fun u hu => (AP u hu).mono ?_⟩
        rintro r u' ⟨hb, ⟨h, _⟩ | ⟨_, h, _⟩ | ⟨_, _, _, h⟩ | ⟨_, _, h, _⟩⟩
        · rw [tf_true h1] at h; cases h
        · rw [tf_true h2] at h; cases h
        · exact ⟨h, hb⟩
        · exact absurd h3 h
      · refine .inl ⟨11, by decide, fun u hu => (AP u hu).mono ?_⟩
        rintro r u' ⟨hb, ⟨h, _⟩ | ⟨_, h, _⟩ | ⟨_, _, h, _⟩ | ⟨_, _, _, h⟩⟩
        · rw [tf_true h1] at h; cases h
        · rw [tf_true h2] at h; cases h
        · exact absurd h h3
        · exact ⟨h, hb⟩
    · refine .inl ⟨5, by decide, fun u hu => (AP u hu).mono ?_⟩
      rintro r u' ⟨hb, ⟨h, _⟩ | ⟨_, _, h⟩ | ⟨_, h, _⟩ | ⟨_, h, _⟩⟩
      · rw [tf_true h1] at h; cases h
      · exact ⟨h, hb⟩
      · rw [tf_false h2] at h; cases h
      · rw [tf_false h2] at h; cases h
  · refine .inl ⟨4, by decide, fun u hu => (AP u hu).mono ?_⟩
    rintro r u' ⟨hb, ⟨_, h⟩ | ⟨h, _⟩ | ⟨h, _⟩ | ⟨h, _⟩⟩
    · exact ⟨h, hb⟩
    · rw [tf_false h1] at h; cases h
    · rw [tf_false h1] at h; cases h
    · rw [tf_false h1] at h; cases h
theorem zero_at (w : World) : VrAt zeroV noHd w := fun i hi => Ms.nil w
theorem zv_eq : zV = verV zeroV noHd := rfl
theorem zz_same (w : World) : Calls Try.prog 22 #[verV zeroV noHd, zV] w fun e w' => e = .returned (.bool true) ∧ Below w.heap.size w w' := by
  have h := same_any (zero_at w) (zero_at w)
  rw [tf_true ⟨rfl, rfl, rfl, fun _ _ => rfl⟩] at h
  rw [zv_eq]
  exact h
theorem first_in : VrIn firstV := ⟨by show 1 ≤ _; omega, by show 1 ≤ _; omega, by show 0 ≤ _; omega, fun i hi x hx => by cases hx⟩
theorem ne_numM (c : Nat) (h : c ≠ 0) : ((c : Int) == 0) = false ∧ ¬ (c : Int) = 0 ∧ ((c : Int) != 0) = true := by
  have : ¬ (c : Int) = 0 := by omega
  exact ⟨by simpa using this, this, by simpa using this⟩
set_option maxRecDepth 100000 in
set_option maxHeartbeats 16000000 in
theorem makes_walk (v : Vr) (H : Nat → Hd) (e : Ed) (hg ha : Hd) (w : World) (hM : VrAt v H w) (hI : VrIn v) (hE : EdAt e hg ha w) (iE : EdIn e) :
    Calls Try.prog 6 #[verV v H, edV e hg ha] w fun r w' => r = .returned (.bool true) ∧ Below w.heap.size w w' := by
  have AW := Lib.hid (fun u => eawake_any u)
  have MX := Lib.hid (fun u => many_any v H u)
  have LX := Lib.hid (fun u => long_any e hg ha u)
  have T0 := Lib.hid (VeI.new v H e hg ha w)
  obtain ⟨c0, c1, c2, c3, c4, c5, c6⟩ := T0.out.x.cells
  by_cases m1 : FewP H
  rotate_left 1
  · rw [tf_true m1] at MX
    clear m1 hM hI hE iE
    go_enter Try.func6, Try.ntmps6
    go_wp2_with (first
      | (go_at_call 8; ((with_reducible refine (MX.out _).mono ?_); rintro r w1 ⟨rfl, hb1⟩; have B1 := Lib.hid (below_of T0.out.f hb1); clear hb1))
      | (go_at_call 10; ((with_reducible refine (AW.out _).mono ?_); rintro r w2 ⟨rfl, hb2⟩; have B2 := Lib.hid (below_of B1.out hb2); clear hb2)))
    go_returns
    exact ⟨rfl, B2.out⟩
  rw [tf_false (fun h => h m1)] at MX
  by_cases m2 : hg.n ≤ 300 ∧ ha.n ≤ 300
  rotate_left 1
  · rw [tf_true m2] at LX
    clear m1 m2 hM hI hE iE
    go_enter Try.func6, Try.ntmps6
    go_wp2_with (first
      | (go_at_call 8; ((with_reducible refine (MX.out _).mono ?_); rintro r w1 ⟨rfl, hb1⟩; have T1 := Lib.hid (T0.out.below hb1); obtain ⟨d0, d1, d2, d3, d4⟩ := T1.out.y.cells; clear hb1))
      | (go_at_call 9; ((with_reducible refine (LX.out _).mono ?_); rintro r w1' ⟨rfl, hb1⟩; have B1 := Lib.hid (below_of T1.out.f hb1); clear hb1))
      | (go_at_call 10; ((with_reducible refine (AW.out _).mono ?_); rintro r w2 ⟨rfl, hb2⟩; have B2 := Lib.hid (below_of B1.out hb2); clear hb2)))
    go_returns
    exact ⟨rfl, B2.out⟩
  rw [tf_false (fun h => h m2)] at LX
  have RV := Lib.hid (fun u (hu : Below w.heap.size w u) => right_any (hM.below hu) (fun i hi x hx => (hI.2.2.2 i hi x hx).1))
  have ZZ := Lib.hid (fun u => zz_same u)
  by_cases hR : RightP v
  rotate_left 1
  ·
    rw [tf_false hR] at RV
    have AP := Lib.hid (fun u (hu : Below w.heap.size w u) => apply_arg (hM.below hu) (fun i hi x hx => (hI.2.2.2 i hi x hx).1) (hE.below hu) (.inl hR))
    clear m1 m2 hM hI hE iE hR
    go_enter Try.func6, Try.ntmps6
    go_upto_region 4 with (first
      | (go_at_call 8; ((with_reducible refine (MX.out _).mono ?_); rintro r w1 ⟨rfl, hb1⟩; have T1 := Lib.hid (T0.out.below hb1); obtain ⟨d0, d1, d2, d3, d4⟩ := T1.out.y.cells; clear hb1))
      | (go_at_call 9; ((with_reducible refine (LX.out _).mono ?_); rintro r w2 ⟨rfl, hb1⟩; have T2 := Lib.hid (T1.out.below hb1); obtain ⟨x0, x1, x2, x3, x4, x5, x6⟩ := T2.out.x.cells; obtain ⟨e0, e1, e2, e3, e4⟩ := T2.out.y.cells; clear hb1))
      | (go_at_call 12; ((with_reducible refine (AP.out _ T2.out.f).mono ?_); rintro r w3 ⟨rfl, hb3⟩; have T3 := Lib.hid ((T2.out.below hb3).below (below_alloc w3 zO)); have Q3 : Hid (VerB w3.heap.size zeroV noHd (w3.alloc zO)) := Lib.hid (VerB.new zeroV noHd w3); clear hb3)))
    obtain ⟨p3, hp3⟩ := named w3.heap.size
    obtain ⟨u3, hu3⟩ := named (w3.alloc zO)
    rw [← hu3.out] at T3 Q3
    rw [← hp3.out] at Q3
    rw [← hu3.out, ← hp3.out]
    replace hu3 := Lib.hid trivial
    replace hp3 := Lib.hid trivial
    clear T0 T1 T2 c0 c1 c2 c3 c4 c5 c6 d0 d1 d2 d3 d4 x0 x1 x2 x3 x4 x5 x6 e0 e1 e2 e3 e4
    obtain ⟨c0, c1, c2, c3, c4, c5, c6⟩ := T3.out.x.cells
    obtain ⟨d0, d1, d2, d3, d4, d5, d6⟩ := Q3.out.cells
    go_wp2_with (first
      | (go_at_call 22; ((with_reducible refine (ZZ.out _).mono ?_); rintro r w4 ⟨rfl, hb4⟩; have T4 := Lib.hid (T3.out.below hb4); obtain ⟨x0, x1, x2, x3, x4, x5, x6⟩ := T4.out.x.cells; clear hb4))
      | (go_at_call 21; ((with_reducible refine (RV.out _ T4.out.f).mono ?_); rintro r w5 ⟨rfl, hb5⟩; have T5 := Lib.hid (T4.out.below hb5); clear hb5))
      | (go_at_call 10; ((with_reducible refine (AW.out _).mono ?_); rintro r w6 ⟨rfl, hb6⟩; have B6 := Lib.hid (below_of T5.out.f hb6); clear hb6)))
    go_returns
    exact ⟨rfl, B6.out⟩
  rw [tf_true hR] at RV
  obtain ⟨E2, hE2⟩ := named (wholeE v)
  obtain ⟨M2, hM2⟩ := named (madeV firstV (wholeE v) (newLv firstV (wholeE v)))
  obtain ⟨k1, k2, k3, k4, k5⟩ := whole_makes hR
  have FA := Lib.hid (fun u => first_any u)
  have WA := Lib.hid (fun u (hu : Below w.heap.size w u) => whole_any (hM.below hu) hI)
  have WY : Hid (∀ r u, WhD v r u → ∃ hg ha, r = .returned (edV E2 hg ha) ∧ EdAt E2 hg ha u) := Lib.hid (fun r u h => by rw [hE2.out]; exact h.yesM hR)
  have hlen : (plsTo v 4).length ≤ 400 := plsTo_len (fun i hi => Nat.le_trans (hR.2 i hi).1 (by omega)) 4 (Nat.le_refl _)
  have A2 : Hid (∀ u hp hq, EdAt E2 hp hq u → Calls Try.prog 12 #[verV firstV noHd, edV E2 hp hq] u fun r u' => (∃ G2, r = .returned (.tuple #[verV M2 G2, .int .i64 0]) ∧ VrAt M2 G2 u') ∧ Below u.heap.size u u') := Lib.hid (fun u hp hq h => by
    rw [hE2.out] at h ⊢
    rw [hM2.out]
    have l1 := h.gone.len
    have l2 := h.added.len
    refine (apply_yes (first_at u) first_in h (whole_in hI) k1 (by rw [← l1]; show 0 ≤ _; omega) (by rw [← l2]; show (plsTo v 4).length ≤ _; omega)).mono ?_
    rintro r u' ⟨hb, ⟨h, _⟩ | ⟨_, h, _⟩ | ⟨_, _, _, h⟩ | ⟨_, _, h, _⟩⟩
    · rw [tf_true k2] at h; cases h
    · rw [tf_true k3] at h; cases h
    · exact ⟨h, hb⟩
    · exact absurd k5 h)
  have SM : Hid (∀ u G5, VrAt M2 G5 u → Below w.heap.size w u → Calls Try.prog 22 #[verV M2 G5, verV v H] u fun r u' => r = .returned (.bool true) ∧ Below u.heap.size u u') := Lib.hid (fun u G5 h hu => by
    have := same_any h (hM.below hu)
    rw [tf_true (by rw [hM2.out]; exact ⟨k4.1.symm, k4.2.1.symm, k4.2.2.1.symm, fun i hi => (k4.2.2.2 i hi).symm⟩)] at this
    exact this)
  rcases apply_cases hM hI hE iE (by omega) (by omega) with ⟨c, hc0, AP⟩ | ⟨hok, AP⟩
  ·
    obtain ⟨n1, n2, n3⟩ := ne_numM c hc0
    replace AP := Lib.hid AP
    clear m1 m2 hM hI hE iE hR hc0 k1 k2 k3 k4 k5 hlen hE2 hM2
    go_enter Try.func6, Try.ntmps6
    go_upto_region 4 with (first
      | (go_at_call 8; ((with_reducible refine (MX.out _).mono ?_); rintro r w1 ⟨rfl, hb1⟩; have T1 := Lib.hid (T0.out.below hb1); obtain ⟨d0, d1, d2, d3, d4⟩ := T1.out.y.cells; clear hb1))
      | (go_at_call 9; ((with_reducible refine (LX.out _).mono ?_); rintro r w2 ⟨rfl, hb1⟩; have T2 := Lib.hid (T1.out.below hb1); obtain ⟨x0, x1, x2, x3, x4, x5, x6⟩ := T2.out.x.cells; obtain ⟨e0, e1, e2, e3, e4⟩ := T2.out.y.cells; clear hb1))
      | (go_at_call 12; ((with_reducible refine (AP.out _ T2.out.f).mono ?_); rintro r w3 ⟨rfl, hb3⟩; have T3 := Lib.hid ((T2.out.below hb3).below (below_alloc w3 zO)); have Q3 : Hid (VerB w3.heap.size zeroV noHd (w3.alloc zO)) := Lib.hid (VerB.new zeroV noHd w3); clear hb3)))
    obtain ⟨p3, hp3⟩ := named w3.heap.size
    obtain ⟨u3, hu3⟩ := named (w3.alloc zO)
    rw [← hu3.out] at T3 Q3
    rw [← hp3.out] at Q3
    rw [← hu3.out, ← hp3.out]
    replace hu3 := Lib.hid trivial
    replace hp3 := Lib.hid trivial
    clear T0 T1 T2 c0 c1 c2 c3 c4 c5 c6 d0 d1 d2 d3 d4 x0 x1 x2 x3 x4 x5 x6 e0 e1 e2 e3 e4
    obtain ⟨c0, c1, c2, c3, c4, c5, c6⟩ := T3.out.x.cells
    obtain ⟨d0, d1, d2, d3, d4, d5, d6⟩ := Q3.out.cells
    go_upto_region 8 with (first
      | (go_at_call 22; ((with_reducible refine (ZZ.out _).mono ?_); rintro r w4 ⟨rfl, hb4⟩; have T4 := Lib.hid (T3.out.below hb4); obtain ⟨x0, x1, x2, x3, x4, x5, x6⟩ := T4.out.x.cells; clear hb4))
      | (go_at_call 21; ((with_reducible refine (RV.out _ T4.out.f).mono ?_); rintro r u8 ⟨rfl, hb5⟩; have T8 := Lib.hid (T4.out.below hb5); clear hb5)))
    clear c0 c1 c2 c3 c4 c5 c6 d0 d1 d2 d3 d4 d5 d6 x0 x1 x2 x3 x4 x5 x6
    have B80 : Hid (Below w.heap.size w u8.drew) := Lib.hid T8.out.f.drew
    have V80 : Hid (VerB w.heap.size v H u8.drew) := T8.out.x.below (Below.refl _ _).drew |> Lib.hid
    refine wp_region_held_drew (S := (fun u => u.cell? ⟨w.heap.size, 0, none⟩ = some (.int .u64 (v.log : Int)) ∧ u.cell? ⟨w.heap.size, 1, none⟩ = some (.int .u64 (v.next : Int)) ∧ u.cell? ⟨w.heap.size, 2, none⟩ = some (.int .u64 (v.seq : Int)) ∧ u.cell? ⟨w.heap.size, 3, none⟩ = some (.slice (H 0).a (H 0).n (H 0).c) ∧ u.cell? ⟨w.heap.size, 4, none⟩ = some (.slice (H 1).a (H 1).n (H 1).c) ∧ u.cell? ⟨w.heap.size, 5, none⟩ = some (.slice (H 2).a (H 2).n (H 2).c) ∧ u.cell? ⟨w.heap.size, 6, none⟩ = some (.slice (H 3).a (H 3).n (H 3).c))) (by kernel_rfl) (V80.out.cells) (fun hHeld => ?_)
    refine held_take (i := 1) (v := ?_) rfl (by kernel_rfl) (by kernel_rfl) (by kernel_rfl) (fun _ _ _ h => h) (by rfl) (fun w hSw => ?_) (by assumption) ?_; rotate_left 1; focus (((try dsimp only at hSw); first | (go_simp; done) | (go_simp; with_reducible rfl)))
    try simp only [Act.put, List.setIfInBounds_toArray, List.set_cons_zero, List.set_cons_succ]
    refine held_two (i := 0) (j := 7) (by kernel_rfl) rfl rfl (by rfl) (by rfl) (fun K hK => ?_) (fun K hK => ?_)
    · go_simp
      refine (FA.out _).mono ?_
      rintro r w9 ⟨rfl, hb9⟩
      have Vx0 := Lib.hid (V80.out.below hb9)
      have Bx0 := Lib.hid (below_of B80.out hb9)
      clear hb9
      refine hK.out _ _ (Vx0.out.cells) (fun hHeld => ?_)
      try simp only [Act.put, List.setIfInBounds_toArray, List.set_cons_zero, List.set_cons_succ]
      refine held_two (i := 2) (j := 7) (by kernel_rfl) rfl rfl (by rfl) (by rfl) (fun K hK => ?_) (fun K hK => ?_)
      · go_simp
        refine (WA.out _ Bx0.out).mono ?_
        rintro r w10 ⟨hd10, hb10⟩
        obtain ⟨hp, hq, rfl, hE10⟩ := WY.out _ _ hd10
        have Ex02 := Lib.hid hE10
        have Vx02 := Lib.hid (Vx0.out.below hb10)
        have Bx02 := Lib.hid (below_of Bx0.out hb10)
        clear hd10 hb10 hE10
        refine hK.out _ _ (Vx02.out.cells) (fun hHeld => ?_)
        try simp only [Act.put, List.setIfInBounds_toArray, List.set_cons_zero, List.set_cons_succ]
        refine held_two (i := 3) (j := 7) (by kernel_rfl) rfl rfl (by rfl) (by rfl) (fun K hK => ?_) (fun K hK => ?_)
        · go_simp
          refine (A2.out _ _ _ Ex02.out).mono ?_
          rintro r w11 ⟨⟨G5, rfl, hG5⟩, hb11⟩
          have Gx023 := Lib.hid hG5
          have Vx023 := Lib.hid (Vx02.out.below hb11)
          have Bx023 := Lib.hid (below_of Bx02.out hb11)
          have Ex023 := Lib.hid (Ex02.out.below hb11)
          clear hb11 hG5
          refine hK.out _ _ (Vx023.out.cells) (fun hHeld => ?_)
          try simp only [Act.put, List.setIfInBounds_toArray, List.set_cons_zero, List.set_cons_succ]
          refine held_take (i := 4) (v := ?_) rfl (by kernel_rfl) (by kernel_rfl) (by kernel_rfl) (fun _ _ _ h => h) (by rfl) (fun w hSw => ?_) (by assumption) ?_; rotate_left 1; focus (((try dsimp only at hSw); first | (go_simp; done) | (go_simp; with_reducible rfl)))
          try simp only [Act.put, List.setIfInBounds_toArray, List.set_cons_zero, List.set_cons_succ]
          refine held_take (i := 5) (v := ?_) rfl (by kernel_rfl) (by kernel_rfl) (by kernel_rfl) (fun _ _ _ h => h) (by rfl) (fun w hSw => ?_) (by assumption) ?_; rotate_left 1; focus (((try dsimp only at hSw); first | (go_simp; done) | (go_simp; with_reducible rfl)))
          try simp only [Act.put, List.setIfInBounds_toArray, List.set_cons_zero, List.set_cons_succ]
          refine held_take (i := 6) (v := ?_) rfl (by kernel_rfl) (by kernel_rfl) (by kernel_rfl) (fun _ _ _ h => h) (by rfl) (fun w hSw => ?_) (by assumption) ?_; rotate_left 1; focus (((try dsimp only at hSw); first | (go_simp; done) | (go_simp; with_reducible rfl)))
          try simp only [Act.put, List.setIfInBounds_toArray, List.set_cons_zero, List.set_cons_succ]
          refine held_call (i := 7) (by kernel_rfl) rfl (by rfl) (fun K hK => ?_)
          have Zx0237 : Hid (VerB w11.heap.size zeroV noHd (w11.alloc zO)) := Lib.hid (VerB.new zeroV noHd w11)
          have Vx0237 := Lib.hid (Vx023.out.below (below_alloc w11 zO))
          have Bx0237 := Lib.hid (below_of Bx023.out (below_alloc w11 zO))
          have Ex0237 := Lib.hid (Ex023.out.below (below_alloc w11 zO))
          have Gx0237 := Lib.hid (Gx023.out.below (below_alloc w11 zO))
          go_simp
          refine hK.out _ _ (Vx0237.out.cells) (fun hHeld => ?_)
          try simp only [Act.put, List.setIfInBounds_toArray, List.set_cons_zero, List.set_cons_succ]
          refine held_call (i := 8) (by kernel_rfl) rfl (by rfl) (fun K hK => ?_)
          go_simp
          have V12 := Lib.hid (Vx023.out.below (below_alloc w11 (verO M2 G5)))
          have B12 := Lib.hid (below_of Bx023.out (below_alloc w11 (verO M2 G5)))
          have G11 := Lib.hid (Gx023.out.below (below_alloc w11 (verO M2 G5)))
          have Q11 := Lib.hid (VerB.new M2 G5 w11)
          refine hK.out _ _ (V12.out.cells) (fun hHeld => ?_)
          try simp only [Act.put, List.setIfInBounds_toArray, List.set_cons_zero, List.set_cons_succ]
          refine held_take (i := 9) (v := ?_) rfl (by kernel_rfl) (by kernel_rfl) (by kernel_rfl) (fun _ _ _ h => h) (by rfl) (fun w hSw => ?_) (by assumption) ?_; rotate_left 1; focus (((try dsimp only at hSw); first | (go_simp; done) | (go_simp; with_reducible rfl)))
          try simp only [Act.put, List.setIfInBounds_toArray, List.set_cons_zero, List.set_cons_succ]
          refine wpAnyH_done (by kernel_rfl) ?_ _
          obtain ⟨p8, hp8⟩ := named w11.heap.size
          obtain ⟨u12, hu12⟩ := named (w11.alloc (verO M2 G5))
          rw [← hu12.out] at G11 Q11 V12 B12
          rw [← hp8.out] at Q11
          have SV := Lib.hid (SM.out _ _ G11.out B12.out)
          obtain ⟨f0, f1, f2, f3, f4, f5, f6⟩ := V12.out.cells
          obtain ⟨g0, g1, g2, g3, g4, g5, g6⟩ := Q11.out.cells
          rw [← hu12.out, ← hp8.out]
          replace hu12 := Lib.hid trivial
          replace hp8 := Lib.hid trivial
          go_wp2_with (first
            | (go_at_call 22; ((with_reducible refine SV.out.mono ?_); rintro r w13 ⟨rfl, hb13⟩; have B13 := Lib.hid (below_of B12.out hb13); clear hb13))
            | (go_at_call 10; ((with_reducible refine (AW.out _).mono ?_); rintro r w14 ⟨rfl, hb14⟩; have B14 := Lib.hid (below_of B13.out hb14); clear hb14)))
          go_returns
          exact ⟨rfl, B14.out⟩
        · have Zx027 : Hid (VerB w10.heap.size zeroV noHd (w10.alloc zO)) := Lib.hid (VerB.new zeroV noHd w10)
          have Vx027 := Lib.hid (Vx02.out.below (below_alloc w10 zO))
          have Bx027 := Lib.hid (below_of Bx02.out (below_alloc w10 zO))
          have Ex027 := Lib.hid (Ex02.out.below (below_alloc w10 zO))
          go_simp
          refine hK.out _ _ (Vx027.out.cells) (fun hHeld => ?_)
          try simp only [Act.put, List.setIfInBounds_toArray, List.set_cons_zero, List.set_cons_succ]
          refine held_call (i := 3) (by kernel_rfl) rfl (by rfl) (fun K hK => ?_)
          go_simp
          refine (A2.out _ _ _ Ex027.out).mono ?_
          rintro r w11 ⟨⟨G5, rfl, hG5⟩, hb11⟩
          have Gx0273 := Lib.hid hG5
          have Vx0273 := Lib.hid (Vx027.out.below hb11)
          have Bx0273 := Lib.hid (below_of Bx027.out hb11)
          have Ex0273 := Lib.hid (Ex027.out.below hb11)
          have Zx0273 := Lib.hid (Zx027.out.below hb11)
          clear hb11 hG5
          refine hK.out _ _ (Vx0273.out.cells) (fun hHeld => ?_)
          try simp only [Act.put, List.setIfInBounds_toArray, List.set_cons_zero, List.set_cons_succ]
          refine held_take (i := 4) (v := ?_) rfl (by kernel_rfl) (by kernel_rfl) (by kernel_rfl) (fun _ _ _ h => h) (by rfl) (fun w hSw => ?_) (by assumption) ?_; rotate_left 1; focus (((try dsimp only at hSw); first | (go_simp; done) | (go_simp; with_reducible rfl)))
          try simp only [Act.put, List.setIfInBounds_toArray, List.set_cons_zero, List.set_cons_succ]
          refine held_take (i := 5) (v := ?_) rfl (by kernel_rfl) (by kernel_rfl) (by kernel_rfl) (fun _ _ _ h => h) (by rfl) (fun w hSw => ?_) (by assumption) ?_; rotate_left 1; focus (((try dsimp only at hSw); first | (go_simp; done) | (go_simp; with_reducible rfl)))
          try simp only [Act.put, List.setIfInBounds_toArray, List.set_cons_zero, List.set_cons_succ]
          refine held_take (i := 6) (v := ?_) rfl (by kernel_rfl) (by kernel_rfl) (by kernel_rfl) (fun _ _ _ h => h) (by rfl) (fun w hSw => ?_) (by assumption) ?_; rotate_left 1; focus (((try dsimp only at hSw); first | (go_simp; done) | (go_simp; with_reducible rfl)))
          try simp only [Act.put, List.setIfInBounds_toArray, List.set_cons_zero, List.set_cons_succ]
          refine held_call (i := 8) (by kernel_rfl) rfl (by rfl) (fun K hK => ?_)
          obtain ⟨y0, y1, y2, y3, y4, y5, y6⟩ := Zx0273.out.cells
          have zf := Zx0273.out.frozen
          go_simp
          clear y0 y1 y2 y3 y4 y5 y6 zf
          have hne : Hid (w.heap.size < w10.heap.size) := Lib.hid (by have h1 := Vx02.out.lt; have h2 := Bx02.out.size; (try simp only [World.size_drew] at h1); omega)
          have Q11 : Hid (VerB w10.heap.size M2 G5 (verPut w10.heap.size M2 G5 w11)) := Lib.hid (Zx0273.out.put M2 G5)
          have V12 : Hid (VerB w.heap.size v H (verPut w10.heap.size M2 G5 w11)) := Lib.hid ((heap_verPut (p := w10.heap.size) (v := M2) (H := G5) (by have := hne.out; omega)).trans Vx0273.out)
          have B12 : Hid (Below w.heap.size w (verPut w10.heap.size M2 G5 w11)) := Lib.hid (below_verPut (p := w10.heap.size) Bx0273.out (by have := hne.out; omega) M2 G5)
          have G11 : Hid (VrAt M2 G5 (verPut w10.heap.size M2 G5 w11)) := Lib.hid (fun i hi => by have m := Gx0273.out i hi; exact ⟨m.sl.keep (fun h0 => heap_verPut (p := w10.heap.size) (v := M2) (H := G5) (Zx0273.out.nems m h0)) (by show _ ≤ (verPut w10.heap.size M2 G5 w11).heap.size; rw [size_verPut]; exact Nat.le_refl _), m.none'⟩)
          refine hK.out _ _ (V12.out.cells) (fun hHeld => ?_)
          try simp only [Act.put, List.setIfInBounds_toArray, List.set_cons_zero, List.set_cons_succ]
          refine held_take (i := 9) (v := ?_) rfl (by kernel_rfl) (by kernel_rfl) (by kernel_rfl) (fun _ _ _ h => h) (by rfl) (fun w hSw => ?_) (by assumption) ?_; rotate_left 1; focus (((try dsimp only at hSw); first | (go_simp; done) | (go_simp; with_reducible rfl)))
          try simp only [Act.put, List.setIfInBounds_toArray, List.set_cons_zero, List.set_cons_succ]
          refine wpAnyH_done (by kernel_rfl) ?_ _
          obtain ⟨p8, hp8⟩ := named w10.heap.size
          obtain ⟨u12, hu12⟩ := named (verPut w10.heap.size M2 G5 w11)
          have hc12 : (((((((w11.setCell ⟨w10.heap.size, 0, none⟩ (.int .u64 (M2.log : Int))).setCell ⟨w10.heap.size, 1, none⟩ (.int .u64 (M2.next : Int))).setCell ⟨w10.heap.size, 2, none⟩ (.int .u64 (M2.seq : Int))).setCell ⟨w10.heap.size, 3, none⟩ (.slice (G5 0).a (G5 0).n (G5 0).c)).setCell ⟨w10.heap.size, 4, none⟩ (.slice (G5 1).a (G5 1).n (G5 1).c)).setCell ⟨w10.heap.size, 5, none⟩ (.slice (G5 2).a (G5 2).n (G5 2).c)).setCell ⟨w10.heap.size, 6, none⟩ (.slice (G5 3).a (G5 3).n (G5 3).c)) = u12 := hu12.out.symm
          rw [← hu12.out] at G11 Q11 V12 B12
          rw [← hp8.out] at Q11
          have SV := Lib.hid (SM.out _ _ G11.out B12.out)
          obtain ⟨f0, f1, f2, f3, f4, f5, f6⟩ := V12.out.cells
          obtain ⟨g0, g1, g2, g3, g4, g5, g6⟩ := Q11.out.cells
          rw [hc12, ← hp8.out]
          replace hc12 := Lib.hid trivial
          replace hu12 := Lib.hid trivial
          replace hp8 := Lib.hid trivial
          go_wp2_with (first
            | (go_at_call 22; ((with_reducible refine SV.out.mono ?_); rintro r w13 ⟨rfl, hb13⟩; have B13 := Lib.hid (below_of B12.out hb13); clear hb13))
            | (go_at_call 10; ((with_reducible refine (AW.out _).mono ?_); rintro r w14 ⟨rfl, hb14⟩; have B14 := Lib.hid (below_of B13.out hb14); clear hb14)))
          go_returns
          exact ⟨rfl, B14.out⟩
      · have Zx07 : Hid (VerB w9.heap.size zeroV noHd (w9.alloc zO)) := Lib.hid (VerB.new zeroV noHd w9)
        have Vx07 := Lib.hid (Vx0.out.below (below_alloc w9 zO))
        have Bx07 := Lib.hid (below_of Bx0.out (below_alloc w9 zO))
        go_simp
        refine hK.out _ _ (Vx07.out.cells) (fun hHeld => ?_)
        try simp only [Act.put, List.setIfInBounds_toArray, List.set_cons_zero, List.set_cons_succ]
        refine held_call (i := 2) (by kernel_rfl) rfl (by rfl) (fun K hK => ?_)
        go_simp
        refine (WA.out _ Bx07.out).mono ?_
        rintro r w10 ⟨hd10, hb10⟩
        obtain ⟨hp, hq, rfl, hE10⟩ := WY.out _ _ hd10
        have Ex072 := Lib.hid hE10
        have Vx072 := Lib.hid (Vx07.out.below hb10)
        have Bx072 := Lib.hid (below_of Bx07.out hb10)
        have Zx072 := Lib.hid (Zx07.out.below hb10)
        clear hd10 hb10 hE10
        refine hK.out _ _ (Vx072.out.cells) (fun hHeld => ?_)
        try simp only [Act.put, List.setIfInBounds_toArray, List.set_cons_zero, List.set_cons_succ]
        refine held_call (i := 3) (by kernel_rfl) rfl (by rfl) (fun K hK => ?_)
        go_simp
        refine (A2.out _ _ _ Ex072.out).mono ?_
        rintro r w11 ⟨⟨G5, rfl, hG5⟩, hb11⟩
        have Gx0723 := Lib.hid hG5
        have Vx0723 := Lib.hid (Vx072.out.below hb11)
        have Bx0723 := Lib.hid (below_of Bx072.out hb11)
        have Ex0723 := Lib.hid (Ex072.out.below hb11)
        have Zx0723 := Lib.hid (Zx072.out.below hb11)
        clear hb11 hG5
        refine hK.out _ _ (Vx0723.out.cells) (fun hHeld => ?_)
        try simp only [Act.put, List.setIfInBounds_toArray, List.set_cons_zero, List.set_cons_succ]
        refine held_take (i := 4) (v := ?_) rfl (by kernel_rfl) (by kernel_rfl) (by kernel_rfl) (fun _ _ _ h => h) (by rfl) (fun w hSw => ?_) (by assumption) ?_; rotate_left 1; focus (((try dsimp only at hSw); first | (go_simp; done) | (go_simp; with_reducible rfl)))
        try simp only [Act.put, List.setIfInBounds_toArray, List.set_cons_zero, List.set_cons_succ]
        refine held_take (i := 5) (v := ?_) rfl (by kernel_rfl) (by kernel_rfl) (by kernel_rfl) (fun _ _ _ h => h) (by rfl) (fun w hSw => ?_) (by assumption) ?_; rotate_left 1; focus (((try dsimp only at hSw); first | (go_simp; done) | (go_simp; with_reducible rfl)))
        try simp only [Act.put, List.setIfInBounds_toArray, List.set_cons_zero, List.set_cons_succ]
        refine held_take (i := 6) (v := ?_) rfl (by kernel_rfl) (by kernel_rfl) (by kernel_rfl) (fun _ _ _ h => h) (by rfl) (fun w hSw => ?_) (by assumption) ?_; rotate_left 1; focus (((try dsimp only at hSw); first | (go_simp; done) | (go_simp; with_reducible rfl)))
        try simp only [Act.put, List.setIfInBounds_toArray, List.set_cons_zero, List.set_cons_succ]
        refine held_call (i := 8) (by kernel_rfl) rfl (by rfl) (fun K hK => ?_)
        obtain ⟨y0, y1, y2, y3, y4, y5, y6⟩ := Zx0723.out.cells
        have zf := Zx0723.out.frozen
        go_simp
        clear y0 y1 y2 y3 y4 y5 y6 zf
        have hne : Hid (w.heap.size < w9.heap.size) := Lib.hid (by have h1 := Vx0.out.lt; have h2 := Bx0.out.size; (try simp only [World.size_drew] at h1); omega)
        have Q11 : Hid (VerB w9.heap.size M2 G5 (verPut w9.heap.size M2 G5 w11)) := Lib.hid (Zx0723.out.put M2 G5)
        have V12 : Hid (VerB w.heap.size v H (verPut w9.heap.size M2 G5 w11)) := Lib.hid ((heap_verPut (p := w9.heap.size) (v := M2) (H := G5) (by have := hne.out; omega)).trans Vx0723.out)
        have B12 : Hid (Below w.heap.size w (verPut w9.heap.size M2 G5 w11)) := Lib.hid (below_verPut (p := w9.heap.size) Bx0723.out (by have := hne.out; omega) M2 G5)
        have G11 : Hid (VrAt M2 G5 (verPut w9.heap.size M2 G5 w11)) := Lib.hid (fun i hi => by have m := Gx0723.out i hi; exact ⟨m.sl.keep (fun h0 => heap_verPut (p := w9.heap.size) (v := M2) (H := G5) (Zx0723.out.nems m h0)) (by show _ ≤ (verPut w9.heap.size M2 G5 w11).heap.size; rw [size_verPut]; exact Nat.le_refl _), m.none'⟩)
        refine hK.out _ _ (V12.out.cells) (fun hHeld => ?_)
        try simp only [Act.put, List.setIfInBounds_toArray, List.set_cons_zero, List.set_cons_succ]
        refine held_take (i := 9) (v := ?_) rfl (by kernel_rfl) (by kernel_rfl) (by kernel_rfl) (fun _ _ _ h => h) (by rfl) (fun w hSw => ?_) (by assumption) ?_; rotate_left 1; focus (((try dsimp only at hSw); first | (go_simp; done) | (go_simp; with_reducible rfl)))
        try simp only [Act.put, List.setIfInBounds_toArray, List.set_cons_zero, List.set_cons_succ]
        refine wpAnyH_done (by kernel_rfl) ?_ _
        obtain ⟨p8, hp8⟩ := named w9.heap.size
        obtain ⟨u12, hu12⟩ := named (verPut w9.heap.size M2 G5 w11)
        have hc12 : (((((((w11.setCell ⟨w9.heap.size, 0, none⟩ (.int .u64 (M2.log : Int))).setCell ⟨w9.heap.size, 1, none⟩ (.int .u64 (M2.next : Int))).setCell ⟨w9.heap.size, 2, none⟩ (.int .u64 (M2.seq : Int))).setCell ⟨w9.heap.size, 3, none⟩ (.slice (G5 0).a (G5 0).n (G5 0).c)).setCell ⟨w9.heap.size, 4, none⟩ (.slice (G5 1).a (G5 1).n (G5 1).c)).setCell ⟨w9.heap.size, 5, none⟩ (.slice (G5 2).a (G5 2).n (G5 2).c)).setCell ⟨w9.heap.size, 6, none⟩ (.slice (G5 3).a (G5 3).n (G5 3).c)) = u12 := hu12.out.symm
        rw [← hu12.out] at G11 Q11 V12 B12
        rw [← hp8.out] at Q11
        have SV := Lib.hid (SM.out _ _ G11.out B12.out)
        obtain ⟨f0, f1, f2, f3, f4, f5, f6⟩ := V12.out.cells
        obtain ⟨g0, g1, g2, g3, g4, g5, g6⟩ := Q11.out.cells
        rw [hc12, ← hp8.out]
        replace hc12 := Lib.hid trivial
        replace hu12 := Lib.hid trivial
        replace hp8 := Lib.hid trivial
        go_wp2_with (first
          | (go_at_call 22; ((with_reducible refine SV.out.mono ?_); rintro r w13 ⟨rfl, hb13⟩; have B13 := Lib.hid (below_of B12.out hb13); clear hb13))
          | (go_at_call 10; ((with_reducible refine (AW.out _).mono ?_); rintro r w14 ⟨rfl, hb14⟩; have B14 := Lib.hid (below_of B13.out hb14); clear hb14)))
        go_returns
        exact ⟨rfl, B14.out⟩
    · have Zx7 : Hid (VerB u8.heap.size zeroV noHd (u8.drew.alloc zO)) := Lib.hid (VerB.new zeroV noHd u8.drew)
      have Vx7 := Lib.hid (V80.out.below (below_alloc u8.drew zO))
      have Bx7 := Lib.hid (below_of B80.out (below_alloc u8.drew zO))
      go_simp
      refine hK.out _ _ (Vx7.out.cells) (fun hHeld => ?_)
      try simp only [Act.put, List.setIfInBounds_toArray, List.set_cons_zero, List.set_cons_succ]
      refine held_call (i := 0) (by kernel_rfl) rfl (by rfl) (fun K hK => ?_)
      go_simp
      refine (FA.out _).mono ?_
      rintro r w9 ⟨rfl, hb9⟩
      have Vx70 := Lib.hid (Vx7.out.below hb9)
      have Bx70 := Lib.hid (below_of Bx7.out hb9)
      have Zx70 := Lib.hid (Zx7.out.below hb9)
      clear hb9
      refine hK.out _ _ (Vx70.out.cells) (fun hHeld => ?_)
      try simp only [Act.put, List.setIfInBounds_toArray, List.set_cons_zero, List.set_cons_succ]
      refine held_call (i := 2) (by kernel_rfl) rfl (by rfl) (fun K hK => ?_)
      go_simp
      refine (WA.out _ Bx70.out).mono ?_
      rintro r w10 ⟨hd10, hb10⟩
      obtain ⟨hp, hq, rfl, hE10⟩ := WY.out _ _ hd10
      have Ex702 := Lib.hid hE10
      have Vx702 := Lib.hid (Vx70.out.below hb10)
      have Bx702 := Lib.hid (below_of Bx70.out hb10)
      have Zx702 := Lib.hid (Zx70.out.below hb10)
      clear hd10 hb10 hE10
      refine hK.out _ _ (Vx702.out.cells) (fun hHeld => ?_)
      try simp only [Act.put, List.setIfInBounds_toArray, List.set_cons_zero, List.set_cons_succ]
      refine held_call (i := 3) (by kernel_rfl) rfl (by rfl) (fun K hK => ?_)
      go_simp
      refine (A2.out _ _ _ Ex702.out).mono ?_
      rintro r w11 ⟨⟨G5, rfl, hG5⟩, hb11⟩
      have Gx7023 := Lib.hid hG5
      have Vx7023 := Lib.hid (Vx702.out.below hb11)
      have Bx7023 := Lib.hid (below_of Bx702.out hb11)
      have Ex7023 := Lib.hid (Ex702.out.below hb11)
      have Zx7023 := Lib.hid (Zx702.out.below hb11)
      clear hb11 hG5
      refine hK.out _ _ (Vx7023.out.cells) (fun hHeld => ?_)
      try simp only [Act.put, List.setIfInBounds_toArray, List.set_cons_zero, List.set_cons_succ]
      refine held_take (i := 4) (v := ?_) rfl (by kernel_rfl) (by kernel_rfl) (by kernel_rfl) (fun _ _ _ h => h) (by rfl) (fun w hSw => ?_) (by assumption) ?_; rotate_left 1; focus (((try dsimp only at hSw); first | (go_simp; done) | (go_simp; with_reducible rfl)))
      try simp only [Act.put, List.setIfInBounds_toArray, List.set_cons_zero, List.set_cons_succ]
      refine held_take (i := 5) (v := ?_) rfl (by kernel_rfl) (by kernel_rfl) (by kernel_rfl) (fun _ _ _ h => h) (by rfl) (fun w hSw => ?_) (by assumption) ?_; rotate_left 1; focus (((try dsimp only at hSw); first | (go_simp; done) | (go_simp; with_reducible rfl)))
      try simp only [Act.put, List.setIfInBounds_toArray, List.set_cons_zero, List.set_cons_succ]
      refine held_take (i := 6) (v := ?_) rfl (by kernel_rfl) (by kernel_rfl) (by kernel_rfl) (fun _ _ _ h => h) (by rfl) (fun w hSw => ?_) (by assumption) ?_; rotate_left 1; focus (((try dsimp only at hSw); first | (go_simp; done) | (go_simp; with_reducible rfl)))
      try simp only [Act.put, List.setIfInBounds_toArray, List.set_cons_zero, List.set_cons_succ]
      refine held_call (i := 8) (by kernel_rfl) rfl (by rfl) (fun K hK => ?_)
      obtain ⟨y0, y1, y2, y3, y4, y5, y6⟩ := Zx7023.out.cells
      have zf := Zx7023.out.frozen
      go_simp
      clear y0 y1 y2 y3 y4 y5 y6 zf
      have hne : Hid (w.heap.size < u8.heap.size) := Lib.hid (by have h1 := V80.out.lt; have h2 := B80.out.size; (try simp only [World.size_drew] at h1); omega)
      have Q11 : Hid (VerB u8.heap.size M2 G5 (verPut u8.heap.size M2 G5 w11)) := Lib.hid (Zx7023.out.put M2 G5)
      have V12 : Hid (VerB w.heap.size v H (verPut u8.heap.size M2 G5 w11)) := Lib.hid ((heap_verPut (p := u8.heap.size) (v := M2) (H := G5) (by have := hne.out; omega)).trans Vx7023.out)
      have B12 : Hid (Below w.heap.size w (verPut u8.heap.size M2 G5 w11)) := Lib.hid (below_verPut (p := u8.heap.size) Bx7023.out (by have := hne.out; omega) M2 G5)
      have G11 : Hid (VrAt M2 G5 (verPut u8.heap.size M2 G5 w11)) := Lib.hid (fun i hi => by have m := Gx7023.out i hi; exact ⟨m.sl.keep (fun h0 => heap_verPut (p := u8.heap.size) (v := M2) (H := G5) (Zx7023.out.nems m h0)) (by show _ ≤ (verPut u8.heap.size M2 G5 w11).heap.size; rw [size_verPut]; exact Nat.le_refl _), m.none'⟩)
      refine hK.out _ _ (V12.out.cells) (fun hHeld => ?_)
      try simp only [Act.put, List.setIfInBounds_toArray, List.set_cons_zero, List.set_cons_succ]
      refine held_take (i := 9) (v := ?_) rfl (by kernel_rfl) (by kernel_rfl) (by kernel_rfl) (fun _ _ _ h => h) (by rfl) (fun w hSw => ?_) (by assumption) ?_; rotate_left 1; focus (((try dsimp only at hSw); first | (go_simp; done) | (go_simp; with_reducible rfl)))
      try simp only [Act.put, List.setIfInBounds_toArray, List.set_cons_zero, List.set_cons_succ]
      refine wpAnyH_done (by kernel_rfl) ?_ _
      obtain ⟨p8, hp8⟩ := named u8.heap.size
      obtain ⟨u12, hu12⟩ := named (verPut u8.heap.size M2 G5 w11)
      have hc12 : (((((((w11.setCell ⟨u8.heap.size, 0, none⟩ (.int .u64 (M2.log : Int))).setCell ⟨u8.heap.size, 1, none⟩ (.int .u64 (M2.next : Int))).setCell ⟨u8.heap.size, 2, none⟩ (.int .u64 (M2.seq : Int))).setCell ⟨u8.heap.size, 3, none⟩ (.slice (G5 0).a (G5 0).n (G5 0).c)).setCell ⟨u8.heap.size, 4, none⟩ (.slice (G5 1).a (G5 1).n (G5 1).c)).setCell ⟨u8.heap.size, 5, none⟩ (.slice (G5 2).a (G5 2).n (G5 2).c)).setCell ⟨u8.heap.size, 6, none⟩ (.slice (G5 3).a (G5 3).n (G5 3).c)) = u12 := hu12.out.symm
      rw [← hu12.out] at G11 Q11 V12 B12
      rw [← hp8.out] at Q11
      have SV := Lib.hid (SM.out _ _ G11.out B12.out)
      obtain ⟨f0, f1, f2, f3, f4, f5, f6⟩ := V12.out.cells
      obtain ⟨g0, g1, g2, g3, g4, g5, g6⟩ := Q11.out.cells
      rw [hc12, ← hp8.out]
      replace hc12 := Lib.hid trivial
      replace hu12 := Lib.hid trivial
      replace hp8 := Lib.hid trivial
      go_wp2_with (first
        | (go_at_call 22; ((with_reducible refine SV.out.mono ?_); rintro r w13 ⟨rfl, hb13⟩; have B13 := Lib.hid (below_of B12.out hb13); clear hb13))
        | (go_at_call 10; ((with_reducible refine (AW.out _).mono ?_); rintro r w14 ⟨rfl, hb14⟩; have B14 := Lib.hid (below_of B13.out hb14); clear hb14)))
      go_returns
      exact ⟨rfl, B14.out⟩
  ·
    obtain ⟨M, hMn⟩ := named (madeV v e (newLv v e))
    rw [← hMn.out] at hok AP
    have RM : Hid (∀ u G2, VrAt M G2 u → Calls Try.prog 21 #[verV M G2] u fun r u' => r = .returned (.bool true) ∧ Below u.heap.size u u') := Lib.hid (fun u G2 h => by
      have := right_any h (fun i hi x hx => by
        rw [hMn.out] at hx
        rcases newLv_mem x hx with h | ⟨p, hp, _, rfl⟩
        · exact (hI.2.2.2 i hi x (outLv_sub hi x h)).1
        · exact (iE.2.2.2.2 p hp).2.1)
      rw [tf_true hok] at this
      exact this)
    replace AP := Lib.hid AP
    replace hMn := Lib.hid trivial
    clear m1 m2 hM hI hE iE hR hok k1 k2 k3 k4 k5 hlen hE2 hM2
    go_enter Try.func6, Try.ntmps6
    go_upto_region 4 with (first
      | (go_at_call 8; ((with_reducible refine (MX.out _).mono ?_); rintro r w1 ⟨rfl, hb1⟩; have T1 := Lib.hid (T0.out.below hb1); obtain ⟨d0, d1, d2, d3, d4⟩ := T1.out.y.cells; clear hb1))
      | (go_at_call 9; ((with_reducible refine (LX.out _).mono ?_); rintro r w2 ⟨rfl, hb1⟩; have T2 := Lib.hid (T1.out.below hb1); obtain ⟨x0, x1, x2, x3, x4, x5, x6⟩ := T2.out.x.cells; obtain ⟨e0, e1, e2, e3, e4⟩ := T2.out.y.cells; clear hb1))
      | (go_at_call 12; ((with_reducible refine (AP.out _ T2.out.f).mono ?_); rintro r w3 ⟨⟨G2, rfl, hG2⟩, hb3⟩; have T3 := Lib.hid ((T2.out.below hb3).below (below_alloc w3 (verO M G2))); have Q3 := Lib.hid (VerB.new M G2 w3); have G3 := Lib.hid (hG2.below (below_alloc w3 (verO M G2))); clear hb3 hG2)))
    obtain ⟨p3, hp3⟩ := named w3.heap.size
    obtain ⟨u3, hu3⟩ := named (w3.alloc (verO M G2))
    rw [← hu3.out] at T3 Q3 G3
    rw [← hp3.out] at Q3
    rw [← hu3.out, ← hp3.out]
    replace hu3 := Lib.hid trivial
    replace hp3 := Lib.hid trivial
    clear T0 T1 T2 c0 c1 c2 c3 c4 c5 c6 d0 d1 d2 d3 d4 x0 x1 x2 x3 x4 x5 x6 e0 e1 e2 e3 e4
    obtain ⟨c0, c1, c2, c3, c4, c5, c6⟩ := T3.out.x.cells
    obtain ⟨d0, d1, d2, d3, d4, d5, d6⟩ := Q3.out.cells
    have RM3 := Lib.hid (fun u (hu : Below u3.heap.size u3 u) => RM.out u G2 (G3.out.below hu))
    go_upto_region 8 with (first
      | (go_at_call 21; ((with_reducible refine (RV.out _ T3.out.f).mono ?_); rintro r w4 ⟨rfl, hb4⟩; have T4 := Lib.hid (T3.out.below hb4); have L4 := Lib.hid hb4; obtain ⟨d0, d1, d2, d3, d4, d5, d6⟩ := (Q3.out.below hb4).cells; clear hb4))
      | (go_at_call 21; ((with_reducible refine (RM3.out _ L4.out).mono ?_); rintro r w5 ⟨rfl, hb5⟩; have T5 := Lib.hid (T4.out.below hb5); obtain ⟨x0, x1, x2, x3, x4, x5, x6⟩ := T5.out.x.cells; clear hb5))
      | (go_at_call 21; ((with_reducible refine (RV.out _ T5.out.f).mono ?_); rintro r u8 ⟨rfl, hb6⟩; have T8 := Lib.hid (T5.out.below hb6); clear hb6)))
    clear c0 c1 c2 c3 c4 c5 c6 d0 d1 d2 d3 d4 d5 d6 x0 x1 x2 x3 x4 x5 x6
    have B80 : Hid (Below w.heap.size w u8.drew) := Lib.hid T8.out.f.drew
    have V80 : Hid (VerB w.heap.size v H u8.drew) := T8.out.x.below (Below.refl _ _).drew |> Lib.hid
    refine wp_region_held_drew (S := (fun u => u.cell? ⟨w.heap.size, 0, none⟩ = some (.int .u64 (v.log : Int)) ∧ u.cell? ⟨w.heap.size, 1, none⟩ = some (.int .u64 (v.next : Int)) ∧ u.cell? ⟨w.heap.size, 2, none⟩ = some (.int .u64 (v.seq : Int)) ∧ u.cell? ⟨w.heap.size, 3, none⟩ = some (.slice (H 0).a (H 0).n (H 0).c) ∧ u.cell? ⟨w.heap.size, 4, none⟩ = some (.slice (H 1).a (H 1).n (H 1).c) ∧ u.cell? ⟨w.heap.size, 5, none⟩ = some (.slice (H 2).a (H 2).n (H 2).c) ∧ u.cell? ⟨w.heap.size, 6, none⟩ = some (.slice (H 3).a (H 3).n (H 3).c))) (by kernel_rfl) (V80.out.cells) (fun hHeld => ?_)
    refine held_take (i := 1) (v := ?_) rfl (by kernel_rfl) (by kernel_rfl) (by kernel_rfl) (fun _ _ _ h => h) (by rfl) (fun w hSw => ?_) (by assumption) ?_; rotate_left 1; focus (((try dsimp only at hSw); first | (go_simp; done) | (go_simp; with_reducible rfl)))
    try simp only [Act.put, List.setIfInBounds_toArray, List.set_cons_zero, List.set_cons_succ]
    refine held_two (i := 0) (j := 7) (by kernel_rfl) rfl rfl (by rfl) (by rfl) (fun K hK => ?_) (fun K hK => ?_)
    · go_simp
      refine (FA.out _).mono ?_
      rintro r w9 ⟨rfl, hb9⟩
      have Vx0 := Lib.hid (V80.out.below hb9)
      have Bx0 := Lib.hid (below_of B80.out hb9)
      clear hb9
      refine hK.out _ _ (Vx0.out.cells) (fun hHeld => ?_)
      try simp only [Act.put, List.setIfInBounds_toArray, List.set_cons_zero, List.set_cons_succ]
      refine held_two (i := 2) (j := 7) (by kernel_rfl) rfl rfl (by rfl) (by rfl) (fun K hK => ?_) (fun K hK => ?_)
      · go_simp
        refine (WA.out _ Bx0.out).mono ?_
        rintro r w10 ⟨hd10, hb10⟩
        obtain ⟨hp, hq, rfl, hE10⟩ := WY.out _ _ hd10
        have Ex02 := Lib.hid hE10
        have Vx02 := Lib.hid (Vx0.out.below hb10)
        have Bx02 := Lib.hid (below_of Bx0.out hb10)
        clear hd10 hb10 hE10
        refine hK.out _ _ (Vx02.out.cells) (fun hHeld => ?_)
        try simp only [Act.put, List.setIfInBounds_toArray, List.set_cons_zero, List.set_cons_succ]
        refine held_two (i := 3) (j := 7) (by kernel_rfl) rfl rfl (by rfl) (by rfl) (fun K hK => ?_) (fun K hK => ?_)
        · go_simp
          refine (A2.out _ _ _ Ex02.out).mono ?_
          rintro r w11 ⟨⟨G5, rfl, hG5⟩, hb11⟩
          have Gx023 := Lib.hid hG5
          have Vx023 := Lib.hid (Vx02.out.below hb11)
          have Bx023 := Lib.hid (below_of Bx02.out hb11)
          have Ex023 := Lib.hid (Ex02.out.below hb11)
          clear hb11 hG5
          refine hK.out _ _ (Vx023.out.cells) (fun hHeld => ?_)
          try simp only [Act.put, List.setIfInBounds_toArray, List.set_cons_zero, List.set_cons_succ]
          refine held_take (i := 4) (v := ?_) rfl (by kernel_rfl) (by kernel_rfl) (by kernel_rfl) (fun _ _ _ h => h) (by rfl) (fun w hSw => ?_) (by assumption) ?_; rotate_left 1; focus (((try dsimp only at hSw); first | (go_simp; done) | (go_simp; with_reducible rfl)))
          try simp only [Act.put, List.setIfInBounds_toArray, List.set_cons_zero, List.set_cons_succ]
          refine held_take (i := 5) (v := ?_) rfl (by kernel_rfl) (by kernel_rfl) (by kernel_rfl) (fun _ _ _ h => h) (by rfl) (fun w hSw => ?_) (by assumption) ?_; rotate_left 1; focus (((try dsimp only at hSw); first | (go_simp; done) | (go_simp; with_reducible rfl)))
          try simp only [Act.put, List.setIfInBounds_toArray, List.set_cons_zero, List.set_cons_succ]
          refine held_take (i := 6) (v := ?_) rfl (by kernel_rfl) (by kernel_rfl) (by kernel_rfl) (fun _ _ _ h => h) (by rfl) (fun w hSw => ?_) (by assumption) ?_; rotate_left 1; focus (((try dsimp only at hSw); first | (go_simp; done) | (go_simp; with_reducible rfl)))
          try simp only [Act.put, List.setIfInBounds_toArray, List.set_cons_zero, List.set_cons_succ]
          refine held_call (i := 7) (by kernel_rfl) rfl (by rfl) (fun K hK => ?_)
          have Zx0237 : Hid (VerB w11.heap.size zeroV noHd (w11.alloc zO)) := Lib.hid (VerB.new zeroV noHd w11)
          have Vx0237 := Lib.hid (Vx023.out.below (below_alloc w11 zO))
          have Bx0237 := Lib.hid (below_of Bx023.out (below_alloc w11 zO))
          have Ex0237 := Lib.hid (Ex023.out.below (below_alloc w11 zO))
          have Gx0237 := Lib.hid (Gx023.out.below (below_alloc w11 zO))
          go_simp
          refine hK.out _ _ (Vx0237.out.cells) (fun hHeld => ?_)
          try simp only [Act.put, List.setIfInBounds_toArray, List.set_cons_zero, List.set_cons_succ]
          refine held_call (i := 8) (by kernel_rfl) rfl (by rfl) (fun K hK => ?_)
          go_simp
          have V12 := Lib.hid (Vx023.out.below (below_alloc w11 (verO M2 G5)))
          have B12 := Lib.hid (below_of Bx023.out (below_alloc w11 (verO M2 G5)))
          have G11 := Lib.hid (Gx023.out.below (below_alloc w11 (verO M2 G5)))
          have Q11 := Lib.hid (VerB.new M2 G5 w11)
          refine hK.out _ _ (V12.out.cells) (fun hHeld => ?_)
          try simp only [Act.put, List.setIfInBounds_toArray, List.set_cons_zero, List.set_cons_succ]
          refine held_take (i := 9) (v := ?_) rfl (by kernel_rfl) (by kernel_rfl) (by kernel_rfl) (fun _ _ _ h => h) (by rfl) (fun w hSw => ?_) (by assumption) ?_; rotate_left 1; focus (((try dsimp only at hSw); first | (go_simp; done) | (go_simp; with_reducible rfl)))
          try simp only [Act.put, List.setIfInBounds_toArray, List.set_cons_zero, List.set_cons_succ]
          refine wpAnyH_done (by kernel_rfl) ?_ _
          obtain ⟨p8, hp8⟩ := named w11.heap.size
          obtain ⟨u12, hu12⟩ := named (w11.alloc (verO M2 G5))
          rw [← hu12.out] at G11 Q11 V12 B12
          rw [← hp8.out] at Q11
          have SV := Lib.hid (SM.out _ _ G11.out B12.out)
          obtain ⟨f0, f1, f2, f3, f4, f5, f6⟩ := V12.out.cells
          obtain ⟨g0, g1, g2, g3, g4, g5, g6⟩ := Q11.out.cells
          rw [← hu12.out, ← hp8.out]
          replace hu12 := Lib.hid trivial
          replace hp8 := Lib.hid trivial
          go_wp2_with (first
            | (go_at_call 22; ((with_reducible refine SV.out.mono ?_); rintro r w13 ⟨rfl, hb13⟩; have B13 := Lib.hid (below_of B12.out hb13); clear hb13))
            | (go_at_call 10; ((with_reducible refine (AW.out _).mono ?_); rintro r w14 ⟨rfl, hb14⟩; have B14 := Lib.hid (below_of B13.out hb14); clear hb14)))
          go_returns
          exact ⟨rfl, B14.out⟩
        · have Zx027 : Hid (VerB w10.heap.size zeroV noHd (w10.alloc zO)) := Lib.hid (VerB.new zeroV noHd w10)
          have Vx027 := Lib.hid (Vx02.out.below (below_alloc w10 zO))
          have Bx027 := Lib.hid (below_of Bx02.out (below_alloc w10 zO))
          have Ex027 := Lib.hid (Ex02.out.below (below_alloc w10 zO))
          go_simp
          refine hK.out _ _ (Vx027.out.cells) (fun hHeld => ?_)
          try simp only [Act.put, List.setIfInBounds_toArray, List.set_cons_zero, List.set_cons_succ]
          refine held_call (i := 3) (by kernel_rfl) rfl (by rfl) (fun K hK => ?_)
          go_simp
          refine (A2.out _ _ _ Ex027.out).mono ?_
          rintro r w11 ⟨⟨G5, rfl, hG5⟩, hb11⟩
          have Gx0273 := Lib.hid hG5
          have Vx0273 := Lib.hid (Vx027.out.below hb11)
          have Bx0273 := Lib.hid (below_of Bx027.out hb11)
          have Ex0273 := Lib.hid (Ex027.out.below hb11)
          have Zx0273 := Lib.hid (Zx027.out.below hb11)
          clear hb11 hG5
          refine hK.out _ _ (Vx0273.out.cells) (fun hHeld => ?_)
          try simp only [Act.put, List.setIfInBounds_toArray, List.set_cons_zero, List.set_cons_succ]
          refine held_take (i := 4) (v := ?_) rfl (by kernel_rfl) (by kernel_rfl) (by kernel_rfl) (fun _ _ _ h => h) (by rfl) (fun w hSw => ?_) (by assumption) ?_; rotate_left 1; focus (((try dsimp only at hSw); first | (go_simp; done) | (go_simp; with_reducible rfl)))
          try simp only [Act.put, List.setIfInBounds_toArray, List.set_cons_zero, List.set_cons_succ]
          refine held_take (i := 5) (v := ?_) rfl (by kernel_rfl) (by kernel_rfl) (by kernel_rfl) (fun _ _ _ h => h) (by rfl) (fun w hSw => ?_) (by assumption) ?_; rotate_left 1; focus (((try dsimp only at hSw); first | (go_simp; done) | (go_simp; with_reducible rfl)))
          try simp only [Act.put, List.setIfInBounds_toArray, List.set_cons_zero, List.set_cons_succ]
          refine held_take (i := 6) (v := ?_) rfl (by kernel_rfl) (by kernel_rfl) (by kernel_rfl) (fun _ _ _ h => h) (by rfl) (fun w hSw => ?_) (by assumption) ?_; rotate_left 1; focus (((try dsimp only at hSw); first | (go_simp; done) | (go_simp; with_reducible rfl)))
          try simp only [Act.put, List.setIfInBounds_toArray, List.set_cons_zero, List.set_cons_succ]
          refine held_call (i := 8) (by kernel_rfl) rfl (by rfl) (fun K hK => ?_)
          obtain ⟨y0, y1, y2, y3, y4, y5, y6⟩ := Zx0273.out.cells
          have zf := Zx0273.out.frozen
          go_simp
          clear y0 y1 y2 y3 y4 y5 y6 zf
          have hne : Hid (w.heap.size < w10.heap.size) := Lib.hid (by have h1 := Vx02.out.lt; have h2 := Bx02.out.size; (try simp only [World.size_drew] at h1); omega)
          have Q11 : Hid (VerB w10.heap.size M2 G5 (verPut w10.heap.size M2 G5 w11)) := Lib.hid (Zx0273.out.put M2 G5)
          have V12 : Hid (VerB w.heap.size v H (verPut w10.heap.size M2 G5 w11)) := Lib.hid ((heap_verPut (p := w10.heap.size) (v := M2) (H := G5) (by have := hne.out; omega)).trans Vx0273.out)
          have B12 : Hid (Below w.heap.size w (verPut w10.heap.size M2 G5 w11)) := Lib.hid (below_verPut (p := w10.heap.size) Bx0273.out (by have := hne.out; omega) M2 G5)
          have G11 : Hid (VrAt M2 G5 (verPut w10.heap.size M2 G5 w11)) := Lib.hid (fun i hi => by have m := Gx0273.out i hi; exact ⟨m.sl.keep (fun h0 => heap_verPut (p := w10.heap.size) (v := M2) (H := G5) (Zx0273.out.nems m h0)) (by show _ ≤ (verPut w10.heap.size M2 G5 w11).heap.size; rw [size_verPut]; exact Nat.le_refl _), m.none'⟩)
          refine hK.out _ _ (V12.out.cells) (fun hHeld => ?_)
          try simp only [Act.put, List.setIfInBounds_toArray, List.set_cons_zero, List.set_cons_succ]
          refine held_take (i := 9) (v := ?_) rfl (by kernel_rfl) (by kernel_rfl) (by kernel_rfl) (fun _ _ _ h => h) (by rfl) (fun w hSw => ?_) (by assumption) ?_; rotate_left 1; focus (((try dsimp only at hSw); first | (go_simp; done) | (go_simp; with_reducible rfl)))
          try simp only [Act.put, List.setIfInBounds_toArray, List.set_cons_zero, List.set_cons_succ]
          refine wpAnyH_done (by kernel_rfl) ?_ _
          obtain ⟨p8, hp8⟩ := named w10.heap.size
          obtain ⟨u12, hu12⟩ := named (verPut w10.heap.size M2 G5 w11)
          have hc12 : (((((((w11.setCell ⟨w10.heap.size, 0, none⟩ (.int .u64 (M2.log : Int))).setCell ⟨w10.heap.size, 1, none⟩ (.int .u64 (M2.next : Int))).setCell ⟨w10.heap.size, 2, none⟩ (.int .u64 (M2.seq : Int))).setCell ⟨w10.heap.size, 3, none⟩ (.slice (G5 0).a (G5 0).n (G5 0).c)).setCell ⟨w10.heap.size, 4, none⟩ (.slice (G5 1).a (G5 1).n (G5 1).c)).setCell ⟨w10.heap.size, 5, none⟩ (.slice (G5 2).a (G5 2).n (G5 2).c)).setCell ⟨w10.heap.size, 6, none⟩ (.slice (G5 3).a (G5 3).n (G5 3).c)) = u12 := hu12.out.symm
          rw [← hu12.out] at G11 Q11 V12 B12
          rw [← hp8.out] at Q11
          have SV := Lib.hid (SM.out _ _ G11.out B12.out)
          obtain ⟨f0, f1, f2, f3, f4, f5, f6⟩ := V12.out.cells
          obtain ⟨g0, g1, g2, g3, g4, g5, g6⟩ := Q11.out.cells
          rw [hc12, ← hp8.out]
          replace hc12 := Lib.hid trivial
          replace hu12 := Lib.hid trivial
          replace hp8 := Lib.hid trivial
          go_wp2_with (first
            | (go_at_call 22; ((with_reducible refine SV.out.mono ?_); rintro r w13 ⟨rfl, hb13⟩; have B13 := Lib.hid (below_of B12.out hb13); clear hb13))
            | (go_at_call 10; ((with_reducible refine (AW.out _).mono ?_); rintro r w14 ⟨rfl, hb14⟩; have B14 := Lib.hid (below_of B13.out hb14); clear hb14)))
          go_returns
          exact ⟨rfl, B14.out⟩
      · have Zx07 : Hid (VerB w9.heap.size zeroV noHd (w9.alloc zO)) := Lib.hid (VerB.new zeroV noHd w9)
        have Vx07 := Lib.hid (Vx0.out.below (below_alloc w9 zO))
        have Bx07 := Lib.hid (below_of Bx0.out (below_alloc w9 zO))
        go_simp
        refine hK.out _ _ (Vx07.out.cells) (fun hHeld => ?_)
        try simp only [Act.put, List.setIfInBounds_toArray, List.set_cons_zero, List.set_cons_succ]
        refine held_call (i := 2) (by kernel_rfl) rfl (by rfl) (fun K hK => ?_)
        go_simp
        refine (WA.out _ Bx07.out).mono ?_
        rintro r w10 ⟨hd10, hb10⟩
        obtain ⟨hp, hq, rfl, hE10⟩ := WY.out _ _ hd10
        have Ex072 := Lib.hid hE10
        have Vx072 := Lib.hid (Vx07.out.below hb10)
        have Bx072 := Lib.hid (below_of Bx07.out hb10)
        have Zx072 := Lib.hid (Zx07.out.below hb10)
        clear hd10 hb10 hE10
        refine hK.out _ _ (Vx072.out.cells) (fun hHeld => ?_)
        try simp only [Act.put, List.setIfInBounds_toArray, List.set_cons_zero, List.set_cons_succ]
        refine held_call (i := 3) (by kernel_rfl) rfl (by rfl) (fun K hK => ?_)
        go_simp
        refine (A2.out _ _ _ Ex072.out).mono ?_
        rintro r w11 ⟨⟨G5, rfl, hG5⟩, hb11⟩
        have Gx0723 := Lib.hid hG5
        have Vx0723 := Lib.hid (Vx072.out.below hb11)
        have Bx0723 := Lib.hid (below_of Bx072.out hb11)
        have Ex0723 := Lib.hid (Ex072.out.below hb11)
        have Zx0723 := Lib.hid (Zx072.out.below hb11)
        clear hb11 hG5
        refine hK.out _ _ (Vx0723.out.cells) (fun hHeld => ?_)
        try simp only [Act.put, List.setIfInBounds_toArray, List.set_cons_zero, List.set_cons_succ]
        refine held_take (i := 4) (v := ?_) rfl (by kernel_rfl) (by kernel_rfl) (by kernel_rfl) (fun _ _ _ h => h) (by rfl) (fun w hSw => ?_) (by assumption) ?_; rotate_left 1; focus (((try dsimp only at hSw); first | (go_simp; done) | (go_simp; with_reducible rfl)))
        try simp only [Act.put, List.setIfInBounds_toArray, List.set_cons_zero, List.set_cons_succ]
        refine held_take (i := 5) (v := ?_) rfl (by kernel_rfl) (by kernel_rfl) (by kernel_rfl) (fun _ _ _ h => h) (by rfl) (fun w hSw => ?_) (by assumption) ?_; rotate_left 1; focus (((try dsimp only at hSw); first | (go_simp; done) | (go_simp; with_reducible rfl)))
        try simp only [Act.put, List.setIfInBounds_toArray, List.set_cons_zero, List.set_cons_succ]
        refine held_take (i := 6) (v := ?_) rfl (by kernel_rfl) (by kernel_rfl) (by kernel_rfl) (fun _ _ _ h => h) (by rfl) (fun w hSw => ?_) (by assumption) ?_; rotate_left 1; focus (((try dsimp only at hSw); first | (go_simp; done) | (go_simp; with_reducible rfl)))
        try simp only [Act.put, List.setIfInBounds_toArray, List.set_cons_zero, List.set_cons_succ]
        refine held_call (i := 8) (by kernel_rfl) rfl (by rfl) (fun K hK => ?_)
        obtain ⟨y0, y1, y2, y3, y4, y5, y6⟩ := Zx0723.out.cells
        have zf := Zx0723.out.frozen
        go_simp
        clear y0 y1 y2 y3 y4 y5 y6 zf
        have hne : Hid (w.heap.size < w9.heap.size) := Lib.hid (by have h1 := Vx0.out.lt; have h2 := Bx0.out.size; (try simp only [World.size_drew] at h1); omega)
        have Q11 : Hid (VerB w9.heap.size M2 G5 (verPut w9.heap.size M2 G5 w11)) := Lib.hid (Zx0723.out.put M2 G5)
        have V12 : Hid (VerB w.heap.size v H (verPut w9.heap.size M2 G5 w11)) := Lib.hid ((heap_verPut (p := w9.heap.size) (v := M2) (H := G5) (by have := hne.out; omega)).trans Vx0723.out)
        have B12 : Hid (Below w.heap.size w (verPut w9.heap.size M2 G5 w11)) := Lib.hid (below_verPut (p := w9.heap.size) Bx0723.out (by have := hne.out; omega) M2 G5)
        have G11 : Hid (VrAt M2 G5 (verPut w9.heap.size M2 G5 w11)) := Lib.hid (fun i hi => by have m := Gx0723.out i hi; exact ⟨m.sl.keep (fun h0 => heap_verPut (p := w9.heap.size) (v := M2) (H := G5) (Zx0723.out.nems m h0)) (by show _ ≤ (verPut w9.heap.size M2 G5 w11).heap.size; rw [size_verPut]; exact Nat.le_refl _), m.none'⟩)
        refine hK.out _ _ (V12.out.cells) (fun hHeld => ?_)
        try simp only [Act.put, List.setIfInBounds_toArray, List.set_cons_zero, List.set_cons_succ]
        refine held_take (i := 9) (v := ?_) rfl (by kernel_rfl) (by kernel_rfl) (by kernel_rfl) (fun _ _ _ h => h) (by rfl) (fun w hSw => ?_) (by assumption) ?_; rotate_left 1; focus (((try dsimp only at hSw); first | (go_simp; done) | (go_simp; with_reducible rfl)))
        try simp only [Act.put, List.setIfInBounds_toArray, List.set_cons_zero, List.set_cons_succ]
        refine wpAnyH_done (by kernel_rfl) ?_ _
        obtain ⟨p8, hp8⟩ := named w9.heap.size
        obtain ⟨u12, hu12⟩ := named (verPut w9.heap.size M2 G5 w11)
        have hc12 : (((((((w11.setCell ⟨w9.heap.size, 0, none⟩ (.int .u64 (M2.log : Int))).setCell ⟨w9.heap.size, 1, none⟩ (.int .u64 (M2.next : Int))).setCell ⟨w9.heap.size, 2, none⟩ (.int .u64 (M2.seq : Int))).setCell ⟨w9.heap.size, 3, none⟩ (.slice (G5 0).a (G5 0).n (G5 0).c)).setCell ⟨w9.heap.size, 4, none⟩ (.slice (G5 1).a (G5 1).n (G5 1).c)).setCell ⟨w9.heap.size, 5, none⟩ (.slice (G5 2).a (G5 2).n (G5 2).c)).setCell ⟨w9.heap.size, 6, none⟩ (.slice (G5 3).a (G5 3).n (G5 3).c)) = u12 := hu12.out.symm
        rw [← hu12.out] at G11 Q11 V12 B12
        rw [← hp8.out] at Q11
        have SV := Lib.hid (SM.out _ _ G11.out B12.out)
        obtain ⟨f0, f1, f2, f3, f4, f5, f6⟩ := V12.out.cells
        obtain ⟨g0, g1, g2, g3, g4, g5, g6⟩ := Q11.out.cells
        rw [hc12, ← hp8.out]
        replace hc12 := Lib.hid trivial
        replace hu12 := Lib.hid trivial
        replace hp8 := Lib.hid trivial
        go_wp2_with (first
          | (go_at_call 22; ((with_reducible refine SV.out.mono ?_); rintro r w13 ⟨rfl, hb13⟩; have B13 := Lib.hid (below_of B12.out hb13); clear hb13))
          | (go_at_call 10; ((with_reducible refine (AW.out _).mono ?_); rintro r w14 ⟨rfl, hb14⟩; have B14 := Lib.hid (below_of B13.out hb14); clear hb14)))
        go_returns
        exact ⟨rfl, B14.out⟩
    · have Zx7 : Hid (VerB u8.heap.size zeroV noHd (u8.drew.alloc zO)) := Lib.hid (VerB.new zeroV noHd u8.drew)
      have Vx7 := Lib.hid (V80.out.below (below_alloc u8.drew zO))
      have Bx7 := Lib.hid (below_of B80.out (below_alloc u8.drew zO))
      go_simp
      refine hK.out _ _ (Vx7.out.cells) (fun hHeld => ?_)
      try simp only [Act.put, List.setIfInBounds_toArray, List.set_cons_zero, List.set_cons_succ]
      refine held_call (i := 0) (by kernel_rfl) rfl (by rfl) (fun K hK => ?_)
      go_simp
      refine (FA.out _).mono ?_
      rintro r w9 ⟨rfl, hb9⟩
      have Vx70 := Lib.hid (Vx7.out.below hb9)
      have Bx70 := Lib.hid (below_of Bx7.out hb9)
      have Zx70 := Lib.hid (Zx7.out.below hb9)
      clear hb9
      refine hK.out _ _ (Vx70.out.cells) (fun hHeld => ?_)
      try simp only [Act.put, List.setIfInBounds_toArray, List.set_cons_zero, List.set_cons_succ]
      refine held_call (i := 2) (by kernel_rfl) rfl (by rfl) (fun K hK => ?_)
      go_simp
      refine (WA.out _ Bx70.out).mono ?_
      rintro r w10 ⟨hd10, hb10⟩
      obtain ⟨hp, hq, rfl, hE10⟩ := WY.out _ _ hd10
      have Ex702 := Lib.hid hE10
      have Vx702 := Lib.hid (Vx70.out.below hb10)
      have Bx702 := Lib.hid (below_of Bx70.out hb10)
      have Zx702 := Lib.hid (Zx70.out.below hb10)
      clear hd10 hb10 hE10
      refine hK.out _ _ (Vx702.out.cells) (fun hHeld => ?_)
      try simp only [Act.put, List.setIfInBounds_toArray, List.set_cons_zero, List.set_cons_succ]
      refine held_call (i := 3) (by kernel_rfl) rfl (by rfl) (fun K hK => ?_)
      go_simp
      refine (A2.out _ _ _ Ex702.out).mono ?_
      rintro r w11 ⟨⟨G5, rfl, hG5⟩, hb11⟩
      have Gx7023 := Lib.hid hG5
      have Vx7023 := Lib.hid (Vx702.out.below hb11)
      have Bx7023 := Lib.hid (below_of Bx702.out hb11)
      have Ex7023 := Lib.hid (Ex702.out.below hb11)
      have Zx7023 := Lib.hid (Zx702.out.below hb11)
      clear hb11 hG5
      refine hK.out _ _ (Vx7023.out.cells) (fun hHeld => ?_)
      try simp only [Act.put, List.setIfInBounds_toArray, List.set_cons_zero, List.set_cons_succ]
      refine held_take (i := 4) (v := ?_) rfl (by kernel_rfl) (by kernel_rfl) (by kernel_rfl) (fun _ _ _ h => h) (by rfl) (fun w hSw => ?_) (by assumption) ?_; rotate_left 1; focus (((try dsimp only at hSw); first | (go_simp; done) | (go_simp; with_reducible rfl)))
      try simp only [Act.put, List.setIfInBounds_toArray, List.set_cons_zero, List.set_cons_succ]
      refine held_take (i := 5) (v := ?_) rfl (by kernel_rfl) (by kernel_rfl) (by kernel_rfl) (fun _ _ _ h => h) (by rfl) (fun w hSw => ?_) (by assumption) ?_; rotate_left 1; focus (((try dsimp only at hSw); first | (go_simp; done) | (go_simp; with_reducible rfl)))
      try simp only [Act.put, List.setIfInBounds_toArray, List.set_cons_zero, List.set_cons_succ]
      refine held_take (i := 6) (v := ?_) rfl (by kernel_rfl) (by kernel_rfl) (by kernel_rfl) (fun _ _ _ h => h) (by rfl) (fun w hSw => ?_) (by assumption) ?_; rotate_left 1; focus (((try dsimp only at hSw); first | (go_simp; done) | (go_simp; with_reducible rfl)))
      try simp only [Act.put, List.setIfInBounds_toArray, List.set_cons_zero, List.set_cons_succ]
      refine held_call (i := 8) (by kernel_rfl) rfl (by rfl) (fun K hK => ?_)
      obtain ⟨y0, y1, y2, y3, y4, y5, y6⟩ := Zx7023.out.cells
      have zf := Zx7023.out.frozen
      go_simp
      clear y0 y1 y2 y3 y4 y5 y6 zf
      have hne : Hid (w.heap.size < u8.heap.size) := Lib.hid (by have h1 := V80.out.lt; have h2 := B80.out.size; (try simp only [World.size_drew] at h1); omega)
      have Q11 : Hid (VerB u8.heap.size M2 G5 (verPut u8.heap.size M2 G5 w11)) := Lib.hid (Zx7023.out.put M2 G5)
      have V12 : Hid (VerB w.heap.size v H (verPut u8.heap.size M2 G5 w11)) := Lib.hid ((heap_verPut (p := u8.heap.size) (v := M2) (H := G5) (by have := hne.out; omega)).trans Vx7023.out)
      have B12 : Hid (Below w.heap.size w (verPut u8.heap.size M2 G5 w11)) := Lib.hid (below_verPut (p := u8.heap.size) Bx7023.out (by have := hne.out; omega) M2 G5)
      have G11 : Hid (VrAt M2 G5 (verPut u8.heap.size M2 G5 w11)) := Lib.hid (fun i hi => by have m := Gx7023.out i hi; exact ⟨m.sl.keep (fun h0 => heap_verPut (p := u8.heap.size) (v := M2) (H := G5) (Zx7023.out.nems m h0)) (by show _ ≤ (verPut u8.heap.size M2 G5 w11).heap.size; rw [size_verPut]; exact Nat.le_refl _), m.none'⟩)
      refine hK.out _ _ (V12.out.cells) (fun hHeld => ?_)
      try simp only [Act.put, List.setIfInBounds_toArray, List.set_cons_zero, List.set_cons_succ]
      refine held_take (i := 9) (v := ?_) rfl (by kernel_rfl) (by kernel_rfl) (by kernel_rfl) (fun _ _ _ h => h) (by rfl) (fun w hSw => ?_) (by assumption) ?_; rotate_left 1; focus (((try dsimp only at hSw); first | (go_simp; done) | (go_simp; with_reducible rfl)))
      try simp only [Act.put, List.setIfInBounds_toArray, List.set_cons_zero, List.set_cons_succ]
      refine wpAnyH_done (by kernel_rfl) ?_ _
      obtain ⟨p8, hp8⟩ := named u8.heap.size
      obtain ⟨u12, hu12⟩ := named (verPut u8.heap.size M2 G5 w11)
      have hc12 : (((((((w11.setCell ⟨u8.heap.size, 0, none⟩ (.int .u64 (M2.log : Int))).setCell ⟨u8.heap.size, 1, none⟩ (.int .u64 (M2.next : Int))).setCell ⟨u8.heap.size, 2, none⟩ (.int .u64 (M2.seq : Int))).setCell ⟨u8.heap.size, 3, none⟩ (.slice (G5 0).a (G5 0).n (G5 0).c)).setCell ⟨u8.heap.size, 4, none⟩ (.slice (G5 1).a (G5 1).n (G5 1).c)).setCell ⟨u8.heap.size, 5, none⟩ (.slice (G5 2).a (G5 2).n (G5 2).c)).setCell ⟨u8.heap.size, 6, none⟩ (.slice (G5 3).a (G5 3).n (G5 3).c)) = u12 := hu12.out.symm
      rw [← hu12.out] at G11 Q11 V12 B12
      rw [← hp8.out] at Q11
      have SV := Lib.hid (SM.out _ _ G11.out B12.out)
      obtain ⟨f0, f1, f2, f3, f4, f5, f6⟩ := V12.out.cells
      obtain ⟨g0, g1, g2, g3, g4, g5, g6⟩ := Q11.out.cells
      rw [hc12, ← hp8.out]
      replace hc12 := Lib.hid trivial
      replace hu12 := Lib.hid trivial
      replace hp8 := Lib.hid trivial
      go_wp2_with (first
        | (go_at_call 22; ((with_reducible refine SV.out.mono ?_); rintro r w13 ⟨rfl, hb13⟩; have B13 := Lib.hid (below_of B12.out hb13); clear hb13))
        | (go_at_call 10; ((with_reducible refine (AW.out _).mono ?_); rintro r w14 ⟨rfl, hb14⟩; have B14 := Lib.hid (below_of B13.out hb14); clear hb14)))
      go_returns
      exact ⟨rfl, B14.out⟩
--LAW freshetlaw14.EditMakes makes_walk ver:v edit:e
--BEGIN
namespace EditMakesProof
open Go.ChangeShapes Go.WideShapes Go.ChangeAt Go.RowKit
open Go.ChangeMaps (open_string shut_string)
theorem own : ownKnob Try.prog.godebug = none := by kernel_rfl
set_option maxRecDepth 100000 in
theorem lifted (os : Os) (started : os.Started) (H : Type) (enc : TypeId × Value → H) :
    ReturnsInHanded {} Try.checked os 6 .any (Rows.editMakesSpec.pre6 enc Try.prog Try.f6 Rows.editMakesRow.domain false) (Rows.editMakesSpec.post enc Try.prog Try.f6 false true false false) := by
  refine returnsInHanded_of_change_sized (C := Try.checked) own started (by kernel_rfl) Try.func6
    (ChangeSpec.witness6 (enc := enc) (C := Try.checked) false ⟨#[], #[.agg #[.int .u64 0, .int .u64 0, .int .u64 0, .slice none 0 0, .slice none 0 0, .slice none 0 0, .slice none 0 0], .agg #[.int .u64 0, .int .u64 0, .int .u64 0, .slice none 0 0, .slice none 0 0]], []⟩ 8 (by kernel_rfl) (by kernel_rfl) (by kernel_rfl) (by kernel_rfl)) ?_
  intro W base args ds gs before hval0 hW _ hsz _
  have hval : ∀ (j : Nat) t v, Try.f6.params[j]? = some t → args[j]? = some v → Value.okWide Try.prog W .any base t v := hval0
  have hW' := hW
  obtain ⟨p, q, hA0, hV, rfl, hfz, hnd⟩ := hW
  have hA : DataW.TrodAll enc Try.prog W 0 (fun _ => true) true Try.f6.params.toList args.toList ds p := hA0
  rw [Try.params6] at hA hval hsz
  obtain ⟨v0, vs0, d0, ds0, p0, q0, hargs, rfl, rfl, h0, r0⟩ := trodAll_cons hA
  obtain ⟨v1, vs1, d1, ds1, p1, q1, rfl, rfl, rfl, h1, r1⟩ := trodAll_cons r0
  obtain ⟨rfl, rfl, rfl⟩ := trodAll_nil r1
  obtain rfl : args = #[v0, v1] := by cases args; simp_all
  obtain ⟨rfl, rfl⟩ := trodVars_none hV
  have k0 := h0
  obtain ⟨v, hh0, rfl, ia0, im0⟩ := open_ver (hval 0 26 v0 rfl rfl) h0 hsz (j := 0) rfl rfl
  have lt0 : ∀ x ∈ p0, x.block < W.heap.size := fun x hx => hW'.lt x (by simp only [List.mem_append]; simp [hx])
  have k1 := h1
  obtain ⟨e, hg1, ha1, rfl, ia1, im1⟩ := open_ed (hval 1 30 v1 rfl rfl) h1 hsz (j := 1) rfl rfl
  have lt1 : ∀ x ∈ p1, x.block < W.heap.size := fun x hx => hW'.lt x (by simp only [List.mem_append]; simp [hx])
  clear hA0 hval0
  simp only [List.append_nil] at hW'
  refine (makes_walk v hh0 e hg1 ha1 W ia0 im0 ia1 im1).mono fun e W' ⟨he, hg⟩ => ?_
  subst he
  exact ⟨_, rfl, _, _, _, [], _, [], hW', (trodAll_cons_mk (shut_bool Try.underlying4 _) trodAll_mk0), (trodAll_cons_mk (Below.trod laid_out (by kernel_rfl) (of_decide_eq_true (by kernel_rfl)) k0 hg lt0) (trodAll_cons_mk (Below.trod laid_out (by kernel_rfl) (of_decide_eq_true (by kernel_rfl)) k1 hg lt1) trodAll_mk0)), rfl, hg.frame _, fun h => by cases h⟩
theorem holds : Rows.EditMakesSaid :=
  OpenClaim.holds_of_wide 6 Try.f6 rfl rfl rfl rfl rfl rfl rfl ⟨rfl, rfl, rfl, rfl, rfl⟩ rfl rfl rfl rfl rfl (by kernel_rfl) Try.func6 (by kernel_rfl)
    (of_decide_eq_true (by kernel_rfl)) (by unfold Func.isWrapper; first | (rw [if_pos (by decide +kernel)]; kernel_rfl) | (rw [if_neg (by decide +kernel)]; exact ⟨rfl, rfl⟩))
    (fun os started H enc _ => lifted os started H enc)
end EditMakesProof
--END
end Go.Proofs.Ythkdijapmamdbaa
