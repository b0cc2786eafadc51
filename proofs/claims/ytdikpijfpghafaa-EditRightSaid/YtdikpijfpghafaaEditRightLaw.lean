/-
  EditRight: of any versions it is told, as the document says, whether they are right, whether they are the same, and how great a level is. Condition: at most 80 tables a level (the law's own).
-/
import Derived.Test.YtdikpijfpghafaaEditAwake
import Derived.Test.YtdikpijfpghafaaEditRefRight2
namespace Go.Proofs.Ytdikpijfpghafaa
set_option maxRecDepth 100000
open Go.RowKit
theorem same_self (v : Vr) : SameV v v := ⟨rfl, rfl, rfl, fun _ _ => rfl⟩
theorem nums_in {v : Vr} (h : VrIn v) : NumsIn v := fun i hi x hx => (h.2.2.2 i hi x hx).1
set_option maxRecDepth 100000 in
set_option maxHeartbeats 16000000 in
theorem right_walk (x : Vr) (H : Nat → Hd) (y : Vr) (K : Nat → Hd) (lev : Int) (w : World) (hx : VrAt x H w) (ix : VrIn x) (hy : VrAt y K w) (iy : VrIn y) :
    Calls Try.prog 3 #[verV x H, verV y K, .int .i64 lev] w fun e w' => e = .returned (.bool true) ∧ Below w.heap.size w w' := by
  have AW := Lib.hid (fun u => eawake_any u)
  have MX := Lib.hid (fun u => many_any x H u)
  have MY := Lib.hid (fun u => many_any y K u)
  have zs : Hid ((w.alloc (verO x H)).heap.size = w.heap.size + 1) := Lib.hid (World.size_alloc _ _)
  have V1 : Hid (VerB w.heap.size x H ((w.alloc (verO x H)).alloc (verO y K))) := Lib.hid ((VerB.new x H w).below (below_alloc _ _))
  have V2 : Hid (VerB (w.heap.size + 1) y K ((w.alloc (verO x H)).alloc (verO y K))) := Lib.hid (by have := VerB.new y K (w.alloc (verO x H)); rw [zs.out] at this; exact this)
  have B0 : Hid (Below w.heap.size w ((w.alloc (verO x H)).alloc (verO y K))) := Lib.hid ((below_alloc w _).alloc (by simp) _)
  obtain ⟨T1, hT1⟩ := named (tf (RightP x))
  obtain ⟨T2, hT2⟩ := named (tf (SameV x y))
  have RX := Lib.hid (fun u (hu : Below w.heap.size w u) => right_any (hx.below hu) (nums_in ix))
  have RR := Lib.hid (fun u (hu : Below w.heap.size w u) => rright_any (hx.below hu) (nums_in ix))
  have SX := Lib.hid (fun u (hu : Below w.heap.size w u) => same_any (hx.below hu) (hy.below hu))
  have SR := Lib.hid (fun u (hu : Below w.heap.size w u) => rsame_any (hx.below hu) (hy.below hu))
  have SS := Lib.hid (fun u (hu : Below w.heap.size w u) => same_any (hx.below hu) (hx.below hu))
  rw [tf_true (same_self x)] at SS
  rw [← hT1.out] at RX RR
  rw [← hT2.out] at SX SR
  have ZX := Lib.hid (fun u (hu : Below w.heap.size w u) => size_any (hx.below hu) lev)
  have ZR := Lib.hid (fun u (hu : Below w.heap.size w u) => rsize_any (hx.below hu) lev)
  have F1 := Lib.hid (fun u => first_any u)
  have F2 := Lib.hid (fun u => rfirst_any u)
  have SF := Lib.hid (fun u => rsame_any (first_at u) (first_at u))
  rw [tf_true (same_self firstV)] at SF
  replace hT1 := Lib.hid trivial
  replace hT2 := Lib.hid trivial
  obtain ⟨v0, v1, v2, v3, v4, v5, v6⟩ := V1.out.cells
  obtain ⟨y0, y1, y2, y3, y4, y5, y6⟩ := V2.out.cells
  by_cases m1 : FewP H
  rotate_left 1
  · rw [tf_true m1] at MX
    clear m1 hx ix hy iy
    go_enter Try.func3, Try.ntmps3
    go_wp2_with (first
      | (go_at_call 11; ((with_reducible refine (MX.out _).mono ?_); rintro e w1 ⟨rfl, hb1⟩; have B1 := Lib.hid (below_of B0.out hb1); clear hb1))
      | (go_at_call 12; ((with_reducible refine (AW.out _).mono ?_); rintro e w2 ⟨rfl, hb2⟩; have B2 := Lib.hid (below_of B1.out hb2); clear hb2)))
    go_returns
    exact ⟨rfl, B2.out⟩
  rw [tf_false (fun h => h m1)] at MX
  by_cases m2 : FewP K
  rotate_left 1
  · rw [tf_true m2] at MY
    clear m1 m2 hx ix hy iy
    go_enter Try.func3, Try.ntmps3
    go_wp2_with (first
      | (go_at_call 11; ((with_reducible refine (MX.out _).mono ?_); rintro e w1 ⟨rfl, hb1⟩; have B1 := Lib.hid (below_of B0.out hb1); obtain ⟨y0, y1, y2, y3, y4, y5, y6⟩ := (V2.out.below hb1).cells; clear hb1))
      | (go_at_call 11; ((with_reducible refine (MY.out _).mono ?_); rintro e w1' ⟨rfl, hb1⟩; have B1' := Lib.hid (below_of B1.out hb1); clear hb1))
      | (go_at_call 12; ((with_reducible refine (AW.out _).mono ?_); rintro e w2 ⟨rfl, hb2⟩; have B2 := Lib.hid (below_of B1'.out hb2); clear hb2)))
    go_returns
    exact ⟨rfl, B2.out⟩
  rw [tf_false (fun h => h m2)] at MY
  have hSB : Hid (∀ u k : World, Below u.heap.size u k → ((VerB w.heap.size x H u ∧ VerB (w.heap.size + 1) y K u) ∧ (u.cell? ⟨w.heap.size, 0, none⟩ = some (.int .u64 (x.log : Int)) ∧ u.cell? ⟨w.heap.size, 1, none⟩ = some (.int .u64 (x.next : Int)) ∧ u.cell? ⟨w.heap.size, 2, none⟩ = some (.int .u64 (x.seq : Int)) ∧ u.cell? ⟨w.heap.size, 3, none⟩ = some (.slice (H 0).a (H 0).n (H 0).c) ∧ u.cell? ⟨w.heap.size, 4, none⟩ = some (.slice (H 1).a (H 1).n (H 1).c) ∧ u.cell? ⟨w.heap.size, 5, none⟩ = some (.slice (H 2).a (H 2).n (H 2).c) ∧ u.cell? ⟨w.heap.size, 6, none⟩ = some (.slice (H 3).a (H 3).n (H 3).c)) ∧ (u.cell? ⟨w.heap.size + 1, 0, none⟩ = some (.int .u64 (y.log : Int)) ∧ u.cell? ⟨w.heap.size + 1, 1, none⟩ = some (.int .u64 (y.next : Int)) ∧ u.cell? ⟨w.heap.size + 1, 2, none⟩ = some (.int .u64 (y.seq : Int)) ∧ u.cell? ⟨w.heap.size + 1, 3, none⟩ = some (.slice (K 0).a (K 0).n (K 0).c) ∧ u.cell? ⟨w.heap.size + 1, 4, none⟩ = some (.slice (K 1).a (K 1).n (K 1).c) ∧ u.cell? ⟨w.heap.size + 1, 5, none⟩ = some (.slice (K 2).a (K 2).n (K 2).c) ∧ u.cell? ⟨w.heap.size + 1, 6, none⟩ = some (.slice (K 3).a (K 3).n (K 3).c))) → (VerB w.heap.size x H k ∧ VerB (w.heap.size + 1) y K k) ∧ (k.cell? ⟨w.heap.size, 0, none⟩ = some (.int .u64 (x.log : Int)) ∧ k.cell? ⟨w.heap.size, 1, none⟩ = some (.int .u64 (x.next : Int)) ∧ k.cell? ⟨w.heap.size, 2, none⟩ = some (.int .u64 (x.seq : Int)) ∧ k.cell? ⟨w.heap.size, 3, none⟩ = some (.slice (H 0).a (H 0).n (H 0).c) ∧ k.cell? ⟨w.heap.size, 4, none⟩ = some (.slice (H 1).a (H 1).n (H 1).c) ∧ k.cell? ⟨w.heap.size, 5, none⟩ = some (.slice (H 2).a (H 2).n (H 2).c) ∧ k.cell? ⟨w.heap.size, 6, none⟩ = some (.slice (H 3).a (H 3).n (H 3).c)) ∧ (k.cell? ⟨w.heap.size + 1, 0, none⟩ = some (.int .u64 (y.log : Int)) ∧ k.cell? ⟨w.heap.size + 1, 1, none⟩ = some (.int .u64 (y.next : Int)) ∧ k.cell? ⟨w.heap.size + 1, 2, none⟩ = some (.int .u64 (y.seq : Int)) ∧ k.cell? ⟨w.heap.size + 1, 3, none⟩ = some (.slice (K 0).a (K 0).n (K 0).c) ∧ k.cell? ⟨w.heap.size + 1, 4, none⟩ = some (.slice (K 1).a (K 1).n (K 1).c) ∧ k.cell? ⟨w.heap.size + 1, 5, none⟩ = some (.slice (K 2).a (K 2).n (K 2).c) ∧ k.cell? ⟨w.heap.size + 1, 6, none⟩ = some (.slice (K 3).a (K 3).n (K 3).c))) := Lib.hid (fun u k hk ⟨⟨hv, hz⟩, _, _⟩ => ⟨⟨hv.below hk, hz.below hk⟩, (hv.below hk).cells, (hz.below hk).cells⟩)
  clear m1 m2 hx ix hy iy
  go_enter Try.func3, Try.ntmps3
  go_upto_region 3 with (first
    | (go_at_call 11; ((with_reducible refine (MX.out _).mono ?_); rintro e w1 ⟨rfl, hb1⟩; have C1 := Lib.hid (below_of B0.out hb1); have V3 := Lib.hid (V1.out.below hb1); have V4 := Lib.hid (V2.out.below hb1); obtain ⟨y0, y1, y2, y3, y4, y5, y6⟩ := V4.out.cells; clear hb1))
    | (go_at_call 11; ((with_reducible refine (MY.out _).mono ?_); rintro e w2 ⟨rfl, hb1⟩; have C2 := Lib.hid (below_of C1.out hb1); have V5 := Lib.hid (V3.out.below hb1); have V6 := Lib.hid (V4.out.below hb1); clear hb1)))
  have B0d := Lib.hid C2.out.drew
  have S0 : Hid ((VerB w.heap.size x H w2.drew ∧ VerB (w.heap.size + 1) y K w2.drew) ∧ (w2.drew.cell? ⟨w.heap.size, 0, none⟩ = some (.int .u64 (x.log : Int)) ∧ w2.drew.cell? ⟨w.heap.size, 1, none⟩ = some (.int .u64 (x.next : Int)) ∧ w2.drew.cell? ⟨w.heap.size, 2, none⟩ = some (.int .u64 (x.seq : Int)) ∧ w2.drew.cell? ⟨w.heap.size, 3, none⟩ = some (.slice (H 0).a (H 0).n (H 0).c) ∧ w2.drew.cell? ⟨w.heap.size, 4, none⟩ = some (.slice (H 1).a (H 1).n (H 1).c) ∧ w2.drew.cell? ⟨w.heap.size, 5, none⟩ = some (.slice (H 2).a (H 2).n (H 2).c) ∧ w2.drew.cell? ⟨w.heap.size, 6, none⟩ = some (.slice (H 3).a (H 3).n (H 3).c)) ∧ (w2.drew.cell? ⟨w.heap.size + 1, 0, none⟩ = some (.int .u64 (y.log : Int)) ∧ w2.drew.cell? ⟨w.heap.size + 1, 1, none⟩ = some (.int .u64 (y.next : Int)) ∧ w2.drew.cell? ⟨w.heap.size + 1, 2, none⟩ = some (.int .u64 (y.seq : Int)) ∧ w2.drew.cell? ⟨w.heap.size + 1, 3, none⟩ = some (.slice (K 0).a (K 0).n (K 0).c) ∧ w2.drew.cell? ⟨w.heap.size + 1, 4, none⟩ = some (.slice (K 1).a (K 1).n (K 1).c) ∧ w2.drew.cell? ⟨w.heap.size + 1, 5, none⟩ = some (.slice (K 2).a (K 2).n (K 2).c) ∧ w2.drew.cell? ⟨w.heap.size + 1, 6, none⟩ = some (.slice (K 3).a (K 3).n (K 3).c))) := Lib.hid ⟨⟨V5.out.below (Below.refl _ _).drew, V6.out.below (Below.refl _ _).drew⟩, V5.out.cells, V6.out.cells⟩
  refine wp_region_held_drew (S := (fun u => (VerB w.heap.size x H u ∧ VerB (w.heap.size + 1) y K u) ∧ (u.cell? ⟨w.heap.size, 0, none⟩ = some (.int .u64 (x.log : Int)) ∧ u.cell? ⟨w.heap.size, 1, none⟩ = some (.int .u64 (x.next : Int)) ∧ u.cell? ⟨w.heap.size, 2, none⟩ = some (.int .u64 (x.seq : Int)) ∧ u.cell? ⟨w.heap.size, 3, none⟩ = some (.slice (H 0).a (H 0).n (H 0).c) ∧ u.cell? ⟨w.heap.size, 4, none⟩ = some (.slice (H 1).a (H 1).n (H 1).c) ∧ u.cell? ⟨w.heap.size, 5, none⟩ = some (.slice (H 2).a (H 2).n (H 2).c) ∧ u.cell? ⟨w.heap.size, 6, none⟩ = some (.slice (H 3).a (H 3).n (H 3).c)) ∧ (u.cell? ⟨w.heap.size + 1, 0, none⟩ = some (.int .u64 (y.log : Int)) ∧ u.cell? ⟨w.heap.size + 1, 1, none⟩ = some (.int .u64 (y.next : Int)) ∧ u.cell? ⟨w.heap.size + 1, 2, none⟩ = some (.int .u64 (y.seq : Int)) ∧ u.cell? ⟨w.heap.size + 1, 3, none⟩ = some (.slice (K 0).a (K 0).n (K 0).c) ∧ u.cell? ⟨w.heap.size + 1, 4, none⟩ = some (.slice (K 1).a (K 1).n (K 1).c) ∧ u.cell? ⟨w.heap.size + 1, 5, none⟩ = some (.slice (K 2).a (K 2).n (K 2).c) ∧ u.cell? ⟨w.heap.size + 1, 6, none⟩ = some (.slice (K 3).a (K 3).n (K 3).c)))) (by kernel_rfl) (S0.out) (fun hHeld => ?_)
  refine held_take (i := 0) (v := ?_) rfl (by kernel_rfl) (by kernel_rfl) (by kernel_rfl) (fun _ _ _ h => h) (by rfl) (fun w hSw => ?_) (by assumption) ?_; rotate_left 1; focus (((try dsimp only at hSw); first | (go_simp; done) | (go_simp; with_reducible rfl)))
  try simp only [Act.put, List.setIfInBounds_toArray, List.set_cons_zero, List.set_cons_succ]
  refine held_take (i := 2) (v := ?_) rfl (by kernel_rfl) (by kernel_rfl) (by kernel_rfl) (fun _ _ _ h => h) (by rfl) (fun w hSw => ?_) (by assumption) ?_; rotate_left 1; focus (((try dsimp only at hSw); first | (go_simp; done) | (go_simp; with_reducible rfl)))
  try simp only [Act.put, List.setIfInBounds_toArray, List.set_cons_zero, List.set_cons_succ]
  refine held_call (i := 1) (by kernel_rfl) rfl (by rfl) (fun K hK => ?_)
  go_simp
  (go_at_call 13; ((with_reducible refine (RX.out _ B0d.out).mono ?_); rintro e w1 ⟨rfl, hb1⟩))
  have B1 := Lib.hid (below_of B0d.out hb1)
  refine hK.out _ _ (hSB.out _ _ hb1 hHeld) (fun hHeld => ?_)
  try simp only [Act.put, List.setIfInBounds_toArray, List.set_cons_zero, List.set_cons_succ]
  refine held_call (i := 3) (by kernel_rfl) rfl (by rfl) (fun K hK => ?_)
  go_simp
  (go_at_call 14; ((with_reducible refine (RR.out _ B1.out).mono ?_); rintro e w2 ⟨rfl, hb2⟩))
  have B2 := Lib.hid (below_of B1.out hb2)
  refine hK.out _ _ (hSB.out _ _ hb2 hHeld) (fun hHeld => ?_)
  try simp only [Act.put, List.setIfInBounds_toArray, List.set_cons_zero, List.set_cons_succ]
  refine held_take (i := 4) (v := ?_) rfl (by kernel_rfl) (by kernel_rfl) (by kernel_rfl) (fun _ _ _ h => h) (by rfl) (fun w hSw => ?_) (by assumption) ?_; rotate_left 1; focus (((try dsimp only at hSw); first | (go_simp; done) | (go_simp; with_reducible rfl)))
  try simp only [Act.put, List.setIfInBounds_toArray, List.set_cons_zero, List.set_cons_succ]
  refine held_take (i := 5) (v := ?_) rfl (by kernel_rfl) (by kernel_rfl) (by kernel_rfl) (fun _ _ _ h => h) (by rfl) (fun w hSw => ?_) (by assumption) ?_; rotate_left 1; focus (((try dsimp only at hSw); first | (go_simp; done) | (go_simp; with_reducible rfl)))
  try simp only [Act.put, List.setIfInBounds_toArray, List.set_cons_zero, List.set_cons_succ]
  refine held_take (i := 6) (v := ?_) rfl (by kernel_rfl) (by kernel_rfl) (by kernel_rfl) (fun _ _ _ h => h) (by rfl) (fun w hSw => ?_) (by assumption) ?_; rotate_left 1; focus (((try dsimp only at hSw); first | (go_simp; done) | (go_simp; with_reducible rfl)))
  try simp only [Act.put, List.setIfInBounds_toArray, List.set_cons_zero, List.set_cons_succ]
  refine held_take (i := 7) (v := ?_) rfl (by kernel_rfl) (by kernel_rfl) (by kernel_rfl) (fun _ _ _ h => h) (by rfl) (fun w hSw => ?_) (by assumption) ?_; rotate_left 1; focus (((try dsimp only at hSw); first | (go_simp; done) | (go_simp; with_reducible rfl)))
  try simp only [Act.put, List.setIfInBounds_toArray, List.set_cons_zero, List.set_cons_succ]
  refine held_take (i := 9) (v := ?_) rfl (by kernel_rfl) (by kernel_rfl) (by kernel_rfl) (fun _ _ _ h => h) (by rfl) (fun w hSw => ?_) (by assumption) ?_; rotate_left 1; focus (((try dsimp only at hSw); first | (go_simp; done) | (go_simp; with_reducible rfl)))
  try simp only [Act.put, List.setIfInBounds_toArray, List.set_cons_zero, List.set_cons_succ]
  refine held_take (i := 10) (v := ?_) rfl (by kernel_rfl) (by kernel_rfl) (by kernel_rfl) (fun _ _ _ h => h) (by rfl) (fun w hSw => ?_) (by assumption) ?_; rotate_left 1; focus (((try dsimp only at hSw); first | (go_simp; done) | (go_simp; with_reducible rfl)))
  try simp only [Act.put, List.setIfInBounds_toArray, List.set_cons_zero, List.set_cons_succ]
  refine held_call (i := 8) (by kernel_rfl) rfl (by rfl) (fun K hK => ?_)
  go_simp
  (go_at_call 15; ((with_reducible refine (SX.out _ B2.out).mono ?_); rintro e w3 ⟨rfl, hb3⟩))
  have B3 := Lib.hid (below_of B2.out hb3)
  refine hK.out _ _ (hSB.out _ _ hb3 hHeld) (fun hHeld => ?_)
  try simp only [Act.put, List.setIfInBounds_toArray, List.set_cons_zero, List.set_cons_succ]
  refine held_call (i := 11) (by kernel_rfl) rfl (by rfl) (fun K hK => ?_)
  go_simp
  (go_at_call 16; ((with_reducible refine (SR.out _ B3.out).mono ?_); rintro e w4 ⟨rfl, hb4⟩))
  have B4 := Lib.hid (below_of B3.out hb4)
  refine hK.out _ _ (hSB.out _ _ hb4 hHeld) (fun hHeld => ?_)
  try simp only [Act.put, List.setIfInBounds_toArray, List.set_cons_zero, List.set_cons_succ]
  refine held_take (i := 12) (v := ?_) rfl (by kernel_rfl) (by kernel_rfl) (by kernel_rfl) (fun _ _ _ h => h) (by rfl) (fun w hSw => ?_) (by assumption) ?_; rotate_left 1; focus (((try dsimp only at hSw); first | (go_simp; done) | (go_simp; with_reducible rfl)))
  try simp only [Act.put, List.setIfInBounds_toArray, List.set_cons_zero, List.set_cons_succ]
  refine held_take (i := 13) (v := ?_) rfl (by kernel_rfl) (by kernel_rfl) (by kernel_rfl) (fun _ _ _ h => h) (by rfl) (fun w hSw => ?_) (by assumption) ?_; rotate_left 1; focus (((try dsimp only at hSw); first | (go_simp; done) | (go_simp; with_reducible rfl)))
  try simp only [Act.put, List.setIfInBounds_toArray, List.set_cons_zero, List.set_cons_succ]
  refine held_take (i := 14) (v := ?_) rfl (by kernel_rfl) (by kernel_rfl) (by kernel_rfl) (fun _ _ _ h => h) (by rfl) (fun w hSw => ?_) (by assumption) ?_; rotate_left 1; focus (((try dsimp only at hSw); first | (go_simp; done) | (go_simp; with_reducible rfl)))
  try simp only [Act.put, List.setIfInBounds_toArray, List.set_cons_zero, List.set_cons_succ]
  refine held_take (i := 15) (v := ?_) rfl (by kernel_rfl) (by kernel_rfl) (by kernel_rfl) (fun _ _ _ h => h) (by rfl) (fun w hSw => ?_) (by assumption) ?_; rotate_left 1; focus (((try dsimp only at hSw); first | (go_simp; done) | (go_simp; with_reducible rfl)))
  try simp only [Act.put, List.setIfInBounds_toArray, List.set_cons_zero, List.set_cons_succ]
  refine held_take (i := 16) (v := ?_) rfl (by kernel_rfl) (by kernel_rfl) (by kernel_rfl) (fun _ _ _ h => h) (by rfl) (fun w hSw => ?_) (by assumption) ?_; rotate_left 1; focus (((try dsimp only at hSw); first | (go_simp; done) | (go_simp; with_reducible rfl)))
  try simp only [Act.put, List.setIfInBounds_toArray, List.set_cons_zero, List.set_cons_succ]
  refine held_call (i := 17) (by kernel_rfl) rfl (by rfl) (fun K hK => ?_)
  go_simp
  (go_at_call 15; ((with_reducible refine (SS.out _ B4.out).mono ?_); rintro e w5 ⟨rfl, hb5⟩))
  have B5 := Lib.hid (below_of B4.out hb5)
  refine hK.out _ _ (hSB.out _ _ hb5 hHeld) (fun hHeld => ?_)
  try simp only [Act.put, List.setIfInBounds_toArray, List.set_cons_zero, List.set_cons_succ]
  refine held_take (i := 18) (v := ?_) rfl (by kernel_rfl) (by kernel_rfl) (by kernel_rfl) (fun _ _ _ h => h) (by rfl) (fun w hSw => ?_) (by assumption) ?_; rotate_left 1; focus (((try dsimp only at hSw); first | (go_simp; done) | (go_simp; with_reducible rfl)))
  try simp only [Act.put, List.setIfInBounds_toArray, List.set_cons_zero, List.set_cons_succ]
  refine held_take (i := 19) (v := ?_) rfl (by kernel_rfl) (by kernel_rfl) (by kernel_rfl) (fun _ _ _ h => h) (by rfl) (fun w hSw => ?_) (by assumption) ?_; rotate_left 1; focus (((try dsimp only at hSw); first | (go_simp; done) | (go_simp; with_reducible rfl)))
  try simp only [Act.put, List.setIfInBounds_toArray, List.set_cons_zero, List.set_cons_succ]
  refine held_take (i := 20) (v := ?_) rfl (by kernel_rfl) (by kernel_rfl) (by kernel_rfl) (fun _ _ _ h => h) (by rfl) (fun w hSw => ?_) (by assumption) ?_; rotate_left 1; focus (((try dsimp only at hSw); first | (go_simp; done) | (go_simp; with_reducible rfl)))
  try simp only [Act.put, List.setIfInBounds_toArray, List.set_cons_zero, List.set_cons_succ]
  refine held_take (i := 21) (v := ?_) rfl (by kernel_rfl) (by kernel_rfl) (by kernel_rfl) (fun _ _ _ h => h) (by rfl) (fun w hSw => ?_) (by assumption) ?_; rotate_left 1; focus (((try dsimp only at hSw); first | (go_simp; done) | (go_simp; with_reducible rfl)))
  try simp only [Act.put, List.setIfInBounds_toArray, List.set_cons_zero, List.set_cons_succ]
  refine held_take (i := 23) (v := ?_) rfl (by kernel_rfl) (by kernel_rfl) (by kernel_rfl) (fun _ _ _ h => h) (by rfl) (fun w hSw => ?_) (by assumption) ?_; rotate_left 1; focus (((try dsimp only at hSw); first | (go_simp; done) | (go_simp; with_reducible rfl)))
  try simp only [Act.put, List.setIfInBounds_toArray, List.set_cons_zero, List.set_cons_succ]
  refine held_take (i := 24) (v := ?_) rfl (by kernel_rfl) (by kernel_rfl) (by kernel_rfl) (fun _ _ _ h => h) (by rfl) (fun w hSw => ?_) (by assumption) ?_; rotate_left 1; focus (((try dsimp only at hSw); first | (go_simp; done) | (go_simp; with_reducible rfl)))
  try simp only [Act.put, List.setIfInBounds_toArray, List.set_cons_zero, List.set_cons_succ]
  refine held_call (i := 22) (by kernel_rfl) rfl (by rfl) (fun K hK => ?_)
  go_simp
  (go_at_call 17; ((with_reducible refine (ZX.out _ B5.out).mono ?_); rintro e w6 ⟨rfl, hb6⟩))
  have B6 := Lib.hid (below_of B5.out hb6)
  refine hK.out _ _ (hSB.out _ _ hb6 hHeld) (fun hHeld => ?_)
  try simp only [Act.put, List.setIfInBounds_toArray, List.set_cons_zero, List.set_cons_succ]
  refine held_call (i := 25) (by kernel_rfl) rfl (by rfl) (fun K hK => ?_)
  go_simp
  (go_at_call 18; ((with_reducible refine (ZR.out _ B6.out).mono ?_); rintro e w7 ⟨rfl, hb7⟩))
  have B7 := Lib.hid (below_of B6.out hb7)
  refine hK.out _ _ (hSB.out _ _ hb7 hHeld) (fun hHeld => ?_)
  try simp only [Act.put, List.setIfInBounds_toArray, List.set_cons_zero, List.set_cons_succ]
  refine held_take (i := 26) (v := ?_) rfl (by kernel_rfl) (by kernel_rfl) (by kernel_rfl) (fun _ _ _ h => h) (by rfl) (fun w hSw => ?_) (by assumption) ?_; rotate_left 1; focus (((try dsimp only at hSw); first | (go_simp; done) | (go_simp; with_reducible rfl)))
  try simp only [Act.put, List.setIfInBounds_toArray, List.set_cons_zero, List.set_cons_succ]
  refine held_take (i := 27) (v := ?_) rfl (by kernel_rfl) (by kernel_rfl) (by kernel_rfl) (fun _ _ _ h => h) (by rfl) (fun w hSw => ?_) (by assumption) ?_; rotate_left 1; focus (((try dsimp only at hSw); first | (go_simp; done) | (go_simp; with_reducible rfl)))
  try simp only [Act.put, List.setIfInBounds_toArray, List.set_cons_zero, List.set_cons_succ]
  refine held_take (i := 28) (v := ?_) rfl (by kernel_rfl) (by kernel_rfl) (by kernel_rfl) (fun _ _ _ h => h) (by rfl) (fun w hSw => ?_) (by assumption) ?_; rotate_left 1; focus (((try dsimp only at hSw); first | (go_simp; done) | (go_simp; with_reducible rfl)))
  try simp only [Act.put, List.setIfInBounds_toArray, List.set_cons_zero, List.set_cons_succ]
  refine held_call (i := 29) (by kernel_rfl) rfl (by rfl) (fun K hK => ?_)
  go_simp
  (go_at_call 19; ((with_reducible refine (F1.out _).mono ?_); rintro e w8 ⟨rfl, hb8⟩))
  have B8 := Lib.hid (below_of B7.out hb8)
  refine hK.out _ _ (hSB.out _ _ hb8 hHeld) (fun hHeld => ?_)
  try simp only [Act.put, List.setIfInBounds_toArray, List.set_cons_zero, List.set_cons_succ]
  refine held_call (i := 30) (by kernel_rfl) rfl (by rfl) (fun K hK => ?_)
  go_simp
  (go_at_call 20; ((with_reducible refine (F2.out _).mono ?_); rintro e w9 ⟨rfl, hb9⟩))
  have B9 := Lib.hid (below_of B8.out hb9)
  refine hK.out _ _ (hSB.out _ _ hb9 hHeld) (fun hHeld => ?_)
  try simp only [Act.put, List.setIfInBounds_toArray, List.set_cons_zero, List.set_cons_succ]
  refine held_call (i := 31) (by kernel_rfl) rfl (by rfl) (fun K hK => ?_)
  go_simp
  (go_at_call 16; ((with_reducible refine (SF.out _).mono ?_); rintro e w10 ⟨rfl, hb10⟩))
  have B10 := Lib.hid (below_of B9.out hb10)
  refine hK.out _ _ (hSB.out _ _ hb10 hHeld) (fun hHeld => ?_)
  try simp only [Act.put, List.setIfInBounds_toArray, List.set_cons_zero, List.set_cons_succ]
  refine held_take (i := 32) (v := ?_) rfl (by kernel_rfl) (by kernel_rfl) (by kernel_rfl) (fun _ _ _ h => h) (by rfl) (fun w hSw => ?_) (by assumption) ?_; rotate_left 1; focus (((try dsimp only at hSw); first | (go_simp; done) | (go_simp; with_reducible rfl)))
  try simp only [Act.put, List.setIfInBounds_toArray, List.set_cons_zero, List.set_cons_succ]
  refine held_take (i := 33) (v := ?_) rfl (by kernel_rfl) (by kernel_rfl) (by kernel_rfl) (fun _ _ _ h => h) (by rfl) (fun w hSw => ?_) (by assumption) ?_; rotate_left 1; focus (((try dsimp only at hSw); first | (go_simp; done) | (go_simp; with_reducible rfl)))
  try simp only [Act.put, List.setIfInBounds_toArray, List.set_cons_zero, List.set_cons_succ]
  refine held_call (i := 34) (by kernel_rfl) rfl (by rfl) (fun K hK => ?_)
  go_simp
  (go_at_call 12; ((with_reducible refine (AW.out _).mono ?_); rintro e w11 ⟨rfl, hb11⟩))
  have B11 := Lib.hid (below_of B10.out hb11)
  refine hK.out _ _ (hSB.out _ _ hb11 hHeld) (fun hHeld => ?_)
  try simp only [Act.put, List.setIfInBounds_toArray, List.set_cons_zero, List.set_cons_succ]
  refine held_take (i := 35) (v := ?_) rfl (by kernel_rfl) (by kernel_rfl) (by kernel_rfl) (fun _ _ _ h => h) (by rfl) (fun w hSw => ?_) (by assumption) ?_; rotate_left 1; focus (((try dsimp only at hSw); first | (go_simp; done) | (go_simp; with_reducible rfl)))
  try simp only [Act.put, List.setIfInBounds_toArray, List.set_cons_zero, List.set_cons_succ]
  refine held_take (i := 36) (v := ?_) rfl (by kernel_rfl) (by kernel_rfl) (by kernel_rfl) (fun _ _ _ h => h) (by rfl) (fun w hSw => ?_) (by assumption) ?_; rotate_left 1; focus (((try dsimp only at hSw); first | (go_simp; done) | (go_simp; with_reducible rfl)))
  try simp only [Act.put, List.setIfInBounds_toArray, List.set_cons_zero, List.set_cons_succ]
  refine wpAnyH_done (by kernel_rfl) ?_ _
  go_wp2_with fail
  go_returns
  exact ⟨rfl, B11.out⟩
--LAW freshetlaw14.EditRight right_walk ver:xa ver:xb rawint:lev
--BEGIN
namespace EditRightProof
open Go.ChangeShapes Go.WideShapes Go.ChangeAt Go.RowKit
open Go.ChangeMaps (open_string shut_string)
theorem own : ownKnob Try.prog.godebug = none := by kernel_rfl
set_option maxRecDepth 100000 in
theorem lifted (os : Os) (started : os.Started) (H : Type) (enc : TypeId × Value → H) :
    ReturnsInHanded {} Try.checked os 3 .any (Rows.editRightSpec.pre6 enc Try.prog Try.f3 Rows.editRightRow.domain false) (Rows.editRightSpec.post enc Try.prog Try.f3 false true false false) := by
  refine returnsInHanded_of_change_sized (C := Try.checked) own started (by kernel_rfl) Try.func3
    (ChangeSpec.witness6 (enc := enc) (C := Try.checked) false ⟨#[], #[.agg #[.int .u64 0, .int .u64 0, .int .u64 0, .slice none 0 0, .slice none 0 0, .slice none 0 0, .slice none 0 0], .agg #[.int .u64 0, .int .u64 0, .int .u64 0, .slice none 0 0, .slice none 0 0, .slice none 0 0, .slice none 0 0], .int .i64 0], []⟩ 8 (by kernel_rfl) (by kernel_rfl) (by kernel_rfl) (by kernel_rfl)) ?_
  intro W base args ds gs before hval0 hW _ hsz _
  have hval : ∀ (j : Nat) t v, Try.f3.params[j]? = some t → args[j]? = some v → Value.okWide Try.prog W .any base t v := hval0
  have hW' := hW
  obtain ⟨p, q, hA0, hV, rfl, hfz, hnd⟩ := hW
  have hA : DataW.TrodAll enc Try.prog W 0 (fun _ => true) true Try.f3.params.toList args.toList ds p := hA0
  rw [Try.params3] at hA hval hsz
  obtain ⟨v0, vs0, d0, ds0, p0, q0, hargs, rfl, rfl, h0, r0⟩ := trodAll_cons hA
  obtain ⟨v1, vs1, d1, ds1, p1, q1, rfl, rfl, rfl, h1, r1⟩ := trodAll_cons r0
  obtain ⟨v2, vs2, d2, ds2, p2, q2, rfl, rfl, rfl, h2, r2⟩ := trodAll_cons r1
  obtain ⟨rfl, rfl, rfl⟩ := trodAll_nil r2
  obtain rfl : args = #[v0, v1, v2] := by cases args; simp_all
  obtain ⟨rfl, rfl⟩ := trodVars_none hV
  have k0 := h0
  obtain ⟨xa, hh0, rfl, ia0, im0⟩ := open_ver (hval 0 26 v0 rfl rfl) h0 hsz (j := 0) rfl rfl
  have lt0 : ∀ x ∈ p0, x.block < W.heap.size := fun x hx => hW'.lt x (by simp only [List.mem_append]; simp [hx])
  have k1 := h1
  obtain ⟨xb, hh1, rfl, ia1, im1⟩ := open_ver (hval 1 26 v1 rfl rfl) h1 hsz (j := 1) rfl rfl
  have lt1 : ∀ x ∈ p1, x.block < W.heap.size := fun x hx => hW'.lt x (by simp only [List.mem_append]; simp [hx])
  obtain ⟨lev, rfl, rfl, rfl, m2⟩ := open_int Try.underlying3 (hval 2 3 v2 rfl rfl) h2
  clear hA0 hval0
  simp only [List.append_nil] at hW'
  refine (right_walk xa hh0 xb hh1 lev W ia0 im0 ia1 im1).mono fun e W' ⟨he, hg⟩ => ?_
  subst he
  exact ⟨_, rfl, _, _, _, [], _, [], hW', (trodAll_cons_mk (shut_bool Try.underlying4 _) trodAll_mk0), (trodAll_cons_mk (Below.trod laid_out (by kernel_rfl) (of_decide_eq_true (by kernel_rfl)) k0 hg lt0) (trodAll_cons_mk (Below.trod laid_out (by kernel_rfl) (of_decide_eq_true (by kernel_rfl)) k1 hg lt1) (trodAll_cons_mk (shut_int Try.underlying3 m2) trodAll_mk0))), rfl, hg.frame _, fun h => by cases h⟩
theorem holds : Rows.EditRightSaid :=
  OpenClaim.holds_of_wide 3 Try.f3 rfl rfl rfl rfl rfl rfl rfl ⟨rfl, rfl, rfl, rfl, rfl⟩ rfl rfl rfl rfl rfl (by kernel_rfl) Try.func3 (by kernel_rfl)
    (of_decide_eq_true (by kernel_rfl)) (by unfold Func.isWrapper; first | (rw [if_pos (by decide +kernel)]; kernel_rfl) | (rw [if_neg (by decide +kernel)]; exact ⟨rfl, rfl⟩))
    (fun os started H enc _ => lifted os started H enc)
end EditRightProof
--END
end Go.Proofs.Ytdikpijfpghafaa
