/-
  EditWhole: the edit that makes any version of the first one is the document's. Condition: at most 80 tables a level (the law's own).
-/
import Derived.Test.YthkdijapmamdbaaEditAwake
import Derived.Test.YthkdijapmamdbaaEditRefWhole
import Derived.Test.YthkdijapmamdbaaEditSameEd
import Derived.Test.YthkdijapmamdbaaEditKept
namespace Go.Proofs.Ythkdijapmamdbaa
set_option maxRecDepth 100000
open Go.RowKit
theorem WhD.yes {v : Vr} {r : Ending} {w' : World} (h : WhD v r w') (hp : RightP v) : ∃ hg ha, r = .returned (edV (wholeE v) hg ha) ∧ EdAt (wholeE v) hg ha w' := by
  rcases h with h | h
  · exact h.2
  · exact absurd hp h.1
theorem WhD.no {v : Vr} {r : Ending} {w' : World} (h : WhD v r w') (hp : ¬ RightP v) : r = .returned zEV := by
  rcases h with h | h
  · exact absurd h.1 hp
  · exact h.2
theorem same_zeroW (w : World) : Calls Try.prog 16 #[zEV, zEV] w fun r w' => r = .returned (.bool true) ∧ Below w.heap.size w w' :=
  sameedit_true (e := ⟨0, 0, 0, [], []⟩) (hg := ⟨none, 0, 0, 0, 0⟩) (ha := ⟨none, 0, 0, 0, 0⟩) (hp := ⟨none, 0, 0, 0, 0⟩) (hq := ⟨none, 0, 0, 0, 0⟩) ⟨Gs.nil w, Ps.nil w⟩ ⟨Gs.nil w, Ps.nil w⟩
abbrev SelV (p : Nat) (v : Vr) (H : Nat → Hd) (u : World) : Prop := u.cell? ⟨p, 0, none⟩ = some (.int .u64 (v.log : Int)) ∧ u.cell? ⟨p, 1, none⟩ = some (.int .u64 (v.next : Int)) ∧ u.cell? ⟨p, 2, none⟩ = some (.int .u64 (v.seq : Int)) ∧ u.cell? ⟨p, 3, none⟩ = some (.slice (H 0).a (H 0).n (H 0).c) ∧ u.cell? ⟨p, 4, none⟩ = some (.slice (H 1).a (H 1).n (H 1).c) ∧ u.cell? ⟨p, 5, none⟩ = some (.slice (H 2).a (H 2).n (H 2).c) ∧ u.cell? ⟨p, 6, none⟩ = some (.slice (H 3).a (H 3).n (H 3).c)
set_option maxRecDepth 100000 in
set_option maxHeartbeats 16000000 in
theorem whole_walk (v : Vr) (H : Nat → Hd) (w : World) (hM : VrAt v H w) (hI : VrIn v) :
    Calls Try.prog 4 #[verV v H] w fun r w' => r = .returned (.bool true) ∧ Below w.heap.size w w' := by
  have AW := Lib.hid (fun u => eawake_any u)
  have MX := Lib.hid (fun u => many_any v H u)
  have V1 : Hid (VerB w.heap.size v H (w.alloc (verO v H))) := Lib.hid (VerB.new v H w)
  have B0 : Hid (Below w.heap.size w (w.alloc (verO v H))) := Lib.hid (below_alloc w _)
  by_cases m1 : FewP H
  rotate_left 1
  · rw [tf_true m1] at MX
    clear m1 hM hI
    go_enter Try.func4, Try.ntmps4
    go_wp2_with (first
      | (go_at_call 8; ((with_reducible refine (MX.out _).mono ?_); rintro e w1 ⟨rfl, hb1⟩; have B1 := Lib.hid (below_of B0.out hb1); clear hb1))
      | (go_at_call 10; ((with_reducible refine (AW.out _).mono ?_); rintro e w2 ⟨rfl, hb2⟩; have B2 := Lib.hid (below_of B1.out hb2); clear hb2)))
    go_returns
    exact ⟨rfl, B2.out⟩
  have h80 : ∀ i, i < 4 → (H i).n ≤ 80 := m1
  rw [tf_false (fun h => h m1)] at MX
  have CC := Lib.hid (fun u (hu : Below w.heap.size w u) => copy_any (hM.below hu) h80)
  have KC := Lib.hid (fun u (hu : Below w.heap.size w u) (K : Nat → Hd) (hK : ∀ i, i < 4 → Cp (K i) (v.lv i) u) => kept_any (hM.below hu) hK h80)
  have WC := Lib.hid (fun u (K : Nat → Hd) (hK : ∀ i, i < 4 → Cp (K i) (v.lv i) u) => whole_any (v := v) (H := K) (w := u) (fun i hi => (hK i hi).ms) hI)
  have RC := Lib.hid (fun u (hu : Below w.heap.size w u) => rwhole_any (hM.below hu) hI)
  clear m1 h80 hM hI
  by_cases hr : RightP v
  · obtain ⟨e, he⟩ := named (wholeE v)
    have Y : Hid (∀ r u, WhD v r u → ∃ hg ha, r = .returned (edV e hg ha) ∧ EdAt e hg ha u) := Lib.hid (fun r u h => by rw [he.out]; exact h.yes hr)
    have SE := Lib.hid (fun (hg ha hp hq : Hd) u (h : EdAt e hg ha u) (k : EdAt e hp hq u) => sameedit_true h k)
    replace hr := Lib.hid trivial
    replace he := Lib.hid trivial
    go_enter Try.func4, Try.ntmps4
    go_upto_region 4 with (first
      | (go_at_call 8; ((with_reducible refine (MX.out _).mono ?_); rintro e w1 ⟨rfl, hb1⟩; have B1 := Lib.hid (below_of B0.out hb1); have V2 := Lib.hid (V1.out.below hb1); obtain ⟨x0, x1, x2, x3, x4, x5, x6⟩ := V2.out.cells; clear hb1))
      | (go_at_call 11; ((with_reducible refine (CC.out _ B1.out).mono ?_); rintro e w2 ⟨⟨Kc, rfl, hK⟩, hb2⟩; have B2 := Lib.hid (below_of (below_of B1.out hb2) (below_alloc w2 (verO v Kc))); have V3 : Hid (VerB w.heap.size v H (w2.alloc (verO v Kc))) := Lib.hid ((V2.out.below hb2).below (below_alloc w2 (verO v Kc))); have O3 := Lib.hid (VerB.new v Kc w2); have K3 := Lib.hid (fun i (hi : i < 4) => (hK i hi).below (below_alloc w2 (verO v Kc))); clear hb2 hK)))
    obtain ⟨b, hb⟩ := named w2.heap.size
    obtain ⟨u2, hu2⟩ := named (w2.alloc (verO v Kc))
    rw [← hu2.out] at B2 V3 O3 K3
    rw [← hb.out] at O3
    rw [← hu2.out, ← hb.out]
    replace hu2 := Lib.hid trivial
    replace hb := Lib.hid trivial
    clear x0 x1 x2 x3 x4 x5 x6
    have B20 : Hid (Below w.heap.size w u2.drew) := Lib.hid B2.out.drew
    have V30 : Hid (VerB w.heap.size v H u2.drew) := V3
    have O30 : Hid (VerB b v Kc u2.drew) := O3
    have K30 : Hid (∀ i, i < 4 → Cp (Kc i) (v.lv i) u2.drew) := Lib.hid (fun i hi => (K3.out i hi).below (Below.refl _ _).drew)
    have S0 : Hid (SelV b v Kc u2.drew ∧ SelV w.heap.size v H u2.drew) := Lib.hid ⟨O30.out.cells, V30.out.cells⟩
    clear V1 V2 B0 B1 V3 O3 K3 B2 CC MX
    refine wp_region_held_drew (S := (fun u => (u.cell? ⟨b, 0, none⟩ = some (.int .u64 (v.log : Int)) ∧ u.cell? ⟨b, 1, none⟩ = some (.int .u64 (v.next : Int)) ∧ u.cell? ⟨b, 2, none⟩ = some (.int .u64 (v.seq : Int)) ∧ u.cell? ⟨b, 3, none⟩ = some (.slice (Kc 0).a (Kc 0).n (Kc 0).c) ∧ u.cell? ⟨b, 4, none⟩ = some (.slice (Kc 1).a (Kc 1).n (Kc 1).c) ∧ u.cell? ⟨b, 5, none⟩ = some (.slice (Kc 2).a (Kc 2).n (Kc 2).c) ∧ u.cell? ⟨b, 6, none⟩ = some (.slice (Kc 3).a (Kc 3).n (Kc 3).c)) ∧ (u.cell? ⟨w.heap.size, 0, none⟩ = some (.int .u64 (v.log : Int)) ∧ u.cell? ⟨w.heap.size, 1, none⟩ = some (.int .u64 (v.next : Int)) ∧ u.cell? ⟨w.heap.size, 2, none⟩ = some (.int .u64 (v.seq : Int)) ∧ u.cell? ⟨w.heap.size, 3, none⟩ = some (.slice (H 0).a (H 0).n (H 0).c) ∧ u.cell? ⟨w.heap.size, 4, none⟩ = some (.slice (H 1).a (H 1).n (H 1).c) ∧ u.cell? ⟨w.heap.size, 5, none⟩ = some (.slice (H 2).a (H 2).n (H 2).c) ∧ u.cell? ⟨w.heap.size, 6, none⟩ = some (.slice (H 3).a (H 3).n (H 3).c)))) (by kernel_rfl) (S0.out) (fun hHeld => ?_)
    refine held_take (i := 0) (v := ?_) rfl (by kernel_rfl) (by kernel_rfl) (by kernel_rfl) (fun _ _ _ h => h) (by rfl) (fun w hSw => ?_) (by assumption) ?_; rotate_left 1; focus (((try dsimp only at hSw); first | (go_simp; done) | (go_simp; with_reducible rfl)))
    try simp only [Act.put, List.setIfInBounds_toArray, List.set_cons_zero, List.set_cons_succ]
    refine held_take (i := 2) (v := ?_) rfl (by kernel_rfl) (by kernel_rfl) (by kernel_rfl) (fun _ _ _ h => h) (by rfl) (fun w hSw => ?_) (by assumption) ?_; rotate_left 1; focus (((try dsimp only at hSw); first | (go_simp; done) | (go_simp; with_reducible rfl)))
    try simp only [Act.put, List.setIfInBounds_toArray, List.set_cons_zero, List.set_cons_succ]
    refine held_call (i := 1) (by kernel_rfl) rfl (by rfl) (fun K hK => ?_)
    go_simp
    refine (WC.out _ Kc K30.out).mono ?_
    rintro r w4 ⟨hd4, hb4⟩
    obtain ⟨hg, ha, rfl, hE4⟩ := Y.out _ _ hd4
    have B4 := Lib.hid (below_of B20.out hb4)
    have V4 := Lib.hid (V30.out.below hb4)
    have O4 := Lib.hid (O30.out.below hb4)
    have K4 := Lib.hid (fun i (hi : i < 4) => (K30.out i hi).below hb4)
    clear hd4 hb4
    refine hK.out _ _ (⟨O4.out.cells, V4.out.cells⟩) (fun hHeld => ?_)
    try simp only [Act.put, List.setIfInBounds_toArray, List.set_cons_zero, List.set_cons_succ]
    refine held_call (i := 3) (by kernel_rfl) rfl (by rfl) (fun K hK => ?_)
    go_simp
    refine (RC.out _ B4.out).mono ?_
    rintro r w5 ⟨hd5, hb5⟩
    obtain ⟨hp, hq, rfl, hE5⟩ := Y.out _ _ hd5
    have E5 := Lib.hid (hE4.below hb5)
    have F5 := Lib.hid hE5
    clear hE4 hE5
    have B5 := Lib.hid (below_of B4.out hb5)
    have V5 := Lib.hid (V4.out.below hb5)
    have O5 := Lib.hid (O4.out.below hb5)
    have K5 := Lib.hid (fun i (hi : i < 4) => (K4.out i hi).below hb5)
    clear hd5 hb5
    refine hK.out _ _ (⟨O5.out.cells, V5.out.cells⟩) (fun hHeld => ?_)
    try simp only [Act.put, List.setIfInBounds_toArray, List.set_cons_zero, List.set_cons_succ]
    refine held_call (i := 4) (by kernel_rfl) rfl (by rfl) (fun K hK => ?_)
    go_simp
    refine (SE.out _ _ _ _ _ E5.out F5.out).mono ?_
    rintro r w6 ⟨rfl, hb6⟩
    have B6 := Lib.hid (below_of B5.out hb6)
    have V6 := Lib.hid (V5.out.below hb6)
    have O6 := Lib.hid (O5.out.below hb6)
    have K6 := Lib.hid (fun i (hi : i < 4) => (K5.out i hi).below hb6)
    clear hb6
    refine hK.out _ _ (⟨O6.out.cells, V6.out.cells⟩) (fun hHeld => ?_)
    try simp only [Act.put, List.setIfInBounds_toArray, List.set_cons_zero, List.set_cons_succ]
    refine held_take (i := 5) (v := ?_) rfl (by kernel_rfl) (by kernel_rfl) (by kernel_rfl) (fun _ _ _ h => h) (by rfl) (fun w hSw => ?_) (by assumption) ?_; rotate_left 1; focus (((try dsimp only at hSw); first | (go_simp; done) | (go_simp; with_reducible rfl)))
    try simp only [Act.put, List.setIfInBounds_toArray, List.set_cons_zero, List.set_cons_succ]
    refine held_take (i := 6) (v := ?_) rfl (by kernel_rfl) (by kernel_rfl) (by kernel_rfl) (fun _ _ _ h => h) (by rfl) (fun w hSw => ?_) (by assumption) ?_; rotate_left 1; focus (((try dsimp only at hSw); first | (go_simp; done) | (go_simp; with_reducible rfl)))
    try simp only [Act.put, List.setIfInBounds_toArray, List.set_cons_zero, List.set_cons_succ]
    refine held_take (i := 7) (v := ?_) rfl (by kernel_rfl) (by kernel_rfl) (by kernel_rfl) (fun _ _ _ h => h) (by rfl) (fun w hSw => ?_) (by assumption) ?_; rotate_left 1; focus (((try dsimp only at hSw); first | (go_simp; done) | (go_simp; with_reducible rfl)))
    try simp only [Act.put, List.setIfInBounds_toArray, List.set_cons_zero, List.set_cons_succ]
    refine held_call (i := 8) (by kernel_rfl) rfl (by rfl) (fun K hK => ?_)
    go_simp
    refine (KC.out _ B6.out Kc K6.out).mono ?_
    rintro r w7 ⟨rfl, hb7⟩
    have B7 := Lib.hid (below_of B6.out hb7)
    have V7 := Lib.hid (V6.out.below hb7)
    have O7 := Lib.hid (O6.out.below hb7)
    clear hb7
    refine hK.out _ _ (⟨O7.out.cells, V7.out.cells⟩) (fun hHeld => ?_)
    try simp only [Act.put, List.setIfInBounds_toArray, List.set_cons_zero, List.set_cons_succ]
    refine held_take (i := 9) (v := ?_) rfl (by kernel_rfl) (by kernel_rfl) (by kernel_rfl) (fun _ _ _ h => h) (by rfl) (fun w hSw => ?_) (by assumption) ?_; rotate_left 1; focus (((try dsimp only at hSw); first | (go_simp; done) | (go_simp; with_reducible rfl)))
    try simp only [Act.put, List.setIfInBounds_toArray, List.set_cons_zero, List.set_cons_succ]
    refine held_take (i := 10) (v := ?_) rfl (by kernel_rfl) (by kernel_rfl) (by kernel_rfl) (fun _ _ _ h => h) (by rfl) (fun w hSw => ?_) (by assumption) ?_; rotate_left 1; focus (((try dsimp only at hSw); first | (go_simp; done) | (go_simp; with_reducible rfl)))
    try simp only [Act.put, List.setIfInBounds_toArray, List.set_cons_zero, List.set_cons_succ]
    refine held_call (i := 11) (by kernel_rfl) rfl (by rfl) (fun K hK => ?_)
    go_simp
    refine (AW.out _).mono ?_
    rintro r w8 ⟨rfl, hb8⟩
    have B8 := Lib.hid (below_of B7.out hb8)
    have V8 := Lib.hid (V7.out.below hb8)
    have O8 := Lib.hid (O7.out.below hb8)
    clear hb8
    refine hK.out _ _ (⟨O8.out.cells, V8.out.cells⟩) (fun hHeld => ?_)
    try simp only [Act.put, List.setIfInBounds_toArray, List.set_cons_zero, List.set_cons_succ]
    refine held_take (i := 12) (v := ?_) rfl (by kernel_rfl) (by kernel_rfl) (by kernel_rfl) (fun _ _ _ h => h) (by rfl) (fun w hSw => ?_) (by assumption) ?_; rotate_left 1; focus (((try dsimp only at hSw); first | (go_simp; done) | (go_simp; with_reducible rfl)))
    try simp only [Act.put, List.setIfInBounds_toArray, List.set_cons_zero, List.set_cons_succ]
    refine held_take (i := 13) (v := ?_) rfl (by kernel_rfl) (by kernel_rfl) (by kernel_rfl) (fun _ _ _ h => h) (by rfl) (fun w hSw => ?_) (by assumption) ?_; rotate_left 1; focus (((try dsimp only at hSw); first | (go_simp; done) | (go_simp; with_reducible rfl)))
    try simp only [Act.put, List.setIfInBounds_toArray, List.set_cons_zero, List.set_cons_succ]
    refine wpAnyH_done (by kernel_rfl) ?_ _
    go_wp2_with fail
    go_returns
    exact ⟨rfl, B8.out⟩
  · have Y : Hid (∀ r u, WhD v r u → r = .returned zEV) := Lib.hid (fun r u h => h.no hr)
    have SE := Lib.hid (fun u => same_zeroW u)
    replace hr := Lib.hid trivial
    go_enter Try.func4, Try.ntmps4
    go_upto_region 4 with (first
      | (go_at_call 8; ((with_reducible refine (MX.out _).mono ?_); rintro e w1 ⟨rfl, hb1⟩; have B1 := Lib.hid (below_of B0.out hb1); have V2 := Lib.hid (V1.out.below hb1); obtain ⟨x0, x1, x2, x3, x4, x5, x6⟩ := V2.out.cells; clear hb1))
      | (go_at_call 11; ((with_reducible refine (CC.out _ B1.out).mono ?_); rintro e w2 ⟨⟨Kc, rfl, hK⟩, hb2⟩; have B2 := Lib.hid (below_of (below_of B1.out hb2) (below_alloc w2 (verO v Kc))); have V3 : Hid (VerB w.heap.size v H (w2.alloc (verO v Kc))) := Lib.hid ((V2.out.below hb2).below (below_alloc w2 (verO v Kc))); have O3 := Lib.hid (VerB.new v Kc w2); have K3 := Lib.hid (fun i (hi : i < 4) => (hK i hi).below (below_alloc w2 (verO v Kc))); clear hb2 hK)))
    obtain ⟨b, hb⟩ := named w2.heap.size
    obtain ⟨u2, hu2⟩ := named (w2.alloc (verO v Kc))
    rw [← hu2.out] at B2 V3 O3 K3
    rw [← hb.out] at O3
    rw [← hu2.out, ← hb.out]
    replace hu2 := Lib.hid trivial
    replace hb := Lib.hid trivial
    clear x0 x1 x2 x3 x4 x5 x6
    have B20 : Hid (Below w.heap.size w u2.drew) := Lib.hid B2.out.drew
    have V30 : Hid (VerB w.heap.size v H u2.drew) := V3
    have O30 : Hid (VerB b v Kc u2.drew) := O3
    have K30 : Hid (∀ i, i < 4 → Cp (Kc i) (v.lv i) u2.drew) := Lib.hid (fun i hi => (K3.out i hi).below (Below.refl _ _).drew)
    have S0 : Hid (SelV b v Kc u2.drew ∧ SelV w.heap.size v H u2.drew) := Lib.hid ⟨O30.out.cells, V30.out.cells⟩
    clear V1 V2 B0 B1 V3 O3 K3 B2 CC MX
    refine wp_region_held_drew (S := (fun u => (u.cell? ⟨b, 0, none⟩ = some (.int .u64 (v.log : Int)) ∧ u.cell? ⟨b, 1, none⟩ = some (.int .u64 (v.next : Int)) ∧ u.cell? ⟨b, 2, none⟩ = some (.int .u64 (v.seq : Int)) ∧ u.cell? ⟨b, 3, none⟩ = some (.slice (Kc 0).a (Kc 0).n (Kc 0).c) ∧ u.cell? ⟨b, 4, none⟩ = some (.slice (Kc 1).a (Kc 1).n (Kc 1).c) ∧ u.cell? ⟨b, 5, none⟩ = some (.slice (Kc 2).a (Kc 2).n (Kc 2).c) ∧ u.cell? ⟨b, 6, none⟩ = some (.slice (Kc 3).a (Kc 3).n (Kc 3).c)) ∧ (u.cell? ⟨w.heap.size, 0, none⟩ = some (.int .u64 (v.log : Int)) ∧ u.cell? ⟨w.heap.size, 1, none⟩ = some (.int .u64 (v.next : Int)) ∧ u.cell? ⟨w.heap.size, 2, none⟩ = some (.int .u64 (v.seq : Int)) ∧ u.cell? ⟨w.heap.size, 3, none⟩ = some (.slice (H 0).a (H 0).n (H 0).c) ∧ u.cell? ⟨w.heap.size, 4, none⟩ = some (.slice (H 1).a (H 1).n (H 1).c) ∧ u.cell? ⟨w.heap.size, 5, none⟩ = some (.slice (H 2).a (H 2).n (H 2).c) ∧ u.cell? ⟨w.heap.size, 6, none⟩ = some (.slice (H 3).a (H 3).n (H 3).c)))) (by kernel_rfl) (S0.out) (fun hHeld => ?_)
    refine held_take (i := 0) (v := ?_) rfl (by kernel_rfl) (by kernel_rfl) (by kernel_rfl) (fun _ _ _ h => h) (by rfl) (fun w hSw => ?_) (by assumption) ?_; rotate_left 1; focus (((try dsimp only at hSw); first | (go_simp; done) | (go_simp; with_reducible rfl)))
    try simp only [Act.put, List.setIfInBounds_toArray, List.set_cons_zero, List.set_cons_succ]
    refine held_take (i := 2) (v := ?_) rfl (by kernel_rfl) (by kernel_rfl) (by kernel_rfl) (fun _ _ _ h => h) (by rfl) (fun w hSw => ?_) (by assumption) ?_; rotate_left 1; focus (((try dsimp only at hSw); first | (go_simp; done) | (go_simp; with_reducible rfl)))
    try simp only [Act.put, List.setIfInBounds_toArray, List.set_cons_zero, List.set_cons_succ]
    refine held_call (i := 1) (by kernel_rfl) rfl (by rfl) (fun K hK => ?_)
    go_simp
    refine (WC.out _ Kc K30.out).mono ?_
    rintro r w4 ⟨hd4, hb4⟩
    obtain rfl := Y.out _ _ hd4
    have B4 := Lib.hid (below_of B20.out hb4)
    have V4 := Lib.hid (V30.out.below hb4)
    have O4 := Lib.hid (O30.out.below hb4)
    have K4 := Lib.hid (fun i (hi : i < 4) => (K30.out i hi).below hb4)
    clear hd4 hb4
    refine hK.out _ _ (⟨O4.out.cells, V4.out.cells⟩) (fun hHeld => ?_)
    try simp only [Act.put, List.setIfInBounds_toArray, List.set_cons_zero, List.set_cons_succ]
    refine held_call (i := 3) (by kernel_rfl) rfl (by rfl) (fun K hK => ?_)
    go_simp
    refine (RC.out _ B4.out).mono ?_
    rintro r w5 ⟨hd5, hb5⟩
    obtain rfl := Y.out _ _ hd5
    have B5 := Lib.hid (below_of B4.out hb5)
    have V5 := Lib.hid (V4.out.below hb5)
    have O5 := Lib.hid (O4.out.below hb5)
    have K5 := Lib.hid (fun i (hi : i < 4) => (K4.out i hi).below hb5)
    clear hd5 hb5
    refine hK.out _ _ (⟨O5.out.cells, V5.out.cells⟩) (fun hHeld => ?_)
    try simp only [Act.put, List.setIfInBounds_toArray, List.set_cons_zero, List.set_cons_succ]
    refine held_call (i := 4) (by kernel_rfl) rfl (by rfl) (fun K hK => ?_)
    go_simp
    refine (SE.out _).mono ?_
    rintro r w6 ⟨rfl, hb6⟩
    have B6 := Lib.hid (below_of B5.out hb6)
    have V6 := Lib.hid (V5.out.below hb6)
    have O6 := Lib.hid (O5.out.below hb6)
    have K6 := Lib.hid (fun i (hi : i < 4) => (K5.out i hi).below hb6)
    clear hb6
    refine hK.out _ _ (⟨O6.out.cells, V6.out.cells⟩) (fun hHeld => ?_)
    try simp only [Act.put, List.setIfInBounds_toArray, List.set_cons_zero, List.set_cons_succ]
    refine held_take (i := 5) (v := ?_) rfl (by kernel_rfl) (by kernel_rfl) (by kernel_rfl) (fun _ _ _ h => h) (by rfl) (fun w hSw => ?_) (by assumption) ?_; rotate_left 1; focus (((try dsimp only at hSw); first | (go_simp; done) | (go_simp; with_reducible rfl)))
    try simp only [Act.put, List.setIfInBounds_toArray, List.set_cons_zero, List.set_cons_succ]
    refine held_take (i := 6) (v := ?_) rfl (by kernel_rfl) (by kernel_rfl) (by kernel_rfl) (fun _ _ _ h => h) (by rfl) (fun w hSw => ?_) (by assumption) ?_; rotate_left 1; focus (((try dsimp only at hSw); first | (go_simp; done) | (go_simp; with_reducible rfl)))
    try simp only [Act.put, List.setIfInBounds_toArray, List.set_cons_zero, List.set_cons_succ]
    refine held_take (i := 7) (v := ?_) rfl (by kernel_rfl) (by kernel_rfl) (by kernel_rfl) (fun _ _ _ h => h) (by rfl) (fun w hSw => ?_) (by assumption) ?_; rotate_left 1; focus (((try dsimp only at hSw); first | (go_simp; done) | (go_simp; with_reducible rfl)))
    try simp only [Act.put, List.setIfInBounds_toArray, List.set_cons_zero, List.set_cons_succ]
    refine held_call (i := 8) (by kernel_rfl) rfl (by rfl) (fun K hK => ?_)
    go_simp
    refine (KC.out _ B6.out Kc K6.out).mono ?_
    rintro r w7 ⟨rfl, hb7⟩
    have B7 := Lib.hid (below_of B6.out hb7)
    have V7 := Lib.hid (V6.out.below hb7)
    have O7 := Lib.hid (O6.out.below hb7)
    clear hb7
    refine hK.out _ _ (⟨O7.out.cells, V7.out.cells⟩) (fun hHeld => ?_)
    try simp only [Act.put, List.setIfInBounds_toArray, List.set_cons_zero, List.set_cons_succ]
    refine held_take (i := 9) (v := ?_) rfl (by kernel_rfl) (by kernel_rfl) (by kernel_rfl) (fun _ _ _ h => h) (by rfl) (fun w hSw => ?_) (by assumption) ?_; rotate_left 1; focus (((try dsimp only at hSw); first | (go_simp; done) | (go_simp; with_reducible rfl)))
    try simp only [Act.put, List.setIfInBounds_toArray, List.set_cons_zero, List.set_cons_succ]
    refine held_take (i := 10) (v := ?_) rfl (by kernel_rfl) (by kernel_rfl) (by kernel_rfl) (fun _ _ _ h => h) (by rfl) (fun w hSw => ?_) (by assumption) ?_; rotate_left 1; focus (((try dsimp only at hSw); first | (go_simp; done) | (go_simp; with_reducible rfl)))
    try simp only [Act.put, List.setIfInBounds_toArray, List.set_cons_zero, List.set_cons_succ]
    refine held_call (i := 11) (by kernel_rfl) rfl (by rfl) (fun K hK => ?_)
    go_simp
    refine (AW.out _).mono ?_
    rintro r w8 ⟨rfl, hb8⟩
    have B8 := Lib.hid (below_of B7.out hb8)
    have V8 := Lib.hid (V7.out.below hb8)
    have O8 := Lib.hid (O7.out.below hb8)
    clear hb8
    refine hK.out _ _ (⟨O8.out.cells, V8.out.cells⟩) (fun hHeld => ?_)
    try simp only [Act.put, List.setIfInBounds_toArray, List.set_cons_zero, List.set_cons_succ]
    refine held_take (i := 12) (v := ?_) rfl (by kernel_rfl) (by kernel_rfl) (by kernel_rfl) (fun _ _ _ h => h) (by rfl) (fun w hSw => ?_) (by assumption) ?_; rotate_left 1; focus (((try dsimp only at hSw); first | (go_simp; done) | (go_simp; with_reducible rfl)))
    try simp only [Act.put, List.setIfInBounds_toArray, List.set_cons_zero, List.set_cons_succ]
    refine held_take (i := 13) (v := ?_) rfl (by kernel_rfl) (by kernel_rfl) (by kernel_rfl) (fun _ _ _ h => h) (by rfl) (fun w hSw => ?_) (by assumption) ?_; rotate_left 1; focus (((try dsimp only at hSw); first | (go_simp; done) | (go_simp; with_reducible rfl)))
    try simp only [Act.put, List.setIfInBounds_toArray, List.set_cons_zero, List.set_cons_succ]
    refine wpAnyH_done (by kernel_rfl) ?_ _
    go_wp2_with fail
    go_returns
    exact ⟨rfl, B8.out⟩
--LAW freshetlaw14.EditWhole whole_walk ver:v
--BEGIN
namespace EditWholeProof
open Go.ChangeShapes Go.WideShapes Go.ChangeAt Go.RowKit
open Go.ChangeMaps (open_string shut_string)
theorem own : ownKnob Try.prog.godebug = none := by kernel_rfl
set_option maxRecDepth 100000 in
theorem lifted (os : Os) (started : os.Started) (H : Type) (enc : TypeId × Value → H) :
    ReturnsInHanded {} Try.checked os 4 .any (Rows.editWholeSpec.pre6 enc Try.prog Try.f4 Rows.editWholeRow.domain false) (Rows.editWholeSpec.post enc Try.prog Try.f4 false true false false) := by
  refine returnsInHanded_of_change_sized (C := Try.checked) own started (by kernel_rfl) Try.func4
    (ChangeSpec.witness6 (enc := enc) (C := Try.checked) false ⟨#[], #[.agg #[.int .u64 0, .int .u64 0, .int .u64 0, .slice none 0 0, .slice none 0 0, .slice none 0 0, .slice none 0 0]], []⟩ 8 (by kernel_rfl) (by kernel_rfl) (by kernel_rfl) (by kernel_rfl)) ?_
  intro W base args ds gs before hval0 hW _ hsz _
  have hval : ∀ (j : Nat) t v, Try.f4.params[j]? = some t → args[j]? = some v → Value.okWide Try.prog W .any base t v := hval0
  have hW' := hW
  obtain ⟨p, q, hA0, hV, rfl, hfz, hnd⟩ := hW
  have hA : DataW.TrodAll enc Try.prog W 0 (fun _ => true) true Try.f4.params.toList args.toList ds p := hA0
  rw [Try.params4] at hA hval hsz
  obtain ⟨v0, vs0, d0, ds0, p0, q0, hargs, rfl, rfl, h0, r0⟩ := trodAll_cons hA
  obtain ⟨rfl, rfl, rfl⟩ := trodAll_nil r0
  obtain rfl : args = #[v0] := by cases args; simp_all
  obtain ⟨rfl, rfl⟩ := trodVars_none hV
  have k0 := h0
  obtain ⟨v, hh0, rfl, ia0, im0⟩ := open_ver (hval 0 26 v0 rfl rfl) h0 hsz (j := 0) rfl rfl
  have lt0 : ∀ x ∈ p0, x.block < W.heap.size := fun x hx => hW'.lt x (by simp only [List.mem_append]; simp [hx])
  clear hA0 hval0
  simp only [List.append_nil] at hW'
  refine (whole_walk v hh0 W ia0 im0).mono fun e W' ⟨he, hg⟩ => ?_
  subst he
  exact ⟨_, rfl, _, _, _, [], _, [], hW', (trodAll_cons_mk (shut_bool Try.underlying4 _) trodAll_mk0), (trodAll_cons_mk (Below.trod laid_out (by kernel_rfl) (of_decide_eq_true (by kernel_rfl)) k0 hg lt0) trodAll_mk0), rfl, hg.frame _, fun h => by cases h⟩
theorem holds : Rows.EditWholeSaid :=
  OpenClaim.holds_of_wide 4 Try.f4 rfl rfl rfl rfl rfl rfl rfl ⟨rfl, rfl, rfl, rfl, rfl⟩ rfl rfl rfl rfl rfl (by kernel_rfl) Try.func4 (by kernel_rfl)
    (of_decide_eq_true (by kernel_rfl)) (by unfold Func.isWrapper; first | (rw [if_pos (by decide +kernel)]; kernel_rfl) | (rw [if_neg (by decide +kernel)]; exact ⟨rfl, rfl⟩))
    (fun os started H enc _ => lifted os started H enc)
end EditWholeProof
--END
end Go.Proofs.Ythkdijapmamdbaa
