/-
  The document's SameEdit in general: it tells whether two edits are equal. No condition.
-/
import Derived.Test.YthkdijapmamdbaaEditListed
namespace Go.Proofs.Ythkdijapmamdbaa
set_option maxRecDepth 100000
open Go.RowKit
set_option maxRecDepth 100000 in
set_option maxHeartbeats 8000000 in
theorem same_ne0 {e f : Ed} {ga pa aa qa : Option Addr} {gn gc gb go an ac ab ao pn pc pb po qn qc qb qo : Nat} {w : World} (g0 : ((e.log : Int) != (f.log : Int)) = true) : Calls Try.prog 16 #[edV e ⟨ga, gn, gc, gb, go⟩ ⟨aa, an, ac, ab, ao⟩, edV f ⟨pa, pn, pc, pb, po⟩ ⟨qa, qn, qc, qb, qo⟩] w fun r w' => r = .returned (.bool false) ∧ Below w.heap.size w w' := by
  have zs : Hid ((w.alloc (edO e ⟨ga, gn, gc, gb, go⟩ ⟨aa, an, ac, ab, ao⟩)).heap.size = w.heap.size + 1) := Lib.hid (World.size_alloc _ _)
  have E1 : Hid (EdB w.heap.size e ⟨ga, gn, gc, gb, go⟩ ⟨aa, an, ac, ab, ao⟩ ((w.alloc (edO e ⟨ga, gn, gc, gb, go⟩ ⟨aa, an, ac, ab, ao⟩)).alloc (edO f ⟨pa, pn, pc, pb, po⟩ ⟨qa, qn, qc, qb, qo⟩))) := Lib.hid ((EdB.new e _ _ w).below (below_alloc _ _))
  have E2 : Hid (EdB (w.heap.size + 1) f ⟨pa, pn, pc, pb, po⟩ ⟨qa, qn, qc, qb, qo⟩ ((w.alloc (edO e ⟨ga, gn, gc, gb, go⟩ ⟨aa, an, ac, ab, ao⟩)).alloc (edO f ⟨pa, pn, pc, pb, po⟩ ⟨qa, qn, qc, qb, qo⟩))) := Lib.hid (by have := EdB.new f ⟨pa, pn, pc, pb, po⟩ ⟨qa, qn, qc, qb, qo⟩ (w.alloc (edO e ⟨ga, gn, gc, gb, go⟩ ⟨aa, an, ac, ab, ao⟩)); rw [zs.out] at this; exact this)
  have B0 : Hid (Below w.heap.size w ((w.alloc (edO e ⟨ga, gn, gc, gb, go⟩ ⟨aa, an, ac, ab, ao⟩)).alloc (edO f ⟨pa, pn, pc, pb, po⟩ ⟨qa, qn, qc, qb, qo⟩))) := Lib.hid ((below_alloc w _).alloc (by simp) _)
  obtain ⟨c0, c1, c2, c3, c4⟩ := E1.out.cells
  obtain ⟨d0, d1, d2, d3, d4⟩ := E2.out.cells
  simp only at c0 c1 c2 c3 c4 d0 d1 d2 d3 d4
  go_enter Try.func16, Try.ntmps16
  go_wp2_with fail
  go_returns
  exact ⟨rfl, B0.out⟩
set_option maxRecDepth 100000 in
set_option maxHeartbeats 8000000 in
theorem same_ne1 {e f : Ed} {ga pa aa qa : Option Addr} {gn gc gb go an ac ab ao pn pc pb po qn qc qb qo : Nat} {w : World} (g0 : ((e.log : Int) != (f.log : Int)) = false) (g1 : ((e.next : Int) != (f.next : Int)) = true) : Calls Try.prog 16 #[edV e ⟨ga, gn, gc, gb, go⟩ ⟨aa, an, ac, ab, ao⟩, edV f ⟨pa, pn, pc, pb, po⟩ ⟨qa, qn, qc, qb, qo⟩] w fun r w' => r = .returned (.bool false) ∧ Below w.heap.size w w' := by
  have zs : Hid ((w.alloc (edO e ⟨ga, gn, gc, gb, go⟩ ⟨aa, an, ac, ab, ao⟩)).heap.size = w.heap.size + 1) := Lib.hid (World.size_alloc _ _)
  have E1 : Hid (EdB w.heap.size e ⟨ga, gn, gc, gb, go⟩ ⟨aa, an, ac, ab, ao⟩ ((w.alloc (edO e ⟨ga, gn, gc, gb, go⟩ ⟨aa, an, ac, ab, ao⟩)).alloc (edO f ⟨pa, pn, pc, pb, po⟩ ⟨qa, qn, qc, qb, qo⟩))) := Lib.hid ((EdB.new e _ _ w).below (below_alloc _ _))
  have E2 : Hid (EdB (w.heap.size + 1) f ⟨pa, pn, pc, pb, po⟩ ⟨qa, qn, qc, qb, qo⟩ ((w.alloc (edO e ⟨ga, gn, gc, gb, go⟩ ⟨aa, an, ac, ab, ao⟩)).alloc (edO f ⟨pa, pn, pc, pb, po⟩ ⟨qa, qn, qc, qb, qo⟩))) := Lib.hid (by have := EdB.new f ⟨pa, pn, pc, pb, po⟩ ⟨qa, qn, qc, qb, qo⟩ (w.alloc (edO e ⟨ga, gn, gc, gb, go⟩ ⟨aa, an, ac, ab, ao⟩)); rw [zs.out] at this; exact this)
  have B0 : Hid (Below w.heap.size w ((w.alloc (edO e ⟨ga, gn, gc, gb, go⟩ ⟨aa, an, ac, ab, ao⟩)).alloc (edO f ⟨pa, pn, pc, pb, po⟩ ⟨qa, qn, qc, qb, qo⟩))) := Lib.hid ((below_alloc w _).alloc (by simp) _)
  obtain ⟨c0, c1, c2, c3, c4⟩ := E1.out.cells
  obtain ⟨d0, d1, d2, d3, d4⟩ := E2.out.cells
  simp only at c0 c1 c2 c3 c4 d0 d1 d2 d3 d4
  go_enter Try.func16, Try.ntmps16
  go_wp2_with fail
  go_returns
  exact ⟨rfl, B0.out⟩
set_option maxRecDepth 100000 in
set_option maxHeartbeats 8000000 in
theorem same_ne2 {e f : Ed} {ga pa aa qa : Option Addr} {gn gc gb go an ac ab ao pn pc pb po qn qc qb qo : Nat} {w : World} (g0 : ((e.log : Int) != (f.log : Int)) = false) (g1 : ((e.next : Int) != (f.next : Int)) = false) (g2 : ((e.seq : Int) != (f.seq : Int)) = true) : Calls Try.prog 16 #[edV e ⟨ga, gn, gc, gb, go⟩ ⟨aa, an, ac, ab, ao⟩, edV f ⟨pa, pn, pc, pb, po⟩ ⟨qa, qn, qc, qb, qo⟩] w fun r w' => r = .returned (.bool false) ∧ Below w.heap.size w w' := by
  have zs : Hid ((w.alloc (edO e ⟨ga, gn, gc, gb, go⟩ ⟨aa, an, ac, ab, ao⟩)).heap.size = w.heap.size + 1) := Lib.hid (World.size_alloc _ _)
  have E1 : Hid (EdB w.heap.size e ⟨ga, gn, gc, gb, go⟩ ⟨aa, an, ac, ab, ao⟩ ((w.alloc (edO e ⟨ga, gn, gc, gb, go⟩ ⟨aa, an, ac, ab, ao⟩)).alloc (edO f ⟨pa, pn, pc, pb, po⟩ ⟨qa, qn, qc, qb, qo⟩))) := Lib.hid ((EdB.new e _ _ w).below (below_alloc _ _))
  have E2 : Hid (EdB (w.heap.size + 1) f ⟨pa, pn, pc, pb, po⟩ ⟨qa, qn, qc, qb, qo⟩ ((w.alloc (edO e ⟨ga, gn, gc, gb, go⟩ ⟨aa, an, ac, ab, ao⟩)).alloc (edO f ⟨pa, pn, pc, pb, po⟩ ⟨qa, qn, qc, qb, qo⟩))) := Lib.hid (by have := EdB.new f ⟨pa, pn, pc, pb, po⟩ ⟨qa, qn, qc, qb, qo⟩ (w.alloc (edO e ⟨ga, gn, gc, gb, go⟩ ⟨aa, an, ac, ab, ao⟩)); rw [zs.out] at this; exact this)
  have B0 : Hid (Below w.heap.size w ((w.alloc (edO e ⟨ga, gn, gc, gb, go⟩ ⟨aa, an, ac, ab, ao⟩)).alloc (edO f ⟨pa, pn, pc, pb, po⟩ ⟨qa, qn, qc, qb, qo⟩))) := Lib.hid ((below_alloc w _).alloc (by simp) _)
  obtain ⟨c0, c1, c2, c3, c4⟩ := E1.out.cells
  obtain ⟨d0, d1, d2, d3, d4⟩ := E2.out.cells
  simp only at c0 c1 c2 c3 c4 d0 d1 d2 d3 d4
  go_enter Try.func16, Try.ntmps16
  go_wp2_with fail
  go_returns
  exact ⟨rfl, B0.out⟩
set_option maxRecDepth 100000 in
set_option maxHeartbeats 8000000 in
theorem same_ne3 {e f : Ed} {ga pa aa qa : Option Addr} {gn gc gb go an ac ab ao pn pc pb po qn qc qb qo : Nat} {w : World} (g0 : ((e.log : Int) != (f.log : Int)) = false) (g1 : ((e.next : Int) != (f.next : Int)) = false) (g2 : ((e.seq : Int) != (f.seq : Int)) = false) (g3 : (((gn : Nat) : Int) != ((pn : Nat) : Int)) = true) : Calls Try.prog 16 #[edV e ⟨ga, gn, gc, gb, go⟩ ⟨aa, an, ac, ab, ao⟩, edV f ⟨pa, pn, pc, pb, po⟩ ⟨qa, qn, qc, qb, qo⟩] w fun r w' => r = .returned (.bool false) ∧ Below w.heap.size w w' := by
  have zs : Hid ((w.alloc (edO e ⟨ga, gn, gc, gb, go⟩ ⟨aa, an, ac, ab, ao⟩)).heap.size = w.heap.size + 1) := Lib.hid (World.size_alloc _ _)
  have E1 : Hid (EdB w.heap.size e ⟨ga, gn, gc, gb, go⟩ ⟨aa, an, ac, ab, ao⟩ ((w.alloc (edO e ⟨ga, gn, gc, gb, go⟩ ⟨aa, an, ac, ab, ao⟩)).alloc (edO f ⟨pa, pn, pc, pb, po⟩ ⟨qa, qn, qc, qb, qo⟩))) := Lib.hid ((EdB.new e _ _ w).below (below_alloc _ _))
  have E2 : Hid (EdB (w.heap.size + 1) f ⟨pa, pn, pc, pb, po⟩ ⟨qa, qn, qc, qb, qo⟩ ((w.alloc (edO e ⟨ga, gn, gc, gb, go⟩ ⟨aa, an, ac, ab, ao⟩)).alloc (edO f ⟨pa, pn, pc, pb, po⟩ ⟨qa, qn, qc, qb, qo⟩))) := Lib.hid (by have := EdB.new f ⟨pa, pn, pc, pb, po⟩ ⟨qa, qn, qc, qb, qo⟩ (w.alloc (edO e ⟨ga, gn, gc, gb, go⟩ ⟨aa, an, ac, ab, ao⟩)); rw [zs.out] at this; exact this)
  have B0 : Hid (Below w.heap.size w ((w.alloc (edO e ⟨ga, gn, gc, gb, go⟩ ⟨aa, an, ac, ab, ao⟩)).alloc (edO f ⟨pa, pn, pc, pb, po⟩ ⟨qa, qn, qc, qb, qo⟩))) := Lib.hid ((below_alloc w _).alloc (by simp) _)
  obtain ⟨c0, c1, c2, c3, c4⟩ := E1.out.cells
  obtain ⟨d0, d1, d2, d3, d4⟩ := E2.out.cells
  simp only at c0 c1 c2 c3 c4 d0 d1 d2 d3 d4
  go_enter Try.func16, Try.ntmps16
  go_wp2_with fail
  go_returns
  exact ⟨rfl, B0.out⟩
set_option maxRecDepth 100000 in
set_option maxHeartbeats 8000000 in
theorem same_ne4 {e f : Ed} {ga pa aa qa : Option Addr} {gn gc gb go an ac ab ao pn pc pb po qn qc qb qo : Nat} {w : World} (g0 : ((e.log : Int) != (f.log : Int)) = false) (g1 : ((e.next : Int) != (f.next : Int)) = false) (g2 : ((e.seq : Int) != (f.seq : Int)) = false) (g3 : (((gn : Nat) : Int) != ((pn : Nat) : Int)) = false) (g4 : (((an : Nat) : Int) != ((qn : Nat) : Int)) = true) : Calls Try.prog 16 #[edV e ⟨ga, gn, gc, gb, go⟩ ⟨aa, an, ac, ab, ao⟩, edV f ⟨pa, pn, pc, pb, po⟩ ⟨qa, qn, qc, qb, qo⟩] w fun r w' => r = .returned (.bool false) ∧ Below w.heap.size w w' := by
  have zs : Hid ((w.alloc (edO e ⟨ga, gn, gc, gb, go⟩ ⟨aa, an, ac, ab, ao⟩)).heap.size = w.heap.size + 1) := Lib.hid (World.size_alloc _ _)
  have E1 : Hid (EdB w.heap.size e ⟨ga, gn, gc, gb, go⟩ ⟨aa, an, ac, ab, ao⟩ ((w.alloc (edO e ⟨ga, gn, gc, gb, go⟩ ⟨aa, an, ac, ab, ao⟩)).alloc (edO f ⟨pa, pn, pc, pb, po⟩ ⟨qa, qn, qc, qb, qo⟩))) := Lib.hid ((EdB.new e _ _ w).below (below_alloc _ _))
  have E2 : Hid (EdB (w.heap.size + 1) f ⟨pa, pn, pc, pb, po⟩ ⟨qa, qn, qc, qb, qo⟩ ((w.alloc (edO e ⟨ga, gn, gc, gb, go⟩ ⟨aa, an, ac, ab, ao⟩)).alloc (edO f ⟨pa, pn, pc, pb, po⟩ ⟨qa, qn, qc, qb, qo⟩))) := Lib.hid (by have := EdB.new f ⟨pa, pn, pc, pb, po⟩ ⟨qa, qn, qc, qb, qo⟩ (w.alloc (edO e ⟨ga, gn, gc, gb, go⟩ ⟨aa, an, ac, ab, ao⟩)); rw [zs.out] at this; exact this)
  have B0 : Hid (Below w.heap.size w ((w.alloc (edO e ⟨ga, gn, gc, gb, go⟩ ⟨aa, an, ac, ab, ao⟩)).alloc (edO f ⟨pa, pn, pc, pb, po⟩ ⟨qa, qn, qc, qb, qo⟩))) := Lib.hid ((below_alloc w _).alloc (by simp) _)
  obtain ⟨c0, c1, c2, c3, c4⟩ := E1.out.cells
  obtain ⟨d0, d1, d2, d3, d4⟩ := E2.out.cells
  simp only at c0 c1 c2 c3 c4 d0 d1 d2 d3 d4
  go_enter Try.func16, Try.ntmps16
  go_wp2_with fail
  go_returns
  exact ⟨rfl, B0.out⟩
set_option maxRecDepth 100000 in
set_option maxHeartbeats 16000000 in
theorem same_lists {e f : Ed} {hg ha hp hq : Hd} {w : World} (h : EdAt e hg ha w) (k : EdAt f hp hq w) (k0 : e.log = f.log) (k1 : e.next = f.next) (k2 : e.seq = f.seq) (k3 : hg.n = hp.n) (k4 : ha.n = hq.n) : Calls Try.prog 16 #[edV e hg ha, edV f hp hq] w fun r w' => r = .returned (.bool (tf (e.gone = f.gone ∧ e.added = f.added))) ∧ Below w.heap.size w w' := by
  obtain ⟨ga, gn, gc, gb, go⟩ := hg
  obtain ⟨aa, an, ac, ab, ao⟩ := ha
  obtain ⟨pa, pn, pc, pb, po⟩ := hp
  obtain ⟨qa, qn, qc, qb, qo⟩ := hq
  simp only at k3 k4
  subst k3
  subst k4
  have e1 : e.gone.length = gn := h.gone.len
  have e2 : e.added.length = an := h.added.len
  have e3 : f.gone.length = gn := k.gone.len
  have e4 : f.added.length = an := k.added.len
  replace e1 := Lib.hid e1
  replace e2 := Lib.hid e2
  replace e3 := Lib.hid e3
  replace e4 := Lib.hid e4
  have m1 : gc ≤ 9223372036854775807 := h.gone.sl.most
  have m2 : ac ≤ 9223372036854775807 := h.added.sl.most
  have q1 : gn ≤ gc := h.gone.sl.cap
  have q2 : an ≤ ac := h.added.sl.cap
  have m3 : pc ≤ 9223372036854775807 := k.gone.sl.most
  have m4 : qc ≤ 9223372036854775807 := k.added.sl.most
  have q3 : gn ≤ pc := k.gone.sl.cap
  have q4 : an ≤ qc := k.added.sl.cap
  obtain ⟨R, hR⟩ := named (tf (e.gone = f.gone ∧ e.added = f.added))
  rw [← hR.out]
  have zs : Hid ((w.alloc (edO e ⟨ga, gn, gc, gb, go⟩ ⟨aa, an, ac, ab, ao⟩)).heap.size = w.heap.size + 1) := Lib.hid (World.size_alloc _ _)
  have E1 : Hid (EdB w.heap.size e ⟨ga, gn, gc, gb, go⟩ ⟨aa, an, ac, ab, ao⟩ ((w.alloc (edO e ⟨ga, gn, gc, gb, go⟩ ⟨aa, an, ac, ab, ao⟩)).alloc (edO f ⟨pa, gn, pc, pb, po⟩ ⟨qa, an, qc, qb, qo⟩))) := Lib.hid ((EdB.new e _ _ w).below (below_alloc _ _))
  have E2 : Hid (EdB (w.heap.size + 1) f ⟨pa, gn, pc, pb, po⟩ ⟨qa, an, qc, qb, qo⟩ ((w.alloc (edO e ⟨ga, gn, gc, gb, go⟩ ⟨aa, an, ac, ab, ao⟩)).alloc (edO f ⟨pa, gn, pc, pb, po⟩ ⟨qa, an, qc, qb, qo⟩))) := Lib.hid (by have := EdB.new f ⟨pa, gn, pc, pb, po⟩ ⟨qa, an, qc, qb, qo⟩ (w.alloc (edO e ⟨ga, gn, gc, gb, go⟩ ⟨aa, an, ac, ab, ao⟩)); rw [zs.out] at this; exact this)
  have B0 : Hid (Below w.heap.size w ((w.alloc (edO e ⟨ga, gn, gc, gb, go⟩ ⟨aa, an, ac, ab, ao⟩)).alloc (edO f ⟨pa, gn, pc, pb, po⟩ ⟨qa, an, qc, qb, qo⟩))) := Lib.hid ((below_alloc w _).alloc (by simp) _)
  replace h := Lib.hid (h.below B0.out)
  replace k := Lib.hid (k.below B0.out)
  have g0 : ((e.log : Int) != (f.log : Int)) = false := by rw [bne_eq_false_iff_eq, k0]
  have g1 : ((e.next : Int) != (f.next : Int)) = false := by rw [bne_eq_false_iff_eq, k1]
  have g2 : ((e.seq : Int) != (f.seq : Int)) = false := by rw [bne_eq_false_iff_eq, k2]
  have g3 : (((gn : Nat) : Int) != ((gn : Nat) : Int)) = false := by rw [bne_eq_false_iff_eq]
  have g4 : (((an : Nat) : Int) != ((an : Nat) : Int)) = false := by rw [bne_eq_false_iff_eq]
  clear k0 k1 k2
  obtain ⟨u0, hu0⟩ := named ((w.alloc (edO e ⟨ga, gn, gc, gb, go⟩ ⟨aa, an, ac, ab, ao⟩)).alloc (edO f ⟨pa, gn, pc, pb, po⟩ ⟨qa, an, qc, qb, qo⟩))
  rw [← hu0.out] at E1 E2 B0 h k
  have B00 : Hid (Below u0.heap.size u0 ((w.alloc (edO e ⟨ga, gn, gc, gb, go⟩ ⟨aa, an, ac, ab, ao⟩)).alloc (edO f ⟨pa, gn, pc, pb, po⟩ ⟨qa, an, qc, qb, qo⟩))) := Lib.hid (by rw [← hu0.out]; exact Below.refl _ _)
  replace hu0 := Lib.hid trivial
  go_enter Try.func16, Try.ntmps16
  go_wp2_with fail
  go_loopw [5] (fun i wr => ∃ j : Nat, j ≤ gn ∧ i = .int .i64 (j : Int) ∧ Hid (Below u0.heap.size u0 wr) ∧ Hid (e.gone.take j = f.gone.take j)) (fun i _ => gn - (intOf i).toNat)
  case atStart => exact ⟨0, Nat.zero_le _, rfl, B00, Lib.hid rfl⟩
  case round =>
    obtain ⟨j, hj, rfl, hb, ht⟩ := hrel
    obtain ⟨c0, c1, c2, c3, c4⟩ := (E1.out.below hb.out).cells
    obtain ⟨d0, d1, d2, d3, d4⟩ := (E2.out.below hb.out).cells
    by_cases hlt : j < gn
    · obtain ⟨x, hx, rfl, hbl, x0, x1⟩ := (h.out.gone.below hb.out).at2x hlt
      obtain ⟨y, hy, rfl, hbl2, y0, y1⟩ := (k.out.gone.below hb.out).at2x hlt
      have i0 : (j : Int) < (gn : Int) := by omega
      by_cases hxy : x = y
      · have NEQ := fun u => neq_gn x y false (by simp [hxy]) u
        have hnext : Hid (e.gone.take (j + 1) = f.gone.take (j + 1)) := Lib.hid (by rw [List.take_add_one, List.take_add_one, ht.out, hx, hy, hxy])
        clear hx hy hxy ht
        go_upto_region 6 with fail
        go_quiet (fail)
        go_wp2_with fail
        go_roundw
        case rel => exact ⟨j + 1, by omega, by go_num, Lib.hid (below_drewN hb.out), hnext⟩
        case measure => simp [intOf]; omega
      · have NEQ := fun u => neq_gn x y true (by simp [hxy]) u
        have hR0 : R = false := by
          rw [hR.out]
          refine tf_false fun hq => hxy ?_
          rw [hq.1] at hx
          exact Option.some.inj (hx.symm.trans hy)
        subst hR0
        clear hx hy hxy ht
        go_upto_region 6 with fail
        go_quiet (fail)
        go_wp2_with fail
        go_returns
        exact ⟨rfl, below_of B0.out (below_drewN hb.out)⟩
    · obtain rfl : j = gn := by omega
      have i0 : ¬ (j : Int) < (j : Int) := by omega
      have hge : Hid (e.gone = f.gone) := Lib.hid (by
        have := ht.out
        rw [List.take_of_length_le (by rw [e1.out]; exact Nat.le_refl _), List.take_of_length_le (by rw [e3.out]; exact Nat.le_refl _)] at this
        exact this)
      clear ht
      go_wp2_with fail
      clear c0 c1 c2 c3 c4 d0 d1 d2 d3 d4
      go_loopw [6] (fun i wr => ∃ m : Nat, m ≤ an ∧ i = .int .i64 (m : Int) ∧ Hid (Below u0.heap.size u0 wr) ∧ Hid (e.added.take m = f.added.take m)) (fun i _ => an - (intOf i).toNat)
      case atStart => exact ⟨0, Nat.zero_le _, rfl, hb, Lib.hid rfl⟩
      case round =>
        obtain ⟨m, hm, rfl, hb, ht⟩ := hrel
        obtain ⟨c0, c1, c2, c3, c4⟩ := (E1.out.below hb.out).cells
        obtain ⟨d0, d1, d2, d3, d4⟩ := (E2.out.below hb.out).cells
        by_cases hlt2 : m < an
        · obtain ⟨x, hx, rfl, hbl, x0, x1, x2, x3, x4, x5, x6, x7⟩ := (h.out.added.below hb.out).at8x hlt2
          obtain ⟨y, hy, rfl, hbl2, y0, y1, y2, y3, y4, y5, y6, y7⟩ := (k.out.added.below hb.out).at8x hlt2
          have j0 : (m : Int) < (an : Int) := by omega
          by_cases hxy : x = y
          · have NEQ := fun u => neq_pl x y false (by simp [hxy]) u
            have hnext : Hid (e.added.take (m + 1) = f.added.take (m + 1)) := Lib.hid (by rw [List.take_add_one, List.take_add_one, ht.out, hx, hy, hxy])
            clear hx hy hxy ht
            go_upto_region 11 with fail
            go_quiet (fail)
            go_wp2_with fail
            go_roundw
            case rel => exact ⟨m + 1, by omega, by go_num, Lib.hid (below_drewN hb.out), hnext⟩
            case measure => simp [intOf]; omega
          · have NEQ := fun u => neq_pl x y true (by simp [hxy]) u
            have hR0 : R = false := by
              rw [hR.out]
              refine tf_false fun hq => hxy ?_
              rw [hq.2] at hx
              exact Option.some.inj (hx.symm.trans hy)
            subst hR0
            clear hx hy hxy ht
            go_upto_region 11 with fail
            go_quiet (fail)
            go_wp2_with fail
            go_returns
            exact ⟨rfl, below_of B0.out (below_drewN hb.out)⟩
        · obtain rfl : m = an := by omega
          have j0 : ¬ (m : Int) < (m : Int) := by omega
          have hR1 : R = true := by
            rw [hR.out]
            have := ht.out
            rw [List.take_of_length_le (by rw [e2.out]; exact Nat.le_refl _), List.take_of_length_le (by rw [e4.out]; exact Nat.le_refl _)] at this
            exact tf_true ⟨hge.out, this⟩
          subst hR1
          clear ht
          go_wp2_with fail
          go_returns
          exact ⟨rfl, below_of B0.out hb.out⟩
theorem ed_eq {e f : Ed} : e = f ↔ e.log = f.log ∧ e.next = f.next ∧ e.seq = f.seq ∧ e.gone = f.gone ∧ e.added = f.added := by
  obtain ⟨a, b, c, d, g⟩ := e
  obtain ⟨a', b', c', d', g'⟩ := f
  simp
/-- SameEdit tells whether two edits are equal. -/
theorem sameedit_any {e f : Ed} {hg ha hp hq : Hd} {w : World} (h : EdAt e hg ha w) (k : EdAt f hp hq w) : Calls Try.prog 16 #[edV e hg ha, edV f hp hq] w fun r w' => r = .returned (.bool (tf (e = f))) ∧ Below w.heap.size w w' := by
  have l1 := h.gone.len
  have l2 := k.gone.len
  have l3 := h.added.len
  have l4 := k.added.len
  by_cases k0 : e.log = f.log
  · by_cases k1 : e.next = f.next
    · by_cases k2 : e.seq = f.seq
      · by_cases k3 : hg.n = hp.n
        · by_cases k4 : ha.n = hq.n
          · have := same_lists h k k0 k1 k2 k3 k4
            rw [tf_congr (show e = f ↔ (e.gone = f.gone ∧ e.added = f.added) by rw [ed_eq]; exact ⟨fun h => h.2.2.2, fun h => ⟨k0, k1, k2, h⟩⟩)]
            exact this
          · rw [tf_false (by rw [ed_eq]; exact fun h => k4 (by rw [← l3, ← l4, h.2.2.2.2]))]
            exact same_ne4 (by rw [bne_eq_false_iff_eq, k0]) (by rw [bne_eq_false_iff_eq, k1]) (by rw [bne_eq_false_iff_eq, k2]) (by rw [bne_eq_false_iff_eq, k3]) (by rw [bne_iff_ne]; omega)
        · rw [tf_false (by rw [ed_eq]; exact fun h => k3 (by rw [← l1, ← l2, h.2.2.2.1]))]
          exact same_ne3 (by rw [bne_eq_false_iff_eq, k0]) (by rw [bne_eq_false_iff_eq, k1]) (by rw [bne_eq_false_iff_eq, k2]) (by rw [bne_iff_ne]; omega)
      · rw [tf_false (by rw [ed_eq]; exact fun h => k2 h.2.2.1)]
        exact same_ne2 (by rw [bne_eq_false_iff_eq, k0]) (by rw [bne_eq_false_iff_eq, k1]) (by rw [bne_iff_ne]; omega)
    · rw [tf_false (by rw [ed_eq]; exact fun h => k1 h.2.1)]
      exact same_ne1 (by rw [bne_eq_false_iff_eq, k0]) (by rw [bne_iff_ne]; omega)
  · rw [tf_false (by rw [ed_eq]; exact fun h => k0 h.1)]
    exact same_ne0 (by rw [bne_iff_ne]; omega)
end Go.Proofs.Ythkdijapmamdbaa
