/-
  The document's SameEdit: true of two edits that hold the same. No condition.
-/
import Derived.Test.YthkdijapmamdbaaEditListed
namespace Go.Proofs.Ythkdijapmamdbaa
set_option maxRecDepth 100000
open Go.RowKit
set_option maxRecDepth 100000 in
set_option maxHeartbeats 16000000 in
theorem sameedit_true {e : Ed} {hg ha hp hq : Hd} {w : World} (h : EdAt e hg ha w) (k : EdAt e hp hq w) : Calls Try.prog 16 #[edV e hg ha, edV e hp hq] w fun r w' => r = .returned (.bool true) ∧ Below w.heap.size w w' := by
  obtain ⟨ga, gn, gc, gb, go⟩ := hg
  obtain ⟨aa, an, ac, ab, ao⟩ := ha
  obtain ⟨pa, pn, pc, pb, po⟩ := hp
  obtain ⟨qa, qn, qc, qb, qo⟩ := hq
  have e1 : e.gone.length = gn := h.gone.len
  have e2 : e.added.length = an := h.added.len
  have e3 : e.gone.length = pn := k.gone.len
  have e4 : e.added.length = qn := k.added.len
  obtain rfl : pn = gn := by omega
  obtain rfl : qn = an := by omega
  replace e1 := Lib.hid e1
  replace e2 := Lib.hid e2
  clear e3 e4
  have m1 : gc ≤ 9223372036854775807 := h.gone.sl.most
  have m2 : ac ≤ 9223372036854775807 := h.added.sl.most
  have q1 : pn ≤ gc := h.gone.sl.cap
  have q2 : qn ≤ ac := h.added.sl.cap
  have zs : Hid ((w.alloc (edO e ⟨ga, pn, gc, gb, go⟩ ⟨aa, qn, ac, ab, ao⟩)).heap.size = w.heap.size + 1) := Lib.hid (World.size_alloc _ _)
  have E1 : Hid (EdB w.heap.size e ⟨ga, pn, gc, gb, go⟩ ⟨aa, qn, ac, ab, ao⟩ ((w.alloc (edO e ⟨ga, pn, gc, gb, go⟩ ⟨aa, qn, ac, ab, ao⟩)).alloc (edO e ⟨pa, pn, pc, pb, po⟩ ⟨qa, qn, qc, qb, qo⟩))) := Lib.hid ((EdB.new e _ _ w).below (below_alloc _ _))
  have E2 : Hid (EdB (w.heap.size + 1) e ⟨pa, pn, pc, pb, po⟩ ⟨qa, qn, qc, qb, qo⟩ ((w.alloc (edO e ⟨ga, pn, gc, gb, go⟩ ⟨aa, qn, ac, ab, ao⟩)).alloc (edO e ⟨pa, pn, pc, pb, po⟩ ⟨qa, qn, qc, qb, qo⟩))) := Lib.hid (by have := EdB.new e ⟨pa, pn, pc, pb, po⟩ ⟨qa, qn, qc, qb, qo⟩ (w.alloc (edO e ⟨ga, pn, gc, gb, go⟩ ⟨aa, qn, ac, ab, ao⟩)); rw [zs.out] at this; exact this)
  have B0 : Hid (Below w.heap.size w ((w.alloc (edO e ⟨ga, pn, gc, gb, go⟩ ⟨aa, qn, ac, ab, ao⟩)).alloc (edO e ⟨pa, pn, pc, pb, po⟩ ⟨qa, qn, qc, qb, qo⟩))) := Lib.hid ((below_alloc w _).alloc (by simp) _)
  replace h := Lib.hid (h.below B0.out)
  replace k := Lib.hid (k.below B0.out)
  have g0 : (((pn : Nat) : Int) != ((pn : Nat) : Int)) = false := by rw [bne_eq_false_iff_eq]
  have g1 : (((qn : Nat) : Int) != ((qn : Nat) : Int)) = false := by rw [bne_eq_false_iff_eq]
  obtain ⟨u0, hu0⟩ := named ((w.alloc (edO e ⟨ga, pn, gc, gb, go⟩ ⟨aa, qn, ac, ab, ao⟩)).alloc (edO e ⟨pa, pn, pc, pb, po⟩ ⟨qa, qn, qc, qb, qo⟩))
  rw [← hu0.out] at E1 E2 B0 h k
  have B00 : Hid (Below u0.heap.size u0 ((w.alloc (edO e ⟨ga, pn, gc, gb, go⟩ ⟨aa, qn, ac, ab, ao⟩)).alloc (edO e ⟨pa, pn, pc, pb, po⟩ ⟨qa, qn, qc, qb, qo⟩))) := Lib.hid (by rw [← hu0.out]; exact Below.refl _ _)
  replace hu0 := Lib.hid trivial
  go_enter Try.func16, Try.ntmps16
  go_wp2_with fail
  go_loopw [5] (fun i wr => ∃ j : Nat, j ≤ pn ∧ i = .int .i64 (j : Int) ∧ Hid (Below u0.heap.size u0 wr)) (fun i _ => pn - (intOf i).toNat)
  case atStart => exact ⟨0, Nat.zero_le _, rfl, B00⟩
  case round =>
    obtain ⟨j, hj, rfl, hb⟩ := hrel
    obtain ⟨c0, c1, c2, c3, c4⟩ := (E1.out.below hb.out).cells
    obtain ⟨d0, d1, d2, d3, d4⟩ := (E2.out.below hb.out).cells
    by_cases hlt : j < pn
    · obtain ⟨x, hx, rfl, hbl, x0, x1⟩ := (h.out.gone.below hb.out).at2x hlt
      obtain ⟨y, hy, rfl, hbl2, y0, y1⟩ := (k.out.gone.below hb.out).at2x hlt
      obtain rfl : y = x := Option.some.inj (hy.symm.trans hx)
      clear hx hy
      have i0 : (j : Int) < (pn : Int) := by omega
      have NEQ := fun u => neq_gn y y false (by simp) u
      go_upto_region 6 with fail
      go_quiet (fail)
      go_wp2_with fail
      go_roundw
      case rel => exact ⟨j + 1, by omega, by go_num, Lib.hid (below_drewN hb.out)⟩
      case measure => simp [intOf]; omega
    · obtain rfl : j = pn := by omega
      have i0 : ¬ (j : Int) < (j : Int) := by omega
      go_wp2_with fail
      clear c0 c1 c2 c3 c4 d0 d1 d2 d3 d4
      go_loopw [6] (fun i wr => ∃ m : Nat, m ≤ qn ∧ i = .int .i64 (m : Int) ∧ Hid (Below u0.heap.size u0 wr)) (fun i _ => qn - (intOf i).toNat)
      case atStart => exact ⟨0, Nat.zero_le _, rfl, hb⟩
      case round =>
        obtain ⟨m, hm, rfl, hb⟩ := hrel
        obtain ⟨c0, c1, c2, c3, c4⟩ := (E1.out.below hb.out).cells
        obtain ⟨d0, d1, d2, d3, d4⟩ := (E2.out.below hb.out).cells
        by_cases hlt2 : m < qn
        · obtain ⟨x, hx, rfl, hbl, x0, x1, x2, x3, x4, x5, x6, x7⟩ := (h.out.added.below hb.out).at8x hlt2
          obtain ⟨y, hy, rfl, hbl2, y0, y1, y2, y3, y4, y5, y6, y7⟩ := (k.out.added.below hb.out).at8x hlt2
          obtain rfl : y = x := Option.some.inj (hy.symm.trans hx)
          clear hx hy
          have j0 : (m : Int) < (qn : Int) := by omega
          have NEQ := fun u => neq_pl y y false (by simp) u
          go_upto_region 11 with fail
          go_quiet (fail)
          go_wp2_with fail
          go_roundw
          case rel => exact ⟨m + 1, by omega, by go_num, Lib.hid (below_drewN hb.out)⟩
          case measure => simp [intOf]; omega
        · obtain rfl : m = qn := by omega
          have j0 : ¬ (m : Int) < (m : Int) := by omega
          go_wp2_with fail
          go_returns
          exact ⟨rfl, below_of B0.out hb.out⟩
end Go.Proofs.Ythkdijapmamdbaa
