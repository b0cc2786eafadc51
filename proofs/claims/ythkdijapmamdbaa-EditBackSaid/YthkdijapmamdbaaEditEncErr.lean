/-
  Both Encodes refuse an edit that isn't listed, and one that is too long. No condition.
-/
import Derived.Test.YthkdijapmamdbaaEditListed
namespace Go.Proofs.Ythkdijapmamdbaa
set_option maxRecDepth 100000
open Go.RowKit
set_option maxRecDepth 100000 in
set_option maxHeartbeats 16000000 in
theorem enc_arg {e : Ed} {hg ha : Hd} {w : World} (h : EdAt e hg ha w) (hL : ¬ ListedP e) : Calls Try.prog 24 #[edV e hg ha] w fun r w' => r = .returned (.tuple #[.string .empty, .int .i64 2]) ∧ Below w.heap.size w w' := by
  have LC := islisted_any (h.below (below_alloc w (edO e hg ha)))
  rw [tf_false hL] at LC
  replace LC := Lib.hid LC
  clear hL
  obtain ⟨ga, gn, gc, gb, go⟩ := hg
  obtain ⟨aa, an, ac, ab, ao⟩ := ha
  have m1 : gc ≤ 9223372036854775807 := h.gone.sl.most
  have m2 : ac ≤ 9223372036854775807 := h.added.sl.most
  have q1 : gn ≤ gc := h.gone.sl.cap
  have q2 : an ≤ ac := h.added.sl.cap
  have E0 := Lib.hid (EdB.new e ⟨ga, gn, gc, gb, go⟩ ⟨aa, an, ac, ab, ao⟩ w)
  have B0 := Lib.hid (below_alloc w (edO e ⟨ga, gn, gc, gb, go⟩ ⟨aa, an, ac, ab, ao⟩))
  replace h := Lib.hid h
  go_enter Try.func24, Try.ntmps24
  go_wp2_with (go_at_call 26; ((with_reducible refine LC.out.mono ?_); rintro r w1 ⟨rfl, hb1⟩; have B1 := Lib.hid (below_of B0.out hb1); obtain ⟨c0, c1, c2, c3, c4⟩ := (E0.out.below hb1).cells; clear hb1))
  go_returns
  exact ⟨rfl, B1.out⟩
set_option maxRecDepth 100000 in
set_option maxHeartbeats 16000000 in
theorem enc_long {e : Ed} {hg ha : Hd} {w : World} (h : EdAt e hg ha w) (hL : ListedP e) (hl : ¬ (hg.n ≤ 256 ∧ ha.n ≤ 256)) : Calls Try.prog 24 #[edV e hg ha] w fun r w' => r = .returned (.tuple #[.string .empty, .int .i64 3]) ∧ Below w.heap.size w w' := by
  have LC := islisted_any (h.below (below_alloc w (edO e hg ha)))
  rw [tf_true hL] at LC
  replace LC := Lib.hid LC
  clear hL
  obtain ⟨ga, gn, gc, gb, go⟩ := hg
  obtain ⟨aa, an, ac, ab, ao⟩ := ha
  have m1 : gc ≤ 9223372036854775807 := h.gone.sl.most
  have m2 : ac ≤ 9223372036854775807 := h.added.sl.most
  have q1 : gn ≤ gc := h.gone.sl.cap
  have q2 : an ≤ ac := h.added.sl.cap
  have E0 := Lib.hid (EdB.new e ⟨ga, gn, gc, gb, go⟩ ⟨aa, an, ac, ab, ao⟩ w)
  have B0 := Lib.hid (below_alloc w (edO e ⟨ga, gn, gc, gb, go⟩ ⟨aa, an, ac, ab, ao⟩))
  replace h := Lib.hid h
  replace hl : ¬ (gn ≤ 256 ∧ an ≤ 256) := hl
  by_cases g1 : (256 : Int) < (gn : Int)
  · clear hl
    go_enter Try.func24, Try.ntmps24
    go_wp2_with (go_at_call 26; ((with_reducible refine LC.out.mono ?_); rintro r w1 ⟨rfl, hb1⟩; have B1 := Lib.hid (below_of B0.out hb1); obtain ⟨c0, c1, c2, c3, c4⟩ := (E0.out.below hb1).cells; clear hb1))
    go_returns
    exact ⟨rfl, B1.out⟩
  have g2 : (256 : Int) < (an : Int) := by omega
  clear hl
  go_enter Try.func24, Try.ntmps24
  go_wp2_with (go_at_call 26; ((with_reducible refine LC.out.mono ?_); rintro r w1 ⟨rfl, hb1⟩; have B1 := Lib.hid (below_of B0.out hb1); obtain ⟨c0, c1, c2, c3, c4⟩ := (E0.out.below hb1).cells; clear hb1))
  go_returns
  exact ⟨rfl, B1.out⟩
end Go.Proofs.Ythkdijapmamdbaa
