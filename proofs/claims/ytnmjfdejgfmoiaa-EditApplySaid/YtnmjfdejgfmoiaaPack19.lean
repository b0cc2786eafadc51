/-
  The contract of the document's Kept: a copy with its marks is as it was. No condition.
-/
import Derived.Test.YtnmjfdejgfmoiaaPack18
namespace Go.Proofs.Ytnmjfdejgfmoiaa
set_option maxRecDepth 100000
open Go Go.RowKit
theorem kp_num (n : Nat) (h : n ≤ 80) : wrap64 ((n : Int) + 1) = (n : Int) + 1 ∧ IntKind.i64.wrap ((n : Int) + 1) = (n : Int) + 1 := by
  have e2 : wrap64 ((n : Int) + 1) = (n : Int) + 1 := by unfold wrap64; omega
  have e3 : IntKind.i64.wrap ((n : Int) + 1) = (n : Int) + 1 := by simp [IntKind.wrap_i64]; omega
  exact ⟨e2, e3⟩
set_option maxRecDepth 100000 in
set_option maxHeartbeats 16000000 in
theorem kept_any {v : Vr} {H K : Nat → Hd} {w : World} (hM : VrAt v H w) (hK : ∀ i, i < 4 → Cp (K i) (v.lv i) w) (h80 : ∀ i, i < 4 → (H i).n ≤ 80) : Calls Try.prog 11 #[verV v K, verV v H] w fun r w' => r = .returned (.bool true) ∧ Below w.heap.size w w' := by
  have B0 := Lib.hid ((below_alloc w (verO v K)).alloc (by simp) (verO v H))
  have O0 := Lib.hid ((VerB.new v K w).below (below_alloc (w.alloc (verO v K)) (verO v H)))
  have V0 : Hid (VerB (w.heap.size + 1) v H ((w.alloc (verO v K)).alloc (verO v H))) := Lib.hid (by
    have := VerB.new v H (w.alloc (verO v K))
    rwa [World.size_alloc] at this)
  have CP := Lib.hid (fun u (hu : Below w.heap.size w u) i (hi : i < 4) => (hK i hi).below hu)
  have NN : Hid (∀ i, i < 4 → (K i).n = (H i).n) := Lib.hid (fun i hi => by rw [(hK i hi).n]; exact (hM i hi).len)
  have SM : Hid (∀ u, Below w.heap.size w u → Calls Try.prog 10 #[verV v K, verV v H] u fun e w' => e = .returned (.bool true) ∧ Below u.heap.size u w') := Lib.hid (fun u hu => by
    have h := rsame_any (x := v) (y := v) (H := K) (K := H) (w := u) (fun i hi => ((hK i hi).ms.below hu)) (hM.below hu)
    rw [tf_true (show SameV v v from ⟨rfl, rfl, rfl, fun _ _ => rfl⟩)] at h
    exact h)
  have h80 := Lib.hid h80
  clear hM hK
  go_enter Try.func11, Try.ntmps11
  go_wp2_with fail
  obtain ⟨u0, hu0⟩ := named ((w.alloc (verO v K)).alloc (verO v H))
  rw [← hu0.out] at B0 O0 V0
  have U0 : Hid (Below w.heap.size w u0 ∧ VerB w.heap.size v K u0 ∧ VerB (w.heap.size + 1) v H u0) := Lib.hid ⟨B0.out, O0.out, V0.out⟩
  rw [← hu0.out]
  replace hu0 := Lib.hid trivial
  clear B0 O0 V0
  go_loopw [5] (fun i wr => ∃ j : Nat, j ≤ 4 ∧ i = .int .i64 (j : Int) ∧ Hid (Below w.heap.size w wr ∧ VerB w.heap.size v K wr ∧ VerB (w.heap.size + 1) v H wr)) (fun i _ => 4 - (intOf i).toNat)
  case atStart => exact ⟨0, Nat.zero_le _, rfl, U0⟩
  case round =>
    clear U0
    obtain ⟨j, hjn, rfl, hI⟩ := hrel
    by_cases hlt : j < 4
    · have i0 : (j : Int) < 4 := by omega
      have LK := hI.out.2.1.lev hlt
      have LH := hI.out.2.2.lev hlt
      have hn := Lib.hid (h80.out j hlt)
      have hnn := NN.out j hlt
      have hcp := CP.out _ hI.out.1 j hlt
      obtain ⟨c1, c2⟩ := hcp.mark
      have c3 := hcp.a
      have c4 := hcp.ms.sl.most
      obtain ⟨⟨ha, n, hc, hb, ho⟩, hh⟩ := named (H j)
      obtain ⟨⟨ka, kn, kc, kb, ko⟩, hk⟩ := named (K j)
      rw [← hh.out] at LH hn hnn
      rw [← hk.out] at LK hnn c1 c2 c3 c4
      simp only at LH hn hnn LK c1 c2 c3 c4
      replace hh := Lib.hid trivial
      replace hk := Lib.hid trivial
      clear hcp
      subst hnn
      subst c3
      obtain ⟨q1, q2⟩ := kp_num kn hn.out
      have g1 : (((kn : Nat) : Int) != ((kn : Nat) : Int)) = false := by rw [bne_eq_false_iff_eq]
      have g2 : ¬ (kn : Int) + 1 < 0 := by omega
      have g3 : (kn : Int) + 1 ≤ (kc : Int) := by omega
      have g4 : (kn : Int) < (kn : Int) + 1 := by omega
      go_wp2_with fail
      trace_state
      go_roundw
      case rel => exact ⟨j + 1, by omega, by go_num, hI⟩
      case measure => simp [intOf]; omega
    · obtain rfl : j = 4 := by omega
      have i0 : ¬ ((4 : Nat) : Int) < 4 := by omega
      obtain ⟨x0, x1, x2, x3, x4, x5, x6⟩ := hI.out.2.1.cells
      obtain ⟨y0, y1, y2, y3, y4, y5, y6⟩ := hI.out.2.2.cells
      go_wp2_with (go_at_call 10; ((with_reducible refine (SM.out _ hI.out.1).mono ?_); rintro r w1 ⟨rfl, hb1⟩; have B1 := Lib.hid (below_of hI.out.1 hb1)))
      go_returns
      exact ⟨rfl, B1.out⟩
end Go.Proofs.Ytnmjfdejgfmoiaa
