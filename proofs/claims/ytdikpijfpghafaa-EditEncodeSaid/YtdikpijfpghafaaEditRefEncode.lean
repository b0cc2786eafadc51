/-
  The document's Encode. Condition: what came in.
-/
import Derived.Test.YtdikpijfpghafaaEditEncode
import Derived.Test.YtdikpijfpghafaaCodeUintRef
import Derived.Test.YtdikpijfpghafaaCodeFieldRef
namespace Go.Proofs.Ytdikpijfpghafaa
set_option maxRecDepth 100000
open Go.RowKit
theorem add_eq (a b c : List UInt8) (h : c = a ++ b) (hl : a.length + b.length ≤ 1000000000) : ¬ (9223372036854775807 < a.length + b.length) ∧ (⟨a.toArray⟩ : ByteArray) ++ ⟨b.toArray⟩ = ⟨c.toArray⟩ := by
  subst h
  refine ⟨by omega, ?_⟩
  apply ByteArray.ext
  simp
set_option maxRecDepth 100000 in
set_option maxHeartbeats 16000000 in
theorem rencode_main {e : Ed} {hg ha : Hd} {w : World} (h : EdAt e hg ha w) (hI : EdIn e) (hL : ListedP e) (hgl : hg.n ≤ 256) (hal : ha.n ≤ 256) : Calls Try.prog 30 #[edV e hg ha] w fun r w' => r = .returned (.tuple #[.string ⟨(encE e).toArray⟩, .int .i64 0]) ∧ Below w.heap.size w w' := by
  have LC := rlisted_any (h.below (below_alloc w (edO e hg ha)))
  rw [tf_true hL] at LC
  replace LC := Lib.hid LC
  obtain ⟨ga, gn, gc, gb, go⟩ := hg
  obtain ⟨aa, an, ac, ab, ao⟩ := ha
  replace hgl : gn ≤ 256 := hgl
  replace hal : an ≤ 256 := hal
  have m1 : gc ≤ 9223372036854775807 := h.gone.sl.most
  have m2 : ac ≤ 9223372036854775807 := h.added.sl.most
  have q1 : gn ≤ gc := h.gone.sl.cap
  have q2 : an ≤ ac := h.added.sl.cap
  have e1 : Hid (e.gone.length = gn) := Lib.hid h.gone.len
  have e2 : Hid (e.added.length = an) := Lib.hid h.added.len
  have E0 := Lib.hid (EdB.new e ⟨ga, gn, gc, gb, go⟩ ⟨aa, an, ac, ab, ao⟩ w)
  have B0 := Lib.hid (below_alloc w (edO e ⟨ga, gn, gc, gb, go⟩ ⟨aa, an, ac, ab, ao⟩))
  have g1 : ¬ (256 : Int) < (gn : Int) := by omega
  have g2 : ¬ (256 : Int) < (an : Int) := by omega
  have w3 := wrU gn (by omega)
  have w4 := wrU an (by omega)
  have EE : Hid (∀ u, Below (w.alloc (edO e ⟨ga, gn, gc, gb, go⟩ ⟨aa, an, ac, ab, ao⟩)).heap.size (w.alloc (edO e ⟨ga, gn, gc, gb, go⟩ ⟨aa, an, ac, ab, ao⟩)) u → EdB w.heap.size e ⟨ga, gn, gc, gb, go⟩ ⟨aa, an, ac, ab, ao⟩ u ∧ EdAt e ⟨ga, gn, gc, gb, go⟩ ⟨aa, an, ac, ab, ao⟩ u) := Lib.hid (fun u hu => ⟨E0.out.below hu, (h.below B0.out).below hu⟩)
  have UA := Lib.hid (fun u => refputuint_any e.log (by have := hI.1; omega) u)
  have UB := Lib.hid (fun u => refputuint_any e.next (by have := hI.2.1; omega) u)
  have UC := Lib.hid (fun u => refputuint_any e.seq (by have := hI.2.2.1; omega) u)
  have UD := Lib.hid (fun u => refputuint_any gn (by omega) u)
  have UE := Lib.hid (fun u => refputuint_any an (by omega) u)
  have l1 := uvar_le e.log hI.1
  have l2 := uvar_le e.next hI.2.1
  have l3 := uvar_le e.seq hI.2.2.1
  have l4 := uvar_le gn (by omega)
  have l5 := uvar_le an (by omega)
  have hAA : Hid (((Code.uvar e.log ++ Code.uvar e.next) ++ Code.uvar e.seq) ++ Code.uvar gn = encA e) := Lib.hid (by unfold encA; rw [e1.out]; simp)
  have hEA : Hid (Code.uvar an = Code.uvar e.added.length) := Lib.hid (by rw [e2.out])
  obtain ⟨D1, hD1⟩ := named (Code.uvar e.log)
  obtain ⟨D2, hD2⟩ := named (Code.uvar e.next)
  obtain ⟨D3, hD3⟩ := named (Code.uvar e.seq)
  obtain ⟨D4, hD4⟩ := named (Code.uvar gn)
  obtain ⟨D5, hD5⟩ := named (Code.uvar an)
  rw [← hD1.out] at UA l1 hAA
  rw [← hD2.out] at UB l2 hAA
  rw [← hD3.out] at UC l3 hAA
  rw [← hD4.out] at UD l4 hAA
  rw [← hD5.out] at UE l5 hEA
  obtain ⟨F1, hF1⟩ := named (D1 ++ D2)
  obtain ⟨F2, hF2⟩ := named (F1 ++ D3)
  obtain ⟨F3, hF3⟩ := named (F2 ++ D4)
  have k1 : F1.length ≤ 20 := by rw [hF1.out, List.length_append]; omega
  have k2 : F2.length ≤ 30 := by rw [hF2.out, List.length_append]; omega
  have a1 := add_eq D1 D2 F1 hF1.out (by omega)
  have a2 := add_eq F1 D3 F2 hF2.out (by omega)
  have a3 := add_eq F2 D4 F3 hF3.out (by omega)
  have hF : Hid (F3 = encA e) := Lib.hid (by rw [← hAA.out, hF3.out, hF2.out, hF1.out])
  replace h := Lib.hid trivial
  replace hI := Lib.hid hI
  replace hL := Lib.hid hL
  obtain ⟨Z, hZ⟩ := named (encE e)
  rw [← hZ.out]
  replace hZ := Lib.hid hZ.out
  replace hF1 := Lib.hid trivial
  replace hF2 := Lib.hid trivial
  replace hF3 := Lib.hid trivial
  replace hD1 := Lib.hid trivial
  replace hD2 := Lib.hid trivial
  replace hD3 := Lib.hid trivial
  replace hD4 := Lib.hid trivial
  replace hD5 := Lib.hid trivial
  clear l1 l2 l3 l4 k1 k2
  replace l5 := Lib.hid l5
  go_enter Try.func30, Try.ntmps30
  go_upto_region 5 with (go_at_call 48; ((with_reducible refine LC.out.mono ?_); rintro r w1 ⟨rfl, hb1⟩; have B1 := Lib.hid hb1; clear hb1; obtain ⟨c0, c1, c2, c3, c4⟩ := (EE.out _ B1.out).1.cells))
  have hSB : Hid (∀ u z : World, Below u.heap.size u z → ((u.cell? ⟨w.heap.size, 0, none⟩ = some (.int .u64 (e.log : Int)) ∧ u.cell? ⟨w.heap.size, 1, none⟩ = some (.int .u64 (e.next : Int)) ∧ u.cell? ⟨w.heap.size, 2, none⟩ = some (.int .u64 (e.seq : Int)) ∧ u.cell? ⟨w.heap.size, 3, none⟩ = some (.slice ga gn gc) ∧ u.cell? ⟨w.heap.size, 4, none⟩ = some (.slice aa an ac))) → (z.cell? ⟨w.heap.size, 0, none⟩ = some (.int .u64 (e.log : Int)) ∧ z.cell? ⟨w.heap.size, 1, none⟩ = some (.int .u64 (e.next : Int)) ∧ z.cell? ⟨w.heap.size, 2, none⟩ = some (.int .u64 (e.seq : Int)) ∧ z.cell? ⟨w.heap.size, 3, none⟩ = some (.slice ga gn gc) ∧ z.cell? ⟨w.heap.size, 4, none⟩ = some (.slice aa an ac))) := Lib.hid (fun u z hk ⟨a0, a1, a2, a3, a4⟩ => ⟨cell_keep hk a0, cell_keep hk a1, cell_keep hk a2, cell_keep hk a3, cell_keep hk a4⟩)
  have S0 : Hid ((w1.drew.cell? ⟨w.heap.size, 0, none⟩ = some (.int .u64 (e.log : Int)) ∧ w1.drew.cell? ⟨w.heap.size, 1, none⟩ = some (.int .u64 (e.next : Int)) ∧ w1.drew.cell? ⟨w.heap.size, 2, none⟩ = some (.int .u64 (e.seq : Int)) ∧ w1.drew.cell? ⟨w.heap.size, 3, none⟩ = some (.slice ga gn gc) ∧ w1.drew.cell? ⟨w.heap.size, 4, none⟩ = some (.slice aa an ac))) := Lib.hid ⟨c0, c1, c2, c3, c4⟩
  have Bz := Lib.hid B1.out.drew
  refine wp_region_held_drew (S := (fun u => (u.cell? ⟨w.heap.size, 0, none⟩ = some (.int .u64 (e.log : Int)) ∧ u.cell? ⟨w.heap.size, 1, none⟩ = some (.int .u64 (e.next : Int)) ∧ u.cell? ⟨w.heap.size, 2, none⟩ = some (.int .u64 (e.seq : Int)) ∧ u.cell? ⟨w.heap.size, 3, none⟩ = some (.slice ga gn gc) ∧ u.cell? ⟨w.heap.size, 4, none⟩ = some (.slice aa an ac)))) (by kernel_rfl) (S0.out) (fun hHeld => ?_)
  refine held_take (i := 0) (v := ?_) rfl (by kernel_rfl) (by kernel_rfl) (by kernel_rfl) (fun _ _ _ h => h) (by rfl) (fun w hSw => ?_) (by assumption) ?_; rotate_left 1; focus (((try dsimp only at hSw); first | (go_simp; done) | (go_simp; with_reducible rfl) | (go_simp; (first | rw [if_neg a1.1, a1.2] | rw [if_neg a2.1, a2.2] | rw [if_neg a3.1, a3.2]); first | done | rfl)))
  try simp only [Act.put, List.setIfInBounds_toArray, List.set_cons_zero, List.set_cons_succ]
  refine held_take (i := 1) (v := ?_) rfl (by kernel_rfl) (by kernel_rfl) (by kernel_rfl) (fun _ _ _ h => h) (by rfl) (fun w hSw => ?_) (by assumption) ?_; rotate_left 1; focus (((try dsimp only at hSw); first | (go_simp; done) | (go_simp; with_reducible rfl) | (go_simp; (first | rw [if_neg a1.1, a1.2] | rw [if_neg a2.1, a2.2] | rw [if_neg a3.1, a3.2]); first | done | rfl)))
  try simp only [Act.put, List.setIfInBounds_toArray, List.set_cons_zero, List.set_cons_succ]
  refine held_take (i := 3) (v := ?_) rfl (by kernel_rfl) (by kernel_rfl) (by kernel_rfl) (fun _ _ _ h => h) (by rfl) (fun w hSw => ?_) (by assumption) ?_; rotate_left 1; focus (((try dsimp only at hSw); first | (go_simp; done) | (go_simp; with_reducible rfl) | (go_simp; (first | rw [if_neg a1.1, a1.2] | rw [if_neg a2.1, a2.2] | rw [if_neg a3.1, a3.2]); first | done | rfl)))
  try simp only [Act.put, List.setIfInBounds_toArray, List.set_cons_zero, List.set_cons_succ]
  refine held_take (i := 4) (v := ?_) rfl (by kernel_rfl) (by kernel_rfl) (by kernel_rfl) (fun _ _ _ h => h) (by rfl) (fun w hSw => ?_) (by assumption) ?_; rotate_left 1; focus (((try dsimp only at hSw); first | (go_simp; done) | (go_simp; with_reducible rfl) | (go_simp; (first | rw [if_neg a1.1, a1.2] | rw [if_neg a2.1, a2.2] | rw [if_neg a3.1, a3.2]); first | done | rfl)))
  try simp only [Act.put, List.setIfInBounds_toArray, List.set_cons_zero, List.set_cons_succ]
  refine held_take (i := 7) (v := ?_) rfl (by kernel_rfl) (by kernel_rfl) (by kernel_rfl) (fun _ _ _ h => h) (by rfl) (fun w hSw => ?_) (by assumption) ?_; rotate_left 1; focus (((try dsimp only at hSw); first | (go_simp; done) | (go_simp; with_reducible rfl) | (go_simp; (first | rw [if_neg a1.1, a1.2] | rw [if_neg a2.1, a2.2] | rw [if_neg a3.1, a3.2]); first | done | rfl)))
  try simp only [Act.put, List.setIfInBounds_toArray, List.set_cons_zero, List.set_cons_succ]
  refine held_take (i := 8) (v := ?_) rfl (by kernel_rfl) (by kernel_rfl) (by kernel_rfl) (fun _ _ _ h => h) (by rfl) (fun w hSw => ?_) (by assumption) ?_; rotate_left 1; focus (((try dsimp only at hSw); first | (go_simp; done) | (go_simp; with_reducible rfl) | (go_simp; (first | rw [if_neg a1.1, a1.2] | rw [if_neg a2.1, a2.2] | rw [if_neg a3.1, a3.2]); first | done | rfl)))
  try simp only [Act.put, List.setIfInBounds_toArray, List.set_cons_zero, List.set_cons_succ]
  refine held_take (i := 11) (v := ?_) rfl (by kernel_rfl) (by kernel_rfl) (by kernel_rfl) (fun _ _ _ h => h) (by rfl) (fun w hSw => ?_) (by assumption) ?_; rotate_left 1; focus (((try dsimp only at hSw); first | (go_simp; done) | (go_simp; with_reducible rfl) | (go_simp; (first | rw [if_neg a1.1, a1.2] | rw [if_neg a2.1, a2.2] | rw [if_neg a3.1, a3.2]); first | done | rfl)))
  try simp only [Act.put, List.setIfInBounds_toArray, List.set_cons_zero, List.set_cons_succ]
  refine held_take (i := 12) (v := ?_) rfl (by kernel_rfl) (by kernel_rfl) (by kernel_rfl) (fun _ _ _ h => h) (by rfl) (fun w hSw => ?_) (by assumption) ?_; rotate_left 1; focus (((try dsimp only at hSw); first | (go_simp; done) | (go_simp; with_reducible rfl) | (go_simp; (first | rw [if_neg a1.1, a1.2] | rw [if_neg a2.1, a2.2] | rw [if_neg a3.1, a3.2]); first | done | rfl)))
  try simp only [Act.put, List.setIfInBounds_toArray, List.set_cons_zero, List.set_cons_succ]
  refine held_take (i := 13) (v := ?_) rfl (by kernel_rfl) (by kernel_rfl) (by kernel_rfl) (fun _ _ _ h => h) (by rfl) (fun w hSw => ?_) (by assumption) ?_; rotate_left 1; focus (((try dsimp only at hSw); first | (go_simp; done) | (go_simp; with_reducible rfl) | (go_simp; (first | rw [if_neg a1.1, a1.2] | rw [if_neg a2.1, a2.2] | rw [if_neg a3.1, a3.2]); first | done | rfl)))
  try simp only [Act.put, List.setIfInBounds_toArray, List.set_cons_zero, List.set_cons_succ]
  refine held_take (i := 14) (v := ?_) rfl (by kernel_rfl) (by kernel_rfl) (by kernel_rfl) (fun _ _ _ h => h) (by rfl) (fun w hSw => ?_) (by assumption) ?_; rotate_left 1; focus (((try dsimp only at hSw); first | (go_simp; done) | (go_simp; with_reducible rfl) | (go_simp; (first | rw [if_neg a1.1, a1.2] | rw [if_neg a2.1, a2.2] | rw [if_neg a3.1, a3.2]); first | done | rfl)))
  try simp only [Act.put, List.setIfInBounds_toArray, List.set_cons_zero, List.set_cons_succ]
  refine held_call (i := 2) (by kernel_rfl) rfl (by rfl) (fun K hK => ?_)
  go_simp
  (go_at_call 57; ((with_reducible refine (UA.out _).mono ?_); rintro r u1 ⟨rfl, hb1⟩))
  have Bx1 := Lib.hid (below_of Bz.out hb1)
  refine hK.out _ _ (hSB.out _ _ hb1 hHeld) (fun hHeld => ?_)
  try simp only [Act.put, List.setIfInBounds_toArray, List.set_cons_zero, List.set_cons_succ]
  refine held_call (i := 5) (by kernel_rfl) rfl (by rfl) (fun K hK => ?_)
  go_simp
  (go_at_call 57; ((with_reducible refine (UB.out _).mono ?_); rintro r u2 ⟨rfl, hb2⟩))
  have Bx2 := Lib.hid (below_of Bx1.out hb2)
  refine hK.out _ _ (hSB.out _ _ hb2 hHeld) (fun hHeld => ?_)
  try simp only [Act.put, List.setIfInBounds_toArray, List.set_cons_zero, List.set_cons_succ]
  refine held_take (i := 6) (v := ?_) rfl (by kernel_rfl) (by kernel_rfl) (by kernel_rfl) (fun _ _ _ h => h) (by rfl) (fun w hSw => ?_) (by assumption) ?_; rotate_left 1; focus (((try dsimp only at hSw); first | (go_simp; done) | (go_simp; with_reducible rfl) | (go_simp; (first | rw [if_neg a1.1, a1.2] | rw [if_neg a2.1, a2.2] | rw [if_neg a3.1, a3.2]); first | done | rfl)))
  try simp only [Act.put, List.setIfInBounds_toArray, List.set_cons_zero, List.set_cons_succ]
  refine held_call (i := 9) (by kernel_rfl) rfl (by rfl) (fun K hK => ?_)
  go_simp
  (go_at_call 57; ((with_reducible refine (UC.out _).mono ?_); rintro r u3 ⟨rfl, hb3⟩))
  have Bx3 := Lib.hid (below_of Bx2.out hb3)
  refine hK.out _ _ (hSB.out _ _ hb3 hHeld) (fun hHeld => ?_)
  try simp only [Act.put, List.setIfInBounds_toArray, List.set_cons_zero, List.set_cons_succ]
  refine held_take (i := 10) (v := ?_) rfl (by kernel_rfl) (by kernel_rfl) (by kernel_rfl) (fun _ _ _ h => h) (by rfl) (fun w hSw => ?_) (by assumption) ?_; rotate_left 1; focus (((try dsimp only at hSw); first | (go_simp; done) | (go_simp; with_reducible rfl) | (go_simp; (first | rw [if_neg a1.1, a1.2] | rw [if_neg a2.1, a2.2] | rw [if_neg a3.1, a3.2]); first | done | rfl)))
  try simp only [Act.put, List.setIfInBounds_toArray, List.set_cons_zero, List.set_cons_succ]
  refine held_call (i := 15) (by kernel_rfl) rfl (by rfl) (fun K hK => ?_)
  go_simp
  (go_at_call 57; ((with_reducible refine (UD.out _).mono ?_); rintro r u4 ⟨rfl, hb4⟩))
  have Bx4 := Lib.hid (below_of Bx3.out hb4)
  refine hK.out _ _ (hSB.out _ _ hb4 hHeld) (fun hHeld => ?_)
  try simp only [Act.put, List.setIfInBounds_toArray, List.set_cons_zero, List.set_cons_succ]
  refine held_take (i := 16) (v := ?_) rfl (by kernel_rfl) (by kernel_rfl) (by kernel_rfl) (fun _ _ _ h => h) (by rfl) (fun w hSw => ?_) (by assumption) ?_; rotate_left 1; focus (((try dsimp only at hSw); first | (go_simp; done) | (go_simp; with_reducible rfl) | (go_simp; (first | rw [if_neg a1.1, a1.2] | rw [if_neg a2.1, a2.2] | rw [if_neg a3.1, a3.2]); first | done | rfl)))
  try simp only [Act.put, List.setIfInBounds_toArray, List.set_cons_zero, List.set_cons_succ]
  refine held_take (i := 17) (v := ?_) rfl (by kernel_rfl) (by kernel_rfl) (by kernel_rfl) (fun _ _ _ h => h) (by rfl) (fun w hSw => ?_) (by assumption) ?_; rotate_left 1; focus (((try dsimp only at hSw); first | (go_simp; done) | (go_simp; with_reducible rfl) | (go_simp; (first | rw [if_neg a1.1, a1.2] | rw [if_neg a2.1, a2.2] | rw [if_neg a3.1, a3.2]); first | done | rfl)))
  try simp only [Act.put, List.setIfInBounds_toArray, List.set_cons_zero, List.set_cons_succ]
  refine wpAnyH_done (by kernel_rfl) ?_ _
  clear hSB S0 a1 a2 a3 UA UB UC UD
  rw [hF.out]
  go_wp2_with fail
  go_loopw [4, 5] (fun s i wr => ∃ j : Nat, j ≤ gn ∧ i = .int .i64 (j : Int) ∧ ∃ Lb : List UInt8, s = .string ⟨Lb.toArray⟩ ∧ Hid (Lb = encA e ++ (e.gone.take j).flatMap encG) ∧ Hid (Below (w.alloc (edO e ⟨ga, gn, gc, gb, go⟩ ⟨aa, an, ac, ab, ao⟩)).heap.size (w.alloc (edO e ⟨ga, gn, gc, gb, go⟩ ⟨aa, an, ac, ab, ao⟩)) wr)) (fun _ i _ => gn - (intOf i).toNat)
  case atStart => exact ⟨0, Nat.zero_le _, rfl, _, rfl, Lib.hid (by simp), Bx4⟩
  case round =>
    obtain ⟨j, hj, rfl, Lb, rfl, hLb, hb⟩ := hrel
    obtain ⟨c0, c1, c2, c3, c4⟩ := (EE.out _ hb.out).1.cells
    by_cases hlt : j < gn
    · obtain ⟨x, hx, rfl, hbl, x0, x1⟩ := (EE.out _ hb.out).2.gone.at2x hlt
      have hxl := hL.out.1 x (List.mem_of_getElem? hx)
      have hxi := hI.out.2.2.2.1 x (List.mem_of_getElem? hx)
      have hln := len_B e hI.out (by rw [e1.out]; exact hgl) j
      have hnx : Hid (Lb ++ encG x = encA e ++ (e.gone.take (j + 1)).flatMap encG) := Lib.hid (by rw [List.take_add_one, hx, hLb.out]; simp)
      obtain ⟨xl, xn⟩ := x
      obtain ⟨lv, rfl⟩ : ∃ lv : Nat, xl = (lv : Int) := ⟨xl.toNat, by have := hxl.1; simp only at this; omega⟩
      have hlv : lv < 4 := by have := hxl.2; simp only at this; omega
      have hn1 : xn ≤ 18446744073709551615 := hxi.2
      have w5 := wrU lv (by omega)
      rw [← hLb.out] at hln
      have U1 := Lib.hid (fun u => refputuint_any lv (by omega) u)
      have U2 := Lib.hid (fun u => refputuint_any xn (by omega) u)
      have l1 := uvar_le lv (by omega)
      have l2 := uvar_le xn hn1
      have hnx2 : Hid ((Lb ++ Code.uvar lv) ++ Code.uvar xn = encA e ++ (e.gone.take (j + 1)).flatMap encG) := Lib.hid (by rw [← hnx.out]; simp [encG])
      obtain ⟨D1, hD1⟩ := named (Code.uvar lv)
      obtain ⟨D2, hD2⟩ := named (Code.uvar xn)
      rw [← hD1.out] at U1 l1 hnx2
      rw [← hD2.out] at U2 l2 hnx2
      obtain ⟨F1, hF1⟩ := named (Lb ++ D1)
      obtain ⟨F2, hF2⟩ := named (F1 ++ D2)
      have k1 : F1.length ≤ 100010 := by rw [hF1.out, List.length_append]; omega
      have a1 := add_eq Lb D1 F1 hF1.out (by omega)
      have a2 := add_eq F1 D2 F2 hF2.out (by omega)
      have hG : Hid (F2 = encA e ++ (e.gone.take (j + 1)).flatMap encG) := Lib.hid (by rw [← hnx2.out, hF2.out, hF1.out])
      have i0 : (j : Int) < (gn : Int) := by omega
      have i1 : (0 : Int) ≤ (j : Int) := by omega
      simp only at x0 x1
      have hSB : Hid (∀ u z : World, Below u.heap.size u z → ((u.cell? ⟨w.heap.size, 0, none⟩ = some (.int .u64 (e.log : Int)) ∧ u.cell? ⟨w.heap.size, 1, none⟩ = some (.int .u64 (e.next : Int)) ∧ u.cell? ⟨w.heap.size, 2, none⟩ = some (.int .u64 (e.seq : Int)) ∧ u.cell? ⟨w.heap.size, 3, none⟩ = some (.slice (some ⟨gb, go, none⟩) gn gc) ∧ u.cell? ⟨w.heap.size, 4, none⟩ = some (.slice aa an ac)) ∧ (u.cell? ⟨gb, go + j * 2, none⟩ = some (.int .i64 (lv : Int)) ∧ u.cell? ⟨gb, go + j * 2 + 1, none⟩ = some (.int .u64 (xn : Int)))) → (z.cell? ⟨w.heap.size, 0, none⟩ = some (.int .u64 (e.log : Int)) ∧ z.cell? ⟨w.heap.size, 1, none⟩ = some (.int .u64 (e.next : Int)) ∧ z.cell? ⟨w.heap.size, 2, none⟩ = some (.int .u64 (e.seq : Int)) ∧ z.cell? ⟨w.heap.size, 3, none⟩ = some (.slice (some ⟨gb, go, none⟩) gn gc) ∧ z.cell? ⟨w.heap.size, 4, none⟩ = some (.slice aa an ac)) ∧ (z.cell? ⟨gb, go + j * 2, none⟩ = some (.int .i64 (lv : Int)) ∧ z.cell? ⟨gb, go + j * 2 + 1, none⟩ = some (.int .u64 (xn : Int)))) := Lib.hid (fun u z hk ⟨⟨a0, a1, a2, a3, a4⟩, b0, b1⟩ => ⟨⟨cell_keep hk a0, cell_keep hk a1, cell_keep hk a2, cell_keep hk a3, cell_keep hk a4⟩, cell_keep hk b0, cell_keep hk b1⟩)
      have S0 : Hid ((wr.drew.cell? ⟨w.heap.size, 0, none⟩ = some (.int .u64 (e.log : Int)) ∧ wr.drew.cell? ⟨w.heap.size, 1, none⟩ = some (.int .u64 (e.next : Int)) ∧ wr.drew.cell? ⟨w.heap.size, 2, none⟩ = some (.int .u64 (e.seq : Int)) ∧ wr.drew.cell? ⟨w.heap.size, 3, none⟩ = some (.slice (some ⟨gb, go, none⟩) gn gc) ∧ wr.drew.cell? ⟨w.heap.size, 4, none⟩ = some (.slice aa an ac)) ∧ (wr.drew.cell? ⟨gb, go + j * 2, none⟩ = some (.int .i64 (lv : Int)) ∧ wr.drew.cell? ⟨gb, go + j * 2 + 1, none⟩ = some (.int .u64 (xn : Int)))) := Lib.hid ⟨⟨c0, c1, c2, c3, c4⟩, x0, x1⟩
      have Bz := Lib.hid hb.out.drew
      replace hF1 := Lib.hid trivial
      replace hF2 := Lib.hid trivial
      replace hD1 := Lib.hid trivial
      replace hD2 := Lib.hid trivial
      clear hx hxl hxi hln hnx hnx2 hn1 l1 l2 k1
      go_upto_region 9 with fail
      clear c0 c1 c2 c3 c4 x0 x1
      refine wp_region_held_drew (S := (fun u => (u.cell? ⟨w.heap.size, 0, none⟩ = some (.int .u64 (e.log : Int)) ∧ u.cell? ⟨w.heap.size, 1, none⟩ = some (.int .u64 (e.next : Int)) ∧ u.cell? ⟨w.heap.size, 2, none⟩ = some (.int .u64 (e.seq : Int)) ∧ u.cell? ⟨w.heap.size, 3, none⟩ = some (.slice (some ⟨gb, go, none⟩) gn gc) ∧ u.cell? ⟨w.heap.size, 4, none⟩ = some (.slice aa an ac)) ∧ (u.cell? ⟨gb, go + j * 2, none⟩ = some (.int .i64 (lv : Int)) ∧ u.cell? ⟨gb, go + j * 2 + 1, none⟩ = some (.int .u64 (xn : Int))))) (by kernel_rfl) (S0.out) (fun hHeld => ?_)
      refine held_take (i := 0) (v := ?_) rfl (by kernel_rfl) (by kernel_rfl) (by kernel_rfl) (fun _ _ _ h => h) (by rfl) (fun w hSw => ?_) (by assumption) ?_; rotate_left 1; focus (((try dsimp only at hSw); first | (go_simp; done) | (go_simp; with_reducible rfl) | (go_simp; (first | rw [if_neg a1.1, a1.2] | rw [if_neg a2.1, a2.2]); first | done | rfl)))
      try simp only [Act.put, List.setIfInBounds_toArray, List.set_cons_zero, List.set_cons_succ]
      refine held_take (i := 1) (v := ?_) rfl (by kernel_rfl) (by kernel_rfl) (by kernel_rfl) (fun _ _ _ h => h) (by rfl) (fun w hSw => ?_) (by assumption) ?_; rotate_left 1; focus (((try dsimp only at hSw); first | (go_simp; done) | (go_simp; with_reducible rfl) | (go_simp; (first | rw [if_neg a1.1, a1.2] | rw [if_neg a2.1, a2.2]); first | done | rfl)))
      try simp only [Act.put, List.setIfInBounds_toArray, List.set_cons_zero, List.set_cons_succ]
      refine held_take (i := 2) (v := ?_) rfl (by kernel_rfl) (by kernel_rfl) (by kernel_rfl) (fun _ _ _ h => h) (by rfl) (fun w hSw => ?_) (by assumption) ?_; rotate_left 1; focus (((try dsimp only at hSw); first | (go_simp; done) | (go_simp; with_reducible rfl) | (go_simp; (first | rw [if_neg a1.1, a1.2] | rw [if_neg a2.1, a2.2]); first | done | rfl)))
      try simp only [Act.put, List.setIfInBounds_toArray, List.set_cons_zero, List.set_cons_succ]
      refine held_take (i := 3) (v := ?_) rfl (by kernel_rfl) (by kernel_rfl) (by kernel_rfl) (fun _ _ _ h => h) (by rfl) (fun w hSw => ?_) (by assumption) ?_; rotate_left 1; focus (((try dsimp only at hSw); first | (go_simp; done) | (go_simp; with_reducible rfl) | (go_simp; (first | rw [if_neg a1.1, a1.2] | rw [if_neg a2.1, a2.2]); first | done | rfl)))
      try simp only [Act.put, List.setIfInBounds_toArray, List.set_cons_zero, List.set_cons_succ]
      refine held_take (i := 4) (v := ?_) rfl (by kernel_rfl) (by kernel_rfl) (by kernel_rfl) (fun _ _ _ h => h) (by rfl) (fun w hSw => ?_) (by assumption) ?_; rotate_left 1; focus (((try dsimp only at hSw); first | (go_simp; done) | (go_simp; with_reducible rfl) | (go_simp; (first | rw [if_neg a1.1, a1.2] | rw [if_neg a2.1, a2.2]); first | done | rfl)))
      try simp only [Act.put, List.setIfInBounds_toArray, List.set_cons_zero, List.set_cons_succ]
      refine held_take (i := 5) (v := ?_) rfl (by kernel_rfl) (by kernel_rfl) (by kernel_rfl) (fun _ _ _ h => h) (by rfl) (fun w hSw => ?_) (by assumption) ?_; rotate_left 1; focus (((try dsimp only at hSw); first | (go_simp; done) | (go_simp; with_reducible rfl) | (go_simp; (first | rw [if_neg a1.1, a1.2] | rw [if_neg a2.1, a2.2]); first | done | rfl)))
      try simp only [Act.put, List.setIfInBounds_toArray, List.set_cons_zero, List.set_cons_succ]
      refine held_take (i := 6) (v := ?_) rfl (by kernel_rfl) (by kernel_rfl) (by kernel_rfl) (fun _ _ _ h => h) (by rfl) (fun w hSw => ?_) (by assumption) ?_; rotate_left 1; focus (((try dsimp only at hSw); first | (go_simp; done) | (go_simp; with_reducible rfl) | (go_simp; (first | rw [if_neg a1.1, a1.2] | rw [if_neg a2.1, a2.2]); first | done | rfl)))
      try simp only [Act.put, List.setIfInBounds_toArray, List.set_cons_zero, List.set_cons_succ]
      refine held_take (i := 7) (v := ?_) rfl (by kernel_rfl) (by kernel_rfl) (by kernel_rfl) (fun _ _ _ h => h) (by rfl) (fun w hSw => ?_) (by assumption) ?_; rotate_left 1; focus (((try dsimp only at hSw); first | (go_simp; done) | (go_simp; with_reducible rfl) | (go_simp; (first | rw [if_neg a1.1, a1.2] | rw [if_neg a2.1, a2.2]); first | done | rfl)))
      try simp only [Act.put, List.setIfInBounds_toArray, List.set_cons_zero, List.set_cons_succ]
      refine held_take (i := 10) (v := ?_) rfl (by kernel_rfl) (by kernel_rfl) (by kernel_rfl) (fun _ _ _ h => h) (by rfl) (fun w hSw => ?_) (by assumption) ?_; rotate_left 1; focus (((try dsimp only at hSw); first | (go_simp; done) | (go_simp; with_reducible rfl) | (go_simp; (first | rw [if_neg a1.1, a1.2] | rw [if_neg a2.1, a2.2]); first | done | rfl)))
      try simp only [Act.put, List.setIfInBounds_toArray, List.set_cons_zero, List.set_cons_succ]
      refine held_take (i := 11) (v := ?_) rfl (by kernel_rfl) (by kernel_rfl) (by kernel_rfl) (fun _ _ _ h => h) (by rfl) (fun w hSw => ?_) (by assumption) ?_; rotate_left 1; focus (((try dsimp only at hSw); first | (go_simp; done) | (go_simp; with_reducible rfl) | (go_simp; (first | rw [if_neg a1.1, a1.2] | rw [if_neg a2.1, a2.2]); first | done | rfl)))
      try simp only [Act.put, List.setIfInBounds_toArray, List.set_cons_zero, List.set_cons_succ]
      refine held_take (i := 12) (v := ?_) rfl (by kernel_rfl) (by kernel_rfl) (by kernel_rfl) (fun _ _ _ h => h) (by rfl) (fun w hSw => ?_) (by assumption) ?_; rotate_left 1; focus (((try dsimp only at hSw); first | (go_simp; done) | (go_simp; with_reducible rfl) | (go_simp; (first | rw [if_neg a1.1, a1.2] | rw [if_neg a2.1, a2.2]); first | done | rfl)))
      try simp only [Act.put, List.setIfInBounds_toArray, List.set_cons_zero, List.set_cons_succ]
      refine held_take (i := 13) (v := ?_) rfl (by kernel_rfl) (by kernel_rfl) (by kernel_rfl) (fun _ _ _ h => h) (by rfl) (fun w hSw => ?_) (by assumption) ?_; rotate_left 1; focus (((try dsimp only at hSw); first | (go_simp; done) | (go_simp; with_reducible rfl) | (go_simp; (first | rw [if_neg a1.1, a1.2] | rw [if_neg a2.1, a2.2]); first | done | rfl)))
      try simp only [Act.put, List.setIfInBounds_toArray, List.set_cons_zero, List.set_cons_succ]
      refine held_take (i := 14) (v := ?_) rfl (by kernel_rfl) (by kernel_rfl) (by kernel_rfl) (fun _ _ _ h => h) (by rfl) (fun w hSw => ?_) (by assumption) ?_; rotate_left 1; focus (((try dsimp only at hSw); first | (go_simp; done) | (go_simp; with_reducible rfl) | (go_simp; (first | rw [if_neg a1.1, a1.2] | rw [if_neg a2.1, a2.2]); first | done | rfl)))
      try simp only [Act.put, List.setIfInBounds_toArray, List.set_cons_zero, List.set_cons_succ]
      refine held_take (i := 15) (v := ?_) rfl (by kernel_rfl) (by kernel_rfl) (by kernel_rfl) (fun _ _ _ h => h) (by rfl) (fun w hSw => ?_) (by assumption) ?_; rotate_left 1; focus (((try dsimp only at hSw); first | (go_simp; done) | (go_simp; with_reducible rfl) | (go_simp; (first | rw [if_neg a1.1, a1.2] | rw [if_neg a2.1, a2.2]); first | done | rfl)))
      try simp only [Act.put, List.setIfInBounds_toArray, List.set_cons_zero, List.set_cons_succ]
      refine held_call (i := 8) (by kernel_rfl) rfl (by rfl) (fun K hK => ?_)
      go_simp
      (go_at_call 57; ((with_reducible refine (U1.out _).mono ?_); rintro r u1 ⟨rfl, hb1⟩))
      have By1 := Lib.hid (below_of Bz.out hb1)
      refine hK.out _ _ (hSB.out _ _ hb1 hHeld) (fun hHeld => ?_)
      try simp only [Act.put, List.setIfInBounds_toArray, List.set_cons_zero, List.set_cons_succ]
      refine held_take (i := 9) (v := ?_) rfl (by kernel_rfl) (by kernel_rfl) (by kernel_rfl) (fun _ _ _ h => h) (by rfl) (fun w hSw => ?_) (by assumption) ?_; rotate_left 1; focus (((try dsimp only at hSw); first | (go_simp; done) | (go_simp; with_reducible rfl) | (go_simp; (first | rw [if_neg a1.1, a1.2] | rw [if_neg a2.1, a2.2]); first | done | rfl)))
      try simp only [Act.put, List.setIfInBounds_toArray, List.set_cons_zero, List.set_cons_succ]
      refine held_call (i := 16) (by kernel_rfl) rfl (by rfl) (fun K hK => ?_)
      go_simp
      (go_at_call 57; ((with_reducible refine (U2.out _).mono ?_); rintro r u2 ⟨rfl, hb2⟩))
      have By2 := Lib.hid (below_of By1.out hb2)
      refine hK.out _ _ (hSB.out _ _ hb2 hHeld) (fun hHeld => ?_)
      try simp only [Act.put, List.setIfInBounds_toArray, List.set_cons_zero, List.set_cons_succ]
      refine held_take (i := 17) (v := ?_) rfl (by kernel_rfl) (by kernel_rfl) (by kernel_rfl) (fun _ _ _ h => h) (by rfl) (fun w hSw => ?_) (by assumption) ?_; rotate_left 1; focus (((try dsimp only at hSw); first | (go_simp; done) | (go_simp; with_reducible rfl) | (go_simp; (first | rw [if_neg a1.1, a1.2] | rw [if_neg a2.1, a2.2]); first | done | rfl)))
      try simp only [Act.put, List.setIfInBounds_toArray, List.set_cons_zero, List.set_cons_succ]
      refine held_take (i := 18) (v := ?_) rfl (by kernel_rfl) (by kernel_rfl) (by kernel_rfl) (fun _ _ _ h => h) (by rfl) (fun w hSw => ?_) (by assumption) ?_; rotate_left 1; focus (((try dsimp only at hSw); first | (go_simp; done) | (go_simp; with_reducible rfl) | (go_simp; (first | rw [if_neg a1.1, a1.2] | rw [if_neg a2.1, a2.2]); first | done | rfl)))
      try simp only [Act.put, List.setIfInBounds_toArray, List.set_cons_zero, List.set_cons_succ]
      refine wpAnyH_done (by kernel_rfl) ?_ _
      clear a1 a2 hSB S0
      go_wp2_with fail
      go_roundw
      case rel => exact ⟨j + 1, by omega, by go_num, _, rfl, hG, By2⟩
      case measure => simp [intOf]; omega
    · have i0 : ¬ (j : Int) < (gn : Int) := by omega
      have et : Hid (e.gone.take j = e.gone) := Lib.hid (List.take_of_length_le (by rw [e1.out]; omega))
      have hln := len_B e hI.out (by rw [e1.out]; exact hgl) e.gone.length
      rw [List.take_length] at hln
      rw [et.out] at hLb
      obtain ⟨F1, hF1⟩ := named (Lb ++ D5)
      obtain ⟨n1, c1'⟩ := add_eq Lb D5 F1 hF1.out (by rw [hLb.out]; have := l5.out; omega)
      have hG : Hid (F1 = encA e ++ e.gone.flatMap encG ++ Code.uvar e.added.length ++ (e.added.take 0).flatMap encP) := Lib.hid (by rw [hF1.out, hLb.out, hEA.out]; simp)
      replace hF1 := Lib.hid trivial
      clear hln
      go_wp2_with (go_at_call 57; ((with_reducible refine (UE.out _).mono ?_); rintro r w8 ⟨rfl, hb8⟩; have B8 := Lib.hid (below_of hb.out hb8); clear hb8))
      clear n1 c1' c0 c1 c2 c3 c4
      go_loopw [4, 6] (fun s i wr => ∃ k : Nat, k ≤ an ∧ i = .int .i64 (k : Int) ∧ ∃ Lb : List UInt8, s = .string ⟨Lb.toArray⟩ ∧ Hid (Lb = encA e ++ e.gone.flatMap encG ++ Code.uvar e.added.length ++ (e.added.take k).flatMap encP) ∧ Hid (Below (w.alloc (edO e ⟨ga, gn, gc, gb, go⟩ ⟨aa, an, ac, ab, ao⟩)).heap.size (w.alloc (edO e ⟨ga, gn, gc, gb, go⟩ ⟨aa, an, ac, ab, ao⟩)) wr)) (fun _ i _ => an - (intOf i).toNat)
      case atStart => exact ⟨0, Nat.zero_le _, rfl, _, rfl, hG, B8⟩
      case round =>
        obtain ⟨k, hk, rfl, Lb, rfl, hLb, hb⟩ := hrel
        obtain ⟨c0, c1, c2, c3, c4⟩ := (EE.out _ hb.out).1.cells
        by_cases hlt2 : k < an
        · obtain ⟨x, hx, rfl, hbl, x0, x1, x2, x3, x4, x5, x6, x7⟩ := (EE.out _ hb.out).2.added.at8x hlt2
          have hxl := hL.out.2 x (List.mem_of_getElem? hx)
          have hxi := hI.out.2.2.2.2 x (List.mem_of_getElem? hx)
          have hnx : Hid (Lb ++ encP x = encA e ++ e.gone.flatMap encG ++ Code.uvar e.added.length ++ (e.added.take (k + 1)).flatMap encP) := Lib.hid (by rw [List.take_add_one, hx, hLb.out]; simp)
          have hln := len_C e hI.out hL.out (by rw [e1.out]; exact hgl) (by rw [e2.out]; exact hal) k
          rw [← hLb.out] at hln
          have j0 : (k : Int) < (an : Int) := by omega
          have j1 : (0 : Int) ≤ (k : Int) := by omega
          obtain ⟨xl, xn, xsz, xrw, xf, xla, xle, xg⟩ := x
          obtain ⟨lv, rfl⟩ : ∃ lv : Nat, xl = (lv : Int) := ⟨xl.toNat, by have := hxl.1.1; simp only at this; omega⟩
          obtain ⟨sz, rfl⟩ : ∃ sz : Nat, xsz = (sz : Int) := ⟨xsz.toNat, by have := hxl.2.2.2.1; simp only at this; omega⟩
          obtain ⟨rw', rfl⟩ : ∃ r : Nat, xrw = (r : Int) := ⟨xrw.toNat, by have := hxl.2.2.2.2.2.1; simp only at this; omega⟩
          have hlv : lv < 4 := by have := hxl.1.2; simp only at this; omega
          have hsz : sz ≤ 262144 := by have := hxl.2.2.2.2.1; simp only at this; omega
          have hrw : rw' ≤ 262144 := by have := hxl.2.2.2.2.2.2.1; simp only at this; omega
          have hfs : xf.size ≤ 520 := hxl.2.2.2.2.2.2.2.2.1
          have hls : xla.size ≤ 520 := hxl.2.2.2.2.2.2.2.2.2.2.1
          have hn1 : xn ≤ 18446744073709551615 := hxi.2.1
          have hn2 : xle ≤ 18446744073709551615 := hxi.2.2.2.2.1
          have hn3 : xg ≤ 18446744073709551615 := hxi.2.2.2.2.2.1
          clear hxl hxi
          simp only at x0 x1 x2 x3 x4 x5 x6 x7
          have w5 := wrU lv (by omega)
          have w6 := wrU sz (by omega)
          have w7 := wrU rw' (by omega)
          have U1 := Lib.hid (fun u => refputuint_any lv (by omega) u)
          have l1 := uvar_le lv (by omega)
          have U2 := Lib.hid (fun u => refputuint_any xn (by omega) u)
          have l2 := uvar_le xn (hn1)
          have U3 := Lib.hid (fun u => refputuint_any sz (by omega) u)
          have l3 := uvar_le sz (by omega)
          have U4 := Lib.hid (fun u => refputuint_any rw' (by omega) u)
          have l4 := uvar_le rw' (by omega)
          have U5 := Lib.hid (fun u => refputuint_any xle (by omega) u)
          have l5 := uvar_le xle (hn2)
          have U6 := Lib.hid (fun u => refputuint_any xg (by omega) u)
          have l6 := uvar_le xg (hn3)
          have V1 := Lib.hid (fun u => refputfield_any xf (by unfold reachBytes; omega) u)
          have V2 := Lib.hid (fun u => refputfield_any xla (by unfold reachBytes; omega) u)
          have l7 := len_fld xf hfs
          have l8 := len_fld xla hls
          unfold fldB at l7 l8
          have hnx2 : Hid ((((((((Lb ++ Code.uvar lv) ++ Code.uvar xn) ++ Code.uvar sz) ++ Code.uvar rw') ++ (Code.uvar xf.size ++ xf.data.toList)) ++ (Code.uvar xla.size ++ xla.data.toList)) ++ Code.uvar xle) ++ Code.uvar xg = encA e ++ e.gone.flatMap encG ++ Code.uvar e.added.length ++ (e.added.take (k + 1)).flatMap encP) := Lib.hid (by rw [← hnx.out]; simp [encP, fldB])
          obtain ⟨D1, hD1⟩ := named (Code.uvar lv)
          rw [← hD1.out] at U1 l1 hnx2
          obtain ⟨D2, hD2⟩ := named (Code.uvar xn)
          rw [← hD2.out] at U2 l2 hnx2
          obtain ⟨D3, hD3⟩ := named (Code.uvar sz)
          rw [← hD3.out] at U3 l3 hnx2
          obtain ⟨D4, hD4⟩ := named (Code.uvar rw')
          rw [← hD4.out] at U4 l4 hnx2
          obtain ⟨D5, hD5⟩ := named (Code.uvar xle)
          rw [← hD5.out] at U5 l5 hnx2
          obtain ⟨D6, hD6⟩ := named (Code.uvar xg)
          rw [← hD6.out] at U6 l6 hnx2
          obtain ⟨E1, hE1⟩ := named (Code.uvar xf.size ++ xf.data.toList)
          rw [← hE1.out] at V1 l7 hnx2
          obtain ⟨E2, hE2⟩ := named (Code.uvar xla.size ++ xla.data.toList)
          rw [← hE2.out] at V2 l8 hnx2
          obtain ⟨F1, hF1⟩ := named (Lb ++ D1)
          have k1 : F1.length ≤ 1000010 := by rw [hF1.out, List.length_append]; omega
          have a1 := add_eq Lb D1 F1 hF1.out (by omega)
          obtain ⟨F2, hF2⟩ := named (F1 ++ D2)
          have k2 : F2.length ≤ 1000020 := by rw [hF2.out, List.length_append]; omega
          have a2 := add_eq F1 D2 F2 hF2.out (by omega)
          obtain ⟨F3, hF3⟩ := named (F2 ++ D3)
          have k3 : F3.length ≤ 1000030 := by rw [hF3.out, List.length_append]; omega
          have a3 := add_eq F2 D3 F3 hF3.out (by omega)
          obtain ⟨F4, hF4⟩ := named (F3 ++ D4)
          have k4 : F4.length ≤ 1000040 := by rw [hF4.out, List.length_append]; omega
          have a4 := add_eq F3 D4 F4 hF4.out (by omega)
          obtain ⟨F5, hF5⟩ := named (F4 ++ E1)
          have k5 : F5.length ≤ 1000570 := by rw [hF5.out, List.length_append]; omega
          have a5 := add_eq F4 E1 F5 hF5.out (by omega)
          obtain ⟨F6, hF6⟩ := named (F5 ++ E2)
          have k6 : F6.length ≤ 1001100 := by rw [hF6.out, List.length_append]; omega
          have a6 := add_eq F5 E2 F6 hF6.out (by omega)
          obtain ⟨F7, hF7⟩ := named (F6 ++ D5)
          have k7 : F7.length ≤ 1001110 := by rw [hF7.out, List.length_append]; omega
          have a7 := add_eq F6 D5 F7 hF7.out (by omega)
          obtain ⟨F8, hF8⟩ := named (F7 ++ D6)
          have k8 : F8.length ≤ 1001120 := by rw [hF8.out, List.length_append]; omega
          have a8 := add_eq F7 D6 F8 hF8.out (by omega)
          have hG : Hid (F8 = encA e ++ e.gone.flatMap encG ++ Code.uvar e.added.length ++ (e.added.take (k + 1)).flatMap encP) := Lib.hid (by rw [← hnx2.out, hF8.out, hF7.out, hF6.out, hF5.out, hF4.out, hF3.out, hF2.out, hF1.out])
          replace hF1 := Lib.hid trivial
          replace hF2 := Lib.hid trivial
          replace hF3 := Lib.hid trivial
          replace hF4 := Lib.hid trivial
          replace hF5 := Lib.hid trivial
          replace hF6 := Lib.hid trivial
          replace hF7 := Lib.hid trivial
          replace hF8 := Lib.hid trivial
          replace hD1 := Lib.hid trivial
          replace hD2 := Lib.hid trivial
          replace hD3 := Lib.hid trivial
          replace hD4 := Lib.hid trivial
          replace hD5 := Lib.hid trivial
          replace hD6 := Lib.hid trivial
          replace hE1 := Lib.hid trivial
          replace hE2 := Lib.hid trivial
          clear hx hnx hnx2 hln hn1 hn2 hn3 hfs hls l1 l2 l3 l4 l5 l6 l7 l8 k1 k2 k3 k4 k5 k6 k7 k8
          have bq := Lib.hid (below_alloc wr (mtO ⟨xn, (sz : Int), (rw' : Int), xf, xla, xle, xg⟩))
          have hSB : Hid (∀ u z : World, Below u.heap.size u z → ((u.cell? ⟨w.heap.size, 0, none⟩ = some (.int .u64 (e.log : Int)) ∧ u.cell? ⟨w.heap.size, 1, none⟩ = some (.int .u64 (e.next : Int)) ∧ u.cell? ⟨w.heap.size, 2, none⟩ = some (.int .u64 (e.seq : Int)) ∧ u.cell? ⟨w.heap.size, 3, none⟩ = some (.slice ga gn gc) ∧ u.cell? ⟨w.heap.size, 4, none⟩ = some (.slice (some ⟨ab, ao, none⟩) an ac)) ∧ u.cell? ⟨ab, ao + k * 8, none⟩ = some (.int .i64 (lv : Int)) ∧ (u.cell? ⟨wr.heap.size, 0, none⟩ = some (.int .u64 (xn : Int)) ∧ u.cell? ⟨wr.heap.size, 1, none⟩ = some (.int .i64 (sz : Int)) ∧ u.cell? ⟨wr.heap.size, 2, none⟩ = some (.int .i64 (rw' : Int)) ∧ u.cell? ⟨wr.heap.size, 3, none⟩ = some (.string xf) ∧ u.cell? ⟨wr.heap.size, 4, none⟩ = some (.string xla) ∧ u.cell? ⟨wr.heap.size, 5, none⟩ = some (.int .u64 (xle : Int)) ∧ u.cell? ⟨wr.heap.size, 6, none⟩ = some (.int .u64 (xg : Int)))) → (z.cell? ⟨w.heap.size, 0, none⟩ = some (.int .u64 (e.log : Int)) ∧ z.cell? ⟨w.heap.size, 1, none⟩ = some (.int .u64 (e.next : Int)) ∧ z.cell? ⟨w.heap.size, 2, none⟩ = some (.int .u64 (e.seq : Int)) ∧ z.cell? ⟨w.heap.size, 3, none⟩ = some (.slice ga gn gc) ∧ z.cell? ⟨w.heap.size, 4, none⟩ = some (.slice (some ⟨ab, ao, none⟩) an ac)) ∧ z.cell? ⟨ab, ao + k * 8, none⟩ = some (.int .i64 (lv : Int)) ∧ (z.cell? ⟨wr.heap.size, 0, none⟩ = some (.int .u64 (xn : Int)) ∧ z.cell? ⟨wr.heap.size, 1, none⟩ = some (.int .i64 (sz : Int)) ∧ z.cell? ⟨wr.heap.size, 2, none⟩ = some (.int .i64 (rw' : Int)) ∧ z.cell? ⟨wr.heap.size, 3, none⟩ = some (.string xf) ∧ z.cell? ⟨wr.heap.size, 4, none⟩ = some (.string xla) ∧ z.cell? ⟨wr.heap.size, 5, none⟩ = some (.int .u64 (xle : Int)) ∧ z.cell? ⟨wr.heap.size, 6, none⟩ = some (.int .u64 (xg : Int)))) := Lib.hid (fun u z hk ⟨⟨a0, a1, a2, a3, a4⟩, b0, d0, d1, d2, d3, d4, d5, d6⟩ => ⟨⟨cell_keep hk a0, cell_keep hk a1, cell_keep hk a2, cell_keep hk a3, cell_keep hk a4⟩, cell_keep hk b0, cell_keep hk d0, cell_keep hk d1, cell_keep hk d2, cell_keep hk d3, cell_keep hk d4, cell_keep hk d5, cell_keep hk d6⟩)
          have mb : ((wr.alloc (mtO ⟨xn, (sz : Int), (rw' : Int), xf, xla, xle, xg⟩)).cell? ⟨wr.heap.size, 0, none⟩ = some (.int .u64 (xn : Int)) ∧ (wr.alloc (mtO ⟨xn, (sz : Int), (rw' : Int), xf, xla, xle, xg⟩)).cell? ⟨wr.heap.size, 1, none⟩ = some (.int .i64 (sz : Int)) ∧ (wr.alloc (mtO ⟨xn, (sz : Int), (rw' : Int), xf, xla, xle, xg⟩)).cell? ⟨wr.heap.size, 2, none⟩ = some (.int .i64 (rw' : Int)) ∧ (wr.alloc (mtO ⟨xn, (sz : Int), (rw' : Int), xf, xla, xle, xg⟩)).cell? ⟨wr.heap.size, 3, none⟩ = some (.string xf) ∧ (wr.alloc (mtO ⟨xn, (sz : Int), (rw' : Int), xf, xla, xle, xg⟩)).cell? ⟨wr.heap.size, 4, none⟩ = some (.string xla) ∧ (wr.alloc (mtO ⟨xn, (sz : Int), (rw' : Int), xf, xla, xle, xg⟩)).cell? ⟨wr.heap.size, 5, none⟩ = some (.int .u64 (xle : Int)) ∧ (wr.alloc (mtO ⟨xn, (sz : Int), (rw' : Int), xf, xla, xle, xg⟩)).cell? ⟨wr.heap.size, 6, none⟩ = some (.int .u64 (xg : Int))) := by
            have hz := heap_alloc_new wr (mtO ⟨xn, (sz : Int), (rw' : Int), xf, xla, xle, xg⟩)
            simp only [World.cell?, hz]
            exact ⟨rfl, rfl, rfl, rfl, rfl, rfl, rfl⟩
          have S0 : Hid (((wr.alloc (mtO ⟨xn, (sz : Int), (rw' : Int), xf, xla, xle, xg⟩)).drew.cell? ⟨w.heap.size, 0, none⟩ = some (.int .u64 (e.log : Int)) ∧ (wr.alloc (mtO ⟨xn, (sz : Int), (rw' : Int), xf, xla, xle, xg⟩)).drew.cell? ⟨w.heap.size, 1, none⟩ = some (.int .u64 (e.next : Int)) ∧ (wr.alloc (mtO ⟨xn, (sz : Int), (rw' : Int), xf, xla, xle, xg⟩)).drew.cell? ⟨w.heap.size, 2, none⟩ = some (.int .u64 (e.seq : Int)) ∧ (wr.alloc (mtO ⟨xn, (sz : Int), (rw' : Int), xf, xla, xle, xg⟩)).drew.cell? ⟨w.heap.size, 3, none⟩ = some (.slice ga gn gc) ∧ (wr.alloc (mtO ⟨xn, (sz : Int), (rw' : Int), xf, xla, xle, xg⟩)).drew.cell? ⟨w.heap.size, 4, none⟩ = some (.slice (some ⟨ab, ao, none⟩) an ac)) ∧ (wr.alloc (mtO ⟨xn, (sz : Int), (rw' : Int), xf, xla, xle, xg⟩)).drew.cell? ⟨ab, ao + k * 8, none⟩ = some (.int .i64 (lv : Int)) ∧ ((wr.alloc (mtO ⟨xn, (sz : Int), (rw' : Int), xf, xla, xle, xg⟩)).drew.cell? ⟨wr.heap.size, 0, none⟩ = some (.int .u64 (xn : Int)) ∧ (wr.alloc (mtO ⟨xn, (sz : Int), (rw' : Int), xf, xla, xle, xg⟩)).drew.cell? ⟨wr.heap.size, 1, none⟩ = some (.int .i64 (sz : Int)) ∧ (wr.alloc (mtO ⟨xn, (sz : Int), (rw' : Int), xf, xla, xle, xg⟩)).drew.cell? ⟨wr.heap.size, 2, none⟩ = some (.int .i64 (rw' : Int)) ∧ (wr.alloc (mtO ⟨xn, (sz : Int), (rw' : Int), xf, xla, xle, xg⟩)).drew.cell? ⟨wr.heap.size, 3, none⟩ = some (.string xf) ∧ (wr.alloc (mtO ⟨xn, (sz : Int), (rw' : Int), xf, xla, xle, xg⟩)).drew.cell? ⟨wr.heap.size, 4, none⟩ = some (.string xla) ∧ (wr.alloc (mtO ⟨xn, (sz : Int), (rw' : Int), xf, xla, xle, xg⟩)).drew.cell? ⟨wr.heap.size, 5, none⟩ = some (.int .u64 (xle : Int)) ∧ (wr.alloc (mtO ⟨xn, (sz : Int), (rw' : Int), xf, xla, xle, xg⟩)).drew.cell? ⟨wr.heap.size, 6, none⟩ = some (.int .u64 (xg : Int)))) := Lib.hid ⟨⟨cell_keep bq.out c0, cell_keep bq.out c1, cell_keep bq.out c2, cell_keep bq.out c3, cell_keep bq.out c4⟩, cell_keep bq.out x0, mb⟩
          have Bz := Lib.hid (below_of hb.out bq.out).drew
          clear mb
          go_upto_region 15 with fail
          refine wp_region_held_drew (S := (fun u => (u.cell? ⟨w.heap.size, 0, none⟩ = some (.int .u64 (e.log : Int)) ∧ u.cell? ⟨w.heap.size, 1, none⟩ = some (.int .u64 (e.next : Int)) ∧ u.cell? ⟨w.heap.size, 2, none⟩ = some (.int .u64 (e.seq : Int)) ∧ u.cell? ⟨w.heap.size, 3, none⟩ = some (.slice ga gn gc) ∧ u.cell? ⟨w.heap.size, 4, none⟩ = some (.slice (some ⟨ab, ao, none⟩) an ac)) ∧ u.cell? ⟨ab, ao + k * 8, none⟩ = some (.int .i64 (lv : Int)) ∧ (u.cell? ⟨wr.heap.size, 0, none⟩ = some (.int .u64 (xn : Int)) ∧ u.cell? ⟨wr.heap.size, 1, none⟩ = some (.int .i64 (sz : Int)) ∧ u.cell? ⟨wr.heap.size, 2, none⟩ = some (.int .i64 (rw' : Int)) ∧ u.cell? ⟨wr.heap.size, 3, none⟩ = some (.string xf) ∧ u.cell? ⟨wr.heap.size, 4, none⟩ = some (.string xla) ∧ u.cell? ⟨wr.heap.size, 5, none⟩ = some (.int .u64 (xle : Int)) ∧ u.cell? ⟨wr.heap.size, 6, none⟩ = some (.int .u64 (xg : Int))))) (by kernel_rfl) (S0.out) (fun hHeld => ?_)
          refine held_take (i := 0) (v := ?_) rfl (by kernel_rfl) (by kernel_rfl) (by kernel_rfl) (fun _ _ _ h => h) (by rfl) (fun w hSw => ?_) (by assumption) ?_; rotate_left 1; focus (((try dsimp only at hSw); first | (go_simp; done) | (go_simp; with_reducible rfl) | (go_simp; (first | rw [if_neg a1.1, a1.2] | rw [if_neg a2.1, a2.2] | rw [if_neg a3.1, a3.2] | rw [if_neg a4.1, a4.2]); first | done | rfl)))
          try simp only [Act.put, List.setIfInBounds_toArray, List.set_cons_zero, List.set_cons_succ]
          refine held_take (i := 1) (v := ?_) rfl (by kernel_rfl) (by kernel_rfl) (by kernel_rfl) (fun _ _ _ h => h) (by rfl) (fun w hSw => ?_) (by assumption) ?_; rotate_left 1; focus (((try dsimp only at hSw); first | (go_simp; done) | (go_simp; with_reducible rfl) | (go_simp; (first | rw [if_neg a1.1, a1.2] | rw [if_neg a2.1, a2.2] | rw [if_neg a3.1, a3.2] | rw [if_neg a4.1, a4.2]); first | done | rfl)))
          try simp only [Act.put, List.setIfInBounds_toArray, List.set_cons_zero, List.set_cons_succ]
          refine held_take (i := 2) (v := ?_) rfl (by kernel_rfl) (by kernel_rfl) (by kernel_rfl) (fun _ _ _ h => h) (by rfl) (fun w hSw => ?_) (by assumption) ?_; rotate_left 1; focus (((try dsimp only at hSw); first | (go_simp; done) | (go_simp; with_reducible rfl) | (go_simp; (first | rw [if_neg a1.1, a1.2] | rw [if_neg a2.1, a2.2] | rw [if_neg a3.1, a3.2] | rw [if_neg a4.1, a4.2]); first | done | rfl)))
          try simp only [Act.put, List.setIfInBounds_toArray, List.set_cons_zero, List.set_cons_succ]
          refine held_take (i := 3) (v := ?_) rfl (by kernel_rfl) (by kernel_rfl) (by kernel_rfl) (fun _ _ _ h => h) (by rfl) (fun w hSw => ?_) (by assumption) ?_; rotate_left 1; focus (((try dsimp only at hSw); first | (go_simp; done) | (go_simp; with_reducible rfl) | (go_simp; (first | rw [if_neg a1.1, a1.2] | rw [if_neg a2.1, a2.2] | rw [if_neg a3.1, a3.2] | rw [if_neg a4.1, a4.2]); first | done | rfl)))
          try simp only [Act.put, List.setIfInBounds_toArray, List.set_cons_zero, List.set_cons_succ]
          refine held_take (i := 4) (v := ?_) rfl (by kernel_rfl) (by kernel_rfl) (by kernel_rfl) (fun _ _ _ h => h) (by rfl) (fun w hSw => ?_) (by assumption) ?_; rotate_left 1; focus (((try dsimp only at hSw); first | (go_simp; done) | (go_simp; with_reducible rfl) | (go_simp; (first | rw [if_neg a1.1, a1.2] | rw [if_neg a2.1, a2.2] | rw [if_neg a3.1, a3.2] | rw [if_neg a4.1, a4.2]); first | done | rfl)))
          try simp only [Act.put, List.setIfInBounds_toArray, List.set_cons_zero, List.set_cons_succ]
          refine held_take (i := 5) (v := ?_) rfl (by kernel_rfl) (by kernel_rfl) (by kernel_rfl) (fun _ _ _ h => h) (by rfl) (fun w hSw => ?_) (by assumption) ?_; rotate_left 1; focus (((try dsimp only at hSw); first | (go_simp; done) | (go_simp; with_reducible rfl) | (go_simp; (first | rw [if_neg a1.1, a1.2] | rw [if_neg a2.1, a2.2] | rw [if_neg a3.1, a3.2] | rw [if_neg a4.1, a4.2]); first | done | rfl)))
          try simp only [Act.put, List.setIfInBounds_toArray, List.set_cons_zero, List.set_cons_succ]
          refine held_take (i := 6) (v := ?_) rfl (by kernel_rfl) (by kernel_rfl) (by kernel_rfl) (fun _ _ _ h => h) (by rfl) (fun w hSw => ?_) (by assumption) ?_; rotate_left 1; focus (((try dsimp only at hSw); first | (go_simp; done) | (go_simp; with_reducible rfl) | (go_simp; (first | rw [if_neg a1.1, a1.2] | rw [if_neg a2.1, a2.2] | rw [if_neg a3.1, a3.2] | rw [if_neg a4.1, a4.2]); first | done | rfl)))
          try simp only [Act.put, List.setIfInBounds_toArray, List.set_cons_zero, List.set_cons_succ]
          refine held_take (i := 7) (v := ?_) rfl (by kernel_rfl) (by kernel_rfl) (by kernel_rfl) (fun _ _ _ h => h) (by rfl) (fun w hSw => ?_) (by assumption) ?_; rotate_left 1; focus (((try dsimp only at hSw); first | (go_simp; done) | (go_simp; with_reducible rfl) | (go_simp; (first | rw [if_neg a1.1, a1.2] | rw [if_neg a2.1, a2.2] | rw [if_neg a3.1, a3.2] | rw [if_neg a4.1, a4.2]); first | done | rfl)))
          try simp only [Act.put, List.setIfInBounds_toArray, List.set_cons_zero, List.set_cons_succ]
          refine held_take (i := 10) (v := ?_) rfl (by kernel_rfl) (by kernel_rfl) (by kernel_rfl) (fun _ _ _ h => h) (by rfl) (fun w hSw => ?_) (by assumption) ?_; rotate_left 1; focus (((try dsimp only at hSw); first | (go_simp; done) | (go_simp; with_reducible rfl) | (go_simp; (first | rw [if_neg a1.1, a1.2] | rw [if_neg a2.1, a2.2] | rw [if_neg a3.1, a3.2] | rw [if_neg a4.1, a4.2]); first | done | rfl)))
          try simp only [Act.put, List.setIfInBounds_toArray, List.set_cons_zero, List.set_cons_succ]
          refine held_take (i := 11) (v := ?_) rfl (by kernel_rfl) (by kernel_rfl) (by kernel_rfl) (fun _ _ _ h => h) (by rfl) (fun w hSw => ?_) (by assumption) ?_; rotate_left 1; focus (((try dsimp only at hSw); first | (go_simp; done) | (go_simp; with_reducible rfl) | (go_simp; (first | rw [if_neg a1.1, a1.2] | rw [if_neg a2.1, a2.2] | rw [if_neg a3.1, a3.2] | rw [if_neg a4.1, a4.2]); first | done | rfl)))
          try simp only [Act.put, List.setIfInBounds_toArray, List.set_cons_zero, List.set_cons_succ]
          refine held_take (i := 14) (v := ?_) rfl (by kernel_rfl) (by kernel_rfl) (by kernel_rfl) (fun _ _ _ h => h) (by rfl) (fun w hSw => ?_) (by assumption) ?_; rotate_left 1; focus (((try dsimp only at hSw); first | (go_simp; done) | (go_simp; with_reducible rfl) | (go_simp; (first | rw [if_neg a1.1, a1.2] | rw [if_neg a2.1, a2.2] | rw [if_neg a3.1, a3.2] | rw [if_neg a4.1, a4.2]); first | done | rfl)))
          try simp only [Act.put, List.setIfInBounds_toArray, List.set_cons_zero, List.set_cons_succ]
          refine held_take (i := 15) (v := ?_) rfl (by kernel_rfl) (by kernel_rfl) (by kernel_rfl) (fun _ _ _ h => h) (by rfl) (fun w hSw => ?_) (by assumption) ?_; rotate_left 1; focus (((try dsimp only at hSw); first | (go_simp; done) | (go_simp; with_reducible rfl) | (go_simp; (first | rw [if_neg a1.1, a1.2] | rw [if_neg a2.1, a2.2] | rw [if_neg a3.1, a3.2] | rw [if_neg a4.1, a4.2]); first | done | rfl)))
          try simp only [Act.put, List.setIfInBounds_toArray, List.set_cons_zero, List.set_cons_succ]
          refine held_take (i := 16) (v := ?_) rfl (by kernel_rfl) (by kernel_rfl) (by kernel_rfl) (fun _ _ _ h => h) (by rfl) (fun w hSw => ?_) (by assumption) ?_; rotate_left 1; focus (((try dsimp only at hSw); first | (go_simp; done) | (go_simp; with_reducible rfl) | (go_simp; (first | rw [if_neg a1.1, a1.2] | rw [if_neg a2.1, a2.2] | rw [if_neg a3.1, a3.2] | rw [if_neg a4.1, a4.2]); first | done | rfl)))
          try simp only [Act.put, List.setIfInBounds_toArray, List.set_cons_zero, List.set_cons_succ]
          refine held_take (i := 19) (v := ?_) rfl (by kernel_rfl) (by kernel_rfl) (by kernel_rfl) (fun _ _ _ h => h) (by rfl) (fun w hSw => ?_) (by assumption) ?_; rotate_left 1; focus (((try dsimp only at hSw); first | (go_simp; done) | (go_simp; with_reducible rfl) | (go_simp; (first | rw [if_neg a1.1, a1.2] | rw [if_neg a2.1, a2.2] | rw [if_neg a3.1, a3.2] | rw [if_neg a4.1, a4.2]); first | done | rfl)))
          try simp only [Act.put, List.setIfInBounds_toArray, List.set_cons_zero, List.set_cons_succ]
          refine held_take (i := 20) (v := ?_) rfl (by kernel_rfl) (by kernel_rfl) (by kernel_rfl) (fun _ _ _ h => h) (by rfl) (fun w hSw => ?_) (by assumption) ?_; rotate_left 1; focus (((try dsimp only at hSw); first | (go_simp; done) | (go_simp; with_reducible rfl) | (go_simp; (first | rw [if_neg a1.1, a1.2] | rw [if_neg a2.1, a2.2] | rw [if_neg a3.1, a3.2] | rw [if_neg a4.1, a4.2]); first | done | rfl)))
          try simp only [Act.put, List.setIfInBounds_toArray, List.set_cons_zero, List.set_cons_succ]
          refine held_take (i := 21) (v := ?_) rfl (by kernel_rfl) (by kernel_rfl) (by kernel_rfl) (fun _ _ _ h => h) (by rfl) (fun w hSw => ?_) (by assumption) ?_; rotate_left 1; focus (((try dsimp only at hSw); first | (go_simp; done) | (go_simp; with_reducible rfl) | (go_simp; (first | rw [if_neg a1.1, a1.2] | rw [if_neg a2.1, a2.2] | rw [if_neg a3.1, a3.2] | rw [if_neg a4.1, a4.2]); first | done | rfl)))
          try simp only [Act.put, List.setIfInBounds_toArray, List.set_cons_zero, List.set_cons_succ]
          refine held_call (i := 8) (by kernel_rfl) rfl (by rfl) (fun K hK => ?_)
          go_simp
          (go_at_call 57; ((with_reducible refine (U1.out _).mono ?_); rintro r u1 ⟨rfl, hb1⟩))
          have Bz1 := Lib.hid (below_of Bz.out hb1)
          refine hK.out _ _ (hSB.out _ _ hb1 hHeld) (fun hHeld => ?_)
          try simp only [Act.put, List.setIfInBounds_toArray, List.set_cons_zero, List.set_cons_succ]
          refine held_take (i := 9) (v := ?_) rfl (by kernel_rfl) (by kernel_rfl) (by kernel_rfl) (fun _ _ _ h => h) (by rfl) (fun w hSw => ?_) (by assumption) ?_; rotate_left 1; focus (((try dsimp only at hSw); first | (go_simp; done) | (go_simp; with_reducible rfl) | (go_simp; (first | rw [if_neg a1.1, a1.2] | rw [if_neg a2.1, a2.2] | rw [if_neg a3.1, a3.2] | rw [if_neg a4.1, a4.2]); first | done | rfl)))
          try simp only [Act.put, List.setIfInBounds_toArray, List.set_cons_zero, List.set_cons_succ]
          refine held_call (i := 12) (by kernel_rfl) rfl (by rfl) (fun K hK => ?_)
          go_simp
          (go_at_call 57; ((with_reducible refine (U2.out _).mono ?_); rintro r u2 ⟨rfl, hb2⟩))
          have Bz2 := Lib.hid (below_of Bz1.out hb2)
          refine hK.out _ _ (hSB.out _ _ hb2 hHeld) (fun hHeld => ?_)
          try simp only [Act.put, List.setIfInBounds_toArray, List.set_cons_zero, List.set_cons_succ]
          refine held_take (i := 13) (v := ?_) rfl (by kernel_rfl) (by kernel_rfl) (by kernel_rfl) (fun _ _ _ h => h) (by rfl) (fun w hSw => ?_) (by assumption) ?_; rotate_left 1; focus (((try dsimp only at hSw); first | (go_simp; done) | (go_simp; with_reducible rfl) | (go_simp; (first | rw [if_neg a1.1, a1.2] | rw [if_neg a2.1, a2.2] | rw [if_neg a3.1, a3.2] | rw [if_neg a4.1, a4.2]); first | done | rfl)))
          try simp only [Act.put, List.setIfInBounds_toArray, List.set_cons_zero, List.set_cons_succ]
          refine held_call (i := 17) (by kernel_rfl) rfl (by rfl) (fun K hK => ?_)
          go_simp
          (go_at_call 57; ((with_reducible refine (U3.out _).mono ?_); rintro r u3 ⟨rfl, hb3⟩))
          have Bz3 := Lib.hid (below_of Bz2.out hb3)
          refine hK.out _ _ (hSB.out _ _ hb3 hHeld) (fun hHeld => ?_)
          try simp only [Act.put, List.setIfInBounds_toArray, List.set_cons_zero, List.set_cons_succ]
          refine held_take (i := 18) (v := ?_) rfl (by kernel_rfl) (by kernel_rfl) (by kernel_rfl) (fun _ _ _ h => h) (by rfl) (fun w hSw => ?_) (by assumption) ?_; rotate_left 1; focus (((try dsimp only at hSw); first | (go_simp; done) | (go_simp; with_reducible rfl) | (go_simp; (first | rw [if_neg a1.1, a1.2] | rw [if_neg a2.1, a2.2] | rw [if_neg a3.1, a3.2] | rw [if_neg a4.1, a4.2]); first | done | rfl)))
          try simp only [Act.put, List.setIfInBounds_toArray, List.set_cons_zero, List.set_cons_succ]
          refine held_call (i := 22) (by kernel_rfl) rfl (by rfl) (fun K hK => ?_)
          go_simp
          (go_at_call 57; ((with_reducible refine (U4.out _).mono ?_); rintro r u4 ⟨rfl, hb4⟩))
          have Bz4 := Lib.hid (below_of Bz3.out hb4)
          refine hK.out _ _ (hSB.out _ _ hb4 hHeld) (fun hHeld => ?_)
          try simp only [Act.put, List.setIfInBounds_toArray, List.set_cons_zero, List.set_cons_succ]
          refine held_take (i := 23) (v := ?_) rfl (by kernel_rfl) (by kernel_rfl) (by kernel_rfl) (fun _ _ _ h => h) (by rfl) (fun w hSw => ?_) (by assumption) ?_; rotate_left 1; focus (((try dsimp only at hSw); first | (go_simp; done) | (go_simp; with_reducible rfl) | (go_simp; (first | rw [if_neg a1.1, a1.2] | rw [if_neg a2.1, a2.2] | rw [if_neg a3.1, a3.2] | rw [if_neg a4.1, a4.2]); first | done | rfl)))
          try simp only [Act.put, List.setIfInBounds_toArray, List.set_cons_zero, List.set_cons_succ]
          refine held_take (i := 24) (v := ?_) rfl (by kernel_rfl) (by kernel_rfl) (by kernel_rfl) (fun _ _ _ h => h) (by rfl) (fun w hSw => ?_) (by assumption) ?_; rotate_left 1; focus (((try dsimp only at hSw); first | (go_simp; done) | (go_simp; with_reducible rfl) | (go_simp; (first | rw [if_neg a1.1, a1.2] | rw [if_neg a2.1, a2.2] | rw [if_neg a3.1, a3.2] | rw [if_neg a4.1, a4.2]); first | done | rfl)))
          try simp only [Act.put, List.setIfInBounds_toArray, List.set_cons_zero, List.set_cons_succ]
          refine wpAnyH_done (by kernel_rfl) ?_ _
          go_upto_region 16 with fail
          have Bv := Lib.hid Bz4.out.drew
          refine wp_region_held_drew (S := (fun u => (u.cell? ⟨w.heap.size, 0, none⟩ = some (.int .u64 (e.log : Int)) ∧ u.cell? ⟨w.heap.size, 1, none⟩ = some (.int .u64 (e.next : Int)) ∧ u.cell? ⟨w.heap.size, 2, none⟩ = some (.int .u64 (e.seq : Int)) ∧ u.cell? ⟨w.heap.size, 3, none⟩ = some (.slice ga gn gc) ∧ u.cell? ⟨w.heap.size, 4, none⟩ = some (.slice (some ⟨ab, ao, none⟩) an ac)) ∧ u.cell? ⟨ab, ao + k * 8, none⟩ = some (.int .i64 (lv : Int)) ∧ (u.cell? ⟨wr.heap.size, 0, none⟩ = some (.int .u64 (xn : Int)) ∧ u.cell? ⟨wr.heap.size, 1, none⟩ = some (.int .i64 (sz : Int)) ∧ u.cell? ⟨wr.heap.size, 2, none⟩ = some (.int .i64 (rw' : Int)) ∧ u.cell? ⟨wr.heap.size, 3, none⟩ = some (.string xf) ∧ u.cell? ⟨wr.heap.size, 4, none⟩ = some (.string xla) ∧ u.cell? ⟨wr.heap.size, 5, none⟩ = some (.int .u64 (xle : Int)) ∧ u.cell? ⟨wr.heap.size, 6, none⟩ = some (.int .u64 (xg : Int))))) (by kernel_rfl) ((hSB.out _ _ (Below.refl _ _).drew hHeld)) (fun hHeld => ?_)
          refine held_take (i := 0) (v := ?_) rfl (by kernel_rfl) (by kernel_rfl) (by kernel_rfl) (fun _ _ _ h => h) (by rfl) (fun w hSw => ?_) (by assumption) ?_; rotate_left 1; focus (((try dsimp only at hSw); first | (go_simp; done) | (go_simp; with_reducible rfl) | (go_simp; (first | rw [if_neg a4.1, a4.2] | rw [if_neg a5.1, a5.2] | rw [if_neg a6.1, a6.2] | rw [if_neg a7.1, a7.2] | rw [if_neg a8.1, a8.2]); first | done | rfl)))
          try simp only [Act.put, List.setIfInBounds_toArray, List.set_cons_zero, List.set_cons_succ]
          refine held_take (i := 1) (v := ?_) rfl (by kernel_rfl) (by kernel_rfl) (by kernel_rfl) (fun _ _ _ h => h) (by rfl) (fun w hSw => ?_) (by assumption) ?_; rotate_left 1; focus (((try dsimp only at hSw); first | (go_simp; done) | (go_simp; with_reducible rfl) | (go_simp; (first | rw [if_neg a4.1, a4.2] | rw [if_neg a5.1, a5.2] | rw [if_neg a6.1, a6.2] | rw [if_neg a7.1, a7.2] | rw [if_neg a8.1, a8.2]); first | done | rfl)))
          try simp only [Act.put, List.setIfInBounds_toArray, List.set_cons_zero, List.set_cons_succ]
          refine held_take (i := 2) (v := ?_) rfl (by kernel_rfl) (by kernel_rfl) (by kernel_rfl) (fun _ _ _ h => h) (by rfl) (fun w hSw => ?_) (by assumption) ?_; rotate_left 1; focus (((try dsimp only at hSw); first | (go_simp; done) | (go_simp; with_reducible rfl) | (go_simp; (first | rw [if_neg a4.1, a4.2] | rw [if_neg a5.1, a5.2] | rw [if_neg a6.1, a6.2] | rw [if_neg a7.1, a7.2] | rw [if_neg a8.1, a8.2]); first | done | rfl)))
          try simp only [Act.put, List.setIfInBounds_toArray, List.set_cons_zero, List.set_cons_succ]
          refine held_take (i := 5) (v := ?_) rfl (by kernel_rfl) (by kernel_rfl) (by kernel_rfl) (fun _ _ _ h => h) (by rfl) (fun w hSw => ?_) (by assumption) ?_; rotate_left 1; focus (((try dsimp only at hSw); first | (go_simp; done) | (go_simp; with_reducible rfl) | (go_simp; (first | rw [if_neg a4.1, a4.2] | rw [if_neg a5.1, a5.2] | rw [if_neg a6.1, a6.2] | rw [if_neg a7.1, a7.2] | rw [if_neg a8.1, a8.2]); first | done | rfl)))
          try simp only [Act.put, List.setIfInBounds_toArray, List.set_cons_zero, List.set_cons_succ]
          refine held_take (i := 6) (v := ?_) rfl (by kernel_rfl) (by kernel_rfl) (by kernel_rfl) (fun _ _ _ h => h) (by rfl) (fun w hSw => ?_) (by assumption) ?_; rotate_left 1; focus (((try dsimp only at hSw); first | (go_simp; done) | (go_simp; with_reducible rfl) | (go_simp; (first | rw [if_neg a4.1, a4.2] | rw [if_neg a5.1, a5.2] | rw [if_neg a6.1, a6.2] | rw [if_neg a7.1, a7.2] | rw [if_neg a8.1, a8.2]); first | done | rfl)))
          try simp only [Act.put, List.setIfInBounds_toArray, List.set_cons_zero, List.set_cons_succ]
          refine held_take (i := 9) (v := ?_) rfl (by kernel_rfl) (by kernel_rfl) (by kernel_rfl) (fun _ _ _ h => h) (by rfl) (fun w hSw => ?_) (by assumption) ?_; rotate_left 1; focus (((try dsimp only at hSw); first | (go_simp; done) | (go_simp; with_reducible rfl) | (go_simp; (first | rw [if_neg a4.1, a4.2] | rw [if_neg a5.1, a5.2] | rw [if_neg a6.1, a6.2] | rw [if_neg a7.1, a7.2] | rw [if_neg a8.1, a8.2]); first | done | rfl)))
          try simp only [Act.put, List.setIfInBounds_toArray, List.set_cons_zero, List.set_cons_succ]
          refine held_take (i := 10) (v := ?_) rfl (by kernel_rfl) (by kernel_rfl) (by kernel_rfl) (fun _ _ _ h => h) (by rfl) (fun w hSw => ?_) (by assumption) ?_; rotate_left 1; focus (((try dsimp only at hSw); first | (go_simp; done) | (go_simp; with_reducible rfl) | (go_simp; (first | rw [if_neg a4.1, a4.2] | rw [if_neg a5.1, a5.2] | rw [if_neg a6.1, a6.2] | rw [if_neg a7.1, a7.2] | rw [if_neg a8.1, a8.2]); first | done | rfl)))
          try simp only [Act.put, List.setIfInBounds_toArray, List.set_cons_zero, List.set_cons_succ]
          refine held_take (i := 13) (v := ?_) rfl (by kernel_rfl) (by kernel_rfl) (by kernel_rfl) (fun _ _ _ h => h) (by rfl) (fun w hSw => ?_) (by assumption) ?_; rotate_left 1; focus (((try dsimp only at hSw); first | (go_simp; done) | (go_simp; with_reducible rfl) | (go_simp; (first | rw [if_neg a4.1, a4.2] | rw [if_neg a5.1, a5.2] | rw [if_neg a6.1, a6.2] | rw [if_neg a7.1, a7.2] | rw [if_neg a8.1, a8.2]); first | done | rfl)))
          try simp only [Act.put, List.setIfInBounds_toArray, List.set_cons_zero, List.set_cons_succ]
          refine held_take (i := 14) (v := ?_) rfl (by kernel_rfl) (by kernel_rfl) (by kernel_rfl) (fun _ _ _ h => h) (by rfl) (fun w hSw => ?_) (by assumption) ?_; rotate_left 1; focus (((try dsimp only at hSw); first | (go_simp; done) | (go_simp; with_reducible rfl) | (go_simp; (first | rw [if_neg a4.1, a4.2] | rw [if_neg a5.1, a5.2] | rw [if_neg a6.1, a6.2] | rw [if_neg a7.1, a7.2] | rw [if_neg a8.1, a8.2]); first | done | rfl)))
          try simp only [Act.put, List.setIfInBounds_toArray, List.set_cons_zero, List.set_cons_succ]
          refine held_call (i := 3) (by kernel_rfl) rfl (by rfl) (fun K hK => ?_)
          go_simp
          (go_at_call 58; ((with_reducible refine (V1.out _).mono ?_); rintro r u1 ⟨rfl, hb1⟩))
          have Bv1 := Lib.hid (below_of Bv.out hb1)
          refine hK.out _ _ (hSB.out _ _ hb1 hHeld) (fun hHeld => ?_)
          try simp only [Act.put, List.setIfInBounds_toArray, List.set_cons_zero, List.set_cons_succ]
          refine held_take (i := 4) (v := ?_) rfl (by kernel_rfl) (by kernel_rfl) (by kernel_rfl) (fun _ _ _ h => h) (by rfl) (fun w hSw => ?_) (by assumption) ?_; rotate_left 1; focus (((try dsimp only at hSw); first | (go_simp; done) | (go_simp; with_reducible rfl) | (go_simp; (first | rw [if_neg a4.1, a4.2] | rw [if_neg a5.1, a5.2] | rw [if_neg a6.1, a6.2] | rw [if_neg a7.1, a7.2] | rw [if_neg a8.1, a8.2]); first | done | rfl)))
          try simp only [Act.put, List.setIfInBounds_toArray, List.set_cons_zero, List.set_cons_succ]
          refine held_call (i := 7) (by kernel_rfl) rfl (by rfl) (fun K hK => ?_)
          go_simp
          (go_at_call 58; ((with_reducible refine (V2.out _).mono ?_); rintro r u2 ⟨rfl, hb2⟩))
          have Bv2 := Lib.hid (below_of Bv1.out hb2)
          refine hK.out _ _ (hSB.out _ _ hb2 hHeld) (fun hHeld => ?_)
          try simp only [Act.put, List.setIfInBounds_toArray, List.set_cons_zero, List.set_cons_succ]
          refine held_take (i := 8) (v := ?_) rfl (by kernel_rfl) (by kernel_rfl) (by kernel_rfl) (fun _ _ _ h => h) (by rfl) (fun w hSw => ?_) (by assumption) ?_; rotate_left 1; focus (((try dsimp only at hSw); first | (go_simp; done) | (go_simp; with_reducible rfl) | (go_simp; (first | rw [if_neg a4.1, a4.2] | rw [if_neg a5.1, a5.2] | rw [if_neg a6.1, a6.2] | rw [if_neg a7.1, a7.2] | rw [if_neg a8.1, a8.2]); first | done | rfl)))
          try simp only [Act.put, List.setIfInBounds_toArray, List.set_cons_zero, List.set_cons_succ]
          refine held_call (i := 11) (by kernel_rfl) rfl (by rfl) (fun K hK => ?_)
          go_simp
          (go_at_call 57; ((with_reducible refine (U5.out _).mono ?_); rintro r u3 ⟨rfl, hb3⟩))
          have Bv3 := Lib.hid (below_of Bv2.out hb3)
          refine hK.out _ _ (hSB.out _ _ hb3 hHeld) (fun hHeld => ?_)
          try simp only [Act.put, List.setIfInBounds_toArray, List.set_cons_zero, List.set_cons_succ]
          refine held_take (i := 12) (v := ?_) rfl (by kernel_rfl) (by kernel_rfl) (by kernel_rfl) (fun _ _ _ h => h) (by rfl) (fun w hSw => ?_) (by assumption) ?_; rotate_left 1; focus (((try dsimp only at hSw); first | (go_simp; done) | (go_simp; with_reducible rfl) | (go_simp; (first | rw [if_neg a4.1, a4.2] | rw [if_neg a5.1, a5.2] | rw [if_neg a6.1, a6.2] | rw [if_neg a7.1, a7.2] | rw [if_neg a8.1, a8.2]); first | done | rfl)))
          try simp only [Act.put, List.setIfInBounds_toArray, List.set_cons_zero, List.set_cons_succ]
          refine held_call (i := 15) (by kernel_rfl) rfl (by rfl) (fun K hK => ?_)
          go_simp
          (go_at_call 57; ((with_reducible refine (U6.out _).mono ?_); rintro r u4 ⟨rfl, hb4⟩))
          have Bv4 := Lib.hid (below_of Bv3.out hb4)
          refine hK.out _ _ (hSB.out _ _ hb4 hHeld) (fun hHeld => ?_)
          try simp only [Act.put, List.setIfInBounds_toArray, List.set_cons_zero, List.set_cons_succ]
          refine held_take (i := 16) (v := ?_) rfl (by kernel_rfl) (by kernel_rfl) (by kernel_rfl) (fun _ _ _ h => h) (by rfl) (fun w hSw => ?_) (by assumption) ?_; rotate_left 1; focus (((try dsimp only at hSw); first | (go_simp; done) | (go_simp; with_reducible rfl) | (go_simp; (first | rw [if_neg a4.1, a4.2] | rw [if_neg a5.1, a5.2] | rw [if_neg a6.1, a6.2] | rw [if_neg a7.1, a7.2] | rw [if_neg a8.1, a8.2]); first | done | rfl)))
          try simp only [Act.put, List.setIfInBounds_toArray, List.set_cons_zero, List.set_cons_succ]
          refine held_take (i := 17) (v := ?_) rfl (by kernel_rfl) (by kernel_rfl) (by kernel_rfl) (fun _ _ _ h => h) (by rfl) (fun w hSw => ?_) (by assumption) ?_; rotate_left 1; focus (((try dsimp only at hSw); first | (go_simp; done) | (go_simp; with_reducible rfl) | (go_simp; (first | rw [if_neg a4.1, a4.2] | rw [if_neg a5.1, a5.2] | rw [if_neg a6.1, a6.2] | rw [if_neg a7.1, a7.2] | rw [if_neg a8.1, a8.2]); first | done | rfl)))
          try simp only [Act.put, List.setIfInBounds_toArray, List.set_cons_zero, List.set_cons_succ]
          refine wpAnyH_done (by kernel_rfl) ?_ _
          go_wp2_with fail
          go_roundw
          case rel => exact ⟨k + 1, by omega, by go_num, _, rfl, hG, Bv4⟩
          case measure => simp [intOf]; omega
        · have j0 : ¬ (k : Int) < (an : Int) := by omega
          have et2 : Hid (e.added.take k = e.added) := Lib.hid (List.take_of_length_le (by rw [e2.out]; omega))
          have hfin : Hid (Lb = Z) := Lib.hid (by rw [hLb.out, et2.out, hZ.out]; unfold encE encA; rfl)
          go_wp2_with fail
          go_returns
          exact ⟨by rw [hfin.out]; rfl, below_of B0.out hb.out⟩
end Go.Proofs.Ytdikpijfpghafaa
