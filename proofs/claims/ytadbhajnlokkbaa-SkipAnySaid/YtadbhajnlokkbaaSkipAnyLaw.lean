/-
  SkipAny: the rows stand the same, whatever the heights, and in whatever order they were put. No condition.
-/
import Derived.Test.YtadbhajnlokkbaaSkipSlice
import Derived.Test.YtadbhajnlokkbaaSkipMath3
import Derived.Test.YtadbhajnlokkbaaSkipStepsLaw
import Derived.Test.YtadbhajnlokkbaaHeld
namespace Go.Proofs.Ytadbhajnlokkbaa
open Go.RowKit
attribute [local go_sem] eq_node ne_node eq_list
theorem zoo_three (w : World) : Zoo w.heap.size [(w.heap.size, []), (w.heap.size + 1, []), (w.heap.size + 1 + 1, [])] (((w.alloc zeroList).alloc zeroList).alloc zeroList) ∧ Below w.heap.size w (((w.alloc zeroList).alloc zeroList).alloc zeroList) := by
  obtain ⟨h1, h2⟩ := zoo_two w
  have h3 := h1.new h2.size
  rw [World.size_alloc, World.size_alloc] at h3
  exact ⟨h3, below_of h2 (below_alloc _ _)⟩
theorem grown_below {w w2 w3 : World} {o : Obj} {e : TypeId} {size n : Nat} {v : Value} {xs : List Value} (h : Below w.heap.size w w2) (hr : w2.ownsRow w.heap.size e size v n xs) (hg : (w2.alloc o).grownBy w3 v.ownBlock) : Below w.heap.size w w3 := by
  have h1 := h.alloc h.size o
  exact h1.grown hg h1.size (fun k hk => (World.ownsRow.lt hr k hk).1)
theorem gtr_str (a b : ByteArray) (u : World) : (binOp .gtr 9 (.string a) (.string b)).run Try.prog u = .ok (.bool (!(Op.bytesLess a.toList b.toList || a.toList == b.toList))) u := by
  have : binOp .gtr 9 (.string a) (.string b) = pure (.bool (!(Op.bytesLess a.toList b.toList || a.toList == b.toList))) := by simp [binOp, Op.stringOp]
  rw [this]
  rfl
theorem rs_row_at {w : World} {B : Nat} {a : Option Addr} {n c : Nat} {l : List Rw} (h : w.ownsRow B 36 4 (.slice a n c) n (rowR l)) (hl : l.length = n) : ∃ b, Rs a n c b 0 l w := by
  subst hl
  obtain ⟨a', c', b, e, r, _⟩ := rs_of_row h
  cases e
  exact ⟨b, r⟩
set_option maxRecDepth 100000 in
set_option maxHeartbeats 8000000 in
theorem any_main (a0 : Option Addr) (n0 c0 b0 o0 : Nat) (rs : List Rw) (a1 : Option Addr) (n1 c1 b1 o1 : Nat) (hl : List Int) (turn : Int) (ht : (Lit.int .i64 turn).wf = true) (w : World)
    (h0 : Rs a0 n0 c0 b0 o0 rs w) (g0 : ∀ v ∈ rs, RwIn v) (h1 : SlOf 1 cellsI a1 n1 c1 b1 o1 hl w) (hn : n0 ≤ 100) :
    Calls Try.prog 5 #[.slice a0 n0 c0, .slice a1 n1 c1, .int .i64 turn] w fun e w' => e = .returned (.bool true) ∧ Below w.heap.size w w' := by
  have AW := Lib.hid (fun u => awake_any u)
  obtain ⟨i0, hi, hz0, hz1, hz2⟩ := info_parts info_row
  obtain ⟨Z0, B0⟩ := zoo_three w
  replace Z0 := Lib.hid Z0
  replace B0 := Lib.hid B0
  have e0 := h0.len
  have e1 := h1.len
  have m0 := h0.most
  have m1 := h1.most
  have q0 := h0.cap
  have q1 := h1.cap
  have d0 : decide ((100 : Int) < (n0 : Int)) = false := by rw [decide_eq_false_iff_not]; omega
  replace e0 := Lib.hid e0
  replace e1 := Lib.hid e1
  replace h0 := Lib.hid h0
  replace h1 := Lib.hid h1
  replace g0 := Lib.hid g0
  go_enter Try.func5, Try.ntmps5
  go_wp2_with fail
  go_loopw [10, 11] (fun v i wr => ∃ j : Nat, j ≤ n0 ∧ i = .int .i64 (j : Int) ∧ wr.ownsRow w.heap.size 36 4 v (pt rs (hAt hl) j).length (rowR (pt rs (hAt hl) j)) ∧ Zoo w.heap.size [(w.heap.size, fp rs (hAt hl) j), (w.heap.size + 1, []), (w.heap.size + 1 + 1, [])] wr ∧ Below w.heap.size w wr) (fun _ i _ => n0 - (intOf i).toNat)
  case atStart => exact ⟨0, Nat.zero_le _, rfl, World.ownsRow_nil _ _ _ _, Z0.out, B0.out⟩
  case round =>
    clear Z0 B0
    obtain ⟨j, hj, rfl, hrow, hZ, hb⟩ := hrel
    by_cases hlt : j < n0
    · obtain ⟨x, hx, rfl, x0, x1, x2, x3⟩ := (h0.out.below hb (Nat.le_refl _)).at4 hlt
      obtain ⟨k1, k2, k3⟩ := g0.out x (List.mem_of_getElem? hx)
      have l1 := fp_len rs (hAt hl) j
      have lp := pt_len rs (hAt hl) j
      have sA := Lib.hid (fp_step (f := hAt hl) hx)
      have sP := pt_step (f := hAt hl) hx
      have P := Lib.hid (fun H => hZ.putF (i := 0) hb.size rfl (by omega) x k1 k2 k3 H)
      have kr : Hid (∀ w2, Below w.heap.size w w2 → w2.cell? ⟨b0, o0 + j * 4, none⟩ = some (.string x.key) ∧ w2.cell? ⟨b0, o0 + j * 4 + 1, none⟩ = some (.int .u64 (x.seq : Int)) ∧ w2.cell? ⟨b0, o0 + j * 4 + 2, none⟩ = some (.int .i64 x.kind) ∧ w2.cell? ⟨b0, o0 + j * 4 + 3, none⟩ = some (.string x.val)) :=
        Lib.hid fun w2 hb2 => (h0.out.below hb2 (Nat.le_refl _)).at' j x hx
      have hb' := Lib.hid hb
      have hrow' := Lib.hid hrow
      obtain ⟨p1, p2, rfl⟩ := ownsRow_slice hrow
      obtain ⟨T, hT⟩ := named (thrL (fp rs (hAt hl) j) x.key x.seq)
      rw [← hT.out] at sP P
      obtain ⟨H, hH⟩ := named (hAt hl j)
      rw [← hH.out] at sA
      obtain ⟨LP, hLP⟩ := named (pt rs (hAt hl) j).length
      rw [← hLP.out] at lp hrow' ⊢
      have lp' : LP ≤ 100 := by omega
      obtain ⟨xk, xs, xi, xv⟩ := x
      simp only at x0 x1 x2 x3 P kr sA sP
      replace sP := Lib.hid sP
      by_cases hh : j < n1
      · obtain ⟨H2, hH2, rfl, y0⟩ := num_at (h1.out.below hb (Nat.le_refl _)) hh
        obtain rfl : H = H2 := by rw [hH.out]; unfold hAt; rw [if_pos (by rw [e1.out]; exact hh), List.getD_eq_getElem?_getD, hH2]; rfl
        clear hZ hb k1 k2 k3 l1 hx hrow lp hH2
        have PH := Lib.hid (P.out H)
        clear P
        cases T with
        | true =>
          go_wp2_with (go_at_call 10; ((with_reducible refine PH.out.mono ?_); rintro e w2 ⟨rfl, hZ2, hb2, hE2⟩; have B2 := Lib.hid (hb'.out.trans hb2); have Z2 := Lib.hid hZ2; have R2 := Lib.hid (row_else hrow'.out (by decide) (by decide) hE2); clear hZ2 hb2 hE2 PH))
          go_roundw
          case rel =>
            refine ⟨j + 1, by omega, by go_num, ?_, ?_, B2.out⟩
            · rw [show pt rs (hAt hl) (j + 1) = pt rs (hAt hl) j by rw [sP.out]; simp, ← hLP.out]; exact R2.out
            · rw [sA.out]; exact Z2.out
          case measure => simp [intOf]; omega
        | false =>
          go_wp2_with (first
            | (go_at_call 10; ((with_reducible refine PH.out.mono ?_); rintro e w2 ⟨rfl, hZ2, hb2, hE2⟩; have B2 := Lib.hid (hb'.out.trans hb2); have Z2 := Lib.hid hZ2; have R2 := Lib.hid (row_else hrow'.out (by decide) (by decide) hE2); obtain ⟨z0, z1, z2, z3⟩ := kr.out w2 B2.out; clear hZ2 hb2 hE2 PH))
            | (at_builtin; refine wpList_append_own _ rfl _ _ 30 rfl w.heap.size 36 i0 _ 4 48 Try.underlying30 hi hz0 hz1 hz2 rfl (by decide) _ _ _ rfl (R2.out.alloc _) ⟨w2.heap.size, 0, none⟩ 1 1 [.string xk, .int .u64 (xs : Int), .int .i64 xi, .string xv] rfl rfl (World.news_of_block (heap_alloc_new _ _)) (row_one ⟨xk, xs, xi, xv⟩) (by unfold maxLen; omega) (by omega) (by have := B2.out.size; simp; omega) ?_; intro v' w3 hown hgrow _; have R3 := Lib.hid hown; have Z3 := Lib.hid (Z2.out.grown R2.out (by decide) (by decide) hgrow); have B3 := Lib.hid (grown_below B2.out R2.out hgrow); clear hown hgrow)
            | fail "no arm")
          go_roundw
          case rel =>
            refine ⟨j + 1, by omega, by go_num, ?_, ?_, B3.out⟩
            · rw [show pt rs (hAt hl) (j + 1) = pt rs (hAt hl) j ++ [⟨xk, xs, xi, xv⟩] by rw [sP.out]; simp, List.length_append, ← hLP.out, rowR_snoc]; exact R3.out
            · rw [sA.out]; exact Z3.out
          case measure => simp [intOf]; omega
      · obtain rfl : H = 1 := by rw [hH.out]; unfold hAt; rw [if_neg (by rw [e1.out]; exact hh)]
        clear hZ hb k1 k2 k3 l1 hx hrow lp
        have PH := Lib.hid (P.out 1)
        clear P
        cases T with
        | true =>
          go_wp2_with (go_at_call 10; ((with_reducible refine PH.out.mono ?_); rintro e w2 ⟨rfl, hZ2, hb2, hE2⟩; have B2 := Lib.hid (hb'.out.trans hb2); have Z2 := Lib.hid hZ2; have R2 := Lib.hid (row_else hrow'.out (by decide) (by decide) hE2); clear hZ2 hb2 hE2 PH))
          go_roundw
          case rel =>
            refine ⟨j + 1, by omega, by go_num, ?_, ?_, B2.out⟩
            · rw [show pt rs (hAt hl) (j + 1) = pt rs (hAt hl) j by rw [sP.out]; simp, ← hLP.out]; exact R2.out
            · rw [sA.out]; exact Z2.out
          case measure => simp [intOf]; omega
        | false =>
          go_wp2_with (first
            | (go_at_call 10; ((with_reducible refine PH.out.mono ?_); rintro e w2 ⟨rfl, hZ2, hb2, hE2⟩; have B2 := Lib.hid (hb'.out.trans hb2); have Z2 := Lib.hid hZ2; have R2 := Lib.hid (row_else hrow'.out (by decide) (by decide) hE2); obtain ⟨z0, z1, z2, z3⟩ := kr.out w2 B2.out; clear hZ2 hb2 hE2 PH))
            | (at_builtin; refine wpList_append_own _ rfl _ _ 30 rfl w.heap.size 36 i0 _ 4 48 Try.underlying30 hi hz0 hz1 hz2 rfl (by decide) _ _ _ rfl (R2.out.alloc _) ⟨w2.heap.size, 0, none⟩ 1 1 [.string xk, .int .u64 (xs : Int), .int .i64 xi, .string xv] rfl rfl (World.news_of_block (heap_alloc_new _ _)) (row_one ⟨xk, xs, xi, xv⟩) (by unfold maxLen; omega) (by omega) (by have := B2.out.size; simp; omega) ?_; intro v' w3 hown hgrow _; have R3 := Lib.hid hown; have Z3 := Lib.hid (Z2.out.grown R2.out (by decide) (by decide) hgrow); have B3 := Lib.hid (grown_below B2.out R2.out hgrow); clear hown hgrow)
            | fail "no arm")
          go_roundw
          case rel =>
            refine ⟨j + 1, by omega, by go_num, ?_, ?_, B3.out⟩
            · rw [show pt rs (hAt hl) (j + 1) = pt rs (hAt hl) j ++ [⟨xk, xs, xi, xv⟩] by rw [sP.out]; simp, List.length_append, ← hLP.out, rowR_snoc]; exact R3.out
            · rw [sA.out]; exact Z3.out
          case measure => simp [intOf]; omega
    · have hjn : j = n0 := by omega
      subst hjn
      obtain ⟨pp, pa, pm⟩ := pt_perm rs (hAt hl) j
      have lp := pt_len rs (hAt hl) j
      have l1 := fp_len rs (hAt hl) j
      have srt := fp_sorted rs (hAt hl) j
      obtain ⟨P, hP⟩ := named (pt rs (hAt hl) j)
      obtain ⟨L, hL⟩ := named (fp rs (hAt hl) j)
      rw [← hP.out] at pp pa pm lp hrow
      rw [← hL.out] at pp lp l1 srt hZ
      have pin : Hid (∀ x ∈ P, RwIn x) := Lib.hid fun x hx => g0.out x (pm x hx)
      obtain ⟨qa, qc, qb, rfl, rp, _⟩ := rs_of_row hrow
      have qm := rp.most
      have qcp := rp.cap
      obtain ⟨N, hN⟩ := named P.length
      rw [← hN.out] at hrow lp qcp ⊢
      have lN : N ≤ 100 := by omega
      have hrow := Lib.hid hrow
      have hZ := Lib.hid hZ
      have hb := Lib.hid hb
      replace pp := Lib.hid pp
      replace pa := Lib.hid pa
      replace srt := Lib.hid srt
      replace lp := Lib.hid lp
      have tr := i64_range ht
      clear rp pm hP hL l1
      go_upto_if 59 with fail
      go_cut [14] from 59 to 67 (fun k wc => wc = wr ∧ ∃ K : Nat, k = .int .i64 (K : Int) ∧ ((N = 0 ∧ K = 0) ∨ K < N))
      case first =>
        by_cases hN0 : N = 0
        · have g1 : ¬ ((0 : Int) < (N : Int)) := by omega
          replace hN0 := Lib.hid hN0
          go_wp2_with fail
          go_meet
          exact ⟨rfl, 0, rfl, .inl ⟨hN0.out, rfl⟩⟩
        · have g1 : (0 : Int) < (N : Int) := by omega
          have g2 : ¬ ((N : Int) = 0) := by omega
          have g3 : ((N : Int) == 0) = false := by simpa using g2
          have hmod := tmod_eq_if turn (N : Int)
          have b1 := Int.emod_nonneg turn g2
          have b2 := Int.emod_lt_of_pos turn g1
          have b3 := Int.emod_nonneg (-turn) g2
          have b4 := Int.emod_lt_of_pos (-turn) g1
          obtain ⟨M, hM⟩ := named (turn.tmod (N : Int))
          have hMb : -(N : Int) < M ∧ M < (N : Int) := by
            rw [hM.out, hmod]
            split <;> omega
          have hMe : turn.tmod (N : Int) = M := hM.out.symm
          clear hmod b1 b2 b3 b4 hM
          by_cases hneg : M < 0
          · obtain ⟨K, hK⟩ : ∃ K : Nat, M + (N : Int) = (K : Int) := ⟨(M + (N : Int)).toNat, by omega⟩
            have hKN : Hid (K < N) := Lib.hid (by omega)
            have hwr : wrap64 (M + (N : Int)) = (K : Int) := by unfold wrap64; omega
            go_wp2_with fail
            go_meet
            exact ⟨rfl, K, by go_num, .inr hKN.out⟩
          · obtain ⟨K, hK⟩ : ∃ K : Nat, M = (K : Int) := ⟨M.toNat, by omega⟩
            have hKN : Hid (K < N) := Lib.hid (by omega)
            subst hK
            go_wp2_with fail
            go_meet
            exact ⟨rfl, K, rfl, .inr hKN.out⟩
      case rest =>
        obtain ⟨rfl, K, rfl, hK⟩ := hcut
        have hK := Lib.hid hK
        have apB : Hid (Apart P.reverse) := Lib.hid (apart_perm P.reverse_perm.symm pa.out)
        have apC : Hid (Apart (turned P K)) := Lib.hid (apart_perm (turned_perm P K).symm pa.out)
        have g2 : N = 0 ∨ 0 < N := by omega
        go_wp2_with fail
        go_loopw [15] (fun i wq => ∃ t : Nat, t ≤ N ∧ i = .int .i64 (t : Int) ∧ Zoo w.heap.size [(w.heap.size, L), (w.heap.size + 1, fp P.reverse (fun _ => 1) t), (w.heap.size + 1 + 1, fp (turned P K) (fun _ => 12) t)] wq ∧ wq.ownsRow w.heap.size 36 4 (.slice qa N qc) N (rowR P) ∧ Below w.heap.size w wq) (fun i _ => N - (intOf i).toNat)
        case atStart => exact ⟨0, Nat.zero_le _, rfl, hZ.out, hrow.out, hb.out⟩
        case round =>
          clear hZ hrow hb g2
          obtain ⟨t, htN, rfl, hZ, hrow, hb⟩ := hrel
          by_cases hlt2 : t < N
          · have hKN : K < N := by have := hK.out; omega
            have lrev : P.reverse.length = N := by rw [List.length_reverse]; exact hN.out.symm
            have ltur : (turned P K).length = N := by rw [(turned_perm P K).length_eq]; exact hN.out.symm
            obtain ⟨u, hu⟩ : ∃ u : Nat, u = N - 1 - t := ⟨_, rfl⟩
            obtain ⟨v, hv⟩ : ∃ v : Nat, v = (t + K) % N := ⟨_, rfl⟩
            have hvN : v < N := by rw [hv]; exact Nat.mod_lt _ (by omega)
            obtain ⟨bq, rq⟩ := rs_row_at hrow hN.out.symm
            obtain ⟨x, hx, hqa, x0, x1, x2, x3⟩ := rq.at4 (show u < N by omega)
            obtain ⟨y, hy, _, y0, y1, y2, y3⟩ := rq.at4 hvN
            rw [Nat.zero_add] at x0 x1 x2 x3 y0 y1 y2 y3
            have hxr : P.reverse[t]? = some x := by rw [reverse_at (by rw [← hN.out]; exact hlt2), ← hN.out, ← hu]; exact hx
            have hyr : (turned P K)[t]? = some y := by rw [turned_at (by rw [← hN.out]; exact hKN) (by rw [← hN.out]; exact hlt2), ← hN.out, ← hv]; exact hy
            obtain ⟨kx1, kx2, kx3⟩ := pin.out x (List.mem_of_getElem? hx)
            obtain ⟨ky1, ky2, ky3⟩ := pin.out y (List.mem_of_getElem? hy)
            have tB := (fp_apart apB.out (fun _ => 1) t (by omega)).2 x hxr
            have tC := (fp_apart apC.out (fun _ => 12) t (by omega)).2 y hyr
            have lB := fp_len P.reverse (fun _ => 1) t
            have lC := fp_len (turned P K) (fun _ => 12) t
            have sB := Lib.hid (fp_step (f := fun _ => 1) hxr)
            have sC := Lib.hid (fp_step (f := fun _ => 12) hyr)
            have PB := hZ.putF (i := 1) hb.size rfl (by omega) x kx1 kx2 kx3 1
            rw [tB] at PB
            have PB := Lib.hid PB
            have PC : Hid (∀ w2, Below w.heap.size w w2 → Zoo w.heap.size [(w.heap.size, L), (w.heap.size + 1, fp P.reverse (fun _ => 1) (t + 1)), (w.heap.size + 1 + 1, fp (turned P K) (fun _ => 12) t)] w2 → Calls Try.prog 10 #[.pointer (some ⟨w.heap.size + 1 + 1, 0, none⟩), rowV y, .int .i64 12] w2 fun e w' => e = .returned (.bool true) ∧ Zoo w.heap.size [(w.heap.size, L), (w.heap.size + 1, fp P.reverse (fun _ => 1) (t + 1)), (w.heap.size + 1 + 1, fp (turned P K) (fun _ => 12) (t + 1))] w' ∧ Below w.heap.size w2 w' ∧ Else w2 w') := Lib.hid fun w2 hb2 hz2 => by
              have := hz2.putF (i := 2) hb2.size rfl (by omega) y ky1 ky2 ky3 12
              rw [tC] at this
              rw [sC.out]
              exact this
            have YC : Hid (∀ w2 : World, w2.ownsRow w.heap.size 36 4 (.slice qa N qc) N (rowR P) → w2.cell? ⟨bq, v * 4, none⟩ = some (.string y.key) ∧ w2.cell? ⟨bq, v * 4 + 1, none⟩ = some (.int .u64 (y.seq : Int)) ∧ w2.cell? ⟨bq, v * 4 + 2, none⟩ = some (.int .i64 y.kind) ∧ w2.cell? ⟨bq, v * 4 + 3, none⟩ = some (.string y.val)) := Lib.hid fun w2 hr2 => by
              obtain ⟨b2, r2⟩ := rs_row_at hr2 hN.out.symm
              obtain ⟨y', hy', hqa', c0, c1, c2, c3⟩ := r2.at4 hvN
              rw [hqa] at hqa'
              obtain rfl : bq = b2 := by simpa using hqa'
              rw [hy] at hy'
              cases hy'
              rw [Nat.zero_add] at c0 c1 c2 c3
              exact ⟨c0, c1, c2, c3⟩
            subst hqa
            have hu1 : (N : Int) - 1 - (t : Int) = (u : Int) := by omega
            have hu2 : (u : Int) < (N : Int) := by omega
            have hv1 : ((t : Int) + (K : Int)).tmod (N : Int) = (v : Int) := by
              rw [hv, Int.tmod_eq_emod_of_nonneg (by omega)]; simp
            have hv2 : (v : Int) < (N : Int) := by omega
            have g3 : ((N : Int) == 0) = false := by rw [beq_eq_false_iff_ne]; omega
            have g4 : ¬ ((N : Int) = 0) := by omega
            have hb := Lib.hid hb
            have hrow := Lib.hid hrow
            obtain ⟨xk, xs, xi, xv⟩ := x
            obtain ⟨yk, ys, yi, yv⟩ := y
            simp only at x0 x1 x2 x3 y0 y1 y2 y3 PB PC YC sB sC
            clear hZ hx hy hxr hyr kx1 kx2 kx3 ky1 ky2 ky3 tB tC lB lC lrev ltur rq y0 y1 y2 y3 hu hv
            go_wp2_with (go_at_call 10; (first
              | ((with_reducible refine PB.out.mono ?_); rintro e w2 ⟨rfl, hZ2, hb2, hE2⟩; have B2 := Lib.hid (hb.out.trans hb2); have R2 := Lib.hid (row_else hrow.out (by decide) (by decide) hE2); obtain ⟨c0, c1, c2, c3⟩ := YC.out w2 R2.out; have PC2 := Lib.hid (PC.out w2 B2.out (by rw [sB.out]; exact hZ2)); clear hZ2 hb2 hE2)
              | ((with_reducible refine PC2.out.mono ?_); rintro e w3 ⟨rfl, hZ3, hb3, hE3⟩; have B3 := Lib.hid (B2.out.trans hb3); have R3 := Lib.hid (row_else R2.out (by decide) (by decide) hE3); have Z3 := Lib.hid hZ3; clear hZ3 hb3 hE3)
              | fail "no arm"))
            go_roundw
            case rel => exact ⟨t + 1, by omega, by go_num, Z3.out, R3.out, B3.out⟩
            case measure => simp [intOf]; omega
          · have htN2 : t = N := by omega
            subst htN2
            obtain ⟨wz, hwz⟩ : ∃ wz, wz = wr := ⟨_, rfl⟩
            subst hwz
            have eB : rowsL (fp P.reverse (fun _ => 1) t) = rowsL L := by
              have := any_order pa.out P.reverse_perm (fun _ => 1) pp.out srt.out
              rw [List.length_reverse, ← hN.out] at this
              exact this
            have eC : rowsL (fp (turned P K) (fun _ => 12) t) = rowsL L := by
              have := any_order pa.out (turned_perm P K) (fun _ => 12) pp.out srt.out
              rw [(turned_perm P K).length_eq, ← hN.out] at this
              exact this
            have hLA := hZ.ls (i := 0) rfl
            have hLB := hZ.ls (i := 1) rfl
            have hLC := hZ.ls (i := 2) rfl
            have lB := fp_len P.reverse (fun _ => 1) t
            have lC := fp_len (turned P K) (fun _ => 12) t
            have sR := srt.out
            have lR : (rowsL L).length = t := by rw [rows_len]; exact lp.out.symm
            have WA := whole_l hLA (by have := lp.out; omega)
            have WB : Hid (∀ u, Below wz.heap.size wz u → Calls Try.prog 20 #[.pointer (some ⟨w.heap.size + 1, 0, none⟩)] u fun e w' => ∃ p c b, e = .returned (.slice p t c) ∧ Rs p t c b 0 (rowsL L) w' ∧ Below u.heap.size u w') := Lib.hid fun u hu =>
              (whole_l (hLB.grow hu) (by omega)).mono fun e w' h => by
                rw [eB] at h
                obtain ⟨p, c, b, h1, h2, h3⟩ := rs_of_gave h
                rw [lR] at h1 h2
                exact ⟨p, c, b, h1, h2, h3⟩
            have WC : Hid (∀ u, Below wz.heap.size wz u → Calls Try.prog 20 #[.pointer (some ⟨w.heap.size + 1 + 1, 0, none⟩)] u fun e w' => ∃ p c b, e = .returned (.slice p t c) ∧ Rs p t c b 0 (rowsL L) w' ∧ Below u.heap.size u w') := Lib.hid fun u hu =>
              (whole_l (hLC.grow hu) (by omega)).mono fun e w' h => by
                rw [eC] at h
                obtain ⟨p, c, b, h1, h2, h3⟩ := rs_of_gave h
                rw [lR] at h1 h2
                exact ⟨p, c, b, h1, h2, h3⟩
            obtain ⟨R, hR⟩ := named (rowsL L)
            rw [← hR.out] at WA WB WC sR lR
            have WA := Lib.hid (WA.mono fun e w' h => rs_of_gave h)
            rw [lR] at WA
            replace sR := Lib.hid sR
            replace lR := Lib.hid lR
            have hb := Lib.hid hb
            clear hZ hrow hLA hLB hLC lB lC eB eC hR
            go_wp2_with (go_at_call 20; ((with_reducible refine WA.out.mono ?_); rintro e w3 ⟨qa2, ca, la, rfl, ra, hb3⟩; have B3 := Lib.hid hb3; have am := ra.most; have ac := ra.cap; have RA := Lib.hid ra; clear WA hb3 ra))
            go_loopw [17] (fun i wq => ∃ m : Nat, 1 ≤ m ∧ (m ≤ t ∨ m = 1) ∧ i = .int .i64 (m : Int) ∧ Below w3.heap.size w3 wq) (fun i _ => t - (intOf i).toNat)
            case atStart => exact ⟨1, Nat.le_refl _, .inr rfl, rfl, Below.refl _ _⟩
            case round =>
              obtain ⟨m, hm1, hm2, rfl, hq⟩ := hrel
              by_cases hmt : m < t
              · obtain ⟨u, hu⟩ : ∃ u : Nat, m = u + 1 := ⟨m - 1, by omega⟩
                have ra := RA.out.below hq (Nat.le_refl _)
                obtain ⟨x, hx, rfl, x0, x1, _, _⟩ := ra.at4 (show u < t by omega)
                obtain ⟨y, hy, _, y0, y1, _, _⟩ := ra.at4 hmt
                rw [Nat.zero_add] at x0 x1 y0 y1
                have hah : ahd x y.key y.seq = true := by
                  have := List.pairwise_iff_getElem.1 sR.out u m (by rw [lR.out]; omega) (by rw [lR.out]; omega) (by omega)
                  rw [(List.getElem?_eq_some_iff.1 hx).2, (List.getElem?_eq_some_iff.1 hy).2] at this
                  exact this
                have hpar := ahd_parts x y.key y.seq
                obtain ⟨xk, xs, xi, xv⟩ := x
                obtain ⟨yk, ys, yi, yv⟩ := y
                simp only at x0 x1 y0 y1 hah hpar
                have i1 : (m : Int) - 1 = (u : Int) := by omega
                have GT := fun u => gtr_str xk yk u
                have i2 : (u : Int) < (t : Int) := by omega
                have i4 := IntWalk.i64_in (u : Int) ⟨by omega, by omega⟩
                have i3 : (m : Int) < (t : Int) := by omega
                have hq := Lib.hid hq
                clear ra hx hy
                replace hu := Lib.hid hu
                rcases hpar with ⟨p1, _⟩ | ⟨p1, p3, p2'⟩ | ⟨_, _, p2'⟩
                · rw [p1] at GT
                  have p3 : (xk.toList == yk.toList) = false := by
                    rw [beq_eq_false_iff_ne]
                    intro e
                    rw [e, less_before, WideAt.bytes_irrefl] at p1
                    cases p1
                  clear hah
                  go_upto_region 28 with fail
                  refine wp_region_held_drew (S := fun v => v.cell? ⟨la, u * 4, none⟩ = some (.string xk) ∧ v.cell? ⟨la, u * 4 + 1, none⟩ = some (.int .u64 (xs : Int)) ∧ v.cell? ⟨la, m * 4, none⟩ = some (.string yk) ∧ v.cell? ⟨la, m * 4 + 1, none⟩ = some (.int .u64 (ys : Int))) (by kernel_rfl) (⟨x0, x1, y0, y1⟩) (fun hHeld => ?_)
                  refine held_take (i := 0) (v := ?_) rfl (by kernel_rfl) (by kernel_rfl) (by kernel_rfl) (fun _ _ _ h => h) (by rfl) (fun w hSw => ?_) (by assumption) ?_; rotate_left 1; focus (((try dsimp only at hSw); first | (go_simp; done) | (go_simp; with_reducible rfl)))
                  try simp only [Act.put, List.setIfInBounds_toArray, List.set_cons_zero, List.set_cons_succ]
                  refine held_take (i := 1) (v := ?_) rfl (by kernel_rfl) (by kernel_rfl) (by kernel_rfl) (fun _ _ _ h => h) (by rfl) (fun w hSw => ?_) (by assumption) ?_; rotate_left 1; focus (((try dsimp only at hSw); first | (go_simp; done) | (go_simp; with_reducible rfl)))
                  try simp only [Act.put, List.setIfInBounds_toArray, List.set_cons_zero, List.set_cons_succ]
                  refine held_take (i := 2) (v := ?_) rfl (by kernel_rfl) (by kernel_rfl) (by kernel_rfl) (fun _ _ _ h => h) (by rfl) (fun w hSw => ?_) (by assumption) ?_; rotate_left 1; focus (((try dsimp only at hSw); first | (go_simp; done) | (go_simp; with_reducible rfl)))
                  try simp only [Act.put, List.setIfInBounds_toArray, List.set_cons_zero, List.set_cons_succ]
                  refine held_take (i := 3) (v := ?_) rfl (by kernel_rfl) (by kernel_rfl) (by kernel_rfl) (fun _ _ _ h => h) (by rfl) (fun w hSw => ?_) (by assumption) ?_; rotate_left 1; focus (((try dsimp only at hSw); first | (go_simp; done) | (go_simp; with_reducible rfl)))
                  try simp only [Act.put, List.setIfInBounds_toArray, List.set_cons_zero, List.set_cons_succ]
                  refine held_take (i := 4) (v := ?_) rfl (by kernel_rfl) (by kernel_rfl) (by kernel_rfl) (fun _ _ _ h => h) (by rfl) (fun w hSw => ?_) (by assumption) ?_; rotate_left 1; focus (((try dsimp only at hSw); first | (go_simp; done) | (go_simp; with_reducible rfl)))
                  try simp only [Act.put, List.setIfInBounds_toArray, List.set_cons_zero, List.set_cons_succ]
                  refine held_take (i := 5) (v := ?_) rfl (by kernel_rfl) (by kernel_rfl) (by kernel_rfl) (fun _ _ _ h => h) (by rfl) (fun w hSw => ?_) (by assumption) ?_; rotate_left 1; focus (((try dsimp only at hSw); first | (go_simp; done) | (go_simp; with_reducible rfl)))
                  try simp only [Act.put, List.setIfInBounds_toArray, List.set_cons_zero, List.set_cons_succ]
                  refine held_take (i := 6) (v := ?_) rfl (by kernel_rfl) (by kernel_rfl) (by kernel_rfl) (fun _ _ _ h => h) (by rfl) (fun w hSw => ?_) (by assumption) ?_; rotate_left 1; focus (((try dsimp only at hSw); first | (go_simp; done) | (go_simp; with_reducible rfl)))
                  try simp only [Act.put, List.setIfInBounds_toArray, List.set_cons_zero, List.set_cons_succ]
                  refine held_take (i := 7) (v := ?_) rfl (by kernel_rfl) (by kernel_rfl) (by kernel_rfl) (fun _ _ _ h => h) (by rfl) (fun w hSw => ?_) (by assumption) ?_; rotate_left 1; focus (((try dsimp only at hSw); first | (go_simp; done) | (go_simp; with_reducible rfl)))
                  try simp only [Act.put, List.setIfInBounds_toArray, List.set_cons_zero, List.set_cons_succ]
                  refine held_take (i := 8) (v := ?_) rfl (by kernel_rfl) (by kernel_rfl) (by kernel_rfl) (fun _ _ _ h => h) (by rfl) (fun w hSw => ?_) (by assumption) ?_; rotate_left 1; focus (((try dsimp only at hSw); first | (go_simp; done) | (go_simp; with_reducible rfl)))
                  try simp only [Act.put, List.setIfInBounds_toArray, List.set_cons_zero, List.set_cons_succ]
                  refine held_take (i := 9) (v := ?_) rfl (by kernel_rfl) (by kernel_rfl) (by kernel_rfl) (fun _ _ _ h => h) (by rfl) (fun w hSw => ?_) (by assumption) ?_; rotate_left 1; focus (((try dsimp only at hSw); first | (go_simp; done) | (go_simp; with_reducible rfl)))
                  try simp only [Act.put, List.setIfInBounds_toArray, List.set_cons_zero, List.set_cons_succ]
                  refine held_take (i := 10) (v := ?_) rfl (by kernel_rfl) (by kernel_rfl) (by kernel_rfl) (fun _ _ _ h => h) (by rfl) (fun w hSw => ?_) (by assumption) ?_; rotate_left 1; focus (((try dsimp only at hSw); first | (go_simp; done) | (go_simp; with_reducible rfl)))
                  try simp only [Act.put, List.setIfInBounds_toArray, List.set_cons_zero, List.set_cons_succ]
                  refine held_take (i := 11) (v := ?_) rfl (by kernel_rfl) (by kernel_rfl) (by kernel_rfl) (fun _ _ _ h => h) (by rfl) (fun w hSw => ?_) (by assumption) ?_; rotate_left 1; focus (((try dsimp only at hSw); first | (go_simp; done) | (go_simp; with_reducible rfl)))
                  try simp only [Act.put, List.setIfInBounds_toArray, List.set_cons_zero, List.set_cons_succ]
                  refine held_take (i := 12) (v := ?_) rfl (by kernel_rfl) (by kernel_rfl) (by kernel_rfl) (fun _ _ _ h => h) (by rfl) (fun w hSw => ?_) (by assumption) ?_; rotate_left 1; focus (((try dsimp only at hSw); first | (go_simp; done) | (go_simp; with_reducible rfl)))
                  try simp only [Act.put, List.setIfInBounds_toArray, List.set_cons_zero, List.set_cons_succ]
                  refine held_take (i := 13) (v := ?_) rfl (by kernel_rfl) (by kernel_rfl) (by kernel_rfl) (fun _ _ _ h => h) (by rfl) (fun w hSw => ?_) (by assumption) ?_; rotate_left 1; focus (((try dsimp only at hSw); first | (go_simp; done) | (go_simp; with_reducible rfl)))
                  try simp only [Act.put, List.setIfInBounds_toArray, List.set_cons_zero, List.set_cons_succ]
                  refine held_take (i := 14) (v := ?_) rfl (by kernel_rfl) (by kernel_rfl) (by kernel_rfl) (fun _ _ _ h => h) (by rfl) (fun w hSw => ?_) (by assumption) ?_; rotate_left 1; focus (((try dsimp only at hSw); first | (go_simp; done) | (go_simp; with_reducible rfl)))
                  try simp only [Act.put, List.setIfInBounds_toArray, List.set_cons_zero, List.set_cons_succ]
                  refine held_take (i := 15) (v := ?_) rfl (by kernel_rfl) (by kernel_rfl) (by kernel_rfl) (fun _ _ _ h => h) (by rfl) (fun w hSw => ?_) (by assumption) ?_; rotate_left 1; focus (((try dsimp only at hSw); first | (go_simp; done) | (go_simp; with_reducible rfl)))
                  try simp only [Act.put, List.setIfInBounds_toArray, List.set_cons_zero, List.set_cons_succ]
                  refine held_take (i := 16) (v := ?_) rfl (by kernel_rfl) (by kernel_rfl) (by kernel_rfl) (fun _ _ _ h => h) (by rfl) (fun w hSw => ?_) (by assumption) ?_; rotate_left 1; focus (((try dsimp only at hSw); first | (go_simp; done) | (go_simp; with_reducible rfl)))
                  try simp only [Act.put, List.setIfInBounds_toArray, List.set_cons_zero, List.set_cons_succ]
                  refine held_take (i := 17) (v := ?_) rfl (by kernel_rfl) (by kernel_rfl) (by kernel_rfl) (fun _ _ _ h => h) (by rfl) (fun w hSw => ?_) (by assumption) ?_; rotate_left 1; focus (((try dsimp only at hSw); first | (go_simp; done) | (go_simp; with_reducible rfl)))
                  try simp only [Act.put, List.setIfInBounds_toArray, List.set_cons_zero, List.set_cons_succ]
                  refine held_take (i := 18) (v := ?_) rfl (by kernel_rfl) (by kernel_rfl) (by kernel_rfl) (fun _ _ _ h => h) (by rfl) (fun w hSw => ?_) (by assumption) ?_; rotate_left 1; focus (((try dsimp only at hSw); first | (go_simp; done) | (go_simp; with_reducible rfl)))
                  try simp only [Act.put, List.setIfInBounds_toArray, List.set_cons_zero, List.set_cons_succ]
                  refine held_take (i := 19) (v := ?_) rfl (by kernel_rfl) (by kernel_rfl) (by kernel_rfl) (fun _ _ _ h => h) (by rfl) (fun w hSw => ?_) (by assumption) ?_; rotate_left 1; focus (((try dsimp only at hSw); first | (go_simp; done) | (go_simp; with_reducible rfl)))
                  try simp only [Act.put, List.setIfInBounds_toArray, List.set_cons_zero, List.set_cons_succ]
                  refine held_take (i := 20) (v := ?_) rfl (by kernel_rfl) (by kernel_rfl) (by kernel_rfl) (fun _ _ _ h => h) (by rfl) (fun w hSw => ?_) (by assumption) ?_; rotate_left 1; focus (((try dsimp only at hSw); first | (go_simp; done) | (go_simp; with_reducible rfl)))
                  try simp only [Act.put, List.setIfInBounds_toArray, List.set_cons_zero, List.set_cons_succ]
                  refine held_take (i := 21) (v := ?_) rfl (by kernel_rfl) (by kernel_rfl) (by kernel_rfl) (fun _ _ _ h => h) (by rfl) (fun w hSw => ?_) (by assumption) ?_; rotate_left 1; focus (((try dsimp only at hSw); first | (go_simp; done) | (go_simp; with_reducible rfl)))
                  try simp only [Act.put, List.setIfInBounds_toArray, List.set_cons_zero, List.set_cons_succ]
                  refine held_take (i := 22) (v := ?_) rfl (by kernel_rfl) (by kernel_rfl) (by kernel_rfl) (fun _ _ _ h => h) (by rfl) (fun w hSw => ?_) (by assumption) ?_; rotate_left 1; focus (((try dsimp only at hSw); first | (go_simp; done) | (go_simp; with_reducible rfl)))
                  try simp only [Act.put, List.setIfInBounds_toArray, List.set_cons_zero, List.set_cons_succ]
                  refine held_take (i := 23) (v := ?_) rfl (by kernel_rfl) (by kernel_rfl) (by kernel_rfl) (fun _ _ _ h => h) (by rfl) (fun w hSw => ?_) (by assumption) ?_; rotate_left 1; focus (((try dsimp only at hSw); first | (go_simp; done) | (go_simp; with_reducible rfl)))
                  try simp only [Act.put, List.setIfInBounds_toArray, List.set_cons_zero, List.set_cons_succ]
                  refine held_take (i := 24) (v := ?_) rfl (by kernel_rfl) (by kernel_rfl) (by kernel_rfl) (fun _ _ _ h => h) (by rfl) (fun w hSw => ?_) (by assumption) ?_; rotate_left 1; focus (((try dsimp only at hSw); first | (go_simp; done) | (go_simp; with_reducible rfl)))
                  try simp only [Act.put, List.setIfInBounds_toArray, List.set_cons_zero, List.set_cons_succ]
                  refine held_take (i := 25) (v := ?_) rfl (by kernel_rfl) (by kernel_rfl) (by kernel_rfl) (fun _ _ _ h => h) (by rfl) (fun w hSw => ?_) (by assumption) ?_; rotate_left 1; focus (((try dsimp only at hSw); first | (go_simp; done) | (go_simp; with_reducible rfl)))
                  try simp only [Act.put, List.setIfInBounds_toArray, List.set_cons_zero, List.set_cons_succ]
                  refine held_skip (i := 26) rfl (by kernel_rfl) (by kernel_rfl) (by kernel_rfl) (fun _ _ _ h => h) (by rfl) (by assumption) ?_
                  try simp only [Act.put, List.setIfInBounds_toArray, List.set_cons_zero, List.set_cons_succ]
                  refine held_skip (i := 27) rfl (by kernel_rfl) (by kernel_rfl) (by kernel_rfl) (fun _ _ _ h => h) (by rfl) (by assumption) ?_
                  try simp only [Act.put, List.setIfInBounds_toArray, List.set_cons_zero, List.set_cons_succ]
                  refine held_skip (i := 28) rfl (by kernel_rfl) (by kernel_rfl) (by kernel_rfl) (fun _ _ _ h => h) (by rfl) (by assumption) ?_
                  try simp only [Act.put, List.setIfInBounds_toArray, List.set_cons_zero, List.set_cons_succ]
                  refine held_skip (i := 29) rfl (by kernel_rfl) (by kernel_rfl) (by kernel_rfl) (fun _ _ _ h => h) (by rfl) (by assumption) ?_
                  try simp only [Act.put, List.setIfInBounds_toArray, List.set_cons_zero, List.set_cons_succ]
                  refine held_skip (i := 30) rfl (by kernel_rfl) (by kernel_rfl) (by kernel_rfl) (fun _ _ _ h => h) (by rfl) (by assumption) ?_
                  try simp only [Act.put, List.setIfInBounds_toArray, List.set_cons_zero, List.set_cons_succ]
                  refine held_skip (i := 31) rfl (by kernel_rfl) (by kernel_rfl) (by kernel_rfl) (fun _ _ _ h => h) (by rfl) (by assumption) ?_
                  try simp only [Act.put, List.setIfInBounds_toArray, List.set_cons_zero, List.set_cons_succ]
                  refine held_skip (i := 32) rfl (by kernel_rfl) (by kernel_rfl) (by kernel_rfl) (fun _ _ _ h => h) (by rfl) (by assumption) ?_
                  try simp only [Act.put, List.setIfInBounds_toArray, List.set_cons_zero, List.set_cons_succ]
                  refine held_skip (i := 33) rfl (by kernel_rfl) (by kernel_rfl) (by kernel_rfl) (fun _ _ _ h => h) (by rfl) (by assumption) ?_
                  try simp only [Act.put, List.setIfInBounds_toArray, List.set_cons_zero, List.set_cons_succ]
                  refine held_skip (i := 34) rfl (by kernel_rfl) (by kernel_rfl) (by kernel_rfl) (fun _ _ _ h => h) (by rfl) (by assumption) ?_
                  try simp only [Act.put, List.setIfInBounds_toArray, List.set_cons_zero, List.set_cons_succ]
                  refine held_skip (i := 35) rfl (by kernel_rfl) (by kernel_rfl) (by kernel_rfl) (fun _ _ _ h => h) (by rfl) (by assumption) ?_
                  try simp only [Act.put, List.setIfInBounds_toArray, List.set_cons_zero, List.set_cons_succ]
                  refine held_skip (i := 36) rfl (by kernel_rfl) (by kernel_rfl) (by kernel_rfl) (fun _ _ _ h => h) (by rfl) (by assumption) ?_
                  try simp only [Act.put, List.setIfInBounds_toArray, List.set_cons_zero, List.set_cons_succ]
                  refine held_skip (i := 37) rfl (by kernel_rfl) (by kernel_rfl) (by kernel_rfl) (fun _ _ _ h => h) (by rfl) (by assumption) ?_
                  try simp only [Act.put, List.setIfInBounds_toArray, List.set_cons_zero, List.set_cons_succ]
                  refine held_take (i := 38) (v := ?_) rfl (by kernel_rfl) (by kernel_rfl) (by kernel_rfl) (fun _ _ _ h => h) (by rfl) (fun w hSw => ?_) (by assumption) ?_; rotate_left 1; focus (((try dsimp only at hSw); first | (go_simp; done) | (go_simp; with_reducible rfl)))
                  try simp only [Act.put, List.setIfInBounds_toArray, List.set_cons_zero, List.set_cons_succ]
                  refine held_take (i := 39) (v := ?_) rfl (by kernel_rfl) (by kernel_rfl) (by kernel_rfl) (fun _ _ _ h => h) (by rfl) (fun w hSw => ?_) (by assumption) ?_; rotate_left 1; focus (((try dsimp only at hSw); first | (go_simp; done) | (go_simp; with_reducible rfl)))
                  try simp only [Act.put, List.setIfInBounds_toArray, List.set_cons_zero, List.set_cons_succ]
                  refine wpAnyH_done (by kernel_rfl) ?_ _
                  go_wp2_with fail
                  go_roundw
                  case rel => exact ⟨m + 1, by omega, .inl (by omega), by go_num, hq.out.drew⟩
                  case measure => simp [intOf]; omega
                · rw [p1, p3] at GT
                  rw [p2', decide_eq_true_eq] at hah
                  have p4 : ¬ ((xs : Int) ≤ (ys : Int)) := by omega
                  clear p2'
                  go_upto_region 28 with fail
                  refine wp_region_held_drew (S := fun v => v.cell? ⟨la, u * 4, none⟩ = some (.string xk) ∧ v.cell? ⟨la, u * 4 + 1, none⟩ = some (.int .u64 (xs : Int)) ∧ v.cell? ⟨la, m * 4, none⟩ = some (.string yk) ∧ v.cell? ⟨la, m * 4 + 1, none⟩ = some (.int .u64 (ys : Int))) (by kernel_rfl) (⟨x0, x1, y0, y1⟩) (fun hHeld => ?_)
                  refine held_take (i := 0) (v := ?_) rfl (by kernel_rfl) (by kernel_rfl) (by kernel_rfl) (fun _ _ _ h => h) (by rfl) (fun w hSw => ?_) (by assumption) ?_; rotate_left 1; focus (((try dsimp only at hSw); first | (go_simp; done) | (go_simp; with_reducible rfl)))
                  try simp only [Act.put, List.setIfInBounds_toArray, List.set_cons_zero, List.set_cons_succ]
                  refine held_take (i := 1) (v := ?_) rfl (by kernel_rfl) (by kernel_rfl) (by kernel_rfl) (fun _ _ _ h => h) (by rfl) (fun w hSw => ?_) (by assumption) ?_; rotate_left 1; focus (((try dsimp only at hSw); first | (go_simp; done) | (go_simp; with_reducible rfl)))
                  try simp only [Act.put, List.setIfInBounds_toArray, List.set_cons_zero, List.set_cons_succ]
                  refine held_take (i := 2) (v := ?_) rfl (by kernel_rfl) (by kernel_rfl) (by kernel_rfl) (fun _ _ _ h => h) (by rfl) (fun w hSw => ?_) (by assumption) ?_; rotate_left 1; focus (((try dsimp only at hSw); first | (go_simp; done) | (go_simp; with_reducible rfl)))
                  try simp only [Act.put, List.setIfInBounds_toArray, List.set_cons_zero, List.set_cons_succ]
                  refine held_take (i := 3) (v := ?_) rfl (by kernel_rfl) (by kernel_rfl) (by kernel_rfl) (fun _ _ _ h => h) (by rfl) (fun w hSw => ?_) (by assumption) ?_; rotate_left 1; focus (((try dsimp only at hSw); first | (go_simp; done) | (go_simp; with_reducible rfl)))
                  try simp only [Act.put, List.setIfInBounds_toArray, List.set_cons_zero, List.set_cons_succ]
                  refine held_take (i := 4) (v := ?_) rfl (by kernel_rfl) (by kernel_rfl) (by kernel_rfl) (fun _ _ _ h => h) (by rfl) (fun w hSw => ?_) (by assumption) ?_; rotate_left 1; focus (((try dsimp only at hSw); first | (go_simp; done) | (go_simp; with_reducible rfl)))
                  try simp only [Act.put, List.setIfInBounds_toArray, List.set_cons_zero, List.set_cons_succ]
                  refine held_take (i := 5) (v := ?_) rfl (by kernel_rfl) (by kernel_rfl) (by kernel_rfl) (fun _ _ _ h => h) (by rfl) (fun w hSw => ?_) (by assumption) ?_; rotate_left 1; focus (((try dsimp only at hSw); first | (go_simp; done) | (go_simp; with_reducible rfl)))
                  try simp only [Act.put, List.setIfInBounds_toArray, List.set_cons_zero, List.set_cons_succ]
                  refine held_take (i := 6) (v := ?_) rfl (by kernel_rfl) (by kernel_rfl) (by kernel_rfl) (fun _ _ _ h => h) (by rfl) (fun w hSw => ?_) (by assumption) ?_; rotate_left 1; focus (((try dsimp only at hSw); first | (go_simp; done) | (go_simp; with_reducible rfl)))
                  try simp only [Act.put, List.setIfInBounds_toArray, List.set_cons_zero, List.set_cons_succ]
                  refine held_take (i := 7) (v := ?_) rfl (by kernel_rfl) (by kernel_rfl) (by kernel_rfl) (fun _ _ _ h => h) (by rfl) (fun w hSw => ?_) (by assumption) ?_; rotate_left 1; focus (((try dsimp only at hSw); first | (go_simp; done) | (go_simp; with_reducible rfl)))
                  try simp only [Act.put, List.setIfInBounds_toArray, List.set_cons_zero, List.set_cons_succ]
                  refine held_take (i := 8) (v := ?_) rfl (by kernel_rfl) (by kernel_rfl) (by kernel_rfl) (fun _ _ _ h => h) (by rfl) (fun w hSw => ?_) (by assumption) ?_; rotate_left 1; focus (((try dsimp only at hSw); first | (go_simp; done) | (go_simp; with_reducible rfl)))
                  try simp only [Act.put, List.setIfInBounds_toArray, List.set_cons_zero, List.set_cons_succ]
                  refine held_take (i := 9) (v := ?_) rfl (by kernel_rfl) (by kernel_rfl) (by kernel_rfl) (fun _ _ _ h => h) (by rfl) (fun w hSw => ?_) (by assumption) ?_; rotate_left 1; focus (((try dsimp only at hSw); first | (go_simp; done) | (go_simp; with_reducible rfl)))
                  try simp only [Act.put, List.setIfInBounds_toArray, List.set_cons_zero, List.set_cons_succ]
                  refine held_take (i := 10) (v := ?_) rfl (by kernel_rfl) (by kernel_rfl) (by kernel_rfl) (fun _ _ _ h => h) (by rfl) (fun w hSw => ?_) (by assumption) ?_; rotate_left 1; focus (((try dsimp only at hSw); first | (go_simp; done) | (go_simp; with_reducible rfl)))
                  try simp only [Act.put, List.setIfInBounds_toArray, List.set_cons_zero, List.set_cons_succ]
                  refine held_take (i := 11) (v := ?_) rfl (by kernel_rfl) (by kernel_rfl) (by kernel_rfl) (fun _ _ _ h => h) (by rfl) (fun w hSw => ?_) (by assumption) ?_; rotate_left 1; focus (((try dsimp only at hSw); first | (go_simp; done) | (go_simp; with_reducible rfl)))
                  try simp only [Act.put, List.setIfInBounds_toArray, List.set_cons_zero, List.set_cons_succ]
                  refine held_take (i := 12) (v := ?_) rfl (by kernel_rfl) (by kernel_rfl) (by kernel_rfl) (fun _ _ _ h => h) (by rfl) (fun w hSw => ?_) (by assumption) ?_; rotate_left 1; focus (((try dsimp only at hSw); first | (go_simp; done) | (go_simp; with_reducible rfl)))
                  try simp only [Act.put, List.setIfInBounds_toArray, List.set_cons_zero, List.set_cons_succ]
                  refine held_take (i := 13) (v := ?_) rfl (by kernel_rfl) (by kernel_rfl) (by kernel_rfl) (fun _ _ _ h => h) (by rfl) (fun w hSw => ?_) (by assumption) ?_; rotate_left 1; focus (((try dsimp only at hSw); first | (go_simp; done) | (go_simp; with_reducible rfl)))
                  try simp only [Act.put, List.setIfInBounds_toArray, List.set_cons_zero, List.set_cons_succ]
                  refine held_take (i := 14) (v := ?_) rfl (by kernel_rfl) (by kernel_rfl) (by kernel_rfl) (fun _ _ _ h => h) (by rfl) (fun w hSw => ?_) (by assumption) ?_; rotate_left 1; focus (((try dsimp only at hSw); first | (go_simp; done) | (go_simp; with_reducible rfl)))
                  try simp only [Act.put, List.setIfInBounds_toArray, List.set_cons_zero, List.set_cons_succ]
                  refine held_take (i := 15) (v := ?_) rfl (by kernel_rfl) (by kernel_rfl) (by kernel_rfl) (fun _ _ _ h => h) (by rfl) (fun w hSw => ?_) (by assumption) ?_; rotate_left 1; focus (((try dsimp only at hSw); first | (go_simp; done) | (go_simp; with_reducible rfl)))
                  try simp only [Act.put, List.setIfInBounds_toArray, List.set_cons_zero, List.set_cons_succ]
                  refine held_take (i := 16) (v := ?_) rfl (by kernel_rfl) (by kernel_rfl) (by kernel_rfl) (fun _ _ _ h => h) (by rfl) (fun w hSw => ?_) (by assumption) ?_; rotate_left 1; focus (((try dsimp only at hSw); first | (go_simp; done) | (go_simp; with_reducible rfl)))
                  try simp only [Act.put, List.setIfInBounds_toArray, List.set_cons_zero, List.set_cons_succ]
                  refine held_take (i := 17) (v := ?_) rfl (by kernel_rfl) (by kernel_rfl) (by kernel_rfl) (fun _ _ _ h => h) (by rfl) (fun w hSw => ?_) (by assumption) ?_; rotate_left 1; focus (((try dsimp only at hSw); first | (go_simp; done) | (go_simp; with_reducible rfl)))
                  try simp only [Act.put, List.setIfInBounds_toArray, List.set_cons_zero, List.set_cons_succ]
                  refine held_take (i := 18) (v := ?_) rfl (by kernel_rfl) (by kernel_rfl) (by kernel_rfl) (fun _ _ _ h => h) (by rfl) (fun w hSw => ?_) (by assumption) ?_; rotate_left 1; focus (((try dsimp only at hSw); first | (go_simp; done) | (go_simp; with_reducible rfl)))
                  try simp only [Act.put, List.setIfInBounds_toArray, List.set_cons_zero, List.set_cons_succ]
                  refine held_take (i := 19) (v := ?_) rfl (by kernel_rfl) (by kernel_rfl) (by kernel_rfl) (fun _ _ _ h => h) (by rfl) (fun w hSw => ?_) (by assumption) ?_; rotate_left 1; focus (((try dsimp only at hSw); first | (go_simp; done) | (go_simp; with_reducible rfl)))
                  try simp only [Act.put, List.setIfInBounds_toArray, List.set_cons_zero, List.set_cons_succ]
                  refine held_take (i := 20) (v := ?_) rfl (by kernel_rfl) (by kernel_rfl) (by kernel_rfl) (fun _ _ _ h => h) (by rfl) (fun w hSw => ?_) (by assumption) ?_; rotate_left 1; focus (((try dsimp only at hSw); first | (go_simp; done) | (go_simp; with_reducible rfl)))
                  try simp only [Act.put, List.setIfInBounds_toArray, List.set_cons_zero, List.set_cons_succ]
                  refine held_take (i := 21) (v := ?_) rfl (by kernel_rfl) (by kernel_rfl) (by kernel_rfl) (fun _ _ _ h => h) (by rfl) (fun w hSw => ?_) (by assumption) ?_; rotate_left 1; focus (((try dsimp only at hSw); first | (go_simp; done) | (go_simp; with_reducible rfl)))
                  try simp only [Act.put, List.setIfInBounds_toArray, List.set_cons_zero, List.set_cons_succ]
                  refine held_take (i := 22) (v := ?_) rfl (by kernel_rfl) (by kernel_rfl) (by kernel_rfl) (fun _ _ _ h => h) (by rfl) (fun w hSw => ?_) (by assumption) ?_; rotate_left 1; focus (((try dsimp only at hSw); first | (go_simp; done) | (go_simp; with_reducible rfl)))
                  try simp only [Act.put, List.setIfInBounds_toArray, List.set_cons_zero, List.set_cons_succ]
                  refine held_take (i := 23) (v := ?_) rfl (by kernel_rfl) (by kernel_rfl) (by kernel_rfl) (fun _ _ _ h => h) (by rfl) (fun w hSw => ?_) (by assumption) ?_; rotate_left 1; focus (((try dsimp only at hSw); first | (go_simp; done) | (go_simp; with_reducible rfl)))
                  try simp only [Act.put, List.setIfInBounds_toArray, List.set_cons_zero, List.set_cons_succ]
                  refine held_take (i := 24) (v := ?_) rfl (by kernel_rfl) (by kernel_rfl) (by kernel_rfl) (fun _ _ _ h => h) (by rfl) (fun w hSw => ?_) (by assumption) ?_; rotate_left 1; focus (((try dsimp only at hSw); first | (go_simp; done) | (go_simp; with_reducible rfl)))
                  try simp only [Act.put, List.setIfInBounds_toArray, List.set_cons_zero, List.set_cons_succ]
                  refine held_take (i := 25) (v := ?_) rfl (by kernel_rfl) (by kernel_rfl) (by kernel_rfl) (fun _ _ _ h => h) (by rfl) (fun w hSw => ?_) (by assumption) ?_; rotate_left 1; focus (((try dsimp only at hSw); first | (go_simp; done) | (go_simp; with_reducible rfl)))
                  try simp only [Act.put, List.setIfInBounds_toArray, List.set_cons_zero, List.set_cons_succ]
                  refine held_take (i := 26) (v := ?_) rfl (by kernel_rfl) (by kernel_rfl) (by kernel_rfl) (fun _ _ _ h => h) (by rfl) (fun w hSw => ?_) (by assumption) ?_; rotate_left 1; focus (((try dsimp only at hSw); first | (go_simp; done) | (go_simp; with_reducible rfl)))
                  try simp only [Act.put, List.setIfInBounds_toArray, List.set_cons_zero, List.set_cons_succ]
                  refine held_take (i := 27) (v := ?_) rfl (by kernel_rfl) (by kernel_rfl) (by kernel_rfl) (fun _ _ _ h => h) (by rfl) (fun w hSw => ?_) (by assumption) ?_; rotate_left 1; focus (((try dsimp only at hSw); first | (go_simp; done) | (go_simp; with_reducible rfl)))
                  try simp only [Act.put, List.setIfInBounds_toArray, List.set_cons_zero, List.set_cons_succ]
                  refine held_take (i := 28) (v := ?_) rfl (by kernel_rfl) (by kernel_rfl) (by kernel_rfl) (fun _ _ _ h => h) (by rfl) (fun w hSw => ?_) (by assumption) ?_; rotate_left 1; focus (((try dsimp only at hSw); first | (go_simp; done) | (go_simp; with_reducible rfl)))
                  try simp only [Act.put, List.setIfInBounds_toArray, List.set_cons_zero, List.set_cons_succ]
                  refine held_take (i := 29) (v := ?_) rfl (by kernel_rfl) (by kernel_rfl) (by kernel_rfl) (fun _ _ _ h => h) (by rfl) (fun w hSw => ?_) (by assumption) ?_; rotate_left 1; focus (((try dsimp only at hSw); first | (go_simp; done) | (go_simp; with_reducible rfl)))
                  try simp only [Act.put, List.setIfInBounds_toArray, List.set_cons_zero, List.set_cons_succ]
                  refine held_take (i := 30) (v := ?_) rfl (by kernel_rfl) (by kernel_rfl) (by kernel_rfl) (fun _ _ _ h => h) (by rfl) (fun w hSw => ?_) (by assumption) ?_; rotate_left 1; focus (((try dsimp only at hSw); first | (go_simp; done) | (go_simp; with_reducible rfl)))
                  try simp only [Act.put, List.setIfInBounds_toArray, List.set_cons_zero, List.set_cons_succ]
                  refine held_take (i := 31) (v := ?_) rfl (by kernel_rfl) (by kernel_rfl) (by kernel_rfl) (fun _ _ _ h => h) (by rfl) (fun w hSw => ?_) (by assumption) ?_; rotate_left 1; focus (((try dsimp only at hSw); first | (go_simp; done) | (go_simp; with_reducible rfl)))
                  try simp only [Act.put, List.setIfInBounds_toArray, List.set_cons_zero, List.set_cons_succ]
                  refine held_take (i := 32) (v := ?_) rfl (by kernel_rfl) (by kernel_rfl) (by kernel_rfl) (fun _ _ _ h => h) (by rfl) (fun w hSw => ?_) (by assumption) ?_; rotate_left 1; focus (((try dsimp only at hSw); first | (go_simp; done) | (go_simp; with_reducible rfl)))
                  try simp only [Act.put, List.setIfInBounds_toArray, List.set_cons_zero, List.set_cons_succ]
                  refine held_take (i := 33) (v := ?_) rfl (by kernel_rfl) (by kernel_rfl) (by kernel_rfl) (fun _ _ _ h => h) (by rfl) (fun w hSw => ?_) (by assumption) ?_; rotate_left 1; focus (((try dsimp only at hSw); first | (go_simp; done) | (go_simp; with_reducible rfl)))
                  try simp only [Act.put, List.setIfInBounds_toArray, List.set_cons_zero, List.set_cons_succ]
                  refine held_take (i := 34) (v := ?_) rfl (by kernel_rfl) (by kernel_rfl) (by kernel_rfl) (fun _ _ _ h => h) (by rfl) (fun w hSw => ?_) (by assumption) ?_; rotate_left 1; focus (((try dsimp only at hSw); first | (go_simp; done) | (go_simp; with_reducible rfl)))
                  try simp only [Act.put, List.setIfInBounds_toArray, List.set_cons_zero, List.set_cons_succ]
                  refine held_take (i := 35) (v := ?_) rfl (by kernel_rfl) (by kernel_rfl) (by kernel_rfl) (fun _ _ _ h => h) (by rfl) (fun w hSw => ?_) (by assumption) ?_; rotate_left 1; focus (((try dsimp only at hSw); first | (go_simp; done) | (go_simp; with_reducible rfl)))
                  try simp only [Act.put, List.setIfInBounds_toArray, List.set_cons_zero, List.set_cons_succ]
                  refine held_take (i := 36) (v := ?_) rfl (by kernel_rfl) (by kernel_rfl) (by kernel_rfl) (fun _ _ _ h => h) (by rfl) (fun w hSw => ?_) (by assumption) ?_; rotate_left 1; focus (((try dsimp only at hSw); first | (go_simp; done) | (go_simp; with_reducible rfl)))
                  try simp only [Act.put, List.setIfInBounds_toArray, List.set_cons_zero, List.set_cons_succ]
                  refine held_take (i := 37) (v := ?_) rfl (by kernel_rfl) (by kernel_rfl) (by kernel_rfl) (fun _ _ _ h => h) (by rfl) (fun w hSw => ?_) (by assumption) ?_; rotate_left 1; focus (((try dsimp only at hSw); first | (go_simp; done) | (go_simp; with_reducible rfl)))
                  try simp only [Act.put, List.setIfInBounds_toArray, List.set_cons_zero, List.set_cons_succ]
                  refine held_take (i := 38) (v := ?_) rfl (by kernel_rfl) (by kernel_rfl) (by kernel_rfl) (fun _ _ _ h => h) (by rfl) (fun w hSw => ?_) (by assumption) ?_; rotate_left 1; focus (((try dsimp only at hSw); first | (go_simp; done) | (go_simp; with_reducible rfl)))
                  try simp only [Act.put, List.setIfInBounds_toArray, List.set_cons_zero, List.set_cons_succ]
                  refine held_take (i := 39) (v := ?_) rfl (by kernel_rfl) (by kernel_rfl) (by kernel_rfl) (fun _ _ _ h => h) (by rfl) (fun w hSw => ?_) (by assumption) ?_; rotate_left 1; focus (((try dsimp only at hSw); first | (go_simp; done) | (go_simp; with_reducible rfl)))
                  try simp only [Act.put, List.setIfInBounds_toArray, List.set_cons_zero, List.set_cons_succ]
                  refine wpAnyH_done (by kernel_rfl) ?_ _
                  go_wp2_with fail
                  go_roundw
                  case rel => exact ⟨m + 1, by omega, .inl (by omega), by go_num, hq.out.drew⟩
                  case measure => simp [intOf]; omega
                · rw [p2'] at hah; cases hah
              · have mi : ¬ ((m : Int) < (t : Int)) := by omega
                have SRc : Hid (∀ (u : World) (p : Option Addr) (c b : Nat), Below w3.heap.size w3 u → Rs p t c b 0 R u → Calls Try.prog 13 #[.slice qa2 t ca, .slice p t c] u fun e w' => e = .returned (.bool true) ∧ Below u.heap.size u w') := Lib.hid fun u p c b hu hr => same_rows (RA.out.below hu (Nat.le_refl _)) hr
                have FIN : Hid (∀ u, Below w3.heap.size w3 u → Below wz.heap.size wz u) := Lib.hid fun u hu => below_of B3.out hu
                have WB1 := Lib.hid (WB.out wr (FIN.out wr hq))
                have hq := Lib.hid hq
                clear WB
                go_wp2_with (first
                  | (go_at_call 20; ((with_reducible refine WB1.out.mono ?_); rintro e w5 ⟨p5, c5, b5, rfl, r5, hb5⟩; have Q5 := Lib.hid (below_of hq.out hb5); have m5 := r5.most; have n5 := r5.cap; have S5 := Lib.hid (SRc.out w5 p5 c5 b5 Q5.out r5); clear r5 hb5 WB1))
                  | (go_at_call 13; ((with_reducible refine S5.out.mono ?_); rintro e w6 ⟨rfl, hb6⟩; have Q6 := Lib.hid (below_of Q5.out hb6); have WC1 := Lib.hid (WC.out w6 (FIN.out w6 Q6.out)); clear hb6 S5 WC))
                  | (go_at_call 20; ((with_reducible refine WC1.out.mono ?_); rintro e w7 ⟨p7, c7, b7, rfl, r7, hb7⟩; have Q7 := Lib.hid (below_of Q6.out hb7); have m7 := r7.most; have n7 := r7.cap; have S7 := Lib.hid (SRc.out w7 p7 c7 b7 Q7.out r7); clear r7 hb7 WC1))
                  | (go_at_call 13; ((with_reducible refine S7.out.mono ?_); rintro e w8 ⟨rfl, hb8⟩; have Q8 := Lib.hid (below_of Q7.out hb8); clear hb8 S7))
                  | (go_at_call 8; ((with_reducible refine (AW.out _).mono ?_); rintro e w9 ⟨rfl, hb9⟩; have Q9 := Lib.hid (below_of Q8.out hb9); clear hb9))
                  | fail "no arm")
                go_returns
                exact ⟨rfl, hb.out.trans ((FIN.out _ Q9.out).mono hb.out.size)⟩
set_option maxRecDepth 100000 in
set_option maxHeartbeats 2000000 in
theorem any_big (a0 : Option Addr) (n0 c0 : Nat) (a1 : Option Addr) (n1 c1 : Nat) (turn : Int) (w : World) (hn : 100 < n0) :
    Calls Try.prog 5 #[.slice a0 n0 c0, .slice a1 n1 c1, .int .i64 turn] w fun e w' => e = .returned (.bool true) ∧ Below w.heap.size w w' := by
  have AW := Lib.hid (awake_any w)
  have d0 : decide ((100 : Int) < (n0 : Int)) = true := by rw [decide_eq_true_eq]; omega
  go_enter Try.func5, Try.ntmps5
  go_wp2_with fail
  refine AW.out.mono ?_
  rintro e w' ⟨rfl, hb⟩
  go_wp2_with fail
  go_returns
  exact ⟨rfl, hb⟩
theorem any_walk (a0 : Option Addr) (n0 c0 b0 o0 : Nat) (rs : List Rw) (a1 : Option Addr) (n1 c1 b1 o1 : Nat) (hl : List Int) (turn : Int) (ht : (Lit.int .i64 turn).wf = true) (w : World)
    (h0 : Rs a0 n0 c0 b0 o0 rs w ∧ ∀ v ∈ rs, RwIn v) (h1 : SlOf 1 cellsI a1 n1 c1 b1 o1 hl w ∧ ∀ v ∈ hl, (Lit.int .i64 v).wf = true) :
    Calls Try.prog 5 #[.slice a0 n0 c0, .slice a1 n1 c1, .int .i64 turn] w fun e w' => e = .returned (.bool true) ∧ Below w.heap.size w w' := by
  by_cases hn : n0 ≤ 100
  · exact any_main a0 n0 c0 b0 o0 rs a1 n1 c1 b1 o1 hl turn ht w h0.1 h0.2 h1.1 hn
  · exact any_big a0 n0 c0 a1 n1 c1 turn w (by omega)
--LAW freshetlaw08.SkipAny any_walk rows:ra nums:ha int:tn
--BEGIN
namespace SkipAnyProof
open Go.ChangeShapes Go.WideShapes Go.ChangeAt Go.RowKit
open Go.ChangeMaps (open_string shut_string)
theorem own : ownKnob Try.prog.godebug = none := by kernel_rfl
set_option maxRecDepth 100000 in
theorem lifted (os : Os) (started : os.Started) (H : Type) (enc : TypeId × Value → H) :
    ReturnsInHanded {} Try.checked os 5 .any (Rows.skipAnySpec.pre6 enc Try.prog Try.f5 Rows.skipAnyRow.domain false) (Rows.skipAnySpec.post enc Try.prog Try.f5 false true false false) := by
  refine returnsInHanded_of_change_sized (C := Try.checked) own started (by kernel_rfl) Try.func5
    (ChangeSpec.witness6 (enc := enc) (C := Try.checked) false ⟨#[], #[.slice none 0 0, .slice none 0 0, .int .i64 0], []⟩ 8 (by kernel_rfl) (by kernel_rfl) (by kernel_rfl) (by kernel_rfl)) ?_
  intro W base args ds gs before hval0 hW _ hsz _
  have hval : ∀ (j : Nat) t v, Try.f5.params[j]? = some t → args[j]? = some v → Value.okWide Try.prog W .any base t v := hval0
  have hW' := hW
  obtain ⟨p, q, hA0, hV, rfl, hfz, hnd⟩ := hW
  have hA : DataW.TrodAll enc Try.prog W 0 (fun _ => true) true Try.f5.params.toList args.toList ds p := hA0
  rw [Try.params5] at hA hval hsz
  obtain ⟨v0, vs0, d0, ds0, p0, q0, hargs, rfl, rfl, h0, r0⟩ := trodAll_cons hA
  obtain ⟨v1, vs1, d1, ds1, p1, q1, rfl, rfl, rfl, h1, r1⟩ := trodAll_cons r0
  obtain ⟨v2, vs2, d2, ds2, p2, q2, rfl, rfl, rfl, h2, r2⟩ := trodAll_cons r1
  obtain ⟨rfl, rfl, rfl⟩ := trodAll_nil r2
  obtain rfl : args = #[v0, v1, v2] := by cases args; simp_all
  obtain ⟨rfl, rfl⟩ := trodVars_none hV
  obtain ⟨a0, n0, c0, rfl⟩ := okWide_slice Try.underlying30 (hval 0 30 v0 rfl rfl)
  have k0 := h0
  obtain ⟨fu0, hf0⟩ := h0
  obtain ⟨b0, o0, ra, ia0⟩ := open_rows hf0 hsz (j := 0) rfl rfl
  have lt0 : ∀ x ∈ p0, x.block < W.heap.size := fun x hx => hW'.lt x (by simp only [List.mem_append]; simp [hx])
  obtain ⟨a1, n1, c1, rfl⟩ := okWide_slice Try.underlying31 (hval 1 31 v1 rfl rfl)
  have k1 := h1
  obtain ⟨fu1, hf1⟩ := h1
  obtain ⟨b1, o1, ha, ia1⟩ := open_nums hf1 hsz (j := 1) rfl rfl
  have lt1 : ∀ x ∈ p1, x.block < W.heap.size := fun x hx => hW'.lt x (by simp only [List.mem_append]; simp [hx])
  obtain ⟨tn, rfl, rfl, rfl, m2⟩ := open_int Try.underlying3 (hval 2 3 v2 rfl rfl) h2
  clear hA0 hval0
  simp only [List.append_nil] at hW'
  refine (any_walk a0 n0 c0 b0 o0 ra a1 n1 c1 b1 o1 ha tn m2 W ia0 ia1).mono fun e W' ⟨he, hg⟩ => ?_
  subst he
  exact ⟨_, rfl, _, _, _, [], _, [], hW', (trodAll_cons_mk (shut_bool Try.underlying4 _) trodAll_mk0), (trodAll_cons_mk (Below.trod laid_out (by kernel_rfl) (of_decide_eq_true (by kernel_rfl)) k0 hg lt0) (trodAll_cons_mk (Below.trod laid_out (by kernel_rfl) (of_decide_eq_true (by kernel_rfl)) k1 hg lt1) (trodAll_cons_mk (shut_int Try.underlying3 m2) trodAll_mk0))), rfl, hg.frame _, fun h => by cases h⟩
theorem holds : Rows.SkipAnySaid :=
  OpenClaim.holds_of_wide 5 Try.f5 rfl rfl rfl rfl rfl rfl rfl ⟨rfl, rfl, rfl, rfl, rfl⟩ rfl rfl rfl rfl rfl (by kernel_rfl) Try.func5 (by kernel_rfl)
    (of_decide_eq_true (by kernel_rfl)) (by unfold Func.isWrapper; first | (rw [if_pos (by decide +kernel)]; kernel_rfl) | (rw [if_neg (by decide +kernel)]; exact ⟨rfl, rfl⟩))
    (fun os started H enc _ => lifted os started H enc)
end SkipAnyProof
--END
end Go.Proofs.Ytadbhajnlokkbaa
