/-
  MemAt: what any key has at a number stays, whatever greater numbers come behind, and is the same where batches come the other way round. No condition.
-/
import Derived.Test.YtdgbafpnfkedeaaPack5
namespace Go.Proofs.Ytdgbafpnfkedeaa
set_option maxRecDepth 100000
open Go.RowKit
attribute [local go_sem] eq_node ne_node eq_list eq_table
set_option maxRecDepth 100000 in
set_option maxHeartbeats 8000000 in
theorem at_main (a0 : Option Addr) (n0 c0 b0 o0 : Nat) (vs : List Bt) (upto : Int) (hup : (Lit.int .i64 upto).wf = true) (k : ByteArray) (w : World)
    (h0 : SlOf 1 cellsWl a0 n0 c0 b0 o0 vs w) (hv : ∀ v ∈ vs, BtAt v w) (hn : n0 ≤ 20) :
    Calls Try.prog 5 #[.slice a0 n0 c0, .int .i64 upto, .string k] w fun e w' => e = .returned (.bool true) ∧ Below w.heap.size w w' := by
  have hlen := h0.len
  have hcap := h0.cap
  have hmost := h0.most
  have AW := fun u => Lib.hid (awake_mem u)
  have d0 : decide ((20 : Int) < (n0 : Int)) = false := by rw [decide_eq_false_iff_not]; omega
  have hur : -9223372036854775808 ≤ upto ∧ upto ≤ 9223372036854775807 := by simpa [Lit.wf, IntKind.min, IntKind.max, IntKind.signed, IntKind.bits] using hup
  have hur := Lib.hid hur
  have h0 := Lib.hid h0
  have hv := Lib.hid hv
  obtain ⟨ls, hls⟩ := named (vs.map (·.ws))
  have hll : Hid (ls.length = n0) := Lib.hid (by rw [hls.out, List.length_map]; exact hlen)
  have Z0 := Lib.hid (Below.refl w.heap.size w)
  have W0 := Lib.hid (World.ownsRow_nil w w.heap.size 31 2)
  obtain ⟨i0, hi, hz0, hz1, hz2⟩ := info_parts info_bt
  clear hup
  go_enter Try.func5, Try.ntmps5
  go_wp2_with fail
  go_loopw [7, 8, 9] (fun s all v wr => ∃ j : Nat, j ≤ n0 ∧ s = .int .u64 (seqAt ls j : Int) ∧ wr.ownsRow w.heap.size 31 2 all j (rowBt (allB vs j)) ∧ v = .int .i64 (j : Int) ∧ (∀ i, i < j → (wrsAt ls i).length ≤ 20 ∧ chkB (seqAt ls i) (wrsAt ls i) = 0) ∧ Below w.heap.size w wr) (fun _ _ v _ => n0 - (intOf v).toNat)
  case atStart => exact ⟨0, Nat.zero_le _, rfl, W0.out, rfl, fun i hi => absurd hi (Nat.not_lt_zero _), Z0.out⟩
  case round =>
    obtain ⟨j, hj, rfl, hrow, rfl, hfr, hB⟩ := hrel
    obtain ⟨q1, q2, rfl⟩ := ownsRow_slice2 hrow
    by_cases hlt : j < n0
    · obtain ⟨x, hx, rfl, x0⟩ := wl_at (h0.out.below hB (Nat.le_refl _)) hlt
      have hW := (hv.out x (List.mem_of_getElem? hx)).2.below hB (Nat.le_refl _)
      have hwl := hW.len
      have i1 : (j : Int) < (n0 : Int) := by omega
      have hxw : wrsAt ls j = x.ws := by rw [hls.out]; exact wrsAt_at hx
      have hsj : seqAt ls (j + 1) = seqAt ls j + x.ws.length := by rw [seqAt_succ ls (by rw [hll.out]; exact hlt), hxw]
      have hal : allB vs (j + 1) = allB vs j ++ [{ x with seq := seqAt ls j }] := by
        rw [allB_succ, List.getD_eq_getElem?_getD, hx, hls.out]; rfl
      obtain ⟨S, hS⟩ := named (seqAt ls j)
      rw [← hS.out] at hsj hal ⊢
      have hfr := Lib.hid hfr
      have hrow := Lib.hid hrow
      have hB := Lib.hid hB
      obtain ⟨xq, xa, xn, xc, xb, xo, xw⟩ := x
      simp only at x0 hwl hxw hsj hal hW
      have hW := Lib.hid hW
      have hx := Lib.hid hx
      have hal := Lib.hid hal
      have hxw := Lib.hid hxw
      have N1 := Lib.hid (heap_alloc_new wr (.cells #[.int .u64 (S : Int), .slice xa xn xc] 31))
      have A1 := Lib.hid (below_alloc wr (.cells #[.int .u64 (S : Int), .slice xa xn xc] 31))
      have s1 := World.size_alloc wr (.cells #[.int .u64 (S : Int), .slice xa xn xc] 31)
      have x1 := ((A1.out.cell (p := ⟨b0, o0 + j, none⟩) (World.block_lt_of_cell? _ _ x0))).trans x0
      go_upto_region 9 with fail
      generalize wr.alloc (.cells #[.int .u64 (S : Int), .slice xa xn xc] 31) = V at N1 A1 s1 x1 ⊢
      have hs1 := Lib.hid s1
      clear x0 s1
      by_cases hg : 20 < xn
      · have d1 : decide ((20 : Int) < (xn : Int)) = true := by rw [decide_eq_true_eq]; omega
        go_wp2_with (go_at_call 9; ((with_reducible refine (AW _).out.mono ?_); rintro e w3 ⟨rfl, B3⟩; have B3 := Lib.hid (hB.out.trans ((below_of A1.out B3).mono hB.out.size))))
        go_returns
        exact ⟨rfl, B3.out⟩
      · have d1 : decide ((20 : Int) < (xn : Int)) = false := by rw [decide_eq_false_iff_not]; omega
        obtain ⟨k0, k1⟩ := pair_box N1.out
        have CK := Lib.hid (refcheck_any (seq := S) (hW.out.below A1.out (Nat.le_refl _)))
        obtain ⟨C, hC⟩ := named (chkB S xw)
        rw [← hC.out] at CK
        by_cases hc : C = 0
        · subst hc
          have hc0 := Lib.hid hC.out.symm
          clear hC
          go_upto_region 11 with (go_at_call 21; ((with_reducible refine CK.out.mono ?_); rintro e w2 ⟨rfl, B2⟩; have B2 := Lib.hid B2; clear CK k0 k1))
          have N2 := Lib.hid ((B2.out.block _ (Array.getElem?_eq_some_iff.1 N1.out).1).trans N1.out)
          have Q2 := Lib.hid (below_of A1.out B2.out)
          obtain ⟨k0, k1⟩ := pair_box N2.out
          have R2 := Lib.hid (own_below (own_below hrow.out A1.out) B2.out)
          have NX := Lib.hid fun (u : World) (hu : Below w.heap.size w u) => refnext_any (seq := S) ((hv.out _ (List.mem_of_getElem? hx.out)).2.below hu (Nat.le_refl _))
          simp only at NX
          rw [show nextB S xw = seqAt ls (j + 1) by unfold nextB; rw [if_pos hc0.out]; omega] at NX
          obtain ⟨S', hS'⟩ := named (seqAt ls (j + 1))
          rw [← hS'.out] at NX
          have H1 := Lib.hid (heap_alloc_new w2 (.cells #[.int .u64 (S : Int), .slice xa xn xc] 31))
          have hb2 : Hid (w.heap.size ≤ (w2.alloc (.cells #[.int .u64 (S : Int), .slice xa xn xc] 31)).heap.size) := Lib.hid (by rw [World.size_alloc]; have := hB.out.size; have := Q2.out.size; omega)
          have SG := Lib.hid (row_single (w := w2.alloc (.cells #[.int .u64 (S : Int), .slice xa xn xc] 31)) (g := w2.heap.size) (B := w2.heap.size) (size := 2) (e := 31) H1.out rfl (Nat.le_refl _))
          have R3 := Lib.hid (own_below R2.out (below_alloc w2 (.cells #[.int .u64 (S : Int), .slice xa xn xc] 31)))
          have NB : Hid ((Value.slice q1 j q2).ownBlock ≠ some wr.heap.size) := Lib.hid fun e => by have := (World.ownsRow.lt hrow.out _ e).2; omega
          have N3 := Lib.hid (((below_alloc w2 (.cells #[.int .u64 (S : Int), .slice xa xn xc] 31)).block _ (Array.getElem?_eq_some_iff.1 N2.out).1).trans N2.out)
          have Q3 := Lib.hid (hB.out.trans ((below_of Q2.out (below_alloc w2 (.cells #[.int .u64 (S : Int), .slice xa xn xc] 31))).mono hB.out.size))
          go_upto_region 12 with (at_builtin; refine wpList_append_two rfl (.tmp 53) (.tmp 55) 57 rfl w.heap.size _ 31 2 32 (.agg #[.int .u64 0, .slice none 0 0]) Try.underlying57 info_bt rfl (by decide) (by decide) _ j (rowBt (allB vs j)) _ 1 _ R3.out SG.out rfl rfl (by intro u hu; simp only [List.mem_cons, List.not_mem_nil, or_false] at hu; rcases hu with rfl | rfl <;> rfl) (by omega) (by omega) hb2.out ?_; intro v4 w4 own4 grow4 sh4; obtain ⟨va4, vc4, rfl⟩ := sh4; have Q4 := Lib.hid (Q3.out.grown grow4 hb2.out (fun k hk => (World.ownsRow.lt R3.out k hk).1)); have N4 := Lib.hid ((grow4.block _ (Array.getElem?_eq_some_iff.1 N3.out).1 (fun e => NB.out e.symm)).trans N3.out); have P4 := Lib.hid (show w4.ownsRow w.heap.size 31 2 (.slice va4 (j + 1) vc4) (j + 1) (rowBt (allB vs (j + 1))) by rw [hal.out, rowBt_snoc]; exact own4); clear own4 grow4)
          obtain ⟨k2, k3⟩ := pair_box N4.out
          clear k0 k1
          go_wp2_with (go_at_call 22; ((with_reducible refine (NX.out _ Q4.out).mono ?_); rintro e w5 ⟨rfl, B5⟩; have B5 := Lib.hid B5; clear NX))
          go_roundw
          case rel => exact ⟨j + 1, by omega, by rw [hS'.out], own_below P4.out B5.out, by go_num, fun i hi => by
            by_cases hij : i < j
            · exact hfr.out i hij
            · obtain rfl : i = j := by omega
              rw [hxw.out]
              exact ⟨by omega, by rw [← hS.out]; exact hc0.out⟩, Q4.out.trans (B5.out.mono Q4.out.size)⟩
          case measure => simp [intOf]; omega
        · have q3 : (C != 0) = true := by simpa using hc
          go_wp2_with (first
            | (go_at_call 21; ((with_reducible refine CK.out.mono ?_); rintro e w2 ⟨rfl, B2⟩; have B2 := Lib.hid B2; clear CK))
            | (go_at_call 9; ((with_reducible refine (AW _).out.mono ?_); rintro e w3 ⟨rfl, B3⟩; have B3 := Lib.hid (hB.out.trans ((below_of (below_of A1.out B2.out) B3).mono hB.out.size))))
            | fail "no arm")
          go_returns
          exact ⟨rfl, B3.out⟩
    · have hjN : j = n0 := by omega
      subst hjN
      have i1 : ¬ ((j : Int) < (j : Int)) := by omega
      have hgd : Hid (GoodL ls) := Lib.hid fun i hi => (hfr i (by rw [hll.out] at hi; exact hi)).2
      obtain ⟨S, hS⟩ := named (seqAt ls j)
      rw [← hS.out]
      have hrow := Lib.hid hrow
      have hB := Lib.hid hB
      obtain ⟨n0, hjn⟩ := named j
      rw [← hjn.out] at hrow hlen hn hll i1 hcap ⊢
      clear hS hfr hjn hj hlt
      go_upto_region 14 with fail
      go_cut [67] from 60 to 67 (fun b wc => wc = wr ∧ b = .bool (decide (upto < 0 ∨ (n0 : Int) < upto)))
      case first =>
        by_cases hu1 : upto < 0
        · have d1 : decide (upto < 0) = true := decide_eq_true hu1
          have d3 := Lib.hid (decide_eq_true (show upto < 0 ∨ (n0 : Int) < upto from .inl hu1))
          go_wp2_with fail
          go_meet
          exact ⟨rfl, by rw [d3.out]⟩
        · have d1 : decide (upto < 0) = false := decide_eq_false hu1
          by_cases hu2 : (n0 : Int) < upto
          · have d2 : decide ((n0 : Int) < upto) = true := decide_eq_true hu2
            have d3 := Lib.hid (decide_eq_true (show upto < 0 ∨ (n0 : Int) < upto from .inr hu2))
            go_wp2_with fail
            go_meet
            exact ⟨rfl, by rw [d3.out]⟩
          · have d2 : decide ((n0 : Int) < upto) = false := decide_eq_false hu2
            have d3 := Lib.hid (decide_eq_false (show ¬ (upto < 0 ∨ (n0 : Int) < upto) from fun h => h.elim hu1 hu2))
            go_wp2_with fail
            go_meet
            exact ⟨rfl, by rw [d3.out]⟩
      case rest =>
      obtain ⟨rfl, rfl⟩ := hcut
      go_upto_if 67 with fail
      go_cut [11] from 67 to 69 (fun v wq => wq = wc ∧ ∃ N : Nat, N ≤ n0 ∧ v = .int .i64 (N : Int))
      case first =>
        by_cases hu : upto < 0 ∨ (n0 : Int) < upto
        · have d3 : decide (upto < 0 ∨ (n0 : Int) < upto) = true := decide_eq_true hu
          rw [d3]
          go_wp2_with fail
          go_meet
          exact ⟨rfl, n0, Nat.le_refl _, rfl⟩
        · have d3 : decide (upto < 0 ∨ (n0 : Int) < upto) = false := decide_eq_false hu
          have e1 : Hid (upto = (upto.toNat : Int)) := Lib.hid (by omega)
          rw [d3]
          go_wp2_with fail
          go_meet
          exact ⟨rfl, upto.toNat, by omega, by rw [← e1.out]⟩
      case rest =>
        obtain ⟨rfl, N, hN, rfl⟩ := hcut
        have T0 := Lib.hid (Tb.nil w.heap.size wc)
        have hsz := Lib.hid hB.out.size
        have NW1 := Lib.hid (new_tb T0.out hsz.out)
        obtain ⟨qa, qc, qb, hqv, SL, ST⟩ := bts_of_row (l := allB vs n0) (by rw [allB_len]; exact hrow.out)
        rw [allB_len] at hqv SL ST
        simp only [Value.slice.injEq] at hqv
        obtain ⟨rfl, _, rfl⟩ := hqv
        have hqc := SL.cap
        have hqm := SL.most
        have SLr : Hid (∀ u, Below wc.heap.size wc u → ∀ u', Else4 u u' → u.heap.size ≤ u'.heap.size → SlOf 2 cellsBt q1 n0 q2 qb 0 (allB vs n0) u') := Lib.hid fun u hu u' he hs => by
          have h1 := SL.below hu (Nat.le_refl _)
          refine h1.keep (fun h0 => ?_) hs
          obtain ⟨_, cs, hcs⟩ := ST h0
          exact typed_else4 he ((hu.block qb (SL.addr h0).2).trans hcs) (by decide) (by decide) (by decide)
        have LX : Hid (∀ i, i < n0 → ∃ x, vs[i]? = some x ∧ (allB vs n0)[i]? = some { x with seq := seqAt ls i } ∧ wrsAt ls i = x.ws ∧ ∀ u, Below w.heap.size w u → Ws x.a x.n x.c x.b x.o (wrsAt ls i) u) := Lib.hid fun i hi => by
          obtain ⟨x, hx⟩ : ∃ x, vs[i]? = some x := ⟨_, List.getElem?_eq_getElem (by rw [hlen]; exact hi)⟩
          have e1 : wrsAt ls i = x.ws := by rw [hls.out]; exact wrsAt_at hx
          refine ⟨x, hx, ?_, e1, fun u hu => ?_⟩
          · rw [allB_at hi, List.getD_eq_getElem?_getD, hx, hls.out]; rfl
          · rw [e1]; exact (hv.out x (List.mem_of_getElem? hx)).2.below hu (Nat.le_refl _)
        clear SL ST hrow hv hls
        go_upto_region 17 with (first
          | (go_at_call 10; ((with_reducible refine NW1.out.mono ?_); rintro e w3 ⟨p1, rfl, T1, B1⟩; have T1 := Lib.hid T1; have B1 := Lib.hid B1; have NW2 := Lib.hid (new_tb T1.out (Nat.le_trans hsz.out B1.out.size)); clear NW1))
          | (go_at_call 10; ((with_reducible refine NW2.out.mono ?_); rintro e w4 ⟨p2, rfl, T2, B2⟩; have T2 := Lib.hid T2; have B2 := Lib.hid (below_of B1.out B2); have NW3 := Lib.hid (new_tb T2.out (Nat.le_trans hsz.out B2.out.size)); clear NW2))
          | (go_at_call 10; ((with_reducible refine NW3.out.mono ?_); rintro e w5 ⟨p3, rfl, T3, B3⟩; have T3 := Lib.hid T3; have B3 := Lib.hid (below_of B2.out B3); clear NW3))
          | fail "no arm")
        have T3 := Lib.hid (show Tb w.heap.size [(p1, tabOf ls []), (p2, tabOf ls []), (p3, tabOf ls [])] w5 from T3.out)
        have SL5 : Hid (∀ u', Else4 w5 u' → w5.heap.size ≤ u'.heap.size → SlOf 2 cellsBt q1 n0 q2 qb 0 (allB vs n0) u') := Lib.hid fun u' he hs => SLr.out w5 B3.out u' he hs
        have Q5 := Lib.hid (hB.out.trans (B3.out.mono hsz.out))
        have Z5 := Lib.hid (Else4.refl w5)
        clear T0 T1 T2 B1 B2 SLr
        go_wp2_with fail
        go_loopw [15, 16] (fun s v wq => ∃ j : Nat, j ≤ n0 ∧ s = .int .u64 ((seqAt ls (min j N) - 1 : Nat) : Int) ∧ v = .int .i64 (j : Int) ∧ Tb w.heap.size [(p1, tabOf ls (List.range (min j N))), (p2, tabOf ls (List.range j)), (p3, tabOf ls ((List.range n0).reverse.take j))] wq ∧ Below w.heap.size w wq ∧ Else4 w5 wq ∧ w5.heap.size ≤ wq.heap.size) (fun _ v _ => n0 - (intOf v).toNat)
        case atStart => exact ⟨0, Nat.zero_le _, by rw [Nat.zero_min]; rfl, rfl, by rw [Nat.zero_min]; exact T3.out, Q5.out, Z5.out, Nat.le_refl _⟩
        case round =>
          clear T3 Q5 Z5
          obtain ⟨j, hj, rfl, rfl, T0, B0, E0, S0⟩ := hrel
          by_cases hlt : j < n0
          · obtain ⟨x, hx, hxa, hxw, hxW⟩ := LX.out j hlt
            obtain ⟨z, hz, hza, hzw, hzW⟩ := LX.out (n0 - 1 - j) (by omega)
            obtain ⟨m, hm⟩ := named (n0 - 1 - j)
            have hmn : Hid (m < n0) := Lib.hid (by rw [hm.out]; omega)
            have hj1 := Lib.hid hlt
            rw [← hm.out] at hza hzw hzW
            obtain ⟨_, hqa⟩ : ∃ u : Unit, q1 = some ⟨qb, 0, none⟩ := ⟨(), ((SL5.out wr E0 S0).addr (by omega)).1⟩
            subst hqa
            have hxW := Lib.hid hxW
            have hzW := Lib.hid hzW
            obtain ⟨xq, xa, xn, xc, xb, xo, xw⟩ := x
            obtain ⟨zq, za, zn, zc, zb, zo, zw⟩ := z
            simp only at hxw hzw hxW hzW hxa hza
            obtain ⟨Sj, hSj⟩ := named (seqAt ls j)
            obtain ⟨Sm, hSm⟩ := named (seqAt ls m)
            rw [← hSj.out] at hxa
            rw [← hSm.out] at hza
            have CL : Hid (∀ u, Else4 w5 u → w5.heap.size ≤ u.heap.size → u.cell? ⟨qb, j * 2, none⟩ = some (.int .u64 (Sj : Int)) ∧ u.cell? ⟨qb, j * 2 + 1, none⟩ = some (.slice xa xn xc) ∧ u.cell? ⟨qb, m * 2, none⟩ = some (.int .u64 (Sm : Int)) ∧ u.cell? ⟨qb, m * 2 + 1, none⟩ = some (.slice za zn zc)) := Lib.hid fun u he hs => by
              have h1 := SL5.out u he hs
              have a0 := h1.at' j _ hxa 0 _ rfl
              have a1 := h1.at' j _ hxa 1 _ rfl
              have b0 := h1.at' m _ hza 0 _ rfl
              have b1 := h1.at' m _ hza 1 _ rfl
              rw [Nat.zero_add, Nat.add_zero] at a0 b0
              rw [Nat.zero_add] at a1 b1
              exact ⟨a0, a1, b0, b1⟩
            have A3L : Hid (∀ u (R1 : List Rw), Tb w.heap.size [(p1, R1), (p2, tabOf ls (List.range (j + 1))), (p3, tabOf ls ((List.range n0).reverse.take j))] u → Below w.heap.size w u → Calls Try.prog 12 #[.pointer (some ⟨p3, 0, none⟩), .agg #[.int .u64 (Sm : Int), .slice za zn zc], .slice none 0 0] u fun e w' => e = .returned (.int .i64 0) ∧ Tb w.heap.size [(p1, R1), (p2, tabOf ls (List.range (j + 1))), (p3, tabOf ls ((List.range n0).reverse.take (j + 1)))] w' ∧ Below w.heap.size u w' ∧ Else4 u w') := Lib.hid fun u R1 hT hb => by
              have := at_add hT hb.size (i := 2) (p := p3) (is := (List.range n0).reverse.take j) rfl hgd.out (back_nodup _ _) (fun k hk => by rw [hll.out]; exact back_lt hk) (m := m) (by rw [hll.out]; exact hmn.out) (by rw [hm.out]; exact back_not hj1.out) (by have := back_len n0 j; omega) (hzW.out u hb)
              rw [hm.out, ← back_step hj1.out, ← hm.out, ← hSm.out] at this
              exact this
            have i1 : (j : Int) < (n0 : Int) := by omega
            have i2 : (m : Int) < (n0 : Int) := by have := hmn.out; omega
            have i3 : (n0 : Int) - 1 - (j : Int) = (m : Int) := by have := hm.out; omega
            have hq1 : m < n0 := hmn.out
            have TT := Lib.hid T0
            have TB := Lib.hid B0
            have TE := Lib.hid E0
            have TS := Lib.hid S0
            clear T0 B0 E0 S0 hx hz hxa hza hm hj hlt
            by_cases hjN : j < N
            · have g1 : (j : Int) < (N : Int) := by omega
              rw [show min j N = j by omega] at TT
              have A1 := Lib.hid (show Calls Try.prog 12 #[.pointer (some ⟨p1, 0, none⟩), .agg #[.int .u64 (Sj : Int), .slice xa xn xc], .slice none 0 0] wr fun e w' => e = .returned (.int .i64 0) ∧ Tb w.heap.size [(p1, tabOf ls (List.range (j + 1))), (p2, tabOf ls (List.range j)), (p3, tabOf ls ((List.range n0).reverse.take j))] w' ∧ Below w.heap.size wr w' ∧ Else4 wr w' by
                have := at_add TT.out TB.out.size (i := 0) (p := p1) (is := List.range j) rfl hgd.out List.nodup_range (fun k hk => by have := List.mem_range.1 hk; have := hll.out; have := hj1.out; omega) (m := j) (by rw [hll.out]; exact hj1.out) (fun h => Nat.lt_irrefl _ (List.mem_range.1 h)) (by rw [List.length_range]; have := hj1.out; omega) (hxW.out _ TB.out)
                rw [← List.range_succ, ← hSj.out] at this
                exact this)
              obtain ⟨e0, e1, e2, e3⟩ := CL.out wr TE.out TS.out
              have hsj : Hid (seqAt ls (j + 1) = Sj + xw.length) := Lib.hid (by rw [seqAt_succ ls (by rw [hll.out]; exact hj1.out), hxw, ← hSj.out])
              go_upto_region 24 with (go_at_call 12; ((with_reducible refine A1.out.mono ?_); rintro e w6 ⟨rfl, T6, B6, E6⟩; have T6 := Lib.hid T6; have S6 := Lib.hid (Nat.le_trans TS.out B6.size); have E6 := Lib.hid (Else4.trans TE.out E6 TS.out); have B6 := Lib.hid (TB.out.trans B6); clear A1 e0 e1 e2 e3))
              obtain ⟨f0, f1, _, _⟩ := CL.out w6 E6.out S6.out
              have NX := Lib.hid (refnext_any (seq := Sj) (hxW.out w6 B6.out))
              have hcj := hgd.out j (by rw [hll.out]; exact hj1.out)
              rw [← hSj.out] at hcj
              rw [show nextB Sj (wrsAt ls j) = seqAt ls (j + 1) by unfold nextB; rw [if_pos hcj, hsj.out, hxw]] at NX
              have hS1 : 1 ≤ seqAt ls (j + 1) := by unfold seqAt; omega
              have hS2 : seqAt ls (j + 1) ≤ 72057594037928000 := by have := (chkB_ok hcj).2.2.1; have := (chkB_ok hcj).2.2.2.1; rw [hsj.out]; rw [hxw] at this; omega
              clear hcj
              obtain ⟨S', hS'⟩ := named (seqAt ls (j + 1))
              rw [← hS'.out] at NX hS1 hS2
              obtain ⟨S0, hS0⟩ := named (S' - 1)
              have hS0 := Lib.hid hS0
              have u1 : (S' : Int) - 1 = (S0 : Int) := by have := hS0.out.out; omega
              have u2 : S0 ≤ 72057594037928000 := by have := hS0.out.out; omega
              go_upto_region 25 with (go_at_call 22; ((with_reducible refine NX.out.mono ?_); rintro e w7 ⟨rfl, B7⟩; have UT := Lib.hid (T6.out.grow B7); have UE := Lib.hid (Else4.trans E6.out (Else4.of_below B7 (Nat.le_refl _)) S6.out); have US := Lib.hid (Nat.le_trans S6.out B7.size); have UB := Lib.hid (B6.out.trans (B7.mono B6.out.size)); clear NX f0 f1 B7 T6 B6 E6 S6))
              have A2 := Lib.hid (show Calls Try.prog 12 #[.pointer (some ⟨p2, 0, none⟩), .agg #[.int .u64 (Sj : Int), .slice xa xn xc], .slice none 0 0] w7 fun e w' => e = .returned (.int .i64 0) ∧ Tb w.heap.size [(p1, tabOf ls (List.range (j + 1))), (p2, tabOf ls (List.range (j + 1))), (p3, tabOf ls ((List.range n0).reverse.take j))] w' ∧ Below w.heap.size w7 w' ∧ Else4 w7 w' by
                have := at_add UT.out UB.out.size (i := 1) (p := p2) (is := List.range j) rfl hgd.out List.nodup_range (fun k hk => by have := List.mem_range.1 hk; have := hll.out; omega) (m := j) (by rw [hll.out]; exact hj1.out) (fun h => Nat.lt_irrefl _ (List.mem_range.1 h)) (by rw [List.length_range]; have := hj1.out; omega) (hxW.out _ UB.out)
                rw [← List.range_succ, ← hSj.out] at this
                exact this)
              obtain ⟨e0, e1, e2, e3⟩ := CL.out w7 UE.out US.out
              go_wp2_with (first
                | (go_at_call 12; ((with_reducible refine A2.out.mono ?_); rintro e w8 ⟨rfl, T8, B8, E8⟩; have T8 := Lib.hid T8; have S8 := Lib.hid (Nat.le_trans US.out B8.size); have E8 := Lib.hid (Else4.trans UE.out E8 US.out); have B8 := Lib.hid (UB.out.trans B8); obtain ⟨f0, f1, f2, f3⟩ := CL.out w8 E8.out S8.out; have A3 := Lib.hid (A3L.out w8 _ T8.out B8.out); clear A2 e0 e1 e2 e3))
                | (go_at_call 12; ((with_reducible refine A3.out.mono ?_); rintro e w9 ⟨rfl, T9, B9, E9⟩; have T9 := Lib.hid T9; have S9 := Lib.hid (Nat.le_trans S8.out B9.size); have E9 := Lib.hid (Else4.trans E8.out E9 S8.out); have B9 := Lib.hid (B8.out.trans B9); clear A3))
                | fail "no arm")
              go_roundw
              case rel => exact ⟨j + 1, by have := hj1.out; omega, (by rw [show min (j + 1) N = j + 1 by omega, ← hS'.out, ← hS0.out.out]), by go_num, by rw [show min (j + 1) N = j + 1 by omega]; exact T9.out, B9.out, E9.out, S9.out⟩
              case measure => have := hj1.out; simp [intOf]; omega
            · have g1 : ¬ ((j : Int) < (N : Int)) := by omega
              rw [show min j N = N by omega] at TT ⊢
              have A2 := Lib.hid (show Calls Try.prog 12 #[.pointer (some ⟨p2, 0, none⟩), .agg #[.int .u64 (Sj : Int), .slice xa xn xc], .slice none 0 0] wr fun e w' => e = .returned (.int .i64 0) ∧ Tb w.heap.size [(p1, tabOf ls (List.range N)), (p2, tabOf ls (List.range (j + 1))), (p3, tabOf ls ((List.range n0).reverse.take j))] w' ∧ Below w.heap.size wr w' ∧ Else4 wr w' by
                have := at_add TT.out TB.out.size (i := 1) (p := p2) (is := List.range j) rfl hgd.out List.nodup_range (fun k hk => by have := List.mem_range.1 hk; have := hll.out; omega) (m := j) (by rw [hll.out]; exact hj1.out) (fun h => Nat.lt_irrefl _ (List.mem_range.1 h)) (by rw [List.length_range]; have := hj1.out; omega) (hxW.out _ TB.out)
                rw [← List.range_succ, ← hSj.out] at this
                exact this)
              obtain ⟨e0, e1, e2, e3⟩ := CL.out wr TE.out TS.out
              go_upto_region 25 with fail
              go_wp2_with (first
                | (go_at_call 12; ((with_reducible refine A2.out.mono ?_); rintro e w8 ⟨rfl, T8, B8, E8⟩; have T8 := Lib.hid T8; have S8 := Lib.hid (Nat.le_trans TS.out B8.size); have E8 := Lib.hid (Else4.trans TE.out E8 TS.out); have B8 := Lib.hid (TB.out.trans B8); obtain ⟨f0, f1, f2, f3⟩ := CL.out w8 E8.out S8.out; have A3 := Lib.hid (A3L.out w8 _ T8.out B8.out); clear A2 e0 e1 e2 e3))
                | (go_at_call 12; ((with_reducible refine A3.out.mono ?_); rintro e w9 ⟨rfl, T9, B9, E9⟩; have T9 := Lib.hid T9; have S9 := Lib.hid (Nat.le_trans S8.out B9.size); have E9 := Lib.hid (Else4.trans E8.out E9 S8.out); have B9 := Lib.hid (B8.out.trans B9); clear A3))
                | fail "no arm")
              go_roundw
              case rel => exact ⟨j + 1, by have := hj1.out; omega, (by rw [show min (j + 1) N = N by omega]), by go_num, by rw [show min (j + 1) N = N by omega]; exact T9.out, B9.out, E9.out, S9.out⟩
              case measure => have := hj1.out; simp [intOf]; omega
          · have hjN : j = n0 := by omega
            subst hjN
            have i9 : ¬ ((j : Int) < (j : Int)) := by omega
            rw [show min j N = N by omega] at T0 ⊢
            rw [List.take_of_length_le (by rw [List.length_reverse, List.length_range]; omega), tab_back hgd.out (by rw [hll.out]; omega)] at T0
            have e2 := tab_at hgd.out (n := N) (m := j) hN (by rw [hll.out]; omega) k
            have e3 := tab_top hgd.out (n := N) (by rw [hll.out]; omega) k 18446744073709551615 (by
              have h1 := seqAt_le hgd.out N (by rw [hll.out]; omega)
              omega)
            have hl1 := tabOf_len ls (List.range N)
            have hl2 := tabOf_len ls (List.range j)
            rw [List.length_range] at hl1 hl2
            obtain ⟨R1, hR1⟩ := named (tabOf ls (List.range N))
            obtain ⟨R2, hR2⟩ := named (tabOf ls (List.range j))
            obtain ⟨A, hA⟩ := named (seqAt ls N - 1)
            have hso0 : SortedR (tabOf ls (List.range N)) := tabOf_sorted _ _
            rw [← hR1.out] at e2 e3 hl1 hso0 T0
            rw [← hR2.out] at e2 hl2 T0
            rw [← hA.out] at e2 e3 ⊢
            obtain ⟨o, ho⟩ := named (getR R1 k A)
            rw [← ho.out] at e2 e3
            have hso : ∀ x, o = some x → x.key.toList = k.toList ∧ x.seq ≤ A := fun x hx => getR_some hso0 (by rw [← ho.out]; exact hx)
            clear hso0 hR1 hR2 hA hgd hll LX SL5
            have hsz := Lib.hid B0.size
            have QT1 : Hid (∀ u, Below wr.heap.size wr u → TabQ (some ⟨p1, 0, none⟩) R1 u) := Lib.hid fun u hu => (T0.grow hu).q (i := 0) rfl (by omega)
            have QT2 : Hid (∀ u, Below wr.heap.size wr u → TabQ (some ⟨p2, 0, none⟩) R2 u) := Lib.hid fun u hu => (T0.grow hu).q (i := 1) rfl (by omega)
            have QT3 : Hid (∀ u, Below wr.heap.size wr u → TabQ (some ⟨p3, 0, none⟩) R2 u) := Lib.hid fun u hu => (T0.grow hu).q (i := 2) rfl (by omega)
            have GR2 : Hid (∀ u, Below wr.heap.size wr u → Calls Try.prog 20 #[.pointer (some ⟨p2, 0, none⟩)] u (GaveR R2 u)) := Lib.hid fun u hu => rows_tab (QT2.out u hu)
            have GR3 : Hid (∀ u, Below wr.heap.size wr u → Calls Try.prog 20 #[.pointer (some ⟨p3, 0, none⟩)] u (GaveR R2 u)) := Lib.hid fun u hu => rows_tab (QT3.out u hu)
            have SR : Hid (∀ a c b a' c' b' u, Rs a R2.length c b 0 R2 u → Rs a' R2.length c' b' 0 R2 u → Calls Try.prog 17 #[.slice a R2.length c, .slice a' R2.length c'] u fun e w' => e = .returned (.bool true) ∧ Below u.heap.size u w') := Lib.hid fun a c b a' c' b' u h1 h2 => (samerows_any h1 h2).mono fun e w' h => ⟨h.1.trans (by simp), h.2⟩
            obtain ⟨y, ok, hy, hok⟩ : ∃ (y : Rw) (ok : Bool), verV o = .tuple #[.agg #[.string y.key, .int .u64 (y.seq : Int), .int .i64 y.kind, .string y.val], .bool ok] ∧ (ok = true → o = some y) := by
              cases o with
              | none => exact ⟨zeroR, false, rfl, fun h => by cases h⟩
              | some x => exact ⟨x, true, rfl, fun _ => rfl⟩
            have hyk : Hid (ok = true → y.key.toList = k.toList ∧ y.seq ≤ A) := Lib.hid fun h => hso _ (hok h)
            have GE1 : Hid (∀ u, Below wr.heap.size wr u → Calls Try.prog 14 #[.pointer (some ⟨p1, 0, none⟩), .string k, .int .u64 (A : Int)] u fun e w' => e = .returned (.tuple #[.agg #[.string y.key, .int .u64 (y.seq : Int), .int .i64 y.kind, .string y.val], .bool ok]) ∧ Below u.heap.size u w') := Lib.hid fun u hu => by
              have := get_any (QT1.out u hu) k A
              rwa [← ho.out, hy] at this
            have GE2 : Hid (∀ u, Below wr.heap.size wr u → Calls Try.prog 14 #[.pointer (some ⟨p2, 0, none⟩), .string k, .int .u64 (A : Int)] u fun e w' => e = .returned (.tuple #[.agg #[.string y.key, .int .u64 (y.seq : Int), .int .i64 y.kind, .string y.val], .bool ok]) ∧ Below u.heap.size u w') := Lib.hid fun u hu => by
              have := get_any (QT2.out u hu) k A
              rwa [e2, hy] at this
            have GE3 : Hid (∀ u, Below wr.heap.size wr u → Calls Try.prog 14 #[.pointer (some ⟨p3, 0, none⟩), .string k, .int .u64 (A : Int)] u fun e w' => e = .returned (.tuple #[.agg #[.string y.key, .int .u64 (y.seq : Int), .int .i64 y.kind, .string y.val], .bool ok]) ∧ Below u.heap.size u w') := Lib.hid fun u hu => by
              have := get_any (QT3.out u hu) k A
              rwa [e2, hy] at this
            have GE4 : Hid (∀ u, Below wr.heap.size wr u → Calls Try.prog 14 #[.pointer (some ⟨p1, 0, none⟩), .string k, .int .u64 18446744073709551615] u fun e w' => e = .returned (.tuple #[.agg #[.string y.key, .int .u64 (y.seq : Int), .int .i64 y.kind, .string y.val], .bool ok]) ∧ Below u.heap.size u w') := Lib.hid fun u hu => by
              have := get_any (QT1.out u hu) k 18446744073709551615
              rw [e3, hy] at this
              exact this
            obtain ⟨yk, ys, yi, yv⟩ := y
            simp only at hyk
            have EQ := fun u => eql_rw yk yk ys ys yi yi yv yv true (by simp) u
            have hB0 := Lib.hid B0
            have bs2 : Hid (∀ u v : World, Below wr.heap.size wr u → Below u.heap.size u v → Below wr.heap.size wr v) := Lib.hid fun u v h1 h2 => h1.trans (h2.mono h1.size)
            clear ho hy hok hso e2 e3 QT1 QT2 QT3 T0 B0 E0 S0
            go_upto_region 28 with (go_at_call 14; ((with_reducible refine (GE1.out _ (Below.refl _ _)).mono ?_); rintro e x1 ⟨rfl, X1⟩; have X1 := Lib.hid X1; clear GE1))
            have K1 := Lib.hid (bs2.out _ _ X1.out (below_alloc x1 (.cells #[.string yk, .int .u64 (ys : Int), .int .i64 yi, .string yv] 43)))
            have r1 := Lib.hid (RowAt.new ⟨yk, ys, yi, yv⟩ x1)
            generalize x1.alloc (.cells #[.string yk, .int .u64 (ys : Int), .int .i64 yi, .string yv] 43) = V1 at K1 r1 ⊢
            clear X1
            go_upto_region 29 with (go_at_call 14; ((with_reducible refine (GE2.out _ K1.out).mono ?_); rintro e x2 ⟨rfl, X2⟩; have X2 := Lib.hid X2; clear GE2))
            have K2 := Lib.hid (bs2.out _ _ (bs2.out _ _ K1.out X2.out) (below_alloc x2 (.cells #[.string yk, .int .u64 (ys : Int), .int .i64 yi, .string yv] 43)))
            have r1 := Lib.hid ((r1.out.below X2.out).below (below_alloc x2 (.cells #[.string yk, .int .u64 (ys : Int), .int .i64 yi, .string yv] 43)))
            have r2 := Lib.hid (RowAt.new ⟨yk, ys, yi, yv⟩ x2)
            generalize x2.alloc (.cells #[.string yk, .int .u64 (ys : Int), .int .i64 yi, .string yv] 43) = V2 at K2 r1 r2 ⊢
            clear X2 K1
            go_upto_region 30 with (go_at_call 14; ((with_reducible refine (GE3.out _ K2.out).mono ?_); rintro e x3 ⟨rfl, X3⟩; have X3 := Lib.hid X3; clear GE3))
            have K3 := Lib.hid (bs2.out _ _ (bs2.out _ _ K2.out X3.out) (below_alloc x3 (.cells #[.string yk, .int .u64 (ys : Int), .int .i64 yi, .string yv] 43)))
            have r1 := Lib.hid ((r1.out.below X3.out).below (below_alloc x3 (.cells #[.string yk, .int .u64 (ys : Int), .int .i64 yi, .string yv] 43)))
            have r2 := Lib.hid ((r2.out.below X3.out).below (below_alloc x3 (.cells #[.string yk, .int .u64 (ys : Int), .int .i64 yi, .string yv] 43)))
            have r3 := Lib.hid (RowAt.new ⟨yk, ys, yi, yv⟩ x3)
            generalize x3.alloc (.cells #[.string yk, .int .u64 (ys : Int), .int .i64 yi, .string yv] 43) = V3 at K3 r1 r2 r3 ⊢
            clear X3 K2
            go_upto_region 31 with (go_at_call 14; ((with_reducible refine (GE4.out _ K3.out).mono ?_); rintro e x4 ⟨rfl, X4⟩; have X4 := Lib.hid X4; clear GE4))
            have K4 := Lib.hid (bs2.out _ _ (bs2.out _ _ K3.out X4.out) (below_alloc x4 (.cells #[.string yk, .int .u64 (ys : Int), .int .i64 yi, .string yv] 43)))
            have r1 := Lib.hid ((r1.out.below X4.out).below (below_alloc x4 (.cells #[.string yk, .int .u64 (ys : Int), .int .i64 yi, .string yv] 43)))
            have r2 := Lib.hid ((r2.out.below X4.out).below (below_alloc x4 (.cells #[.string yk, .int .u64 (ys : Int), .int .i64 yi, .string yv] 43)))
            have r3 := Lib.hid ((r3.out.below X4.out).below (below_alloc x4 (.cells #[.string yk, .int .u64 (ys : Int), .int .i64 yi, .string yv] 43)))
            have r4 := Lib.hid (RowAt.new ⟨yk, ys, yi, yv⟩ x4)
            generalize x4.alloc (.cells #[.string yk, .int .u64 (ys : Int), .int .i64 yi, .string yv] 43) = V4 at K4 r1 r2 r3 r4 ⊢
            clear X4 K3
            cases ok with
            | false =>
              obtain ⟨⟨a0', a1', a2', a3'⟩, _⟩ := r1.out.cells
              obtain ⟨⟨b0', b1', b2', b3'⟩, _⟩ := r2.out.cells
              obtain ⟨⟨c0', c1', c2', c3'⟩, _⟩ := r3.out.cells
              obtain ⟨⟨d0', d1', d2', d3'⟩, _⟩ := r4.out.cells
              clear r1 r2 r3 r4 hyk
              go_wp2_with (first
                | (go_at_call 20; ((with_reducible refine (GR2.out _ K4.out).mono ?_); rintro e z5 hd; obtain ⟨a5, c5, b5, rfl, r5, hb5⟩ := gave_rs hd; have Q5 := Lib.hid (bs2.out _ _ K4.out hb5); have S5 := Lib.hid r5; clear hd hb5 r5 GR2))
                | (go_at_call 20; ((with_reducible refine (GR3.out _ Q5.out).mono ?_); rintro e z6 hd; obtain ⟨a6, c6, b6, rfl, r6, hb6⟩ := gave_rs hd; have Q6 := Lib.hid (bs2.out _ _ Q5.out hb6); have S6 := Lib.hid (SR.out _ _ _ _ _ _ _ (S5.out.below hb6 (Nat.le_refl _)) r6); clear hd hb6 r6 GR3 S5))
                | (go_at_call 17; ((with_reducible refine S6.out.mono ?_); rintro e z7 ⟨rfl, hb7⟩; have Q7 := Lib.hid (bs2.out _ _ Q6.out hb7); clear hb7 S6))
                | (go_at_call 9; ((with_reducible refine (AW _).out.mono ?_); rintro e z9 ⟨rfl, B9⟩; have Q9 := Lib.hid (bs2.out _ _ Q7.out B9); clear B9))
                | fail "no arm")
              go_returns
              exact ⟨rfl, hB0.out.trans (Q9.out.mono hsz.out)⟩
            | true =>
              obtain ⟨h1, h2⟩ := hyk.out rfl
              have q1 : (yk.toList == k.toList) = true := by simpa using h1
              have q2 : (ys : Int) ≤ (A : Int) := by omega
              clear h1 h2
              obtain ⟨⟨a0', a1', a2', a3'⟩, _⟩ := r1.out.cells
              obtain ⟨⟨b0', b1', b2', b3'⟩, _⟩ := r2.out.cells
              obtain ⟨⟨c0', c1', c2', c3'⟩, _⟩ := r3.out.cells
              obtain ⟨⟨d0', d1', d2', d3'⟩, _⟩ := r4.out.cells
              clear r1 r2 r3 r4 hyk
              go_wp2_with (first
                | (go_at_call 20; ((with_reducible refine (GR2.out _ K4.out).mono ?_); rintro e z5 hd; obtain ⟨a5, c5, b5, rfl, r5, hb5⟩ := gave_rs hd; have Q5 := Lib.hid (bs2.out _ _ K4.out hb5); have S5 := Lib.hid r5; clear hd hb5 r5 GR2))
                | (go_at_call 20; ((with_reducible refine (GR3.out _ Q5.out).mono ?_); rintro e z6 hd; obtain ⟨a6, c6, b6, rfl, r6, hb6⟩ := gave_rs hd; have Q6 := Lib.hid (bs2.out _ _ Q5.out hb6); have S6 := Lib.hid (SR.out _ _ _ _ _ _ _ (S5.out.below hb6 (Nat.le_refl _)) r6); clear hd hb6 r6 GR3 S5))
                | (go_at_call 17; ((with_reducible refine S6.out.mono ?_); rintro e z7 ⟨rfl, hb7⟩; have Q7 := Lib.hid (bs2.out _ _ Q6.out hb7); clear hb7 S6))
                | (go_at_call 9; ((with_reducible refine (AW _).out.mono ?_); rintro e z9 ⟨rfl, B9⟩; have Q9 := Lib.hid (bs2.out _ _ Q7.out B9); clear B9))
                | fail "no arm")
              go_returns
              exact ⟨rfl, hB0.out.trans (Q9.out.mono hsz.out)⟩
set_option maxRecDepth 100000 in
set_option maxHeartbeats 2000000 in
theorem at_big (a0 : Option Addr) (n0 c0 : Nat) (upto : Int) (k : ByteArray) (w : World) (hn : 20 < n0) :
    Calls Try.prog 5 #[.slice a0 n0 c0, .int .i64 upto, .string k] w fun e w' => e = .returned (.bool true) ∧ Below w.heap.size w w' := by
  have AW := Lib.hid (awake_mem w)
  have d0 : decide ((20 : Int) < (n0 : Int)) = true := by rw [decide_eq_true_eq]; omega
  go_enter Try.func5, Try.ntmps5
  go_wp2_with (go_at_call 9; ((with_reducible refine AW.out.mono ?_); rintro e w' ⟨rfl, hb⟩; have hb := Lib.hid hb))
  go_returns
  exact ⟨rfl, hb.out⟩
theorem at_walk (a0 : Option Addr) (n0 c0 b0 o0 : Nat) (vs : List Bt) (upto : Int) (hup : (Lit.int .i64 upto).wf = true) (k : ByteArray) (_ : k.size ≤ reachBytes) (w : World)
    (h0 : SlOf 1 cellsWl a0 n0 c0 b0 o0 vs w ∧ ∀ v ∈ vs, BtAt v w) :
    Calls Try.prog 5 #[.slice a0 n0 c0, .int .i64 upto, .string k] w fun e w' => e = .returned (.bool true) ∧ Below w.heap.size w w' := by
  by_cases hn : n0 ≤ 20
  · exact at_main a0 n0 c0 b0 o0 vs upto hup k w h0.1 h0.2 hn
  · exact at_big a0 n0 c0 upto k w (by omega)
--LAW freshetlaw09.MemAt at_walk wls:l int:up string:k
--BEGIN
namespace MemAtProof
open Go.ChangeShapes Go.WideShapes Go.ChangeAt Go.RowKit
open Go.ChangeMaps (open_string shut_string)
theorem own : ownKnob Try.prog.godebug = none := by kernel_rfl
set_option maxRecDepth 100000 in
theorem lifted (os : Os) (started : os.Started) (H : Type) (enc : TypeId × Value → H) :
    ReturnsInHanded {} Try.checked os 5 .any (Rows.memAtSpec.pre6 enc Try.prog Try.f5 Rows.memAtRow.domain false) (Rows.memAtSpec.post enc Try.prog Try.f5 false true false false) := by
  refine returnsInHanded_of_change_sized (C := Try.checked) own started (by kernel_rfl) Try.func5
    (ChangeSpec.witness6 (enc := enc) (C := Try.checked) false ⟨#[], #[.slice none 0 0, .int .i64 0, .string .empty], []⟩ 8 (by kernel_rfl) (by kernel_rfl) (by kernel_rfl) (by kernel_rfl)) ?_
  intro W base args ds gs before hval0 hW _ hsz _
  have hval : ∀ (j : Nat) t v, Try.f5.params[j]? = some t → args[j]? = some v → Value.okWide Try.prog W .any base t v := hval0
  have hW' := hW
  obtain ⟨p, q, hA0, hV, rfl, hfz, hnd⟩ := hW
  have hA : DataW.TrodAll enc Try.prog W 0 (fun _ => true) true Try.f5.params.toList args.toList ds p := hA0
  rw [Try.params5] at hA hval hsz
  obtain ⟨v0, vs0, d0, ds0, p0, q0, hargs, rfl, rfl, h0, r0⟩ := trodAll_cons hA
  obtain ⟨v1, vs1, d1, ds1, p1, q1, rfl, rfl, rfl, h1, r1⟩ := trodAll_cons r0
  obtain ⟨v2, vs2, d2, ds2, p2, q2, rfl, rfl, rfl, h2, r2⟩ := trodAll_cons r1
  obtain ⟨rfl, rfl, rfl⟩ := trodAll_nil r2
  obtain rfl : args = #[v0, v1, v2] := by cases args; simp_all
  obtain ⟨rfl, rfl⟩ := trodVars_none hV
  obtain ⟨a0, n0, c0, rfl⟩ := okWide_slice Try.underlying56 (hval 0 56 v0 rfl rfl)
  have k0 := h0
  obtain ⟨fu0, hf0⟩ := h0
  obtain ⟨b0, o0, l, ia0⟩ := open_wls hf0 hsz (j := 0) rfl rfl
  have lt0 : ∀ x ∈ p0, x.block < W.heap.size := fun x hx => hW'.lt x (by simp only [List.mem_append]; simp [hx])
  obtain ⟨up, rfl, rfl, rfl, m1⟩ := open_int Try.underlying3 (hval 1 3 v1 rfl rfl) h1
  obtain ⟨k, rfl, rfl, rfl, m2⟩ := open_string Try.underlying9 (hval 2 9 v2 rfl rfl) h2
  have z2 : k.size ≤ reachBytes := by have := sized_string hsz (j := 2) (t := 9) (bytes := k.data.toList) rfl rfl; simpa using this
  clear hA0 hval0
  simp only [List.append_nil] at hW'
  refine (at_walk a0 n0 c0 b0 o0 l up m1 k z2 W ia0).mono fun e W' ⟨he, hg⟩ => ?_
  subst he
  exact ⟨_, rfl, _, _, _, [], _, [], hW', (trodAll_cons_mk (shut_bool Try.underlying4 _) trodAll_mk0), (trodAll_cons_mk (Below.trod laid_out (by kernel_rfl) (of_decide_eq_true (by kernel_rfl)) k0 hg lt0) (trodAll_cons_mk (shut_int Try.underlying3 m1) (trodAll_cons_mk (shut_string Try.underlying9 m2) trodAll_mk0))), rfl, hg.frame _, fun h => by cases h⟩
theorem holds : Rows.MemAtSaid :=
  OpenClaim.holds_of_wide 5 Try.f5 rfl rfl rfl rfl rfl rfl rfl ⟨rfl, rfl, rfl, rfl, rfl⟩ rfl rfl rfl rfl rfl (by kernel_rfl) Try.func5 (by kernel_rfl)
    (of_decide_eq_true (by kernel_rfl)) (by unfold Func.isWrapper; first | (rw [if_pos (by decide +kernel)]; kernel_rfl) | (rw [if_neg (by decide +kernel)]; exact ⟨rfl, rfl⟩))
    (fun os started H enc _ => lifted os started H enc)
end MemAtProof
--END
end Go.Proofs.Ytdgbafpnfkedeaa
