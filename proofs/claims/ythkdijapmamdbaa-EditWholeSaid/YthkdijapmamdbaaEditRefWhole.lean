/-
  The contract of the document's Whole. Condition: tables that came in.
-/
import Derived.Test.YthkdijapmamdbaaEditWhole
import Derived.Test.YthkdijapmamdbaaEditRefRight2
namespace Go.Proofs.Ythkdijapmamdbaa
set_option maxRecDepth 100000
open Go Go.RowKit
set_option maxRecDepth 100000 in
set_option maxHeartbeats 16000000 in
theorem rwhole_any {v : Vr} {H : Nat → Hd} {w : World} (hM : VrAt v H w) (hI : VrIn v) : Calls Try.prog 18 #[verV v H] w fun r w' => WhD v r w' ∧ Below w.heap.size w w' := by
  have RC : Hid (∀ u, Below w.heap.size w u → Calls Try.prog 30 #[verV v H] u fun e w' => e = .returned (.bool (tf (RightP v))) ∧ Below u.heap.size u w') := Lib.hid (fun u hu => rright_any (hM.below hu) (fun i hi x hx => (hI.2.2.2 i hi x hx).1))
  have W0 : Hid (Below w.heap.size w ((w.alloc (verO v H)).alloc zE)) := Lib.hid ((below_alloc w _).alloc (by simp) _)
  have V0 : Hid (VerB w.heap.size v H ((w.alloc (verO v H)).alloc zE)) := Lib.hid ((VerB.new v H w).below (below_alloc _ _))
  have Z0 : Hid (((w.alloc (verO v H)).alloc zE).heap[w.heap.size + 1]? = some zE) := Lib.hid (by
    have := heap_alloc_new (w.alloc (verO v H)) zE
    rwa [World.size_alloc] at this)
  have lenH : Hid (∀ i, i < 4 → (v.lv i).length = (H i).n) := Lib.hid (fun i hi => (hM i hi).len)
  have VM : Hid (∀ u, Below w.heap.size w u → ∀ i, i < 4 → Ms (H i) (v.lv i) u) := Lib.hid (fun u hu i hi => (hM i hi).below hu)
  clear hM hI
  by_cases hr : RightP v
  rotate_left 1
  · rw [tf_false hr] at RC
    replace hr := Lib.hid hr
    go_enter Try.func18, Try.ntmps18
    go_wp2_with (go_at_call 30; ((with_reducible refine (RC.out _ W0.out).mono ?_); rintro r w1 ⟨rfl, hb1⟩; have B1 := Lib.hid (below_of W0.out hb1); have Z1 : Hid (w1.heap[w.heap.size + 1]? = some zE) := Lib.hid ((hb1.block _ (by rw [World.size_alloc, World.size_alloc]; omega)).trans Z0.out); obtain ⟨z0, z1, z2, z3, z4⟩ := five_cells Z1.out; have zf := five_frozen Z1.out; clear hb1))
    obtain ⟨y0, y1, y2, y3, y4⟩ := five_cells (five_put Z1.out (.int .u64 0) (.int .u64 0) (.int .u64 0) (.slice none 0 0) (.slice none 0 0))
    refine bodyPost_ret (v := zEV) (by simp [results, Try.results18, go_sem, y0, y1, y2, y3, y4]) rfl ⟨.inr ⟨hr.out, rfl⟩, ?_⟩
    have g := Nat.le_succ w.heap.size
    exact ((((B1.out.setCell (p := ⟨w.heap.size + 1, 0, none⟩) g _).setCell (p := ⟨w.heap.size + 1, 1, none⟩) g _).setCell (p := ⟨w.heap.size + 1, 2, none⟩) g _).setCell (p := ⟨w.heap.size + 1, 3, none⟩) g _).setCell (p := ⟨w.heap.size + 1, 4, none⟩) g _
  rw [tf_true hr] at RC
  have h100 : Hid (∀ i, i < 4 → (v.lv i).length ≤ 100) := Lib.hid (fun i hi => Nat.le_trans (hr.2 i hi).1 (by omega))
  replace hr := Lib.hid hr
  obtain ⟨tj, hj, hj0, hj1, hj2⟩ := info_parts infoP
  go_enter Try.func18, Try.ntmps18
  go_upto_region 4 with (go_at_call 30; ((with_reducible refine (RC.out _ W0.out).mono ?_); rintro r w1 ⟨rfl, hb1⟩; have B1 := Lib.hid (below_of W0.out hb1); have Z1 : Hid (w1.heap[w.heap.size + 1]? = some zE) := Lib.hid ((hb1.block _ (by rw [World.size_alloc, World.size_alloc]; omega)).trans Z0.out); obtain ⟨x0, x1, x2, x3, x4, x5, x6⟩ := (V0.out.below hb1).cells; have I1 := Lib.hid (WhI.new (w.heap.size + 1) v.log v.next v.seq Z1.out B1.out (Nat.le_succ _)); have X1 : Hid (VerB w.heap.size v H (w1.alloc (edC v.log v.next v.seq (.slice none 0 0) (.slice none 0 0)))) := Lib.hid ((V0.out.below hb1).below (below_alloc _ _)); clear hb1))
  have I10 : Hid (WhI (w.heap.size + 1) w1.heap.size ⟨v.log, v.next, v.seq, [], plsTo v 0⟩ (.slice none 0 0) (.slice none 0 0) w (w1.alloc (edC v.log v.next v.seq (.slice none 0 0) (.slice none 0 0)))) := I1
  clear I1 x0 x1 x2 x3 x4 x5 x6
  obtain ⟨p, hp⟩ := named w1.heap.size
  go_wp2_with fail
  rw [← hp.out] at I10
  rw [← hp.out]
  replace hp := Lib.hid trivial
  clear RC W0 V0 Z0 Z1 B1
  go_loopw [4] (fun i wr => ∃ j : Nat, j ≤ 4 ∧ i = .int .i64 (j : Int) ∧ ∃ va, Hid (WhI (w.heap.size + 1) p ⟨v.log, v.next, v.seq, [], plsTo v j⟩ (.slice none 0 0) va w wr) ∧ Hid (VerB w.heap.size v H wr)) (fun i _ => 4 - (intOf i).toNat)
  case atStart => exact ⟨0, Nat.zero_le _, rfl, _, I10, X1⟩
  case round =>
    clear X1 I10
    obtain ⟨j, hjn, rfl, va, hI, hV⟩ := hrel
    by_cases hlt : j < 4
    · have i0 : (j : Int) < 4 := by omega
      have hlen := Lib.hid (lenH.out j hlt)
      have VMj := Lib.hid (fun u hu => VM.out u hu j hlt)
      have hall := Lib.hid (wholeB_all (v := v) (i := j) hlen.out)
      have LV := Lib.hid (fun u (hu : VerB w.heap.size v H u) => hu.lev hlt)
      obtain ⟨⟨ha, hn, hc, hb, ho⟩, hh⟩ := named (H j)
      rw [← hh.out] at hlen VMj hall LV
      simp only at hlen VMj hall LV
      replace hh := Lib.hid trivial
      have hW : Hid (∀ k, (wholeB v j k).length ≤ 400) := Lib.hid (fun k => wholeB_len h100.out hlt)
      have hcm : hn ≤ hc ∧ hc ≤ 9223372036854775807 := by
        have := VMj.out wr hI.out.f
        exact ⟨this.sl.cap, this.sl.most⟩
      obtain ⟨hcm1, hcm2⟩ := hcm
      go_wp2_with fail
      have hI0 : Hid (WhI (w.heap.size + 1) p ⟨v.log, v.next, v.seq, [], wholeB v j 0⟩ (.slice none 0 0) va w wr) := Lib.hid (by rw [wholeB_zero]; exact hI.out)
      clear hI
      go_loopw [5] (fun i wr => ∃ k : Nat, k ≤ hn ∧ i = .int .i64 (k : Int) ∧ ∃ va, Hid (WhI (w.heap.size + 1) p ⟨v.log, v.next, v.seq, [], wholeB v j k⟩ (.slice none 0 0) va w wr) ∧ Hid (VerB w.heap.size v H wr)) (fun i _ => hn - (intOf i).toNat)
      case atStart => exact ⟨0, Nat.zero_le _, rfl, _, hI0, hV⟩
      case round =>
        clear hI0 hV
        obtain ⟨k, hkn, rfl, va, hI, hV⟩ := hrel
        have lev := LV.out _ hV.out
        by_cases hltk : k < hn
        · have k0 : (k : Int) < (hn : Int) := by omega
          obtain ⟨x, hx, rfl, hbl, m0, m1, m2, m3, m4, m5, m6⟩ := (VMj.out _ hI.out.f).at7x hltk
          have hnext := Lib.hid (wholeB_succ hx)
          have hbd : Hid ((wholeB v j k).length + 1 ≤ maxLen ∧ ((wholeB v j k).length + 1) * 80 ≤ 140737488355328 ∧ ((wholeB v j k).length + 1) * 16 ≤ 140737488355328) := Lib.hid (bound_app (by have := hW.out k; omega))
          have SE : Hid (∀ u, Below w.heap.size w u → u.cell? ⟨hb, ho + k * 7, none⟩ = some (.int .u64 (x.num : Int)) ∧ u.cell? ⟨hb, ho + k * 7 + 1, none⟩ = some (.int .i64 x.size) ∧ u.cell? ⟨hb, ho + k * 7 + 2, none⟩ = some (.int .i64 x.rows) ∧ u.cell? ⟨hb, ho + k * 7 + 3, none⟩ = some (.string x.fst) ∧ u.cell? ⟨hb, ho + k * 7 + 4, none⟩ = some (.string x.lst) ∧ u.cell? ⟨hb, ho + k * 7 + 5, none⟩ = some (.int .u64 (x.least : Int)) ∧ u.cell? ⟨hb, ho + k * 7 + 6, none⟩ = some (.int .u64 (x.gr : Int))) := Lib.hid (fun u hu => by
            obtain ⟨y, hy, _, _, g⟩ := (VMj.out u hu).at7x hltk
            obtain rfl : y = x := Option.some.inj (hy.symm.trans hx)
            exact g)
          obtain ⟨P, hP⟩ := named (wholeB v j k)
          rw [← hP.out] at hI hnext hbd
          replace hP := Lib.hid trivial
          obtain ⟨t1, t2, t3, rfl⟩ := own_shape hI.out.m.oa
          obtain ⟨xn, xs, xr, xf, xl, xm, xg⟩ := x
          simp only at m0 m1 m2 m3 m4 m5 m6 SE
          have D5 : Hid (WhI (w.heap.size + 1) p ⟨v.log, v.next, v.seq, [], P⟩ (.slice none 0 0) (.slice t1 t2 t3) w wr.drew) := Lib.hid (hI.out.below (Below.refl _ _).drew)
          have V5 : Hid (VerB w.heap.size v H wr.drew) := hV
          have SS : Hid (∀ u : World, u.cell? ⟨p, 4, none⟩ = some (.slice t1 t2 t3) → Below w.heap.size w u → VerB w.heap.size v H u → (u.cell? ⟨p, 4, none⟩ = some (.slice t1 t2 t3) ∧ u.cell? ⟨w.heap.size, 3 + j, none⟩ = some (.slice (some ⟨hb, ho, none⟩) hn hc) ∧ u.cell? ⟨hb, ho + k * 7, none⟩ = some (.int .u64 (xn : Int)) ∧ u.cell? ⟨hb, ho + k * 7 + 1, none⟩ = some (.int .i64 xs) ∧ u.cell? ⟨hb, ho + k * 7 + 2, none⟩ = some (.int .i64 xr) ∧ u.cell? ⟨hb, ho + k * 7 + 3, none⟩ = some (.string xf) ∧ u.cell? ⟨hb, ho + k * 7 + 4, none⟩ = some (.string xl) ∧ u.cell? ⟨hb, ho + k * 7 + 5, none⟩ = some (.int .u64 (xm : Int)) ∧ u.cell? ⟨hb, ho + k * 7 + 6, none⟩ = some (.int .u64 (xg : Int)))) := Lib.hid (fun u h1 h2 h3 => ⟨h1, LV.out _ h3, SE.out _ h2⟩)
          have S0 := Lib.hid (SS.out _ D5.out.m.cells.2.2.2.2 D5.out.f V5.out)
          go_upto_region 10 with fail
          clear m0 m1 m2 m3 m4 m5 m6 VM VMj lenH hall hW lev LV SE
          refine wp_region_E 14 (S := (fun u => u.cell? ⟨p, 4, none⟩ = some (.slice t1 t2 t3) ∧ u.cell? ⟨w.heap.size, 3 + j, none⟩ = some (.slice (some ⟨hb, ho, none⟩) hn hc) ∧ u.cell? ⟨hb, ho + k * 7, none⟩ = some (.int .u64 (xn : Int)) ∧ u.cell? ⟨hb, ho + k * 7 + 1, none⟩ = some (.int .i64 xs) ∧ u.cell? ⟨hb, ho + k * 7 + 2, none⟩ = some (.int .i64 xr) ∧ u.cell? ⟨hb, ho + k * 7 + 3, none⟩ = some (.string xf) ∧ u.cell? ⟨hb, ho + k * 7 + 4, none⟩ = some (.string xl) ∧ u.cell? ⟨hb, ho + k * 7 + 5, none⟩ = some (.int .u64 (xm : Int)) ∧ u.cell? ⟨hb, ho + k * 7 + 6, none⟩ = some (.int .u64 (xg : Int)))) (by kernel_rfl) (S0.out) (fun hHeld => ?_)
          refine heldE_take (i := 0) (v := ?_) rfl (by kernel_rfl) (by kernel_rfl) (by kernel_rfl) (fun _ _ _ h => h) (by rfl) (fun w hSw => ?_) (by assumption) ?_; rotate_left 1; focus (((try dsimp only at hSw); first | (go_simp; done) | (go_simp; with_reducible rfl)))
          try simp only [Act.put, List.setIfInBounds_toArray, List.set_cons_zero, List.set_cons_succ]
          refine heldE_take (i := 1) (v := ?_) rfl (by kernel_rfl) (by kernel_rfl) (by kernel_rfl) (fun _ _ _ h => h) (by rfl) (fun w hSw => ?_) (by assumption) ?_; rotate_left 1; focus (((try dsimp only at hSw); first | (go_simp; done) | (go_simp; with_reducible rfl)))
          try simp only [Act.put, List.setIfInBounds_toArray, List.set_cons_zero, List.set_cons_succ]
          refine heldE_take (i := 2) (v := ?_) rfl (by kernel_rfl) (by kernel_rfl) (by kernel_rfl) (fun _ _ _ h => h) (by rfl) (fun w hSw => ?_) (by assumption) ?_; rotate_left 1; focus (((try dsimp only at hSw); first | (go_simp; done) | (go_simp; with_reducible rfl)))
          try simp only [Act.put, List.setIfInBounds_toArray, List.set_cons_zero, List.set_cons_succ]
          refine heldE_take (i := 3) (v := ?_) rfl (by kernel_rfl) (by kernel_rfl) (by kernel_rfl) (fun _ _ _ h => h) (by rfl) (fun w hSw => ?_) (by assumption) ?_; rotate_left 1; focus (((try dsimp only at hSw); first | (go_simp; done) | (go_simp; with_reducible rfl)))
          try simp only [Act.put, List.setIfInBounds_toArray, List.set_cons_zero, List.set_cons_succ]
          refine heldE_take (i := 4) (v := ?_) rfl (by kernel_rfl) (by kernel_rfl) (by kernel_rfl) (fun _ _ _ h => h) (by rfl) (fun w hSw => ?_) (by assumption) ?_; rotate_left 1; focus (((try dsimp only at hSw); first | (go_simp; done) | (go_simp; with_reducible rfl)))
          try simp only [Act.put, List.setIfInBounds_toArray, List.set_cons_zero, List.set_cons_succ]
          refine heldE_take (i := 5) (v := ?_) rfl (by kernel_rfl) (by kernel_rfl) (by kernel_rfl) (fun _ _ _ h => h) (by rfl) (fun w hSw => ?_) (by assumption) ?_; rotate_left 1; focus (((try dsimp only at hSw); first | (go_simp; done) | (go_simp; with_reducible rfl)))
          try simp only [Act.put, List.setIfInBounds_toArray, List.set_cons_zero, List.set_cons_succ]
          refine heldE_take (i := 6) (v := ?_) rfl (by kernel_rfl) (by kernel_rfl) (by kernel_rfl) (fun _ _ _ h => h) (by rfl) (fun w hSw => ?_) (by assumption) ?_; rotate_left 1; focus (((try dsimp only at hSw); first | (go_simp; done) | (go_simp; with_reducible rfl)))
          try simp only [Act.put, List.setIfInBounds_toArray, List.set_cons_zero, List.set_cons_succ]
          refine heldE_take (i := 7) (v := ?_) rfl (by kernel_rfl) (by kernel_rfl) (by kernel_rfl) (fun _ _ _ h => h) (by rfl) (fun w hSw => ?_) (by assumption) ?_; rotate_left 1; focus (((try dsimp only at hSw); first | (go_simp; done) | (go_simp; with_reducible rfl)))
          try simp only [Act.put, List.setIfInBounds_toArray, List.set_cons_zero, List.set_cons_succ]
          refine heldE_take (i := 8) (v := ?_) rfl (by kernel_rfl) (by kernel_rfl) (by kernel_rfl) (fun _ _ _ h => h) (by rfl) (fun w hSw => ?_) (by assumption) ?_; rotate_left 1; focus (((try dsimp only at hSw); first | (go_simp; done) | (go_simp; with_reducible rfl)))
          try simp only [Act.put, List.setIfInBounds_toArray, List.set_cons_zero, List.set_cons_succ]
          refine heldE_take (i := 9) (v := ?_) rfl (by kernel_rfl) (by kernel_rfl) (by kernel_rfl) (fun _ _ _ h => h) (by rfl) (fun w hSw => ?_) (by assumption) ?_; rotate_left 1; focus (((try dsimp only at hSw); first | (go_simp; done) | (go_simp; with_reducible rfl)))
          try simp only [Act.put, List.setIfInBounds_toArray, List.set_cons_zero, List.set_cons_succ]
          refine heldE_take (i := 10) (v := ?_) rfl (by kernel_rfl) (by kernel_rfl) (by kernel_rfl) (fun _ _ _ h => h) (by rfl) (fun w hSw => ?_) (by assumption) ?_; rotate_left 1; focus (((try dsimp only at hSw); first | (go_simp; done) | (go_simp; with_reducible rfl)))
          try simp only [Act.put, List.setIfInBounds_toArray, List.set_cons_zero, List.set_cons_succ]
          refine heldE_call (i := 11) (by kernel_rfl) rfl (by rfl) (fun K hK => ?_)
          go_simp
          refine hK.out _ _ (SS.out _ (D5.out.m.below (below_alloc _ _)).cells.2.2.2.2 (below_of D5.out.f (below_alloc _ _)) (V5.out.below (below_alloc _ _))) (fun hHeld => ?_)
          try simp only [Act.put, List.setIfInBounds_toArray, List.set_cons_zero, List.set_cons_succ]
          refine heldE_call (i := 12) (by kernel_rfl) rfl (by rfl) (fun K hK => ?_)
          refine wp_append_lies _ (.tmp 31) (.tmp 41) 28 rfl (p + 1) 62 tj (.agg #[.int .i64 0, .int .u64 0, .int .i64 0, .int .i64 0, .string .empty, .string .empty, .int .u64 0, .int .u64 0]) 8 80 Try.underlying28 hj hj0 hj1 hj2 rfl (by decide) (.slice t1 t2 t3) P.length (P.flatMap cellsP) (by rfl) (D5.out.m.oa.alloc _) ⟨wr.heap.size, 0, none⟩ 1 1 [.int .i64 (j : Int), .int .u64 (xn : Int), .int .i64 xs, .int .i64 xr, .string xf, .string xl, .int .u64 (xm : Int), .int .u64 (xg : Int)] (by rfl) rfl (World.news_of_block (heap_alloc_new _ _)) (one_p ⟨(j : Int), ⟨xn, xs, xr, xf, xl, xm, xg⟩⟩) (by decide) hbd.out.1 hbd.out.2.1 (by simp only [World.size_drew, World.size_alloc]; have := D5.out.m.big; simp only [World.size_drew] at this; omega) _ rfl ?_
          intro g9 cap9 w8 hown8 hgrow8 hat8 _
          have F8 := D5.out.addA (x := ⟨(j : Int), ⟨xn, xs, xr, xf, xl, xm, xg⟩⟩) hown8 hgrow8
          have D8 := Lib.hid F8.1
          have V8 := block_apart D5.out.m.oa hgrow8 V5.out (by decide)
          have K8 := Lib.hid (show _ ∧ _ ∧ Below w.heap.size w w8 ∧ VerB w.heap.size v H w8 from ⟨F8.2.1, F8.2.2, D5.out.f.trans ((Fr.grown (p := p) D5.out.m.big hgrow8 (fun r e => (row_of D5.out.m.oa r e).1)).below (by have := D5.out.lo; omega) (by have := D5.out.lo; omega)), V8⟩)
          have V9 : Hid (VerB w.heap.size v H (w8.setCell ⟨p, 4, none⟩ (.slice (some ⟨g9, 0, none⟩) (P.length + 1) cap9))) := Lib.hid ((heap_setCell_other _ _ _ _ (by show w.heap.size ≠ p; have := D5.out.lo; omega)).trans V8)
          clear F8 V8 hown8 hgrow8 hat8
          refine hK.out _ _ (SS.out _ K8.out.1 K8.out.2.2.1 K8.out.2.2.2) (fun hHeld => ?_)
          try simp only [Act.put, List.setIfInBounds_toArray, List.set_cons_zero, List.set_cons_succ]
          refine heldE_take (i := 13) (v := ?_) rfl (by kernel_rfl) (by kernel_rfl) (by kernel_rfl) (fun _ _ _ h => h) (by rfl) (fun w hSw => ?_) (by assumption) ?_; rotate_left 1; focus (((try dsimp only at hSw); first | (go_simp; done) | (go_simp; with_reducible rfl)))
          try simp only [Act.put, List.setIfInBounds_toArray, List.set_cons_zero, List.set_cons_succ]
          refine heldE_last (by kernel_rfl) rfl (by rfl) (fun K hK => ?_)
          obtain ⟨k8, f8, _, _⟩ := K8.out
          go_simp
          refine hK.out _ _ ?_
          try simp only [Act.put, List.setIfInBounds_toArray, List.set_cons_zero, List.set_cons_succ]
          refine wpE_done (by kernel_rfl) ?_ _
          go_wp2_with fail
          go_roundw
          case rel => exact ⟨k + 1, by omega, by go_num, _, by rw [hnext.out]; exact D8, V9⟩
          case measure => simp [intOf]; omega
        · obtain rfl : k = hn := by omega
          have k0 : ¬ (k : Int) < (k : Int) := by omega
          go_wp2_with fail
          go_roundw
          case rel => exact ⟨j + 1, by omega, by go_num, _, by rw [← hall.out]; exact hI, hV⟩
          case measure => simp [intOf]; omega
    · obtain rfl : j = 4 := by omega
      have i0 : ¬ ((4 : Nat) : Int) < 4 := by omega
      obtain ⟨t1, t2, t3, rfl⟩ := own_shape hI.out.m.oa
      obtain ⟨c0, c1, c2, c3, c4⟩ := hI.out.m.cells
      obtain ⟨z0, z1, z2, z3, z4⟩ := five_cells hI.out.z
      have zf := five_frozen hI.out.z
      simp only at c0 c1 c2 c3 c4
      go_wp2_with fail
      obtain ⟨y0, y1, y2, y3, y4⟩ := five_cells (five_put hI.out.z (.int .u64 (v.log : Int)) (.int .u64 (v.next : Int)) (.int .u64 (v.seq : Int)) (.slice none 0 0) (.slice t1 t2 t3))
      obtain ⟨hg', ha', v1', v2', E'⟩ := hI.out.m.put (N := w.heap.size + 1) (by have := hI.out.lo; omega) (.int .u64 (v.log : Int)) (.int .u64 (v.next : Int)) (.int .u64 (v.seq : Int)) (.slice none 0 0) (.slice t1 t2 t3)
      refine bodyPost_ret (v := .agg #[.int .u64 (v.log : Int), .int .u64 (v.next : Int), .int .u64 (v.seq : Int), .slice none 0 0, .slice t1 t2 t3]) (by simp [results, Try.results18, go_sem, y0, y1, y2, y3, y4]) rfl ⟨.inl ⟨hr.out, hg', ha', ?_, E'⟩, ?_⟩
      · simp only [hdV] at v1' v2'
        simp only [edV, wholeE]
        rw [← v1', ← v2']
      · have g := Nat.le_succ w.heap.size
        exact ((((hI.out.f.setCell (p := ⟨w.heap.size + 1, 0, none⟩) g _).setCell (p := ⟨w.heap.size + 1, 1, none⟩) g _).setCell (p := ⟨w.heap.size + 1, 2, none⟩) g _).setCell (p := ⟨w.heap.size + 1, 3, none⟩) g _).setCell (p := ⟨w.heap.size + 1, 4, none⟩) g _
end Go.Proofs.Ythkdijapmamdbaa
