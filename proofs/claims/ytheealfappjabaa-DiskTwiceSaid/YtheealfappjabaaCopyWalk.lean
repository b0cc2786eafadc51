/-
  Copy. Condition: a disk that is as it must be.
-/
import Derived.Test.YtheealfappjabaaCopyMix
import Derived.Deep.Cut
import Derived.Deep.DeepCutAuto
namespace Go.Proofs.Ytheealfappjabaa
open Go Go.RowKit Go.Maps
attribute [local go_sem] eq_file ne_file ne_disk ne_map
set_option maxRecDepth 100000 in
set_option maxHeartbeats 4000000 in
theorem copy_new {base p : Nat} {own : Own} {k : Int} {st : St} {w : World} (l : Live base own p k st w) (hk : k ≤ 99999) (hb0 : base ≤ w.heap.size) :
    Calls Try.prog 20 #[at0 p] w fun e w' => ∃ q o2, e = .returned (at0 q) ∧ Live base o2 q k st w' ∧ (∀ i, i < w.heap.size → o2 i = none) ∧ Below w.heap.size w w' := by
  have M := made_any l.at'
  have TN := Lib.hid (twins_new l.at' hb0)
  obtain ⟨nb, kb, pv, on, onn, onk, hp, hmn, hmk, xs, hrow, hxs, hpv⟩ := l.at'.disk
  have hpvs : ∃ pa pn pc, pv = .slice pa pn pc := by
    rcases hrow.2 with ⟨rfl, _⟩ | ⟨g, cap, cur, rfl, _⟩
    · exact ⟨_, _, _, rfl⟩
    · exact ⟨_, _, _, rfl⟩
  obtain ⟨pa, pn, pc, rfl⟩ := hpvs
  have S := Lib.hid (l.sane hk)
  have l' := Lib.hid l
  have hmn := Lib.hid hmn
  have hmk := Lib.hid hmk
  have hrow := Lib.hid hrow
  have hxs := Lib.hid hxs
  have hpv := Lib.hid hpv
  have hp' := Lib.hid hp
  clear hp l
  go_enter Try.func20, Try.ntmps20
  go_wp2_with (go_at_call 38; ((with_reducible refine M.mono ?_); rintro e w' ⟨rfl, rfl⟩))
  refine TN.out.mono ?_
  rintro e w1 ⟨B, mb, rfl, tw, hb1, hB, hmb⟩
  have hp1 := hb1.block p (l'.out.at'.lt (by rw [on]; simp)) |>.trans hp'.out
  obtain ⟨c0, c1, c2, c3, c4, c5, c6, c7⟩ := disk_cells hp1
  go_wp2
  obtain ⟨q, hq⟩ := named w1.heap.size
  have hbV : Below w.heap.size w (w1.alloc (.cells (diskCells st nb kb (.slice pa pn pc)) 52)) := hb1.alloc hb1.size _
  have bV1 : Below w1.heap.size w1 (w1.alloc (.cells (diskCells st nb kb (.slice pa pn pc)) 52)) := (Below.refl _ w1).alloc (Nat.le_refl _) _
  have hqV : (w1.alloc (.cells (diskCells st nb kb (.slice pa pn pc)) 52)).heap[q]? = some (.cells (diskCells st nb kb (.slice pa pn pc)) 52 (0, 0)) := by rw [hq.out]; exact heap_alloc_new _ _
  have twV := tw.below bV1
  have hqlo : w.heap.size ≤ q := by rw [hq.out]; exact hb1.size
  have hqB : q ≠ B ∧ q ≠ mb := by have := tw.blt; rw [hq.out]; omega
  have hqo : B < q ∧ mb < q := by have := tw.blt; rw [hq.out]; omega
  rw [← hq.out]
  unfold diskCells at hbV bV1 hqV twV
  generalize w1.alloc (.cells #[.int .i64 st.room, .int .i64 st.steps, .map (some nb), .int .i64 st.used, .map (some kb), .slice pa pn pc, .int .i64 st.fuse, .bool st.down] 52) = V0 at *
  have dV := Lib.hid (l'.out.at'.below hbV)
  have twD := Lib.hid (twV.below (Below.refl _ V0).drew)
  have dD := Lib.hid (l'.out.at'.below hbV.drew)
  have hbV := Lib.hid hbV
  have hqV := Lib.hid hqV
  have e2 : V0.cell? ⟨p, 2, none⟩ = some (.map (some nb)) := (disk_cells ((hbV.out.block p (l'.out.at'.lt (by rw [on]; simp))).trans hp'.out)).2.2.1
  have e4 : V0.cell? ⟨p, 4, none⟩ = some (.map (some kb)) := (disk_cells ((hbV.out.block p (l'.out.at'.lt (by rw [on]; simp))).trans hp'.out)).2.2.2.2.1
  have hown : ∀ k, own k ≠ none → k < w.heap.size := fun k hk => l'.out.at'.lt hk
  have hown := Lib.hid hown
  have W1 := Lib.hid (with_any twD.out dD.out (fun i => by have := S.out.size i; exact this) (map_keep hmn.out (.refl _) (hbV.out.block nb (l'.out.at'.lt (by rw [onn]; simp)))) (by rw [onn]; simp) (by have := S.out.dir; omega))
  clear c0 c1 c2 c3 c4 c5 c6 c7 hp1 M TN bV1 twV tw
  go_upto_region 5 with fail
  go_cut [26] from 13 to 26 (fun _ w5 => ∃ o3 nm km L3, Half base p w.heap.size own o3 st B mb q nm km (.slice pa pn pc) L3 w5 ∧ Below w.heap.size w w5)
  case first =>
    go_region_with (first
      | (go_at_call 48
         refine (with_any tw2.out d2.out (fun i => (by have := S.out.size i; exact this)) mk2.out (by rw [onk]; simp) (by have := S.out.wait; omega)).mono ?_
         rintro e w3 ⟨km, o3, L3, rfl, hkm, mp3, tw3, up3, fr3, o3km, b3⟩
         have hq3 : w3.heap[q]? = some (.cells #[.int .i64 st.room, .int .i64 st.steps, .map (some nb), .int .i64 st.used, .map (some kb), .slice pa pn pc, .int .i64 st.fuse, .bool st.down] 52 (0, 0)) := (b3.block q (Array.getElem?_eq_some_iff.1 hq2.out).1 hqB.2).trans hq2.out
         have x2 : w3.cell? ⟨q, 2, none⟩ = some (.map (some nb)) := cell_of hq3 rfl
         have x4 : w3.cell? ⟨q, 4, none⟩ = some (.map (some kb)) := cell_of hq3 rfl
         have y2 : w3.frozen? ⟨q, 2, none⟩ = false := frozen_of_row _ _ _ _ _ hq3
         have y4 : w3.frozen? ⟨q, 4, none⟩ = false := frozen_of_row _ _ _ _ _ hq3
         have hq3 := Lib.hid hq3
         have mp3 := Lib.hid mp3
         have tw3 := Lib.hid tw3
         have up3 := Lib.hid up3
         have fr3 := Lib.hid fr3
         have b3 := Lib.hid b3)
      | (go_at_call 48
         refine W1.out.mono ?_
         rintro e w2 ⟨nm, o2, L2, rfl, hnm, mp2, tw2, up2, fr2, o2nm, b2⟩
         have pmb : ∀ k, own k ≠ none → k ≠ mb := fun k hk e => by have := hown.out k hk; omega
         have hq2 := Lib.hid ((b2.block q (Array.getElem?_eq_some_iff.1 hqV.out).1 hqB.2).trans hqV.out)
         have d2 := Lib.hid (dD.out.keep (fun k hk => b2.block k (dD.out.lt hk) (pmb k hk)) b2.size)
         have f4 : w2.cell? ⟨p, 4, none⟩ = some (.map (some kb)) := (b2.cell (p := ⟨p, 4, none⟩) (World.block_lt_of_cell? _ _ e4) (pmb p (by rw [on]; simp))).trans e4
         have mk2 := Lib.hid (map_keep hmk.out (.refl _) ((b2.block kb (dD.out.lt (by rw [onk]; simp)) (pmb kb (by rw [onk]; simp))).trans (hbV.out.block kb (l'.out.at'.lt (by rw [onk]; simp)))))
         have mp2 := Lib.hid mp2
         have tw2 := Lib.hid tw2
         have up2 := Lib.hid up2
         have fr2 := Lib.hid fr2
         have b2 := Lib.hid b2))
    all_goals (
      have hN : w.heap.size ≤ V0.heap.size := hbV.out.size
      have hqs : q < V0.heap.size := (Array.getElem?_eq_some_iff.1 hqV.out).1
      have z2 : V0.heap.size ≤ w2.heap.size := b2.out.size
      have z3 : w2.heap.size ≤ w3.heap.size := b3.out.size
      have hnm0 : V0.heap.size ≤ nm := hnm
      have lnm := World.ownsMap.lt mp2.out
      have lkm := World.ownsMap.lt mp3.out
      have n2 : ∀ k, k < V0.heap.size → o2 k = none := fun k hk => by
        cases e : o2 k with
        | none => rfl
        | some r => exact absurd (fr2.out k (by simp [e]) (by trivial)) (by show ¬ V0.heap.size ≤ k; omega)
      have n3 : ∀ k, k < w2.heap.size → o2 k = none → o3 k = none := fun k hk h0 => by
        cases e : o3 k with
        | none => rfl
        | some r => exact absurd (fr3.out k (by simp [e]) h0) (by omega)
      have hb3 : Below w.heap.size w w3 := ((hbV.out : Below w.heap.size w V0).trans (But.below (B := w.heap.size) (⟨b2.out.os, b2.out.tape, b2.out.output, b2.out.size, b2.out.block⟩ : But mb V0 w2) hmb hN)).trans (b3.out.below hmb (by omega))
      have R : Half base p w.heap.size own o3 st B mb q nm km (.slice pa pn pc) L3 ((w3.setCell ⟨q, 2, none⟩ (.map (some nm))).setCell ⟨q, 4, none⟩ (.map (some km))) ∧ Below w.heap.size w ((w3.setCell ⟨q, 2, none⟩ (.map (some nm))).setCell ⟨q, 4, none⟩ (.map (some km))) :=
        ⟨Half.new (nb := nb) (kb := kb) tw3.out (d2.out.keep (fun k hk => b3.out.block k (d2.out.lt hk) (pmb k hk)) b3.out.size) (map_keep mp2.out (fun k i => up3.out k _) (b3.out.block nm lnm (by omega))) mp3.out hq3.out
          ⟨n3 q (by omega) (n2 q hqs), n3 nm lnm o2nm, o3km⟩ ⟨hB, hmb, hqo.1, hqo.2, by omega, by omega, lkm⟩ hown.out (fun k hk => by
            by_cases e : o2 k = none
            · by_cases hl : k < w2.heap.size
              · exact absurd (n3 k hl e) hk
              · omega
            · by_cases hl : k < V0.heap.size
              · exact absurd (n2 k hl) e
              · omega), (hb3.setCell (p := ⟨q, 2, none⟩) hqlo _).setCell (p := ⟨q, 4, none⟩) hqlo _⟩
      have R := Lib.hid R
      clear hq3 mp3 tw3 up3 fr3 b3 x2 x4 hN hqs z2 z3 hnm0 lnm lkm n2 n3 hb3
      go_wp2_with fail
      go_meet
      exact ⟨_, _, _, _, R.out.1, R.out.2⟩)
  case rest =>
  obtain ⟨o3, nm, km, L3, hH, hbw⟩ := hcut
  have hp5 := (hbw.block p (l'.out.at'.lt (by rw [on]; simp))).trans hp'.out
  obtain ⟨_, _, _, _, _, f5, _, _⟩ := disk_cells hp5
  obtain ⟨_, _, _, _, _, q5, _, _⟩ := disk_cells hH.blk
  have y5 : wc.frozen? ⟨q, 5, none⟩ = false := frozen_of_row _ _ _ _ _ hH.blk
  have hlw := S.out.wait
  have CL := Lib.hid (clone_changes (row_keep hrow.out fun g hg => hbw.block g (l'.out.at'.lt (by rw [hpv.out g hg]; simp))) hxs.out (by omega))
  have hH := Lib.hid hH
  have hbw := Lib.hid hbw
  clear hp5 W1 twD dD e2 e4 hqV hbV dV
  go_wp2_with fail
  refine CL.out.mono ?_
  rintro e w6 ⟨va, vc, rfl, hrow6, hb6⟩
  have q6 : w6.cell? ⟨q, 5, none⟩ = some (.slice pa pn pc) := (hb6.cell (p := ⟨q, 5, none⟩) (World.block_lt_of_cell? _ _ q5)).trans q5
  have y6 : w6.frozen? ⟨q, 5, none⟩ = false := (hb6.frozen (p := ⟨q, 5, none⟩) (World.block_lt_of_cell? _ _ q5)).trans y5
  obtain ⟨n, hn⟩ := named st.wait.length
  have hnw : n ≤ 1048576 := by rw [hn.out]; omega
  rw [← hn.out] at hrow6 ⊢
  have H7 := Lib.hid ((hH.out.below hb6).wait (.slice va n vc))
  have b7 := Lib.hid ((hbw.out.trans (hb6.mono hbw.out.size)).setCell (p := ⟨q, 5, none⟩) hqlo (.slice va n vc))
  have gq : ∀ g, (Value.slice va n vc).ownBlock = some g → wc.heap.size ≤ g := fun g hg => (World.ownsRow.lt hrow6 g hg).1
  have ord5 := Lib.hid hH.out.ord
  have r7 := Lib.hid (row_keep (w' := w6.setCell ⟨q, 5, none⟩ (.slice va n vc)) (row_base (lo' := 0) hrow6 fun _ _ => Nat.zero_le _) fun g hg => heap_setCell_other _ _ _ _ (fun e => by have := gq g hg; have := ord5.out; simp only at e; omega))
  have gq : Hid (∀ g, (Value.slice va n vc).ownBlock = some g → o3 g = none ∧ km < g) := Lib.hid fun g hg => ⟨by
    cases e : o3 g with
    | none => rfl
    | some r => exact absurd (hH.out.tw.lo g (by simp [e])).2 (by have := gq g hg; omega), by have := gq g hg; have := ord5.out; omega⟩
  have start : Hid (∀ V, V = w6.setCell ⟨q, 5, none⟩ (.slice va n vc) → ∃ o L xs', Half base p w.heap.size own o st B mb q nm km (.slice va n vc) L V ∧ V.ownsRow 0 72 3 (.slice va n vc) n xs' ∧ RowsMix own o 0 st.wait xs' ∧ (∀ g, (Value.slice va n vc).ownBlock = some g → o g = none ∧ km < g) ∧ Below w.heap.size w V) :=
    Lib.hid fun V hV => by subst hV; exact ⟨o3, L3, xs, H7.out, row_base r7.out fun g _ => Nat.zero_le _, hxs.out, gq.out, b7.out⟩
  have q7 : (w6.setCell ⟨q, 5, none⟩ (.slice va n vc)).cell? ⟨q, 5, none⟩ = some (.slice va n vc) := (disk_cells H7.out.blk).2.2.2.2.2.1
  clear hrow6 hb6 gq r7 b7 H7 CL hH hbw f5 q5 y5 ord5 hrow hxs
  go_wp2_with fail
  have start := Lib.hid (start.out _ rfl)
  generalize w6.setCell ⟨q, 5, none⟩ (.slice va n vc) = W7 at start q7
  go_loopw [36] (fun i wr => ∃ (j : Nat) (o : Own) (L : List (Nat × Nat)) (xs' : List Value), j ≤ n ∧ i = .int .i64 (j : Int) ∧ Half base p w.heap.size own o st B mb q nm km (.slice va n vc) L wr ∧ wr.ownsRow 0 72 3 (.slice va n vc) n xs' ∧ RowsMix own o j st.wait xs' ∧ (∀ g, (Value.slice va n vc).ownBlock = some g → o g = none ∧ km < g) ∧ Below w.heap.size w wr) (fun i _ => n - (intOf i).toNat)
  case atStart =>
    obtain ⟨o, L, xs', h1, h2, h3, h4, h5⟩ := start.out
    exact ⟨0, o, L, xs', Nat.zero_le _, rfl, h1, h2, h3, h4, h5⟩
  case round =>
    clear start q7
    obtain ⟨j, o, L, xs', hj, rfl, hH, hrow, hmix, hg, hb⟩ := hrel
    by_cases hlt : j < n
    · obtain ⟨g, rfl⟩ : ∃ g, va = some ⟨g, 0, none⟩ := by
        rcases hrow.2 with ⟨e, hz⟩ | ⟨g, cap, cur, e, _⟩
        · omega
        · cases e; exact ⟨g, rfl⟩
      obtain ⟨og, lg⟩ := hg g rfl
      obtain ⟨c, hc⟩ : ∃ c, st.wait[j]? = some c := ⟨_, List.getElem?_eq_getElem (by rw [← hn.out]; exact hlt)⟩
      obtain ⟨v, hv, hpv2⟩ := hmix.at hc
      have r5 : wr.cell? ⟨q, 5, none⟩ = some (.slice (some ⟨g, 0, none⟩) n vc) := (disk_cells hH.blk).2.2.2.2.2.1
      obtain ⟨z, rfl⟩ := hpv2.pointer
      have rv : wr.cell? ⟨g, j * 3 + 2, none⟩ = some (.pointer z) := by rw [Nat.mul_comm]; exact (World.ownsRow.cellAt hrow (3 * j + 2) (by omega)).trans hv
      have hH := hH.below (Below.refl _ wr).drew
      have T := Lib.hid (twin_any hH.tw hH.at' S.out.size hpv2)
      have hH := Lib.hid hH
      have hrow := Lib.hid hrow
      have hmix := Lib.hid hmix
      have hb := Lib.hid hb
      have hc := Lib.hid hc
      clear hv hg
      have dk0 : decide ((j : Int) < 0) = false := decide_eq_false (by omega)
      go_wp2_with fail
      go_region_with (
        go_at_call 62
        refine T.out.mono ?_
        rintro e w8 ⟨v2, o8, L8, rfl, pv8, tw8, up8, fr8, b8⟩
        obtain ⟨z2, rfl⟩ := pv8.pointer
        have hH8 := Lib.hid (hH.out.twinned tw8 up8 fr8 b8)
        have hg8 : g < wr.heap.size := ((World.ownsRow.lt hrow.out g rfl).2)
        have ho8 := hH.out.ord
        have row8 := row_keep (w' := w8) hrow.out fun k hk => (by
          obtain rfl : g = k := by simpa [Value.ownBlock] using hk
          exact b8.block g hg8 (by omega) |>.trans rfl)
        have rv8 : w8.cell? ⟨g, j * 3 + 2, none⟩ = some (.pointer z) := (b8.cell (p := ⟨g, j * 3 + 2, none⟩) hg8 (by simp only; omega)).trans rv
        have rz8 : w8.frozen? ⟨g, j * 3 + 2, none⟩ = false := World.ownsRow.frozenAt row8 _
        have qc8 : w8.cell? ⟨q, 5, none⟩ = some (.slice (some ⟨g, 0, none⟩) n vc) := (disk_cells hH8.out.blk).2.2.2.2.2.1
        have row8 := Lib.hid row8
        have pv8 := Lib.hid pv8
        have up8 := Lib.hid up8
        have fr8 := Lib.hid fr8
        have b8 := Lib.hid b8
        clear ho8 hg8)
      all_goals (
        have hH9 := Lib.hid (hH8.out.but (r := g) lg (fr8.out g (World.ownsRow.lt hrow.out g rfl).2 og) ((But.refl g w8).setCell (p := ⟨g, j * 3 + 2, none⟩) rfl (.pointer z2)))
        have row9 := Lib.hid (World.ownsRow.stored row8.out (j * 3 + 2) (.pointer z2)).1
        have mix9 : Hid (RowsMix own o8 (j + 1) st.wait (xs'.set (j * 3 + 2) (.pointer z2))) := Lib.hid (by
          have := (hmix.out.more (o3 := o8) fun k i => up8.out k _).set hc.out pv8.out
          rwa [Nat.mul_comm 3 j] at this)
        have hb9 : Hid (Below w.heap.size w (w8.setCell ⟨g, j * 3 + 2, none⟩ (.pointer z2))) := Lib.hid ((hb.out.trans (But.below (B := w.heap.size) (⟨b8.out.os, b8.out.tape, b8.out.output, b8.out.size, b8.out.block⟩ : But mb wr w8) hH8.out.ord.2.1 hb.out.size)).setCell (p := ⟨g, j * 3 + 2, none⟩) (by have := hH8.out.ord; simp only; omega) _)
        have og9 : Hid (o8 g = none) := Lib.hid (fr8.out g (World.ownsRow.lt hrow.out g rfl).2 og)
        have lg9 := Lib.hid lg
        clear hH8 row8 rv8 rz8 qc8 pv8 up8 fr8 b8 T hH hrow hmix hb hc r5 rv dk0 og
        go_wp2_with fail
        go_roundw
        case rel => exact ⟨j + 1, o8, L8, _, by omega, by go_num, hH9.out, row9.out, mix9.out, fun k hk => (by obtain rfl : g = k := (by simpa [Value.ownBlock] using hk); exact ⟨og9.out, lg9.out⟩), hb9.out⟩
        case measure => simp [intOf]; omega)
    · go_wp2_with fail
      go_returns
      have hjn : j = n := by omega
      subst hjn
      obtain ⟨o', d', ap⟩ := hH.done hb0 (by rw [← hn.out]; exact hrow) (RowsMix.all (by rw [← hn.out]; exact hmix)) hg
      exact ⟨q, o', rfl, ⟨d', l'.out.wf, l'.out.s0, l'.out.s1⟩, ap, hb⟩
end Go.Proofs.Ytheealfappjabaa
