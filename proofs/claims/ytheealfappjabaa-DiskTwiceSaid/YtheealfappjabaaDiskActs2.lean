/-
  The closures' contracts: Append's and Sync's. Condition of names and data: at most 2^46 bytes.
-/
import Derived.Test.YtheealfappjabaaDiskActs
namespace Go.Proofs.Ytheealfappjabaa
open Go.RowKit Go.Maps Go.WideMaps
attribute [local go_sem] eq_file ne_file ne_disk ne_map
set_option maxRecDepth 100000 in
set_option maxHeartbeats 1000000 in
theorem append_do {base p bd bn bx i : Nat} {own : Own} {st : St} {w : World} (h : DiskAt base own p st w) (n x : ByteArray) (hn : n.size ≤ maxLen) (hl : st.dir.look n.data.toList = some i) (hx : (fileOf st.files i).data.length + x.size ≤ 140737488355328) (hu0 : 0 ≤ st.used) (hu1 : st.used ≤ 2199023255552)
    (hd0 : w.cell? ⟨bd, 0, none⟩ = some (at0 p)) (hn0 : w.cell? ⟨bn, 0, none⟩ = some (.string n)) (hx0 : w.cell? ⟨bx, 0, none⟩ = some (.string x)) (hod : own bd = none) (hox : own bx = none) :
    Calls Try.prog 31 #[at0 bd, at0 bn, at0 bx] w (Did base own p (st.appendF n.data.toList x.data.toList) (.tuple #[]) w) := by
  obtain ⟨nb, kb, pv, _, o2, _, hp, hm, _⟩ := h.disk
  obtain ⟨_, _, c2, _, _⟩ := disk_cells hp
  obtain ⟨v, hr, hr0, hv⟩ := look_drew hm n hn
  rw [hl] at hv
  obtain ⟨fb, rfl, hfb⟩ := hv
  obtain ⟨fp, fl, fc, f0, hfl, f1, frow, fown, fblk⟩ := file_cells (h.files fb i hfb)
  have hl' := Lib.hid hl
  have hfl' := Lib.hid hfl
  have frow' := Lib.hid frow
  have fblk' := Lib.hid fblk
  have hs1 := IntWalk.i64_in (st.used + x.size) ⟨by omega, by omega⟩
  have hs2 : 0 ≤ st.used + (x.size : Int) := by omega
  have exs : (x.data.toList.length : Int) = (x.size : Int) := by simp
  have exs' := Lib.hid exs
  clear hp hm hn hl hfl frow fblk exs f1
  go_enter Try.func31, Try.ntmps31
  go_wp2
  go_quiet (fail)
  go_wp2
  have d0 : DiskAt base own p st (w.drewN nq) := h.same rfl
  have g0 : Grow own own w (w.drewN nq) := grow_drew own w nq
  have d0 := Lib.hid d0
  have g0 := Lib.hid g0
  have e0 : (w.drewN nq).cell? ⟨bd, 0, none⟩ = some (at0 p) := hd0
  have e2 : (w.drewN nq).cell? ⟨bx, 0, none⟩ = some (.string x) := hx0
  have e3 : (w.drewN nq).cell? ⟨fb, 0, none⟩ = some (.slice fp fl fc) := f0
  have row1 : Hid ((w.drewN nq).ownsRow 0 5 1 (.slice fp fl fc) fl (rowB (fileOf st.files i).data)) := Lib.hid frow'.out
  have blk1 : Hid ((w.drewN nq).heap[fb]? = some (.cells #[.slice fp fl fc, .int .i64 ((fileOf st.files i).sure : Int)] 59 (0, 0))) := Lib.hid fblk'.out
  clear hd0 hn0 hx0 hr hr0 c2 frow' fblk' f0
  generalize w.drewN nq = V0 at *
  have d1 := Lib.hid (d0.out.same (w' := V0.drew) rfl)
  have g1 : Hid (Grow own own w V0.drew) := Lib.hid (g0.out.trans ⟨rfl, rfl, rfl, Nat.le_refl _, fun _ _ _ => rfl, fun _ _ h => h⟩)
  have e0' : V0.drew.cell? ⟨bd, 0, none⟩ = some (at0 p) := e0
  have e2' : V0.drew.cell? ⟨bx, 0, none⟩ = some (.string x) := e2
  have row2 : Hid (V0.drew.ownsRow 0 5 1 (.slice fp fl fc) fl (rowB (fileOf st.files i).data)) := Lib.hid row1.out
  have blk2 : Hid (V0.drew.heap[fb]? = some (.cells #[.slice fp fl fc, .int .i64 ((fileOf st.files i).sure : Int)] 59 (0, 0))) := Lib.hid blk1.out
  clear d0 g0 row1 blk1
  have bne : ∀ g, (Value.slice fp fl fc).ownBlock = some g → g ≠ fb := fun g hg e => by have := fown g hg; rw [e, hfb] at this; cases this
  have bneh := Lib.hid bne
  clear bne
  have fz : ∀ w1, V0.drew.grownBy w1 (Value.slice fp fl fc).ownBlock → w1.heap[fb]? = some (.cells #[.slice fp fl fc, .int .i64 ((fileOf st.files i).sure : Int)] 59 (0, 0)) := fun w1 hg => (hg.block fb (Array.getElem?_eq_some_iff.1 blk2.out).1 (fun e => bneh.out fb e.symm rfl)).trans blk2.out
  have fz' := Lib.hid fz
  clear fz
  go_region_law (first | ((refine step_append_disk ?_ (.tmp 14) (.tmp 15) ?_ (.slice fp fl fc) fl _ ?_ row2.out x ?_ (by rw [hfl'.out]; exact hx) ?_;  (all_goals try rfl)); intro ap al ac w1 hrow1 hgrow1 hat1; have z0 : w1.cell? ⟨fb, 0, none⟩ = some (.slice fp fl fc) := cell_of (fz'.out w1 hgrow1) rfl; have z1 : w1.frozen? ⟨fb, 0, none⟩ = false := frozen_of_row _ _ _ _ _ (fz'.out w1 hgrow1)))
  all_goals
    have hrow1' := Lib.hid hrow1
    have hgrow1' := Lib.hid hgrow1
    have hat1' := Lib.hid hat1
    clear hrow1 hgrow1 hat1 z0 z1 e0 e2 e3
    go_wp2
    have hfl2 := World.block_lt_of_cell? _ _ (cell_of blk2.out (k := 0) rfl)
    have nfb : ∀ g, (Value.slice ap al ac).ownBlock = some g → g ≠ fb := by
      intro g hg
      rcases hat1'.out with e | e
      · exact bneh.out g (by rw [← e]; exact hg)
      · have := e g hg; simp only at hfl2; omega
    obtain ⟨own', hb', d2, g2⟩ := DiskAt.newData (w2 := w1.setCell ⟨fb, 0, none⟩ (.slice ap al ac)) (v := .slice fp fl fc) (v' := .slice ap al ac) d1.out hfb ⟨(fileOf st.files i).data ++ x.data.toList, (fileOf st.files i).sure⟩ fown
      ⟨hgrow1'.out.os, hgrow1'.out.tape, hgrow1'.out.output, by simp only [World.setCell, Array.size_modify]; exact hgrow1'.out.size⟩
      (fun k hk h1 h2 => (heap_setCell_other _ _ _ _ h1).trans (hgrow1'.out.block k hk (fun e => h2 e.symm)))
      ((heap_setCell_same _ _ _ _ _ _ (fz'.out w1 hgrow1'.out)).trans rfl)
      (by
        have e1 : ((fileOf st.files i).data ++ x.data.toList).length = fl + x.size := by rw [List.length_append, hfl'.out]; simp
        simp only [e1, ← rowB_app]
        exact row_keep hrow1'.out (fun g hg => heap_setCell_other _ _ _ _ (nfb g hg))) hat1'.out
    have y0 := g2.cell hod e0'
    have y2 := g2.cell hox e2'
    have g3 := Lib.hid (g1.out.trans g2)
    obtain ⟨nb2, kb2, pv2, _, _, _, hp2, _⟩ := d2.disk
    obtain ⟨_, _, _, c3, _⟩ := disk_cells hp2
    have d3 := Lib.hid d2
    have e4 : (st.setFile i ⟨(fileOf st.files i).data ++ x.data.toList, (fileOf st.files i).sure⟩).used = st.used := rfl
    rw [e4] at c3
    clear d2 g2 hp2 e0' e2' e4 hfl2
    generalize w1.setCell ⟨fb, 0, none⟩ (.slice ap al ac) = V2 at *
    go_still_tail 7, (by kernel_rfl)
    change wpList _ _ _ _ _ V2.drew
    have d4 := Lib.hid (d3.out.same (w' := V2.drew) rfl)
    have c3' : V2.drew.cell? ⟨p, 3, none⟩ = some (.int .i64 st.used) := c3
    have f3' : V2.drew.frozen? ⟨p, 3, none⟩ = false := d4.out.frozen 3
    have g4 : Hid (Grow own own' w V2.drew) := Lib.hid (g3.out.trans ⟨rfl, rfl, rfl, Nat.le_refl _, fun _ _ _ => rfl, fun _ _ h => h⟩)
    clear c3 y0 y2 d3 g3
    generalize V2.drew = V3 at *
    go_wp2
    go_end0
    refine ⟨own', rfl, ?_, g4.out.trans (d4.out.grow_put 3 _)⟩
    unfold St.appendF
    rw [hl'.out]
    exact d4.out.put 3 _ rfl rfl rfl rfl (fun _ _ _ => by simp only [exs'.out]; rfl)
end Go.Proofs.Ytheealfappjabaa
