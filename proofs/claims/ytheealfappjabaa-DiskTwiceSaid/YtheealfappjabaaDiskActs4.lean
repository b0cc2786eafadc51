/-
  The closures' contracts: Rename's, SyncDir's. Condition of names: at most 2^47 bytes.
-/
import Derived.Test.YtheealfappjabaaDiskActs3
namespace Go.Proofs.Ytheealfappjabaa
open Go.RowKit Go.Maps Go.WideMaps
attribute [local go_sem] eq_file ne_file ne_disk ne_map
set_option maxRecDepth 100000 in
set_option maxHeartbeats 1000000 in
theorem syncDir_do {base p bd : Nat} {own : Own} {st : St} {w : World} (h : DiskAt base own p st w) (hc : ∀ c ∈ st.wait, Sound c) (hd : st.kept.length + st.wait.length ≤ 1048576)
    (hd0 : w.cell? ⟨bd, 0, none⟩ = some (at0 p)) :
    Calls Try.prog 36 #[at0 bd] w (Did base own p st.syncDirF (.tuple #[]) w) := by
  obtain ⟨nb, kb, pv, o1, o2, _, hp, hm, _, xs, hrow, _⟩ := h.disk
  obtain ⟨_, _, _, _, _, c5, _⟩ := disk_cells hp
  obtain ⟨a, l, c, rfl, hl⟩ : ∃ a l c, pv = .slice a l c ∧ l = st.wait.length := by
    rcases hrow.2 with ⟨rfl, hz⟩ | ⟨g, cap, cur, rfl, _⟩
    · exact ⟨_, _, _, rfl, hz.symm⟩
    · exact ⟨_, _, _, rfl, rfl⟩
  have hl' := Lib.hid hl
  clear hp hm hrow hl
  go_enter Try.func36, Try.ntmps36
  go_wp2
  go_still_tail 6, (by kernel_rfl)
  change wpList _ _ _ _ _ w.drew
  have C := Lib.hid (settle_any (k := l) (h.same (w' := w.drew) rfl) (Nat.le_of_eq hl'.out) hc hd)
  have g1 := Lib.hid (grow_d own w)
  clear c5 hd0
  generalize w.drew = V at *
  go_wp2_with (go_at_call 37; refine C.out.mono ?_; rintro e w' ⟨own', rfl, d3, g3⟩)
  go_end0
  refine ⟨own', rfl, ?_, g1.out.trans g3⟩
  unfold St.syncDirF
  rw [← hl'.out]
  exact d3
set_option maxRecDepth 100000 in
set_option maxHeartbeats 1000000 in
theorem rename_same {base p bd bn bx i : Nat} {own : Own} {st : St} {w : World} (h : DiskAt base own p st w) (n m : ByteArray) (hn : n.size ≤ 140737488355328) (hm : m.size ≤ 140737488355328) (hl : st.dir.look n.data.toList = some i) (hme : m.data.toList ≠ [])
    (hd : st.dir.length ≤ 1048576) (hw : st.wait.length ≤ 1048576) (he : m.toList = n.toList)
    (z0 : w.cell? ⟨bd, 0, none⟩ = some (at0 p)) (z1 : w.cell? ⟨bn, 0, none⟩ = some (.string n)) (z2 : w.cell? ⟨bx, 0, none⟩ = some (.string m)) :
    Calls Try.prog 46 #[at0 bx, at0 bn, at0 bd] w (Did base own p (st.renameF n.data.toList m.data.toList) (.tuple #[]) w) := by
  have he2' := Lib.hid (show m.data.toList = n.data.toList by rw [← ByteArray.toList_eq, ← ByteArray.toList_eq, he])
  have hme' := Lib.hid hme
  have hl' := Lib.hid hl
  have d4 := Lib.hid h
  have g4 := Lib.hid (Grow.refl own w)
  clear hl hme h
  go_enter Try.func46, Try.ntmps46
  go_wp2
  have hl := hl'.out
  have hme := hme'.out
  have d5 : ∃ nb5 kb5 pv5, own p = some .disk ∧ own nb5 = some .names ∧ own kb5 = some .kept ∧ w.heap[p]? = some (.cells (diskCells st nb5 kb5 pv5) 52 (0, 0)) ∧ MapAt own nb5 st.dir w ∧ MapAt own kb5 st.kept w ∧ WaitAt own pv5 st.wait w := d4.out.disk
  obtain ⟨nb5, kb5, pv5, _, _, _, hp5, hm5, _⟩ := d5
  obtain ⟨_, _, k2, _, _⟩ := disk_cells hp5
  obtain ⟨v5, hr5, hv5⟩ := look_run hm5 n (Nat.le_trans hn (by unfold maxLen; omega))
  obtain ⟨q5, rfl⟩ := hv5.pointer
  have hr6 := hr5 w.drew rfl
  clear hp5 hm5 hr5
  go_still_tail 9, (by kernel_rfl)
  change wpList _ _ _ _ _ w.drew
  have d6 := Lib.hid (d4.out.same (w' := w.drew) rfl)
  have g6 : Hid (Grow own own w w.drew) := Lib.hid (g4.out.trans (grow_d own w))
  have C := Lib.hid (change_any d6.out n m (by omega) (by omega) (.pointer q5) (st.dir.look n.data.toList) hv5 ⟨fun e => (by rw [hl] at e; cases e), fun e => absurd e hme⟩ hd hw)
  clear k2 hr6 z0 z1 z2
  generalize w.drew = V2 at *
  go_wp2_with (go_at_call 29; refine C.out.mono ?_; rintro e w' ⟨own', rfl, d7, g7⟩)
  go_end0
  refine ⟨own', rfl, ?_, g6.out.trans g7⟩
  unfold St.renameF
  rw [if_pos he2'.out]
  have e0 : st.used - 0 = st.used := by omega
  rw [e0]
  exact d7
set_option maxRecDepth 100000 in
set_option maxHeartbeats 1000000 in
theorem rename_do {base p bd bn bx i : Nat} {own : Own} {st : St} {w : World} (h : DiskAt base own p st w) (n m : ByteArray) (hn : n.size ≤ 140737488355328) (hm : m.size ≤ 140737488355328) (hl : st.dir.look n.data.toList = some i) (hme : m.data.toList ≠ [])
    (hd : st.dir.length ≤ 1048576) (hw : st.wait.length ≤ 1048576) (hu0 : -2199023255552 ≤ st.used - st.sizeAt (st.dir.look m.data.toList)) (hu1 : st.used - st.sizeAt (st.dir.look m.data.toList) ≤ 2199023255552)
    (hd0 : w.cell? ⟨bd, 0, none⟩ = some (at0 p)) (hn0 : w.cell? ⟨bn, 0, none⟩ = some (.string n)) (hx0 : w.cell? ⟨bx, 0, none⟩ = some (.string m)) (hod : own bd = none) (hon : own bn = none) (hox : own bx = none) :
    Calls Try.prog 46 #[at0 bx, at0 bn, at0 bd] w (Did base own p (st.renameF n.data.toList m.data.toList) (.tuple #[]) w) := by
  by_cases he : m.toList = n.toList
  · exact rename_same h n m hn hm hl hme hd hw he hd0 hn0 hx0
  have heb : (m.toList == n.toList) = false := by simpa using he
  have he2 : ¬ m.data.toList = n.data.toList := by rw [← ByteArray.toList_eq, ← ByteArray.toList_eq]; exact he
  have he2' := Lib.hid he2
  have hme' := Lib.hid hme
  have hl' := Lib.hid hl
  obtain ⟨nb, kb, pv, o1, o2, _, hp, hmm, _⟩ := h.disk
  obtain ⟨_, _, c2, c3, _⟩ := disk_cells hp
  obtain ⟨v, hr1, hv⟩ := look_run hmm m (Nat.le_trans hm (by unfold maxLen; omega))
  have hr0 := hr1 w.drew rfl
  have S := size_look (h.same (w' := w.drew) rfl) hv
  obtain ⟨z, hz⟩ := named (st.sizeAt (st.dir.look m.data.toList))
  rw [← hz.out] at S hu0 hu1
  have hs1 := IntWalk.i64_in (st.used - z) ⟨by omega, by omega⟩
  obtain ⟨vq, rfl⟩ := hv.pointer
  clear hmm hv hr1 he2 hl hme
  go_enter Try.func46, Try.ntmps46
  go_wp2
  go_still_tail 12, (by kernel_rfl)
  still_call S
  repeat still_step
  refine wpStill_nil ?_
  change wpList _ _ _ _ _ w.drew
  have d1 := Lib.hid (h.same (w' := w.drew) rfl)
  have g1 := Lib.hid (grow_d own w)
  have e0 : w.drew.cell? ⟨bd, 0, none⟩ = some (at0 p) := hd0
  have e1 : w.drew.cell? ⟨bn, 0, none⟩ = some (.string n) := hn0
  have e2 : w.drew.cell? ⟨bx, 0, none⟩ = some (.string m) := hx0
  have e3 : w.drew.cell? ⟨p, 3, none⟩ = some (.int .i64 st.used) := c3
  have f3 : w.drew.frozen? ⟨p, 3, none⟩ = false := d1.out.frozen 3
  clear hd0 hn0 hx0 c2 c3 hr0 S hp
  generalize w.drew = V0 at *
  have nbd : bd ≠ p := fun e => by rw [e, o1] at hod; cases hod
  have nbn : bn ≠ p := fun e => by rw [e, o1] at hon; cases hon
  have nbx : bx ≠ p := fun e => by rw [e, o1] at hox; cases hox
  have z0 : (V0.setCell ⟨p, 3, none⟩ (.int .i64 (st.used - z))).cell? ⟨bd, 0, none⟩ = some (at0 p) := (World.cell?_setCell_other _ _ _ _ (by simp)).trans e0
  have z1 : (V0.setCell ⟨p, 3, none⟩ (.int .i64 (st.used - z))).cell? ⟨bn, 0, none⟩ = some (.string n) := (World.cell?_setCell_other _ _ _ _ (by simp)).trans e1
  have z2 : (V0.setCell ⟨p, 3, none⟩ (.int .i64 (st.used - z))).cell? ⟨bx, 0, none⟩ = some (.string m) := (World.cell?_setCell_other _ _ _ _ (by simp)).trans e2
  have d4 : Hid (DiskAt base own p { st with used := st.used - z } (V0.setCell ⟨p, 3, none⟩ (.int .i64 (st.used - z)))) := Lib.hid (d1.out.put 3 _ rfl rfl rfl rfl (fun _ _ _ => rfl))
  have g4 : Hid (Grow own own w (V0.setCell ⟨p, 3, none⟩ (.int .i64 (st.used - z)))) := Lib.hid (g1.out.trans (d1.out.grow_put 3 _))
  go_wp2
  have hl := hl'.out
  have hme := hme'.out
  clear e0 e1 e2 e3 f3 d1 g1
  generalize V0.setCell ⟨p, 3, none⟩ (.int .i64 (st.used - z)) = V at *
  have d5 : ∃ nb5 kb5 pv5, own p = some .disk ∧ own nb5 = some .names ∧ own kb5 = some .kept ∧ V.heap[p]? = some (.cells (diskCells { st with used := st.used - z } nb5 kb5 pv5) 52 (0, 0)) ∧ MapAt own nb5 st.dir V ∧ MapAt own kb5 st.kept V ∧ WaitAt own pv5 st.wait V := d4.out.disk
  obtain ⟨nb5, kb5, pv5, _, _, _, hp5, hm5, _⟩ := d5
  obtain ⟨_, _, k2, _, _⟩ := disk_cells hp5
  obtain ⟨v5, hr5, hv5⟩ := look_run hm5 n (Nat.le_trans hn (by unfold maxLen; omega))
  obtain ⟨q5, rfl⟩ := hv5.pointer
  have hr6 := hr5 V.drew rfl
  clear hp5 hm5 hr5
  go_still_tail 9, (by kernel_rfl)
  change wpList _ _ _ _ _ V.drew
  have d6 := Lib.hid (d4.out.same (w' := V.drew) rfl)
  have g6 : Hid (Grow own own w V.drew) := Lib.hid (g4.out.trans (grow_d own V))
  have C := Lib.hid (change_any d6.out n m (by omega) (by omega) (.pointer q5) (st.dir.look n.data.toList) hv5 ⟨fun e => (by rw [hl] at e; cases e), fun e => absurd e hme⟩ hd hw)
  clear k2 hr6 z0 z1 z2
  generalize V.drew = V2 at *
  go_wp2_with (go_at_call 29; refine C.out.mono ?_; rintro e w' ⟨own', rfl, d7, g7⟩)
  go_end0
  refine ⟨own', rfl, ?_, g6.out.trans g7⟩
  unfold St.renameF
  rw [if_neg he2'.out, ← hz.out]
  exact d7
end Go.Proofs.Ytheealfappjabaa
