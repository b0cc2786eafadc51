/-
  The closures' contracts: Sync's, Remove's, Rename's, SyncDir's; what makes the directory durable. Condition of names: at most 2^47 bytes.
-/
import Derived.Test.YtheealfappjabaaDiskActs2
namespace Go.Proofs.Ytheealfappjabaa
open Go.RowKit Go.Maps Go.WideMaps
attribute [local go_sem] eq_file ne_file ne_disk ne_map
theorem grow_d (own : Own) (w : World) : Grow own own w w.drew := ⟨rfl, rfl, rfl, Nat.le_refl _, fun _ _ _ => rfl, fun _ _ h => h⟩
/-- How many bytes what a look-up gave has. -/
theorem size_look {base p : Nat} {own : Own} {st : St} {w : World} (h : DiskAt base own p st w) {v : Value} {f : Option Nat} (hv : PtrH own v f) : Calls Try.prog 42 #[v] w fun e w' => e = .returned (.int .i64 (st.sizeAt f)) ∧ w' = w := by
  cases f with
  | none => obtain rfl : v = .pointer none := hv; exact (size_nil w).mono fun _ _ ⟨a, b⟩ => ⟨a, b.symm⟩
  | some i => obtain ⟨b, rfl, hb⟩ := hv; exact (size_file (h.files b i hb)).mono fun _ _ ⟨a, b⟩ => ⟨a, b.symm⟩
set_option maxRecDepth 100000 in
set_option maxHeartbeats 1000000 in
theorem sync_do {base p bd bn i : Nat} {own : Own} {st : St} {w : World} (h : DiskAt base own p st w) (n : ByteArray) (hn : n.size ≤ maxLen) (hl : st.dir.look n.data.toList = some i)
    (hd0 : w.cell? ⟨bd, 0, none⟩ = some (at0 p)) (hn0 : w.cell? ⟨bn, 0, none⟩ = some (.string n)) :
    Calls Try.prog 34 #[at0 bd, at0 bn] w (Did base own p (st.syncF n.data.toList) (.tuple #[]) w) := by
  obtain ⟨nb, kb, pv, _, o2, _, hp, hm, _⟩ := h.disk
  obtain ⟨_, _, c2, _, _⟩ := disk_cells hp
  obtain ⟨v, hr, hr0, hv⟩ := look_drew hm n hn
  rw [hl] at hv
  obtain ⟨fb, rfl, hfb⟩ := hv
  obtain ⟨fp, fl, fc, f0, hfl, f1, frow, fown, fblk⟩ := file_cells (h.files fb i hfb)
  have hl' := Lib.hid hl
  have hfl' := Lib.hid hfl
  have frow' := Lib.hid frow
  have fblk' := Lib.hid fblk
  have fz := frozen_of_row w fb 1 _ _ fblk
  clear hp hm hn hl hfl frow fblk
  go_enter Try.func34, Try.ntmps34
  go_wp2
  go_quiet (fail)
  go_wp2
  go_end0
  have hlt := World.block_lt_of_cell? _ _ f0
  obtain ⟨own', _, d2, g2⟩ := DiskAt.newData (w2 := (w.drewN nq).setCell ⟨fb, 1, none⟩ (.int .i64 (fl : Int))) (v := .slice fp fl fc) (v' := .slice fp fl fc) (h.same (w' := w.drewN nq) rfl) hfb ⟨(fileOf st.files i).data, (fileOf st.files i).data.length⟩ fown
    ⟨rfl, rfl, rfl, by simp only [World.setCell, Array.size_modify]; exact Nat.le_refl _⟩
    (fun k _ h1 _ => heap_setCell_other _ _ _ _ h1)
    ((heap_setCell_same (w.drewN nq) fb 1 _ _ (.int .i64 (fl : Int)) fblk'.out).trans (by simp only [← hfl'.out]; rfl))
    (by
      simp only [← hfl'.out]
      refine row_keep (w := w.drewN nq) frow'.out (fun g hg => heap_setCell_other _ _ _ _ (fun e => ?_))
      have e' : g = fb := e
      have := fown g hg; rw [e', hfb] at this; cases this) (.inl rfl)
  refine ⟨own', rfl, ?_, (grow_drew own w nq).trans g2⟩
  unfold St.syncF
  rw [hl'.out]
  exact d2
set_option maxRecDepth 100000 in
set_option maxHeartbeats 1000000 in
theorem remove_do {base p bd bn : Nat} {own : Own} {st : St} {w : World} (h : DiskAt base own p st w) (n : ByteArray) (hn : n.size ≤ 140737488355328) (hu0 : -2199023255552 ≤ st.used - st.sizeAt (st.dir.look n.data.toList)) (hu1 : st.used - st.sizeAt (st.dir.look n.data.toList) ≤ 2199023255552)
    (hd : st.dir.length ≤ 1048576) (hw : st.wait.length ≤ 1048576)
    (hd0 : w.cell? ⟨bd, 0, none⟩ = some (at0 p)) (hn0 : w.cell? ⟨bn, 0, none⟩ = some (.string n)) (hod : own bd = none) (hon : own bn = none) :
    Calls Try.prog 55 #[at0 bd, at0 bn] w (Did base own p (st.removeF n.data.toList) (.tuple #[]) w) := by
  obtain ⟨nb, kb, pv, o1, o2, _, hp, hm, _⟩ := h.disk
  obtain ⟨_, _, c2, c3, _⟩ := disk_cells hp
  obtain ⟨v, hr1, hv⟩ := look_run hm n (Nat.le_trans hn (by unfold maxLen; omega))
  have hr0 := hr1 w.drew rfl
  have S := size_look (h.same (w' := w.drew) rfl) hv
  obtain ⟨z, hz⟩ := named (st.sizeAt (st.dir.look n.data.toList))
  rw [← hz.out] at S hu0 hu1
  have hs1 := IntWalk.i64_in (st.used - z) ⟨by omega, by omega⟩
  obtain ⟨vq, rfl⟩ := hv.pointer
  clear hm hv hr1
  go_enter Try.func55, Try.ntmps55
  go_wp2
  go_still_tail 12, (by kernel_rfl)
  still_call S
  repeat still_step
  refine wpStill_nil ?_
  change wpList _ _ _ _ _ w.drew
  have d1 := Lib.hid (h.same (w' := w.drew) rfl)
  have g1 := Lib.hid (grow_d own w)
  have e0 : w.drew.cell? ⟨bd, 0, none⟩ = some (at0 p) := hd0
  have e1 : w.drew.cell? ⟨bn, 0, none⟩ = some (.string n) := hn0
  have e3 : w.drew.cell? ⟨p, 3, none⟩ = some (.int .i64 st.used) := c3
  have f3 : w.drew.frozen? ⟨p, 3, none⟩ = false := d1.out.frozen 3
  clear hd0 hn0 c2 c3 hr0 S hp
  generalize w.drew = V at *
  have nbd : bd ≠ p := fun e => by rw [e, o1] at hod; cases hod
  have nbn : bn ≠ p := fun e => by rw [e, o1] at hon; cases hon
  have y0 : (V.setCell ⟨p, 3, none⟩ (.int .i64 (st.used - z))).cell? ⟨bd, 0, none⟩ = some (at0 p) := (World.cell?_setCell_other _ _ _ _ (by simp)).trans e0
  have y1 : (V.setCell ⟨p, 3, none⟩ (.int .i64 (st.used - z))).cell? ⟨bn, 0, none⟩ = some (.string n) := (World.cell?_setCell_other _ _ _ _ (by simp)).trans e1
  have d2 : Hid (DiskAt base own p { st with used := st.used - z } (V.setCell ⟨p, 3, none⟩ (.int .i64 (st.used - z)))) := Lib.hid (d1.out.put 3 _ rfl rfl rfl rfl (fun _ _ _ => rfl))
  have g2 : Hid (Grow own own w (V.setCell ⟨p, 3, none⟩ (.int .i64 (st.used - z)))) := Lib.hid (g1.out.trans (d1.out.grow_put 3 _))
  have C := Lib.hid (change_any d2.out n .empty (by omega) (by decide) (.pointer none) none rfl ⟨fun _ => rfl, fun _ => rfl⟩ hd hw)
  go_wp2_with (go_at_call 29; refine C.out.mono ?_; rintro e w' ⟨own', rfl, d3, g3⟩)
  go_end0
  refine ⟨own', rfl, ?_, g2.out.trans g3⟩
  rw [hz.out] at d3
  exact d3
theorem DiskAt.newKept {base p kb : Nat} {own : Own} {st : St} {w w' : World} (h : DiskAt base own p st w) (ho : own kb = some .kept) {d : Dir} (hm : MapAt own kb d w') (hb : But kb w w') : DiskAt base own p { st with kept := d } w' := by
  obtain ⟨nb, kb', pv, o1, o2, o3, hp, hn, hq, hw⟩ := h.disk
  obtain rfl : kb' = kb := h.inj _ _ _ o3 ho
  have keep : ∀ k r, own k = some r → r ≠ .kept → w'.heap[k]? = w.heap[k]? := fun k r hk hr => hb.block k (h.lt (by simp [hk])) (fun e => by subst e; rw [ho] at hk; cases hk; exact hr rfl)
  refine ⟨fun b hb' => ⟨(h.lo b hb').1, Nat.lt_of_lt_of_le (h.lo b hb').2 hb.size⟩, h.inj, h.few, ⟨nb, kb', pv, o1, o2, o3, (keep p _ o1 (by simp)).trans hp, map_keep hn (.refl _) (keep nb _ o2 (by simp)), hm, wait_keep hw (.refl _) fun g hg => ⟨keep g _ hg (by simp), hg⟩⟩, ?_⟩
  intro b i hbi
  exact file_keep (h.files b i hbi) (keep b _ hbi (by simp)) fun g hg => ⟨keep g _ hg (by simp), hg⟩
theorem DiskAt.noWait {base p : Nat} {own : Own} {st : St} {w : World} (h : DiskAt base own p st w) : DiskAt base own p { st with wait := [] } (w.setCell ⟨p, 5, none⟩ (.slice none 0 0)) := by
  obtain ⟨nb, kb, pv, o1, o2, o3, hp, hn, hq, hwt⟩ := h.disk
  have keep : ∀ b r, own b = some r → r ≠ .disk → (w.setCell ⟨p, 5, none⟩ (.slice none 0 0)).heap[b]? = w.heap[b]? := fun b r hb hr => heap_setCell_other _ _ _ _ (fun e => by simp only at e; rw [e, o1] at hb; cases hb; exact hr rfl)
  refine ⟨fun b hb => ⟨(h.lo b hb).1, by simpa [World.setCell] using (h.lo b hb).2⟩, h.inj, h.few, ⟨nb, kb, .slice none 0 0, o1, o2, o3, (heap_setCell_same _ _ _ _ _ _ hp).trans rfl, map_keep hn (.refl _) (keep nb _ o2 (by simp)), map_keep hq (.refl _) (keep kb _ o3 (by simp)), ⟨[], World.ownsRow_nil _ _ _ _, rfl, fun g hg => by cases hg⟩⟩, ?_⟩
  intro b i hb
  exact file_keep (h.files b i hb) (keep b _ hb (by simp)) fun g hg => ⟨keep g _ hg (by simp), hg⟩
/-- The directory's durable state behind the first j pending changes. -/
def keptAt (st : St) (j : Nat) : Dir := (st.wait.take j).foldl Dir.doC st.kept
theorem keptAt_succ (st : St) {j : Nat} {c : Chg} (h : st.wait[j]? = some c) : keptAt st (j + 1) = (keptAt st j).doC c := by
  unfold keptAt
  rw [List.take_add_one, h]
  simp
theorem length_foldl : ∀ (l : List Chg) (d : Dir), (l.foldl Dir.doC d).length ≤ d.length + l.length
  | [], d => Nat.le_refl _
  | c :: r, d => by
    have h1 := length_foldl r (d.doC c)
    have h2 := length_doC d c
    simp only [List.foldl_cons, List.length_cons]; omega
theorem length_keptAt (st : St) (j : Nat) : (keptAt st j).length ≤ st.kept.length + st.wait.length := by
  have := length_foldl (st.wait.take j) st.kept
  have h2 : (st.wait.take j).length ≤ st.wait.length := by simp; omega
  unfold keptAt; omega
theorem addr_add (g m : Nat) : (⟨g, 0, none⟩ : Addr).add m = ⟨g, m, none⟩ := by unfold Addr.add; split <;> simp_all
/-- The walk of settle, with the loop's state. -/
def Settled (own : Own) (kb : Nat) (d : Dir) (w wr : World) : Prop := MapAt own kb d wr ∧ But kb w wr
set_option maxRecDepth 100000 in
set_option maxHeartbeats 1000000 in
theorem settle_any {base p k : Nat} {own : Own} {st : St} {w : World} (h : DiskAt base own p st w) (hk : k ≤ st.wait.length) (hc : ∀ c ∈ st.wait, Sound c) (hd : st.kept.length + st.wait.length ≤ 1048576) :
    Calls Try.prog 37 #[at0 p, .int .i64 (k : Int)] w (Did base own p (st.settle k) (.tuple #[]) w) := by
  obtain ⟨nb, kb, pv, o1, o2, o3, hp, hm, hq, xs, hrow, hra, hro⟩ := h.disk
  obtain ⟨_, _, _, _, c4, c5, _, _⟩ := disk_cells hp
  have f5 := h.frozen 5
  have npk : p ≠ kb := fun e => by rw [e, o3] at o1; cases o1
  have npn := Lib.hid npk
  rcases hrow.2 with ⟨rfl, hz⟩ | ⟨g, cap, cur, rfl, _, hblk, hle, hcm, _, _⟩
  · have hw0 : st.wait = [] := List.length_eq_zero_iff.1 hz
    obtain rfl : k = 0 := by rw [hw0] at hk; simpa using hk
    have H := Lib.hid h
    have hset : Hid (st.settle 0 = { st with wait := [] }) := Lib.hid (by unfold St.settle; simp)
    clear hp hm hq hrow hra hro hz hk hc hd hw0 npk
    go_enter Try.func37, Try.ntmps37
    go_wp2
    go_loop [13] (fun i => i = .int .i64 0) (fun _ => 0)
    case atStart => rfl
    case round =>
      subst hrel
      go_wp2
      go_end0
      refine ⟨own, rfl, ?_, H.out.grow_put 5 _⟩
      rw [hset.out]
      exact H.out.noWait
  · have hkc : k ≤ cap := Nat.le_trans hk hle
    have hlen : (st.wait.length : Int) ≤ 1048576 := by omega
    have hrow' := Lib.hid hrow
    have hcm' : cap ≤ 9223372036854775807 := by unfold maxLen at hcm; omega
    have ngk : g ≠ kb := fun e => by have := hro g rfl; rw [e, o3] at this; cases this
    have hgl := (World.ownsRow.lt hrow g rfl).2
    have H := Lib.hid h
    have hq' := Lib.hid hq
    clear hp hm hq hrow hcm npk hblk
    go_enter Try.func37, Try.ntmps37
    go_wp2
    go_loopw [13] (fun i wr => ∃ j : Nat, j ≤ k ∧ i = .int .i64 (j : Int) ∧ Settled own kb (keptAt st j) w wr) (fun i _ => k - (intOf i).toNat)
    case atStart => exact ⟨0, Nat.zero_le _, rfl, hq'.out, But.refl _ _⟩
    case round =>
      obtain ⟨j, hj, rfl, hset⟩ := hrel
      have hm := Lib.hid hset.1
      have hb := Lib.hid hset.2
      clear hset
      have e4 : wr.cell? ⟨p, 4, none⟩ = some (.map (some kb)) := (hb.out.cell (p := ⟨p, 4, none⟩) (World.block_lt_of_cell? _ _ c4) npn.out).trans c4
      have e5 : wr.frozen? ⟨p, 5, none⟩ = false := (hb.out.frozen (p := ⟨p, 5, none⟩) (World.block_lt_of_cell? _ _ c5) npn.out).trans f5
      have e5c : ∃ l1 l2 l3, wr.cell? ⟨p, 5, none⟩ = some (.slice l1 l2 l3) := ⟨_, _, _, (hb.out.cell (p := ⟨p, 5, none⟩) (World.block_lt_of_cell? _ _ c5) npn.out).trans c5⟩
      obtain ⟨l1, l2, l3, e5c⟩ := e5c
      by_cases hlt : j < k
      · have hjw : j < st.wait.length := by omega
        obtain ⟨c, hcj⟩ : ∃ c, st.wait[j]? = some c := ⟨_, List.getElem?_eq_getElem hjw⟩
        obtain ⟨v, x0, x1, x2, hv⟩ := hra.at hcj
        obtain ⟨q, rfl⟩ := hv.pointer
        have cel : ∀ (m : Nat) u, xs[m]? = some u → wr.cell? ⟨g, m, none⟩ = some u := by
          intro m u hu
          have := hrow'.out.cells (g := g) rfl m u hu
          rw [addr_add] at this
          exact (hb.out.cell (p := ⟨g, m, none⟩) hgl ngk).trans this
        have y0 : wr.cell? ⟨g, j * 3, none⟩ = some (.string ⟨c.frm.toArray⟩) := by rw [Nat.mul_comm]; exact cel _ _ x0
        have y1 : wr.cell? ⟨g, j * 3 + 1, none⟩ = some (.string ⟨c.to.toArray⟩) := by rw [Nat.mul_comm]; exact cel _ _ x1
        have y2 : wr.cell? ⟨g, j * 3 + 2, none⟩ = some (.pointer q) := by rw [Nat.mul_comm]; exact cel _ _ x2
        have hs := Lib.hid (hc c (List.mem_of_getElem? hcj))
        have hst := Lib.hid (keptAt_succ st hcj)
        have hlk := Lib.hid (Nat.le_trans (length_keptAt st j) hd)
        have hkl := (World.ownsMap.lt hm.out)
        have hpl2 := World.block_lt_of_cell? _ _ e4
        clear x0 x1 x2 cel hcj
        go_wp2
        have F4 : (wr.alloc (.cells #[.string ⟨c.frm.toArray⟩, .string ⟨c.to.toArray⟩, .pointer q] 72)).cell? ⟨p, 4, none⟩ = some (.map (some kb)) := (World.cell?_alloc_lt _ _ _ hpl2).trans e4
        have B0 : (wr.alloc (.cells #[.string ⟨c.frm.toArray⟩, .string ⟨c.to.toArray⟩, .pointer q] 72)).cell? ⟨wr.heap.size, 0, none⟩ = some (.string ⟨c.frm.toArray⟩) := by rw [World.cell?_alloc_new]; rfl
        have B1 : (wr.alloc (.cells #[.string ⟨c.frm.toArray⟩, .string ⟨c.to.toArray⟩, .pointer q] 72)).cell? ⟨wr.heap.size, 1, none⟩ = some (.string ⟨c.to.toArray⟩) := by rw [World.cell?_alloc_new]; rfl
        have B2 : (wr.alloc (.cells #[.string ⟨c.frm.toArray⟩, .string ⟨c.to.toArray⟩, .pointer q] 72)).cell? ⟨wr.heap.size, 2, none⟩ = some (.pointer q) := by rw [World.cell?_alloc_new]; rfl
        have hm2 := Lib.hid (But.map hm.out (below_alloc wr (.cells #[.string ⟨c.frm.toArray⟩, .string ⟨c.to.toArray⟩, .pointer q] 72)))
        have hb2 := Lib.hid (hb.out.alloc (.cells #[.string ⟨c.frm.toArray⟩, .string ⟨c.to.toArray⟩, .pointer q] 72))
        clear y0 y1 y2 e4 e5 e5c hm hb
        generalize wr.alloc (.cells #[.string ⟨c.frm.toArray⟩, .string ⟨c.to.toArray⟩, .pointer q] 72) = W at *
        generalize wr.heap.size = B at *
        go_still_tail 5, (by kernel_rfl)
        change wpList _ _ _ _ _ W.drew
        have D := Lib.hid (do_any (map_keep hm2.out (.refl _) rfl : MapAt own kb (keptAt st j) W.drew) c hs.out hlk.out (.pointer q) hv)
        have hb3 : Hid (But kb w W.drew) := Lib.hid hb2.out.drew
        clear F4 B0 B1 B2 hm2 hb2
        generalize W.drew = V at *
        go_wp2_with (go_at_call 57; refine D.out.mono ?_; rintro e V2 ⟨rfl, hm3, hb4⟩)
        go_roundw
        case rel => exact ⟨j + 1, by omega, by go_num, by rw [hst.out]; exact hm3, hb3.out.trans hb4⟩
        case measure => simp [intOf]; omega
      · obtain rfl : j = k := by omega
        have hkd := Lib.hid (H.out.newKept o3 hm.out hb.out)
        go_wp2
        go_end0
        refine ⟨own, rfl, hkd.out.noWait, (Grow.of_but hb.out (by simp [o3])).trans (hkd.out.grow_put 5 _)⟩
end Go.Proofs.Ytheealfappjabaa
