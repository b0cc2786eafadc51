/-
  The contract of a change in the directory that is done, and kept as pending. Condition of names: at most 2^48 bytes.
-/
import Derived.Test.YtheealfappjabaaDiskDo
import Derived.Deep.RegionHeld3
import Derived.Deep.RegionLaw
import Derived.Deep.AppendLies
import Derived.StillTailTactics
namespace Go.Proofs.Ytheealfappjabaa
open Go.RowKit Go.Maps Go.WideMaps
/-- A call that turns a disk: what it answers, and the disk behind it. -/
def Did (base : Nat) (own : Own) (p : Nat) (st : St) (r : Value) (w : World) (e : Ending) (w' : World) : Prop := ∃ own', e = .returned r ∧ DiskAt base own' p st w' ∧ Grow own own' w w'
theorem DiskAt.newDir {base p nb : Nat} {own : Own} {st : St} {w w' : World} (h : DiskAt base own p st w) (ho : own nb = some .names) {d : Dir} (hm : MapAt own nb d w') (hb : But nb w w') : DiskAt base own p { st with dir := d } w' := by
  obtain ⟨nb', kb, pv, o1, o2, o3, hp, hn, hq, hw⟩ := h.disk
  obtain rfl : nb' = nb := h.inj _ _ _ o2 ho
  have keep : ∀ k r, own k = some r → r ≠ .names → w'.heap[k]? = w.heap[k]? := fun k r hk hr => hb.block k (h.lt (by simp [hk])) (fun e => by subst e; rw [ho] at hk; cases hk; exact hr rfl)
  refine ⟨fun b hb' => ⟨(h.lo b hb').1, Nat.lt_of_lt_of_le (h.lo b hb').2 hb.size⟩, h.inj, h.few, ⟨nb', kb, pv, o1, o2, o3, (keep p _ o1 (by simp)).trans hp, hm, map_keep hq (.refl _) (keep kb _ o3 (by simp)), wait_keep hw (.refl _) fun g hg => ⟨keep g _ hg (by simp), hg⟩⟩, ?_⟩
  intro b i hbi
  exact file_keep (h.files b i hbi) (keep b _ hbi (by simp)) fun g hg => ⟨keep g _ hg (by simp), hg⟩
theorem row_heap {w w' : World} {e : TypeId} {size n : Nat} {v : Value} {xs : List Value} (h : w.ownsRow 0 e size v n xs) (o : Obj) (hh : w'.heap = w.heap.push o) : w'.ownsRow 0 e size v n xs :=
  row_keep h fun g hg => by
    have := (World.ownsRow.lt h g hg).2
    rw [hh, Array.getElem?_push, if_neg (Nat.ne_of_lt this)]
/-- The disk behind one more pending change: the slice lies in its own row, or in a block that is new. -/
theorem DiskAt.newWait {base p g cap : Nat} {own : Own} {st : St} {w w1 : World} (h : DiskAt base own p st w) (hbase : base ≤ w.heap.size) {nb kb : Nat} {pv v : Value} {xs : List Value} (o1 : own p = some .disk) (o2 : own nb = some .names) (o3 : own kb = some .kept)
    (hp : w.heap[p]? = some (.cells (diskCells st nb kb pv) 52 (0, 0))) (hpo : ∀ g, pv.ownBlock = some g → own g = some .wait) (hr : RowsAre own st.wait xs) (c : Chg) (hv : PtrH own v c.file)
    (hrow : w1.ownsRow 0 72 3 (.slice (some ⟨g, 0, none⟩) (st.wait.length + 1) cap) (st.wait.length + 1) (xs ++ [encStr c.frm, encStr c.to, v])) (hg : w.grownBy w1 pv.ownBlock) (hat : pv.ownBlock = some g ∨ w.heap.size ≤ g) (hlt : g < w1.heap.size) :
    ∃ own', DiskAt base own' p { st with wait := st.wait ++ [c] } (w1.setCell ⟨p, 5, none⟩ (.slice (some ⟨g, 0, none⟩) (st.wait.length + 1) cap)) ∧ Grow own own' w (w1.setCell ⟨p, 5, none⟩ (.slice (some ⟨g, 0, none⟩) (st.wait.length + 1) cap)) := by
  obtain ⟨nb', kb', pv', _, o2', o3', hp', hn, hq, hw⟩ := h.disk
  obtain rfl : nb' = nb := h.inj _ _ _ o2' o2
  obtain rfl : kb' = kb := h.inj _ _ _ o3' o3
  obtain ⟨own', hown'⟩ : ∃ own' : Own, own' = fun k => if k = g then some .wait else if own k = some .wait then none else own k := ⟨_, rfl⟩
  have hgn : own g = none ∨ own g = some .wait := by
    rcases hat with e | e
    · exact .inr (hpo g e)
    · left
      cases e' : own g with
      | none => rfl
      | some r => exact absurd (h.lt (b := g) (by simp [e'])) (by omega)
  have old : ∀ k r, own k = some r → r ≠ .wait → own' k = some r := by
    intro k r hk hr
    have h1 : k ≠ g := fun e => by subst e; rcases hgn with e | e <;> rw [hk] at e <;> cases e; exact hr rfl
    rw [hown']; simp [h1, hk, hr]
  have new : ∀ k r, own' k = some r → (k = g ∧ r = .wait) ∨ (k ≠ g ∧ own k = some r ∧ r ≠ .wait) := by
    intro k r hk
    rw [hown'] at hk
    simp only at hk
    split at hk
    · rename_i e; cases hk; exact .inl ⟨e, rfl⟩
    · rename_i e
      split at hk
      · cases hk
      · rename_i e2; exact .inr ⟨e, hk, fun h3 => e2 (by rw [hk, h3])⟩
  have keep : ∀ k r, own k = some r → r ≠ .wait → k ≠ p → (w1.setCell ⟨p, 5, none⟩ (.slice (some ⟨g, 0, none⟩) (st.wait.length + 1) cap)).heap[k]? = w.heap[k]? := by
    intro k r hk hr hkp
    rw [heap_setCell_other _ _ _ _ hkp]
    refine hg.block k (h.lt (by simp [hk])) (fun e => ?_)
    rw [hpo k e.symm] at hk; cases hk; exact hr rfl
  have gp : g ≠ p := fun e => by subst e; rcases hgn with e | e <;> rw [o1] at e <;> cases e
  have hp1 : w1.heap[p]? = some (.cells (diskCells st nb' kb' pv) 52 (0, 0)) :=
    (hg.block p (h.lt (by simp [o1])) (fun e => by rw [hpo p e.symm] at o1; cases o1)).trans hp
  have hsz : (w1.setCell ⟨p, 5, none⟩ (.slice (some ⟨g, 0, none⟩) (st.wait.length + 1) cap)).heap.size = w1.heap.size := by simp [World.setCell]
  have hmore : More own own' := fun b i hb => old b _ hb (by simp)
  refine ⟨own', ⟨?_, ?_, ?_, ⟨nb', kb', .slice (some ⟨g, 0, none⟩) (st.wait.length + 1) cap, old p _ o1 (by simp), old nb' _ o2 (by simp), old kb' _ o3 (by simp), ?_, ?_, ?_, ?_⟩, ?_⟩, ?_⟩
  · intro b hb
    cases e : own' b with
    | none => exact absurd e hb
    | some r =>
      rcases new b r e with ⟨rfl, _⟩ | ⟨_, e2, _⟩
      · rw [hsz]
        refine ⟨?_, hlt⟩
        rcases hat with e3 | e3
        · exact (h.lo b (by simp [hpo b e3])).1
        · omega
      · rw [hsz]; exact ⟨(h.lo b (by simp [e2])).1, Nat.lt_of_lt_of_le (h.lt (by simp [e2])) hg.size⟩
  · intro a b r ha hb
    rcases new a r ha with ⟨rfl, rfl⟩ | ⟨_, e1, n1⟩
    · rcases new b _ hb with ⟨rfl, _⟩ | ⟨_, _, n2⟩
      · rfl
      · exact absurd rfl n2
    · rcases new b r hb with ⟨rfl, rfl⟩ | ⟨_, e2, _⟩
      · exact absurd rfl n1
      · exact h.inj _ _ _ e1 e2
  · intro b i hb
    rcases new b _ hb with ⟨_, e⟩ | ⟨_, e, _⟩
    · cases e
    · exact h.few b i e
  · rw [heap_setCell_same _ _ _ _ _ _ hp1]; rfl
  · exact map_keep hn hmore (keep nb' _ o2 (by simp) (fun e => by rw [e] at o2; rw [o1] at o2; cases o2))
  · exact map_keep hq hmore (keep kb' _ o3 (by simp) (fun e => by rw [e] at o3; rw [o1] at o3; cases o3))
  · refine ⟨xs ++ [encStr c.frm, encStr c.to, v], ?_, ?_, ?_⟩
    · have : (st.wait ++ [c]).length = st.wait.length + 1 := by simp
      rw [this]
      refine row_keep hrow (fun k hk => ?_)
      obtain rfl : g = k := by simpa [Value.ownBlock] using hk
      exact heap_setCell_other _ _ _ _ gp
    · exact (hr.snoc hv).more hmore
    · intro k hk
      obtain rfl : g = k := by simpa [Value.ownBlock] using hk
      rw [hown']; simp
  · intro b i hb
    rcases new b _ hb with ⟨_, e⟩ | ⟨_, e, _⟩
    · cases e
    · refine file_keep (h.files b i e) (keep b _ e (by simp) (fun e' => by rw [e', o1] at e; cases e)) fun k hk => ⟨keep k _ hk (by simp) (fun e' => by rw [e', o1] at hk; cases hk), old k _ hk (by simp)⟩
  · refine ⟨hg.os, hg.tape, hg.output, by rw [hsz]; exact hg.size, ?_, ?_⟩
    · intro k hk hn'
      rw [heap_setCell_other _ _ _ _ (fun e => by simp only at e; rw [e, o1] at hn'; cases hn')]
      exact hg.block k hk (fun e => by rw [hpo k e.symm] at hn'; cases hn')
    · intro k hk hn'
      rw [hown']
      have : k ≠ g := fun e => by
        subst e
        rcases hat with e3 | e3
        · rw [hpo k e3] at hn'; cases hn'
        · omega
      simp [this, hn']
theorem cell_laid {w : World} {o : Obj} {b k : Nat} {v : Value} (h : b < w.heap.size) (hc : w.cell? ⟨b, k, none⟩ = some v) : (w.alloc o).drew.cell? ⟨b, k, none⟩ = some v := (World.cell?_alloc_lt _ _ _ h).trans hc
theorem cell_grown {w w1 : World} {o : Obj} {b k : Nat} {v : Value} {r : Option Nat} (hg : (w.alloc o).drew.grownBy w1 r) (h : b < w.heap.size) (hne : some b ≠ r) (hc : w.cell? ⟨b, k, none⟩ = some v) : w1.cell? ⟨b, k, none⟩ = some v :=
  (hg.cell_far ⟨b, k, none⟩ (show b < (w.alloc o).heap.size by simp; omega) hne).trans ((World.cell?_alloc_lt _ _ _ h).trans hc)
theorem frozen_grown {w w1 : World} {o : Obj} {b k : Nat} {r : Option Nat} (hg : (w.alloc o).drew.grownBy w1 r) (h : b < w.heap.size) (hne : some b ≠ r) (hc : w.frozen? ⟨b, k, none⟩ = false) : w1.frozen? ⟨b, k, none⟩ = false :=
  (hg.frozen_far ⟨b, k, none⟩ (show b < (w.alloc o).heap.size by simp; omega) hne).trans ((World.frozen?_alloc_old _ _ _ (Nat.ne_of_lt h)).trans hc)
theorem step_append_change {ops : Array Oper} {o : Oper} {a : Act} {w : World} {K : Act → World → Prop} {Q : Exit → Act → World → Prop} {E : Prop} (hgd : o.guard = none) (s x : Operand)
    (ho : o.op = .call { callee := .builtin .append, args := #[s, x], argTypes := #[50, 50] }) (v : Value) (n : Nat) (xs : List Value) (hs : a.eval s = v) (hown : w.ownsRow 0 72 3 v n xs) (hn : n ≤ 1048576)
    (B c : Nat) (x0 x1 x2 : Value) (hx : a.eval x = .slice (some ⟨B, 0, none⟩) 1 c) (hb : w.heap[B]? = some (.cells #[x0, x1, x2] 72 (0, 0))) (h1 : ∀ u ∈ [x0, x1, x2], u.oneCell' = true)
    (h : ∀ g cap w', w'.ownsRow 0 72 3 (.slice (some ⟨g, 0, none⟩) (n + 1) cap) (n + 1) (xs ++ [x0, x1, x2]) → w.grownBy w' v.ownBlock → (v.ownBlock = some g ∨ g = w.heap.size) → g < w'.heap.size → K (a.put o.dst (.slice (some ⟨g, 0, none⟩) (n + 1) cap)) w') :
    if Region.wanted o (yielded ops a.tmps) = true then Oper.wp Try.prog o a w K Q else E := by
  obtain ⟨i0, hi, hz0, hz1, hz2⟩ := info_parts (show (Try.prog.info? 72).map (fun i => (i.zero, i.size, i.bytes)) = some (some (.agg #[.string .empty, .string .empty, .pointer none]), 3, 40) by kernel_rfl)
  exact step_append_lies w hgd s x _ ho 0 72 i0 _ 3 40 Try.underlying50 hi hz0 hz1 hz2 rfl (by decide) v n xs hs hown _ 1 c [x0, x1, x2] hx rfl (World.news_of_block hb) h1 (by decide) (by unfold maxLen; omega) (by omega) (Nat.zero_le _) _ rfl h
theorem grown_laid {w w1 : World} {o : Obj} {r : Option Nat} (hg : (w.alloc o).drew.grownBy w1 r) : w.grownBy w1 r :=
  World.grownBy.trans (World.grownBy_alloc w o r) ⟨hg.os, hg.tape, hg.output, hg.size, hg.block⟩
theorem DiskAt.base {base p : Nat} {own : Own} {st : St} {w : World} (h : DiskAt base own p st w) : base ≤ w.heap.size := by
  obtain ⟨nb, kb, pv, o1, _⟩ := h.disk
  have := h.lo p (by simp [o1]); omega
theorem PtrH.pointer {own : Own} {v : Value} {f : Option Nat} (h : PtrH own v f) : ∃ q, v = .pointer q := by
  cases f
  · exact ⟨none, h⟩
  · obtain ⟨b, rfl, _⟩ := h
    exact ⟨_, rfl⟩
set_option maxRecDepth 100000 in
set_option maxHeartbeats 1000000 in
theorem change_any {base p : Nat} {own : Own} {st : St} {w : World} (h : DiskAt base own p st w) (n m : ByteArray) (hn : n.size ≤ 281474976710656) (hm : m.size ≤ 281474976710656) (v : Value) (f : Option Nat)
    (hv : PtrH own v f) (hc : f = none ↔ m.data.toList = []) (hd : st.dir.length ≤ 1048576) (hw : st.wait.length ≤ 1048576) :
    Calls Try.prog 29 #[at0 p, .string n, .string m, v] w (Did base own p (st.change ⟨n.data.toList, m.data.toList, f⟩) (.tuple #[]) w) := by
  obtain ⟨q, rfl⟩ := hv.pointer
  go_enter Try.func29, Try.ntmps29
  go_wp2_with (first
    | (go_at_call 56; refine (clone_any n hn _).mono ?_; rintro e w1 ⟨rfl, hb1⟩)
    | (go_at_call 56; refine (clone_any m hm _).mono ?_; rintro e w2 ⟨rfl, hb2⟩))
  obtain ⟨W, hW⟩ := named (w2.alloc (.cells #[.string n, .string m, .pointer q] 72))
  rw [← hW.out]
  have hB : Below w.heap.size w W := by rw [hW.out]; exact (below_of hb1 hb2).alloc (Nat.le_trans hb1.size hb2.size) _
  have hBs : w2.heap.size < W.heap.size := by rw [hW.out]; simp
  have b0 : W.cell? ⟨w2.heap.size, 0, none⟩ = some (.string n) := by rw [hW.out, World.cell?_alloc_new]; rfl
  have b1 : W.cell? ⟨w2.heap.size, 1, none⟩ = some (.string m) := by rw [hW.out, World.cell?_alloc_new]; rfl
  have b2 : W.cell? ⟨w2.heap.size, 2, none⟩ = some (.pointer q) := by rw [hW.out, World.cell?_alloc_new]; rfl
  have hown : own w2.heap.size = none := by
    cases e : own w2.heap.size with
    | none => rfl
    | some r => have := h.lt (b := w2.heap.size) (by simp [e]); have := hb1.size; have := hb2.size; omega
  have hsz := Nat.le_trans hb1.size hb2.size
  clear hW hb1 hb2
  generalize w2.heap.size = B at *
  have h1 := h.below hB
  obtain ⟨nb, kb, pv, o1, o2, o3, hp, hn1, hq1, hw1⟩ := h1.disk
  obtain ⟨_, _, c2, _, _, _, _, _⟩ := disk_cells hp
  have hc' := Lib.hid hc
  have hn' := Lib.hid (show (⟨n.data.toList, m.data.toList, f⟩ : Chg).frm.length ≤ maxLen by simpa using Nat.le_trans hn (by unfold maxLen; omega))
  have hm' := Lib.hid (show (⟨n.data.toList, m.data.toList, f⟩ : Chg).to.length ≤ maxLen by simpa using Nat.le_trans hm (by unfold maxLen; omega))
  clear hn hm hc hp hn1 hq1 hw1
  go_still_tail 5, (by kernel_rfl)
  change wpList _ _ _ _ _ W.drew
  have hB' : Below w.heap.size w W.drew := hB.drew
  have hBs' : B < W.drew.heap.size := hBs
  have b0' : W.drew.cell? ⟨B, 0, none⟩ = some (.string n) := b0
  have b1' : W.drew.cell? ⟨B, 1, none⟩ = some (.string m) := b1
  have b2' : W.drew.cell? ⟨B, 2, none⟩ = some (.pointer q) := b2
  have h1' : DiskAt base own p st W.drew := h1.same rfl
  clear hB hBs b0 b1 b2 h1 c2
  generalize W.drew = V at *
  obtain ⟨nb2, kb2, pv2, _, p2, p3, hp, hn1, hq1, hw1⟩ := h1'.disk
  obtain rfl : nb2 = nb := h1'.inj _ _ _ p2 o2
  obtain rfl : kb2 = kb := h1'.inj _ _ _ p3 o3
  have D := Lib.hid (do_any hn1 ⟨n.data.toList, m.data.toList, f⟩ ⟨hc'.out, hn'.out, hm'.out⟩ hd (.pointer q) hv)
  have nB : B ≠ nb2 := fun e => by rw [e, o2] at hown; cases hown
  have hpW := Lib.hid hp
  obtain ⟨xs, hr, hra, hro⟩ := hw1
  obtain ⟨a, l, c, rfl⟩ : ∃ a l c, pv2 = .slice a l c := by
    rcases hr.2 with ⟨rfl, _⟩ | ⟨g, cap, cur, rfl, _⟩
    · exact ⟨_, _, _, rfl⟩
    · exact ⟨_, _, _, rfl⟩
  clear p2 p3 hp
  simp only [enc_of] at D
  go_wp2_with (go_at_call 57; refine D.out.mono ?_; rintro e V2 ⟨rfl, hm2, hb2⟩)
  have h3 := Lib.hid (h1'.newDir o2 hm2 hb2)
  have e0 : V2.cell? ⟨B, 0, none⟩ = some (.string n) := (hb2.cell (p := ⟨B, 0, none⟩) hBs' nB).trans b0'
  have e1 : V2.cell? ⟨B, 1, none⟩ = some (.string m) := (hb2.cell (p := ⟨B, 1, none⟩) hBs' nB).trans b1'
  have e2 : V2.cell? ⟨B, 2, none⟩ = some (.pointer q) := (hb2.cell (p := ⟨B, 2, none⟩) hBs' nB).trans b2'
  have npn : p ≠ nb2 := fun e => by rw [e, o2] at o1; cases o1
  have hp2 := Lib.hid ((hb2.block p (h1'.lt (by simp [o1])) npn).trans hpW.out)
  have hrow2 := Lib.hid (row_keep hr (w' := V2) fun g hg => hb2.block g (h1'.lt (by simp [hro g hg])) (fun e => by rw [e] at hg; rw [hro _ hg] at o2; cases o2))
  have hG := Lib.hid ((Grow.of_below hB' (Nat.le_refl _)).trans (Grow.of_but hb2 (by simp [o2])) : Grow own own w V2)
  have c5 : V2.cell? ⟨p, 5, none⟩ = some (.slice a l c) := cell_of hp2.out rfl
  have f5 : V2.frozen? ⟨p, 5, none⟩ = false := frozen_of_row _ _ _ _ _ hp2.out
  have hB2 : B < V2.heap.size := Nat.lt_of_lt_of_le hBs' hb2.size
  have hpl : p < V2.heap.size := Nat.lt_of_lt_of_le (h1'.lt (by simp [o1])) hb2.size
  have z5 : V2.drew.cell? ⟨p, 5, none⟩ = some (.slice a l c) := c5
  have z0 : V2.drew.cell? ⟨B, 0, none⟩ = some (.string n) := e0
  have z1 : V2.drew.cell? ⟨B, 1, none⟩ = some (.string m) := e1
  have z2 : V2.drew.cell? ⟨B, 2, none⟩ = some (.pointer q) := e2
  have hone := Lib.hid (show ∀ u ∈ [Value.string n, .string m, .pointer q], u.oneCell' = true by simp [Value.oneCell'])
  have hnew := Lib.hid (show (V2.alloc (.cells #[.string n, .string m, .pointer q] 72)).drew.heap[V2.heap.size]? = some (.cells #[.string n, .string m, .pointer q] 72 (0, 0)) from heap_alloc_new V2 _)
  have hrow3 := Lib.hid (show (V2.alloc (.cells #[.string n, .string m, .pointer q] 72)).drew.ownsRow 0 72 3 (.slice a l c) st.wait.length xs from row_heap hrow2.out _ rfl)
  have x5 : (V2.alloc (.cells #[.string n, .string m, .pointer q] 72)).drew.cell? ⟨p, 5, none⟩ = some (.slice a l c) := cell_laid hpl c5
  have x0 : (V2.alloc (.cells #[.string n, .string m, .pointer q] 72)).drew.cell? ⟨B, 0, none⟩ = some (.string n) := cell_laid hB2 e0
  have x1 : (V2.alloc (.cells #[.string n, .string m, .pointer q] 72)).drew.cell? ⟨B, 1, none⟩ = some (.string m) := cell_laid hB2 e1
  have x2 : (V2.alloc (.cells #[.string n, .string m, .pointer q] 72)).drew.cell? ⟨B, 2, none⟩ = some (.pointer q) := cell_laid hB2 e2
  have pne : some p ≠ (Value.slice a l c).ownBlock := fun e => by rw [hro p e.symm] at o1; cases o1
  have bne : some B ≠ (Value.slice a l c).ownBlock := fun e => by rw [hro B e.symm] at hown; cases hown
  clear b0' b1' b2' hBs' hb2 hm2 hB' D hr hpW h1' hn1 hq1 hn' hm' V
  go_region_law (first | (((refine step_append_change ?_ (.tmp 25) (.tmp 27) ?_ (.slice a l c) st.wait.length xs ?_ hrow3.out hw V2.heap.size 1 (.string n) (.string m) (.pointer q) ?_ hnew.out hone.out ?_; all_goals try rfl)); intro g cap w1 hown hgrow hat hlt; (have y5 := cell_grown hgrow hpl pne c5; have y0 := cell_grown hgrow hB2 bne e0; have y1 := cell_grown hgrow hB2 bne e1; have y2 := cell_grown hgrow hB2 bne e2; have yf := frozen_grown hgrow hpl pne f5)))
  all_goals
    go_end0
    obtain ⟨own', d1, d2⟩ := DiskAt.newWait h3.out (Nat.le_trans h.base (Nat.le_trans hsz (Nat.le_of_lt hB2))) o1 o2 o3 hp2.out hro hra ⟨n.data.toList, m.data.toList, f⟩ hv (by rw [enc_of, enc_of]; exact hown) (grown_laid hgrow) (by
      rcases hat with e | e
      · exact .inl e
      · right; rw [e]; show V2.heap.size ≤ (V2.alloc _).heap.size; simp) hlt
    exact ⟨own', rfl, d1, hG.out.trans d2⟩
end Go.Proofs.Ytheealfappjabaa
