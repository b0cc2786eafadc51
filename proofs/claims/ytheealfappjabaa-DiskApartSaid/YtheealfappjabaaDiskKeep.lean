/-
  A file of which the first bytes alone are kept (keep); the directory that is the durable one's clone; what a crash makes of a disk, as mathematics. No condition.
-/
import Derived.Test.YtheealfappjabaaDiskChoose
namespace Go.Proofs.Ytheealfappjabaa
open Go.RowKit Go.Maps Go.WideMaps
def St.crashOne (x : St × List Int) (e : NameS × Nat) : St × List Int :=
  if (fileOf x.1.files e.2).sure < (fileOf x.1.files e.2).data.length then
    ({ x.1.setFile e.2 ⟨(fileOf x.1.files e.2).data.take ((fileOf x.1.files e.2).sure + pick x.2 ((fileOf x.1.files e.2).data.length - (fileOf x.1.files e.2).sure)), (fileOf x.1.files e.2).sure + pick x.2 ((fileOf x.1.files e.2).data.length - (fileOf x.1.files e.2).sure)⟩ with
        used := x.1.used + ((fileOf x.1.files e.2).sure + pick x.2 ((fileOf x.1.files e.2).data.length - (fileOf x.1.files e.2).sure) : Nat) }, x.2.tail)
  else ({ x.1 with used := x.1.used + (fileOf x.1.files e.2).data.length }, x.2)
def St.crashed (st : St) (cs : List Int) : St := { st.settle (pick cs st.wait.length) with dir := keptAt st (pick cs st.wait.length), used := 0 }
def St.crash (st : St) (cs : List Int) : St :=
  { (((keptAt st (pick cs st.wait.length)).foldl St.crashOne (st.crashed cs, cs.tail)).1) with fuse := 0, down := false }
/-- What keep leaves. -/
def Kept (base : Nat) (own : Own) (p fb i : Nat) (st : St) (w : World) (e : Ending) (w' : World) : Prop := ∃ own', e = .returned (.tuple #[]) ∧ DiskAt base own' p st w' ∧ Grow own own' w w' ∧ own' fb = some (.file i)
set_option maxRecDepth 100000 in
set_option maxHeartbeats 1000000 in
theorem keep_any {base p fb i n : Nat} {own : Own} {st : St} {w : World} (h : DiskAt base own p st w) (hfb : own fb = some (.file i)) (hn : n ≤ (fileOf st.files i).data.length) (h0 : 0 < (fileOf st.files i).data.length) :
    Calls Try.prog 43 #[at0 fb, .int .i64 (n : Int)] w (Kept base own p fb i (st.setFile i ⟨(fileOf st.files i).data.take n, n⟩) w) := by
  obtain ⟨v, fblk, frow, fown⟩ := h.files fb i hfb
  rcases frow.2 with ⟨_, hz⟩ | ⟨g, cap, cur, rfl, _, hblk, hle, hcm, hcs, htk⟩
  · omega
  have ngf : g ≠ fb := fun e => by have := fown g rfl; rw [e, hfb] at this; cases this
  have f0 : w.cell? ⟨fb, 0, none⟩ = some (.slice (some ⟨g, 0, none⟩) (fileOf st.files i).data.length cap) := cell_of fblk rfl
  have f1 : w.cell? ⟨fb, 1, none⟩ = some (.int .i64 ((fileOf st.files i).sure : Int)) := cell_of fblk rfl
  have z0 : w.frozen? ⟨fb, 0, none⟩ = false := frozen_of_row _ _ _ _ _ fblk
  have z1 : w.frozen? ⟨fb, 1, none⟩ = false := frozen_of_row _ _ _ _ _ fblk
  have hnc : n ≤ cap := Nat.le_trans hn hle
  have hnc' : (n : Int) ≤ (cap : Int) := by omega
  unfold maxLen at hcm
  have R : Hid (Kept base own p fb i (st.setFile i ⟨(fileOf st.files i).data.take n, n⟩) w (.returned (.tuple #[])) ((w.setCell ⟨fb, 0, none⟩ (.slice (some ⟨g, 0, none⟩) n cap)).setCell ⟨fb, 1, none⟩ (.int .i64 (n : Int)))) := by
    have b1 := heap_setCell_same w fb 0 _ _ (.slice (some ⟨g, 0, none⟩) n cap) fblk
    have b2 := heap_setCell_same _ fb 1 _ _ (.int .i64 (n : Int)) b1
    have hk : ∀ k, k ≠ fb → ((w.setCell ⟨fb, 0, none⟩ (.slice (some ⟨g, 0, none⟩) n cap)).setCell ⟨fb, 1, none⟩ (.int .i64 (n : Int))).heap[k]? = w.heap[k]? := fun k hk => (heap_setCell_other _ _ _ _ hk).trans (heap_setCell_other _ _ _ _ hk)
    have hlen : ((fileOf st.files i).data.take n).length = n := by rw [List.length_take]; omega
    obtain ⟨own', ofb, d, g2⟩ := DiskAt.newData (w2 := (w.setCell ⟨fb, 0, none⟩ (.slice (some ⟨g, 0, none⟩) n cap)).setCell ⟨fb, 1, none⟩ (.int .i64 (n : Int))) (v := .slice (some ⟨g, 0, none⟩) (fileOf st.files i).data.length cap) (v' := .slice (some ⟨g, 0, none⟩) n cap) h hfb ⟨(fileOf st.files i).data.take n, n⟩ fown
      ⟨rfl, rfl, rfl, by simp only [World.setCell, Array.size_modify]; exact Nat.le_refl _⟩ (fun k _ h1 _ => hk k h1) (b2.trans rfl)
      (by
        simp only [hlen]
        refine ⟨by simp only [rowB, List.length_map, hlen]; omega, .inr ⟨g, cap, cur, rfl, Nat.zero_le _, (hk g ngf).trans hblk, hnc, by unfold maxLen; omega, hcs, ?_⟩⟩
        have e1 : (cur.toList.take ((fileOf st.files i).data.length * 1)).take (n * 1) = (rowB (fileOf st.files i).data).take (n * 1) := by rw [htk]
        rw [List.take_take, Nat.min_eq_left (by omega)] at e1
        rw [e1, Nat.mul_one]
        simp only [rowB, List.map_take]) (.inl rfl)
    exact Lib.hid ⟨own', rfl, d, g2, ofb⟩
  clear fblk frow fown hblk hcs htk hn hle h0 h hfb
  go_enter Try.func43, Try.ntmps43
  go_wp2
  go_end0
  exact R.out
/-- The durable directory's clone is the directory. -/
theorem DiskAt.newNames {base p nb : Nat} {own : Own} {st : St} {w w1 : World} (h : DiskAt base own p st w) {d : Dir} (hm : MapAt own nb d w1) (hb : Below w.heap.size w w1) (hn : w.heap.size ≤ nb) (hlt : nb < w1.heap.size) :
    ∃ own', DiskAt base own' p { st with dir := d } (w1.setCell ⟨p, 2, none⟩ (.map (some nb))) ∧ Grow own own' w (w1.setCell ⟨p, 2, none⟩ (.map (some nb))) ∧ (∀ k, k < w.heap.size → own k = none → own' k = none) ∧ own' nb = some .names := by
  obtain ⟨nb0, kb, pv, o1, o2, o3, hp, hn0, hq, hw⟩ := h.disk
  obtain ⟨own', ho⟩ : ∃ own' : Own, own' = fun k => if k = nb then some .names else if own k = some .names then none else own k := ⟨_, rfl⟩
  have hnew := free_new h hn
  have old : ∀ b r, own b = some r → r ≠ .names → own' b = some r := by
    intro b r hb2 hr
    have h1 : b ≠ nb := fun e => by rw [e, hnew] at hb2; cases hb2
    rw [ho]; simp [h1, hb2, hr]
  have new : ∀ b r, own' b = some r → (b = nb ∧ r = .names) ∨ (b ≠ nb ∧ own b = some r ∧ r ≠ .names) := by
    intro b r hb2
    rw [ho] at hb2
    simp only at hb2
    split at hb2
    · rename_i e; cases hb2; exact .inl ⟨e, rfl⟩
    · rename_i e
      split at hb2
      · cases hb2
      · rename_i e2; exact .inr ⟨e, hb2, fun h3 => e2 (by rw [hb2, h3])⟩
  have npn : nb ≠ p := fun e => by rw [e, o1] at hnew; cases hnew
  have keep : ∀ b r, own b = some r → r ≠ .disk → (w1.setCell ⟨p, 2, none⟩ (.map (some nb))).heap[b]? = w.heap[b]? := by
    intro b r hb2 hr
    rw [heap_setCell_other _ _ _ _ (fun e => by simp only at e; rw [e, o1] at hb2; cases hb2; exact hr rfl)]
    exact hb.block b (h.lt (by simp [hb2]))
  have hsz : (w1.setCell ⟨p, 2, none⟩ (.map (some nb))).heap.size = w1.heap.size := by simp [World.setCell]
  have hmore : More own own' := fun b i hb2 => old b _ hb2 (by simp)
  have hp1 : w1.heap[p]? = some (.cells (diskCells st nb0 kb pv) 52 (0, 0)) := (hb.block p (h.lt (by simp [o1]))).trans hp
  have hfree : ∀ k, k < w.heap.size → own k = none → own' k = none := by
    intro k hk hn'
    rw [ho]
    have : k ≠ nb := by omega
    simp [this, hn']
  refine ⟨own', ⟨?_, ?_, ?_, ⟨nb, kb, pv, old _ _ o1 (by simp), by rw [ho]; simp, old _ _ o3 (by simp), (heap_setCell_same _ _ _ _ _ _ hp1).trans rfl, ?_, ?_, ?_⟩, ?_⟩, ⟨hb.os, hb.tape, hb.output, by rw [hsz]; exact hb.size, ?_, hfree⟩, hfree, by rw [ho]; simp⟩
  · intro b hb2
    rw [hsz]
    cases e : own' b with
    | none => exact absurd e hb2
    | some r =>
      rcases new b r e with ⟨rfl, _⟩ | ⟨_, e2, _⟩
      · have := h.base; exact ⟨by omega, hlt⟩
      · exact ⟨(h.lo b (by simp [e2])).1, Nat.lt_of_lt_of_le (h.lt (by simp [e2])) hb.size⟩
  · intro a b r ha hb2
    rcases new a r ha with ⟨rfl, rfl⟩ | ⟨_, e1, n1⟩
    · rcases new b _ hb2 with ⟨rfl, _⟩ | ⟨_, _, n2⟩
      · rfl
      · exact absurd rfl n2
    · rcases new b r hb2 with ⟨rfl, rfl⟩ | ⟨_, e2, _⟩
      · exact absurd rfl n1
      · exact h.inj _ _ _ e1 e2
  · intro b i hb2
    rcases new b _ hb2 with ⟨_, e⟩ | ⟨_, e, _⟩
    · cases e
    · exact h.few b i e
  · exact map_keep hm hmore (heap_setCell_other _ _ _ _ npn)
  · exact map_keep hq hmore (keep kb _ o3 (by simp))
  · exact wait_keep hw hmore fun g hg => ⟨keep g _ hg (by simp), old g _ hg (by simp)⟩
  · intro b i hb2
    rcases new b _ hb2 with ⟨_, e⟩ | ⟨_, e, _⟩
    · cases e
    · exact file_keep (h.files b i e) (keep b _ e (by simp)) fun g hg => ⟨keep g _ hg (by simp), old g _ hg (by simp)⟩
  · intro k hk hn'
    rw [heap_setCell_other _ _ _ _ (fun e => by simp only at e; rw [e, o1] at hn'; cases hn')]
    exact hb.block k hk
/-- A disk and one block more: for what is left while that block turns, too. -/
def plus (own : Own) (B : Nat) : Own := fun k => if k = B then some .disk else own k
theorem plus_none {own : Own} {B k : Nat} (h : plus own B k = none) : k ≠ B ∧ own k = none := by
  unfold plus at h
  split at h
  · cases h
  · exact ⟨‹_›, h⟩
theorem plus_mk {own : Own} {B k : Nat} (h1 : k ≠ B) (h : own k = none) : plus own B k = none := by simp [plus, h1, h]
theorem Grow.plus {o1 o2 : Own} {w w' : World} (h : Grow o1 o2 w w') (B : Nat) : Grow (plus o1 B) (plus o2 B) w w' :=
  ⟨h.os, h.tape, h.output, h.size, fun k hk hn => h.block k hk (plus_none hn).2, fun k hk hn => plus_mk (plus_none hn).1 (h.free k hk (plus_none hn).2)⟩
theorem Grow.plus_but {own : Own} {w w' : World} {B : Nat} (h : But B w w') : Grow (Go.Proofs.Ytheealfappjabaa.plus own B) (Go.Proofs.Ytheealfappjabaa.plus own B) w w' := Grow.of_but h (by simp [Go.Proofs.Ytheealfappjabaa.plus])
theorem Grow.minus {o1 o2 : Own} {w w0 w' : World} {B : Nat} (hb : Below w.heap.size w w0) (hB : w.heap.size ≤ B) (h : Grow (Go.Proofs.Ytheealfappjabaa.plus o1 B) (Go.Proofs.Ytheealfappjabaa.plus o2 B) w0 w') : Grow o1 o2 w w' :=
  ⟨h.os.trans hb.os, h.tape.trans hb.tape, h.output.trans hb.output, Nat.le_trans hb.size h.size,
   fun k hk hn => (h.block k (Nat.lt_of_lt_of_le hk hb.size) (plus_mk (by omega) hn)).trans (hb.block k hk),
   fun k hk hn => (plus_none (h.free k (Nat.lt_of_lt_of_le hk hb.size) (plus_mk (by omega) hn))).2⟩
end Go.Proofs.Ytheealfappjabaa
