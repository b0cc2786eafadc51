/-
  What stays of a file that was synced, and whose name was made sure behind that: mathematics alone. No condition.
-/
import Derived.Test.YtheealfappjabaaOpsArg
namespace Go.Proofs.Ytheealfappjabaa
open Go.RowKit Go.Maps
theorem look_doC_other {d : Dir} {c : Chg} {n : NameS} (h1 : c.frm ≠ n) (h2 : c.to ≠ n) : (d.doC c).look n = d.look n := by
  unfold Dir.doC
  have e1 : (d.del c.frm).look n = d.look n := by rw [look_del, if_neg (fun e => h1 e.symm)]
  split
  · split
    · exact e1
    · rw [look_put, if_neg (fun e => h2 e.symm), e1]
  · exact e1
/-- The name has file i in each directory that a crash may lead to; of the file at least D bytes are sure, and it is W. -/
structure Sure (n : NameS) (i D : Nat) (W : List UInt8) (st : St) : Prop where
  all : ∀ j, j ≤ st.wait.length → (keptAt st j).look n = some i
  file : (fileOf st.files i).data = W
  sure : D ≤ (fileOf st.files i).sure
theorem Sure.change {n : NameS} {i D : Nat} {W : List UInt8} {st : St} (h : Sure n i D W st) (c : Chg) (h1 : c.frm ≠ n) (h2 : c.to ≠ n) {st' : St} (e1 : st'.kept = st.kept) (e2 : st'.wait = st.wait ++ [c]) (e3 : fileOf st'.files i = fileOf st.files i) : Sure n i D W st' := by
  refine ⟨fun j hj => ?_, by rw [e3]; exact h.file, by rw [e3]; exact h.sure⟩
  have hj' : j ≤ st.wait.length + 1 := by rw [e2] at hj; simpa using hj
  unfold keptAt
  rw [e1, e2]
  by_cases e : j = st.wait.length + 1
  · subst e
    rw [List.take_of_length_le (by simp), List.foldl_append]
    show ((st.wait.foldl Dir.doC st.kept).doC c).look n = some i
    rw [look_doC_other h1 h2]
    have := h.all st.wait.length (Nat.le_refl _)
    unfold keptAt at this
    rwa [List.take_of_length_le (Nat.le_refl _)] at this
  · rw [keptAt_old _ _ _ (by omega)]
    exact h.all j (by omega)
theorem Sure.same {n : NameS} {i D : Nat} {W : List UInt8} {st st' : St} (h : Sure n i D W st) (e1 : st'.kept = st.kept) (e2 : st'.wait = st.wait) (e3 : fileOf st'.files i = fileOf st.files i) : Sure n i D W st' :=
  ⟨fun j hj => by unfold keptAt; rw [e1, e2]; exact h.all j (by rwa [e2] at hj), by rw [e3]; exact h.file, by rw [e3]; exact h.sure⟩
theorem Sure.step {n : NameS} {i D : Nat} {W : List UInt8} {st : St} (h : Sure n i D W st) (c : Int) (f : St → St) (hf : c = 0 → Sure n i D W (f st.fused)) : Sure n i D W (st.stepS c f) := by
  unfold St.stepS
  split
  · exact h
  · split
    · exact h
    · rename_i hc
      split
      · exact h.same rfl rfl rfl
      · exact (hf (by simpa using hc)).same rfl rfl rfl
theorem Sure.fused {n : NameS} {i D : Nat} {W : List UInt8} {st : St} (h : Sure n i D W st) : Sure n i D W st.fused := h.same rfl rfl rfl
theorem Sure.look {n : NameS} {i D : Nat} {W : List UInt8} {st : St} (h : Sure n i D W st) (hwf : WF 0 st) : st.dir.look n = some i := by rw [hwf.dir]; exact h.all _ (Nat.le_refl _)
theorem Sure.does {i D : Nat} {W : List UInt8} {st : St} (x : OpV) (name : NameS) (h : Sure name i D W st) (hwf : WF 0 st) (hne : name ≠ []) : Sure name i D W (doesS st x name) := by
  unfold doesS
  split
  · exact h
  · rename_i hsk
    have hnm : x.nm.data.toList ≠ name := fun e => hsk (.inl e)
    have hf := hwf.fused
    have hl := h.fused.look hf
    have hg := hf.gdir
    have hi : i < st.files.length := (hg.ok _ (look_some hl)).1
    -- another name has another file
    have other : ∀ {m : NameS} {i' : Nat}, m ≠ name → st.fused.dir.look m = some i' → i' ≠ i := fun {m i'} hm hl' e => hm (id_inj hg.ids (by rw [← e]; exact look_some hl') (look_some hl))
    split
    · -- Create
      refine h.step _ _ fun _ => h.fused.change ⟨[], x.nm.data.toList, some st.fused.files.length⟩ (fun e => hne e.symm) hnm rfl rfl ?_
      show fileOf (st.files ++ [⟨[], 0⟩]) i = fileOf st.files i
      simp [fileOf, List.getElem?_append, hi]
    · split
      · -- Append
        refine h.step _ _ fun hc => ?_
        obtain ⟨i', hl'⟩ := look_of_append hc
        have hl'' : st.fused.dir.look x.nm.data.toList = some i' := hl'
        unfold St.appendF
        rw [hl'']
        refine h.fused.same rfl rfl ?_
        show fileOf (st.fused.files.set i' _) i = _
        rw [fileOf_set, if_neg (fun e => other hnm hl'' e.1)]
      · split
        · -- Sync
          refine h.step _ _ fun hc => ?_
          obtain ⟨i', hl'⟩ := look_of_has hc
          have hl'' : st.fused.dir.look x.nm.data.toList = some i' := hl'
          unfold St.syncF
          rw [hl'']
          refine h.fused.same rfl rfl ?_
          show fileOf (st.fused.files.set i' _) i = _
          rw [fileOf_set, if_neg (fun e => other hnm hl'' e.1)]
        · split
          · -- SyncDir
            refine h.step _ _ fun _ => ⟨fun j hj => ?_, h.file, h.sure⟩
            have hj0 : j = 0 := by simpa [St.syncDirF, St.settle] using hj
            subst hj0
            exact h.fused.all _ (Nat.le_refl _)
          · split
            · -- Rename
              rename_i h5
              have hdt : x.dt.data.toList ≠ name := fun e => hsk (.inr ⟨h5, e⟩)
              exact h.step _ _ fun _ => h.fused.change ⟨x.nm.data.toList, x.dt.data.toList, st.fused.dir.look x.nm.data.toList⟩ hnm hdt rfl rfl rfl
            · split
              · -- Remove
                exact h.step _ _ fun _ => h.fused.change ⟨x.nm.data.toList, [], none⟩ hnm (fun e => hne e.symm) rfl rfl rfl
              · split
                · unfold St.fuseS
                  split
                  · exact h
                  · exact h.same rfl rfl rfl
                · exact h
/-- Behind the crash: the name has a beginning of the file that is no shorter than what was sure. -/
theorem Sure.crash {n : NameS} {i D : Nat} {W : List UInt8} {st : St} (h : Sure n i D W st) (hwf : WF 0 st) (cs : List Int) :
    (st.crash cs).readE n = 0 ∧ ∃ L, D ≤ L ∧ L ≤ W.length ∧ (st.crash cs).readS n = W.take L := by
  have hk := pick_le cs st.wait.length
  have hl := h.all _ hk
  have g := hwf.good _ hk
  obtain ⟨_, c2, _⟩ := crash_fold (keptAt st (pick cs st.wait.length)) (st.crashed cs, cs.tail) hwf.fit
  have hdir : (st.crash cs).dir.look n = some i := by
    show (((keptAt st (pick cs st.wait.length)).foldl St.crashOne (st.crashed cs, cs.tail)).1).dir.look n = some i
    rw [c2]; exact hl
  have hfile : ∀ (l : Dir) (x : St × List Int), FilesFit x.1.files → ∀ L0, D ≤ (fileOf x.1.files i).sure → (fileOf x.1.files i).data = W.take L0 → L0 ≤ W.length → ∃ L, D ≤ (fileOf (l.foldl St.crashOne x).1.files i).sure ∧ L ≤ W.length ∧ (fileOf (l.foldl St.crashOne x).1.files i).data = W.take L := by
    intro l
    induction l with
    | nil => intro x _ L0 h1 h2 h3; exact ⟨L0, h1, h3, h2⟩
    | cons e r ih =>
      intro x hf L0 h1 h2 h3
      have hfe := hf i
      have hlen : (fileOf x.1.files i).data.length = L0 := by rw [h2, List.length_take]; omega
      by_cases he : i = e.2
      · have hp := pick_le x.2 ((fileOf x.1.files e.2).data.length - (fileOf x.1.files e.2).sure)
        by_cases hlt : (fileOf x.1.files e.2).sure < (fileOf x.1.files e.2).data.length
        · by_cases hil : i < x.1.files.length
          · have e1 : fileOf (St.crashOne x e).1.files i = ⟨(fileOf x.1.files e.2).data.take ((fileOf x.1.files e.2).sure + pick x.2 ((fileOf x.1.files e.2).data.length - (fileOf x.1.files e.2).sure)), (fileOf x.1.files e.2).sure + pick x.2 ((fileOf x.1.files e.2).data.length - (fileOf x.1.files e.2).sure)⟩ := by
              unfold St.crashOne
              rw [if_pos hlt]
              show fileOf (x.1.files.set e.2 _) i = _
              rw [fileOf_set, if_pos ⟨he.symm, hil⟩]
            obtain ⟨pk, hpk⟩ : ∃ pk, pick x.2 ((fileOf x.1.files e.2).data.length - (fileOf x.1.files e.2).sure) = pk := ⟨_, rfl⟩
            rw [hpk] at e1 hp
            rw [← he] at e1 hp hlt
            refine ih (St.crashOne x e) (crashOne_fit e hf) ((fileOf x.1.files i).sure + pk) ?_ ?_ ?_
            · rw [e1]; simp only; omega
            · rw [e1]; simp only; rw [h2, List.take_take, Nat.min_eq_left (by omega)]
            · omega
          · have e1 : fileOf (St.crashOne x e).1.files i = fileOf x.1.files i := by
              unfold St.crashOne
              rw [if_pos hlt]
              show fileOf (x.1.files.set e.2 _) i = _
              rw [fileOf_set, if_neg (fun h => hil h.2)]
            exact ih (St.crashOne x e) (crashOne_fit e hf) L0 (by rw [e1]; exact h1) (by rw [e1]; exact h2) h3
        · have e1 : (St.crashOne x e).1.files = x.1.files := by unfold St.crashOne; rw [if_neg hlt]
          exact ih (St.crashOne x e) (crashOne_fit e hf) L0 (by rw [e1]; exact h1) (by rw [e1]; exact h2) h3
      · have e1 := crashOne_other x e i he
        exact ih (St.crashOne x e) (crashOne_fit e hf) L0 (by rw [e1]; exact h1) (by rw [e1]; exact h2) h3
  have hfit0 : FilesFit (st.crashed cs, cs.tail).1.files := hwf.fit
  obtain ⟨L, q1, q2, q3⟩ := hfile (keptAt st (pick cs st.wait.length)) (st.crashed cs, cs.tail) hfit0 W.length h.sure (by show (fileOf st.files i).data = _; rw [List.take_length]; exact h.file) (Nat.le_refl _)
  have hend := (crash_fold (keptAt st (pick cs st.wait.length)) (st.crashed cs, cs.tail) hwf.fit).1 i
  refine ⟨?_, L, ?_, q2, ?_⟩
  · unfold St.readE
    rw [hdir]; rfl
  · have : (fileOf ((keptAt st (pick cs st.wait.length)).foldl St.crashOne (st.crashed cs, cs.tail)).1.files i).data.length = L := by rw [q3, List.length_take]; omega
    omega
  · unfold St.readS
    rw [hdir]
    exact q3
end Go.Proofs.Ytheealfappjabaa
