/-
  A disk behind a script without fuses that is none of a name; the file that is made, synced, and made sure then: mathematics alone. Condition: at most 120 calls, data of at most 2000 bytes.
-/
import Derived.Test.YtheealfappjabaaDiskSure
namespace Go.Proofs.Ytheealfappjabaa
open Go.RowKit Go.Maps
theorem fused_plain {st : St} (hf : st.fuse = 0) : st.fused = st := by
  unfold St.fused
  rw [if_pos hf, ← hf]
theorem step_plain {st : St} {c : Int} {f : St → St} (hd : st.down = false) (hf : st.fuse = 0) (hc : c = 0) : st.stepS c f = { f st with steps := (f st).steps + 1 } ∧ st.stepE c = 0 := by
  unfold St.stepS St.stepE
  rw [fused_plain hf]
  subst hc
  simp [hd, hf]
structure Ahead (n : NameS) (k : Nat) (st : St) : Prop where
  fuse : st.fuse = 0
  down : st.down = false
  used : st.used ≤ 2000 * (k : Int)
  few : st.dir.length ≤ k
  look : st.dir.look n = none
theorem Ahead.step {n : NameS} {k : Nat} {st : St} (h : Ahead n k st) (c : Int) (f : St → St) (hf : c = 0 → Ahead n (k + 1) (f st)) : Ahead n (k + 1) (st.stepS c f) := by
  by_cases hc : c = 0
  · rw [(step_plain h.down h.fuse hc).1]
    have g := hf hc
    exact ⟨g.fuse, g.down, g.used, g.few, g.look⟩
  · unfold St.stepS
    rw [if_neg (by rw [h.down]; simp), if_pos hc]
    exact ⟨h.fuse, h.down, by have := h.used; omega, by have := h.few; omega, h.look⟩
theorem Ahead.does {n : NameS} {k : Nat} {st : St} (x : OpV) (h : Ahead n k st) (hne : n ≠ []) (h7 : x.d ≠ 7) (hdt : x.dt.data.toList.length ≤ 2000) : Ahead n (k + 1) (doesS st x n) := by
  have hu := h.used
  have hl := h.few
  have more : Ahead n (k + 1) st := ⟨h.fuse, h.down, by omega, by omega, h.look⟩
  unfold doesS
  split
  · exact more
  · rename_i hsk
    have hnm : x.nm.data.toList ≠ n := fun e => hsk (.inl e)
    have ch : ∀ (c : Chg) (u : Int) (fs : List FileS), c.frm ≠ n → c.to ≠ n → u ≤ 2000 * ((k + 1 : Nat) : Int) → Ahead n (k + 1) { st.change c with used := u, files := fs } := fun c u fs h1 h2 h3 =>
      ⟨h.fuse, h.down, h3, by have := length_doC st.dir c; show (st.dir.doC c).length ≤ _; omega, by show (st.dir.doC c).look n = none; rw [look_doC_other h1 h2]; exact h.look⟩
    split
    · exact h.step _ _ fun _ => ch ⟨[], x.nm.data.toList, some st.files.length⟩ st.used _ (fun e => hne e.symm) hnm (by omega)
    · split
      · refine h.step _ _ fun hc => ?_
        obtain ⟨i, hl'⟩ := look_of_append hc
        unfold St.appendF
        rw [hl']
        exact ⟨h.fuse, h.down, by show st.used + _ ≤ _; omega, by show st.dir.length ≤ _; omega, h.look⟩
      · split
        · refine h.step _ _ fun hc => ?_
          obtain ⟨i, hl'⟩ := look_of_has hc
          unfold St.syncF
          rw [hl']
          exact ⟨h.fuse, h.down, by show st.used ≤ _; omega, by show st.dir.length ≤ _; omega, h.look⟩
        · split
          · exact h.step _ _ fun _ => ⟨h.fuse, h.down, by show st.used ≤ _; omega, by show st.dir.length ≤ _; omega, h.look⟩
          · split
            · rename_i h5
              have hd2 : x.dt.data.toList ≠ n := fun e => hsk (.inr ⟨h5, e⟩)
              refine h.step _ _ fun _ => ch ⟨x.nm.data.toList, x.dt.data.toList, st.dir.look x.nm.data.toList⟩ _ st.files hnm hd2 ?_
              have h0 : 0 ≤ st.sizeAt (st.dir.look x.dt.data.toList) := by
                unfold St.sizeAt; split <;> omega
              split <;> omega
            · split
              · refine h.step _ _ fun _ => ch ⟨x.nm.data.toList, [], none⟩ _ st.files hnm (fun e => hne e.symm) ?_
                have h0 : 0 ≤ st.sizeAt (st.dir.look x.nm.data.toList) := by
                  unfold St.sizeAt; split <;> omega
                omega
              · exact more
abbrev nKept : NameS := [107, 101, 112, 116]
/-- The disk has the name, its file reads so, and goes on without a fuse. -/
structure Mid (i : Nat) (f : FileS) (u : Int) (st : St) : Prop where
  fuse : st.fuse = 0
  down : st.down = false
  room : st.room = 268435456
  used : st.used ≤ u
  look : st.dir.look nKept = some i
  lt : i < st.files.length
  file : fileOf st.files i = f
theorem mid_create {k : Nat} {st : St} (h : Ahead nKept k st) (hroom : st.room = 268435456) (hk : k ≤ 120) (hwf : WF 0 st) : Mid st.files.length ⟨[], 0⟩ 240000 (st.create nKept) ∧ st.createE nKept = 0 := by
  have hc : st.createC nKept = 0 := by
    unfold St.createC
    have := h.few
    rw [if_neg (by decide), h.look, if_neg (by simp), if_neg (by omega)]
  obtain ⟨e1, e2⟩ := step_plain (f := St.createF nKept) h.down h.fuse hc
  refine ⟨?_, e2⟩
  unfold St.create
  rw [e1]
  have hu := h.used
  have e0 : st.dir.doC ⟨[], nKept, some st.files.length⟩ = st.dir.put nKept st.files.length := by
    unfold Dir.doC
    simp only
    rw [if_neg (by decide), del_none (look_empty hwf.gdir)]
  refine ⟨h.fuse, h.down, hroom, by show st.used ≤ _; omega, ?_, ?_, ?_⟩
  · show (st.dir.doC ⟨[], nKept, some st.files.length⟩).look nKept = _
    rw [e0, look_put, if_pos rfl]
  · show st.files.length < (st.files ++ [(⟨[], 0⟩ : FileS)]).length
    simp
  · show fileOf (st.files ++ [⟨[], 0⟩]) st.files.length = _
    simp [fileOf]
theorem mid_append {i : Nat} {f : FileS} {u : Int} {st : St} (h : Mid i f u st) (x : NameS) (hx : x.length ≤ 2000) (hu : u ≤ 1000000) : Mid i ⟨f.data ++ x, f.sure⟩ (u + 2000) (st.append nKept x) ∧ st.appendE nKept x = 0 := by
  have hus := h.used
  have hc : st.appendC nKept x = 0 := by
    unfold St.appendC
    rw [h.look, h.room]
    simp only
    rw [if_neg (by omega)]
  obtain ⟨e1, e2⟩ := step_plain (f := St.appendF nKept x) h.down h.fuse hc
  refine ⟨?_, e2⟩
  unfold St.append
  rw [e1]
  have e3 : St.appendF nKept x st = { st.setFile i ⟨(fileOf st.files i).data ++ x, (fileOf st.files i).sure⟩ with used := st.used + x.length } := by unfold St.appendF; rw [h.look]
  rw [e3, h.file]
  refine ⟨h.fuse, h.down, h.room, by show st.used + (x.length : Int) ≤ _; omega, h.look, ?_, ?_⟩
  · show i < (st.files.set i _).length
    rw [List.length_set]; exact h.lt
  · show fileOf (st.files.set i _) i = _
    rw [fileOf_set, if_pos ⟨rfl, h.lt⟩]
theorem mid_sync {i : Nat} {f : FileS} {u : Int} {st : St} (h : Mid i f u st) : Mid i ⟨f.data, f.data.length⟩ u (st.sync nKept) ∧ st.syncE nKept = 0 := by
  have hc : st.hasC nKept = 0 := by unfold St.hasC; rw [h.look]; rfl
  obtain ⟨e1, e2⟩ := step_plain (f := St.syncF nKept) h.down h.fuse hc
  refine ⟨?_, e2⟩
  unfold St.sync
  rw [e1]
  have e3 : St.syncF nKept st = st.setFile i ⟨(fileOf st.files i).data, (fileOf st.files i).data.length⟩ := by unfold St.syncF; rw [h.look]
  rw [e3, h.file]
  refine ⟨h.fuse, h.down, h.room, h.used, h.look, ?_, ?_⟩
  · show i < (st.files.set i _).length
    rw [List.length_set]; exact h.lt
  · show fileOf (st.files.set i _) i = _
    rw [fileOf_set, if_pos ⟨rfl, h.lt⟩]
theorem mid_syncDir {i : Nat} {f : FileS} {u : Int} {st : St} (h : Mid i f u st) (hwf : WF 0 st) : Mid i f u st.syncDir ∧ st.syncDirE = 0 ∧ st.syncDir.wait = [] ∧ st.syncDir.kept = st.syncDir.dir := by
  obtain ⟨e1, e2⟩ := step_plain (f := St.syncDirF) h.down h.fuse (rfl : (0 : Int) = 0)
  have e3 : st.syncDir = _ := e1
  refine ⟨?_, e2, ?_, ?_⟩
  · rw [e3]
    exact ⟨h.fuse, h.down, h.room, h.used, h.look, h.lt, h.file⟩
  · rw [e3]; rfl
  · rw [e3]
    show keptAt st st.wait.length = st.dir
    exact hwf.dir.symm
/-- Behind the second append the file is sure. -/
theorem mid_sure {i : Nat} {f : FileS} {u : Int} {st : St} (h : Mid i f u st) (hw : st.wait = []) (hk : st.kept = st.dir) (x : NameS) (hx : x.length ≤ 2000) (hu : u ≤ 1000000) : Sure nKept i f.sure (f.data ++ x) (st.append nKept x) := by
  have m := (mid_append h x hx hu).1
  have hus := h.used
  have hc : st.appendC nKept x = 0 := by
    unfold St.appendC
    rw [h.look, h.room]
    simp only
    rw [if_neg (by omega)]
  obtain ⟨e1, _⟩ := step_plain (f := St.appendF nKept x) h.down h.fuse hc
  have e3 : St.appendF nKept x st = { st.setFile i ⟨(fileOf st.files i).data ++ x, (fileOf st.files i).sure⟩ with used := st.used + x.length } := by unfold St.appendF; rw [h.look]
  have ew : (st.append nKept x).wait = [] := by unfold St.append; rw [e1, e3]; exact hw
  have ek : (st.append nKept x).kept = st.dir := by unfold St.append; rw [e1, e3]; exact hk
  refine ⟨fun j hj => ?_, by rw [m.file], by rw [m.file]; exact Nat.le_refl _⟩
  rw [ew] at hj
  have hj0 : j = 0 := by simpa using hj
  subst hj0
  unfold keptAt
  rw [ew, ek]
  exact h.look
end Go.Proofs.Ytheealfappjabaa
