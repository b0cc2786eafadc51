/-
  What holds of a disk at all times holds behind each call: mathematics alone. Condition of data: as the check says.
-/
import Derived.Test.YtheealfappjabaaDiskWF
namespace Go.Proofs.Ytheealfappjabaa
open Go.RowKit Go.Maps
theorem WF.fused {k : Int} {st : St} (h : WF k st) : WF k st.fused := by
  refine ⟨h.room0, h.room1, h.good, h.dir, h.sound, h.fit, h.used, ?_, ?_, h.steps⟩
  · have := h.fuse0; unfold St.fused; simp only; split <;> omega
  · have := h.fuse1; have := h.fuse0; unfold St.fused; simp only; split <;> omega
theorem WF.step {st : St} (h : WF 0 st) (c : Int) (f : St → St) (hf : c = 0 → WF 1 (f st.fused)) : WF 0 (st.stepS c f) := by
  unfold St.stepS
  split
  · exact h
  · split
    · exact h
    · rename_i hc
      split
      · exact ⟨h.room0, h.room1, h.good, h.dir, h.sound, h.fit, h.used, h.fuse0, h.fuse1, h.steps⟩
      · have g := hf (by simpa using hc)
        refine ⟨g.room0, g.room1, g.good, g.dir, g.sound, g.fit, g.used, g.fuse0, g.fuse1, ?_⟩
        have := g.steps
        show ((f st.fused).wait.length : Int) ≤ (f st.fused).steps + 1 + 0
        omega
theorem WF.one {st : St} (h : WF 0 st) : WF 1 st := ⟨h.room0, h.room1, h.good, h.dir, h.sound, h.fit, h.used, h.fuse0, h.fuse1, by have := h.steps; omega⟩
theorem keptAt_old (kept : Dir) (wait : List Chg) (c : Chg) {j : Nat} (hj : j ≤ wait.length) : ((wait ++ [c]).take j).foldl Dir.doC kept = (wait.take j).foldl Dir.doC kept := by
  rw [List.take_append_of_le_length hj]
/-- A change that is sound, and makes a good directory. -/
theorem WF.change {st : St} (h : WF 0 st) (c : Chg) (hs : Sound c) (fs : List FileS) (hfl : st.files.length ≤ fs.length) (hff : FilesFit fs) (hg : Good fs.length (st.dir.doC c)) (u : Int) (hu : u = sumOf fs (st.dir.doC c)) :
    WF 1 { st.change c with files := fs, used := u } := by
  have hlast : ((st.wait ++ [c]).take (st.wait.length + 1)).foldl Dir.doC st.kept = st.dir.doC c := by
    rw [List.take_of_length_le (by simp), List.foldl_append, h.dir]
    unfold keptAt
    rw [List.take_of_length_le (Nat.le_refl _)]
    rfl
  refine ⟨h.room0, h.room1, ?_, ?_, ?_, hff, hu, h.fuse0, h.fuse1, ?_⟩
  · intro j hj
    have hj' : j ≤ st.wait.length + 1 := by simpa [St.change] using hj
    show Good fs.length (((st.wait ++ [c]).take j).foldl Dir.doC st.kept)
    by_cases e : j = st.wait.length + 1
    · subst e; rw [hlast]; exact hg
    · rw [keptAt_old _ _ _ (by omega)]
      exact (h.good j (by omega)).more hfl
  · show st.dir.doC c = ((st.wait ++ [c]).take (st.wait ++ [c]).length).foldl Dir.doC st.kept
    rw [List.length_append]
    exact hlast.symm
  · intro x hx
    rcases List.mem_append.1 hx with hx | hx
    · exact h.sound x hx
    · rw [List.mem_singleton.1 hx]; exact hs
  · show ((st.wait ++ [c]).length : Int) ≤ st.steps + 1
    have := h.steps
    rw [List.length_append]
    simp only [List.length_singleton]
    omega
def lenAt (fs : List FileS) : Option Nat → Int
  | some i => ((fileOf fs i).data.length : Int)
  | none => 0
theorem sum_del' {fs : List FileS} {d : Dir} {m : Nat} (h : Good m d) (n : NameS) : sumOf fs (d.del n) = sumOf fs d - lenAt fs (d.look n) := by
  have := sum_del fs n d h.rise
  unfold lenAt
  cases hl : d.look n with
  | none => rw [hl] at this; simp only at this ⊢; omega
  | some i => rw [hl] at this; simp only at this ⊢; omega
theorem sum_put {fs : List FileS} {d : Dir} {m : Nat} (h : Good m d) (n : NameS) (i : Nat) : sumOf fs (d.put n i) = sumOf fs d - lenAt fs (d.look n) + (fileOf fs i).data.length := by
  unfold Dir.put
  rw [sum_ins, sum_del' h]
  simp only
  omega
theorem sizeAt_len (st : St) (o : Option Nat) : st.sizeAt o = lenAt st.files o := by cases o <;> rfl
theorem validN_len {n : NameS} (h : validN n = true) : n.length ≤ 32 := by
  unfold validN at h
  simp only [Bool.and_eq_true, decide_eq_true_eq] at h
  exact h.2.2
theorem del_none {d : Dir} {n : NameS} (h : d.look n = none) : d.del n = d := by
  unfold Dir.del
  rw [List.filter_eq_self]
  intro e he
  have := look_none h e he
  simpa using this
theorem del_lt {d : Dir} {n : NameS} {i : Nat} (h : d.look n = some i) : (d.del n).length < d.length := by
  unfold Dir.del
  refine List.length_filter_lt_length_iff_exists.2 ⟨(n, i), look_some h, by simp⟩
theorem look_empty {m : Nat} {d : Dir} (h : Good m d) : d.look [] = none := by
  cases hl : d.look [] with
  | none => rfl
  | some i => exact absurd rfl (validN_ne (h.ok _ (look_some hl)).2)
theorem sum_more (fs : List FileS) (x : FileS) : ∀ d : Dir, (∀ e ∈ d, e.2 < fs.length) → sumOf (fs ++ [x]) d = sumOf fs d
  | [], _ => rfl
  | y :: r, h => by
    have ih := sum_more fs x r fun e he => h e (by simp [he])
    have hy : fileOf (fs ++ [x]) y.2 = fileOf fs y.2 := by have := h y (by simp); simp [fileOf, List.getElem?_append, this]
    simp only [sumOf, List.map_cons, List.sum_cons] at ih ⊢
    rw [ih, hy]
theorem fit_more {fs : List FileS} (h : FilesFit fs) : FilesFit (fs ++ [⟨[], 0⟩]) := by
  intro i
  by_cases hi : i < fs.length
  · have hy : fileOf (fs ++ [⟨[], 0⟩]) i = fileOf fs i := by simp [fileOf, List.getElem?_append, hi]
    rw [hy]; exact h i
  · have hy : fileOf (fs ++ [⟨[], 0⟩]) i = ⟨[], 0⟩ := by
      unfold fileOf
      rw [List.getD_eq_getElem?_getD, List.getElem?_append_right (by omega)]
      by_cases h0 : i - fs.length = 0
      · rw [h0]; rfl
      · rw [List.getElem?_eq_none (by simp; omega)]; rfl
    rw [hy]; exact ⟨Nat.le_refl _, by simp⟩
theorem WF.create {st : St} (h : WF 0 st) (n : NameS) : WF 0 (st.create n) := by
  refine h.step _ _ fun hc => ?_
  unfold St.createC at hc
  have hf := h.fused
  have g := hf.gdir
  split at hc
  · cases hc
  · rename_i hv
    have hv : validN n = true := by simpa using hv
    split at hc
    · cases hc
    · rename_i hl
      split at hc
      · cases hc
      · rename_i hlen
        have hl : st.fused.dir.look n = none := by
          show st.dir.look n = none
          cases e : st.dir.look n with
          | none => rfl
          | some i => exact absurd (by rw [e]; rfl) hl
        have hne := validN_ne hv
        have e0 : st.fused.dir.doC ⟨[], n, some st.fused.files.length⟩ = st.fused.dir.put n st.fused.files.length := by
          unfold Dir.doC
          simp only
          rw [if_neg hne, del_none (look_empty g)]
        have hlen' : st.fused.dir.length < 4096 := by show st.dir.length < 4096; omega
        have hlt : st.fused.files.length < (st.fused.files ++ [(⟨[], 0⟩ : FileS)]).length := by simp
        have gm := g.more (Nat.le_of_lt hlt)
        have hlast : fileOf (st.fused.files ++ [⟨[], 0⟩]) st.fused.files.length = ⟨[], 0⟩ := by simp [fileOf]
        exact hf.change ⟨[], n, some st.fused.files.length⟩ ⟨⟨fun e => (by cases e), fun e => absurd e hne⟩, Nat.zero_le _, Nat.le_trans (validN_len hv) (by unfold maxLen; omega)⟩ (st.fused.files ++ [⟨[], 0⟩]) (Nat.le_of_lt hlt) (fit_more hf.fit)
          (by rw [e0]; exact gm.put (Nat.lt_of_le_of_lt (length_del _ _) hlen') hlt hv fun e he _ h2 => by have := (g.ok e he).1; omega) st.fused.used
          (by rw [e0, sum_put gm, hl, hlast, sum_more _ _ _ fun e he => (g.ok e he).1, hf.used]; simp [lenAt])
theorem WF.set {k : Int} {st : St} (h : WF k st) (i : Nat) (f : FileS) (hf : f.sure ≤ f.data.length ∧ f.data.length ≤ 268435456) (u : Int) (hu : u = sumOf (st.files.set i f) st.dir) : WF k { st.setFile i f with used := u } := by
  have e : (st.files.set i f).length = st.files.length := List.length_set
  refine ⟨h.room0, h.room1, fun j hj => ?_, h.dir, h.sound, fun j => ?_, hu, h.fuse0, h.fuse1, h.steps⟩
  · show Good (st.files.set i f).length _
    rw [e]; exact h.good j hj
  · show (fileOf (st.files.set i f) j).sure ≤ _ ∧ (fileOf (st.files.set i f) j).data.length ≤ _
    show (fileOf (st.files.set i f) j).sure ≤ (fileOf (st.files.set i f) j).data.length ∧ (fileOf (st.files.set i f) j).data.length ≤ _
    rw [fileOf_set]
    split
    · exact hf
    · exact h.fit j
theorem WF.append {st : St} (h : WF 0 st) (n x : NameS) : WF 0 (st.append n x) := by
  refine h.step _ _ fun hc => ?_
  have hf := h.fused
  obtain ⟨i, hl⟩ := look_of_append hc
  have hl' : st.fused.dir.look n = some i := hl
  have g := hf.gdir
  unfold St.appendC at hc
  rw [hl] at hc
  simp only at hc
  split at hc
  · cases hc
  · rename_i hroom
    have hm := look_some hl'
    have hs := sum_mem st.fused.files _ _ hm
    have hu := hf.used
    have e1 : st.fused.used = st.used := rfl
    have e2 := h.room1
    have e3 := (hf.fit i).1
    have hi := (g.ok _ hm).1
    simp only at hs hi
    unfold St.appendF
    rw [hl']
    refine (hf.set i _ ⟨?_, ?_⟩ _ ?_).one
    · simp only [List.length_append]; omega
    · simp only [List.length_append]; omega
    · rw [sum_set _ _ _ hi _ g.ids, if_pos (List.mem_map.2 ⟨_, hm, rfl⟩), ← hu]
      simp only [List.length_append]
      omega
theorem WF.sync {st : St} (h : WF 0 st) (n : NameS) : WF 0 (st.sync n) := by
  refine h.step _ _ fun hc => ?_
  have hf := h.fused
  obtain ⟨i, hl⟩ := look_of_has hc
  have hl' : st.fused.dir.look n = some i := hl
  have g := hf.gdir
  have hm := look_some hl'
  have hi := (g.ok _ hm).1
  unfold St.syncF
  rw [hl']
  have := hf.set i ⟨(fileOf st.fused.files i).data, (fileOf st.fused.files i).data.length⟩ ⟨Nat.le_refl _, (hf.fit i).2⟩ st.fused.used (by
    rw [sum_set _ _ _ hi _ g.ids, if_pos (List.mem_map.2 ⟨_, hm, rfl⟩), ← hf.used]
    simp only
    omega)
  exact this.one
theorem WF.settle {k : Int} {st : St} (h : WF k st) (j : Nat) (hj : j ≤ st.wait.length) (h0 : 0 ≤ st.steps + k) : WF k { st.settle j with dir := keptAt st j, used := sumOf st.files (keptAt st j) } := by
  have hg := h.good j hj
  refine ⟨h.room0, h.room1, fun i hi => ?_, ?_, fun c hc => (by cases hc), h.fit, rfl, h.fuse0, h.fuse1, ?_⟩
  · obtain rfl : i = 0 := by simpa [St.settle] using hi
    exact hg
  · show keptAt st j = ([] : List Chg).foldl Dir.doC (keptAt st j)
    rfl
  · show ((0 : Nat) : Int) ≤ st.steps + k
    omega
theorem WF.syncDir {st : St} (h : WF 0 st) : WF 0 st.syncDir := by
  refine h.step _ _ fun _ => ?_
  have hf := h.fused
  have h0 : 0 ≤ st.fused.steps + 0 := by have := hf.steps; omega
  have := hf.settle st.fused.wait.length (Nat.le_refl _) h0
  rw [← hf.dir, ← hf.used] at this
  exact this.one
theorem WF.rename {st : St} (h : WF 0 st) (n m : NameS) (hn : n.length ≤ maxLen) : WF 0 (st.rename n m) := by
  refine h.step _ _ fun hc => ?_
  have hf := h.fused
  obtain ⟨⟨i, hl⟩, hv⟩ := look_of_rename hc
  have hl' : st.fused.dir.look n = some i := hl
  have g := hf.gdir
  have hm := look_some hl'
  have hi := (g.ok _ hm).1
  have hne := validN_ne hv
  have e0 : st.fused.dir.doC ⟨n, m, st.fused.dir.look n⟩ = (st.fused.dir.del n).put m i := by
    rw [hl']
    unfold Dir.doC
    simp only
    rw [if_neg hne]
  have hdl := del_lt hl'
  have hfew := g.few
  refine hf.change ⟨n, m, st.fused.dir.look n⟩ ⟨⟨fun e => (by rw [hl'] at e; cases e), fun e => absurd e hne⟩, hn, Nat.le_trans (validN_len hv) (by unfold maxLen; omega)⟩ st.fused.files (Nat.le_refl _) hf.fit ?_ _ ?_
  · rw [e0]
    refine (g.del n).put (Nat.lt_of_le_of_lt (length_del _ _) (by omega)) hi hv fun e he _ h2 => ?_
    obtain ⟨he1, he2⟩ := mem_del.1 he
    exact he2 (id_inj g.ids (by rw [← h2]; exact he1) hm)
  · rw [e0, sum_put (g.del n), sum_del' g, look_del, hl']
    have hu := hf.used
    have es := sizeAt_len st.fused (st.fused.dir.look m)
    by_cases hmn : m = n
    · rw [if_pos hmn, if_pos hmn]
      simp only [lenAt]
      omega
    · rw [if_neg hmn, if_neg hmn, es]
      simp only [lenAt]
      omega
theorem WF.remove {st : St} (h : WF 0 st) (n : NameS) (hn : n.length ≤ maxLen) : WF 0 (st.remove n) := by
  refine h.step _ _ fun hc => ?_
  have hf := h.fused
  have g := hf.gdir
  have e0 : st.fused.dir.doC ⟨n, [], none⟩ = st.fused.dir.del n := rfl
  refine hf.change ⟨n, [], none⟩ ⟨⟨fun _ => rfl, fun _ => rfl⟩, hn, Nat.zero_le _⟩ st.fused.files (Nat.le_refl _) hf.fit (by rw [e0]; exact g.del n) _ ?_
  rw [e0, sum_del' g, sizeAt_len, hf.used]
theorem WF.fuse {st : St} (h : WF 0 st) (n : Int) (hn : n ≤ 9223372036854775807) : WF 0 (st.fuseS n) := by
  unfold St.fuseS
  split
  · exact h
  · exact ⟨h.room0, h.room1, h.good, h.dir, h.sound, h.fit, h.used, by show 0 ≤ max n 0; omega, by show max n 0 ≤ _; omega, h.steps⟩
theorem WF.fresh {room : Int} (h0 : 0 ≤ room) (h1 : room ≤ 268435456) : WF 0 (St.fresh room) := by
  refine ⟨h0, h1, fun j hj => ?_, rfl, fun c hc => (by cases hc), fun i => ?_, rfl, Int.le_refl 0, (by show (0 : Int) ≤ _; omega), Int.le_refl 0⟩
  · obtain rfl : j = 0 := by simpa [St.fresh] using hj
    exact ⟨Nat.zero_le _, List.nodup_nil, fun e he => (by cases he), List.Pairwise.nil⟩
  · show (fileOf [] i).sure ≤ _ ∧ _
    simp [fileOf, St.fresh]
theorem crashOne_other (x : St × List Int) (e : NameS × Nat) (i : Nat) (hi : i ≠ e.2) : fileOf (St.crashOne x e).1.files i = fileOf x.1.files i := by
  unfold St.crashOne
  split
  · show fileOf (x.1.files.set e.2 _) i = _
    rw [fileOf_set, if_neg (by intro h; exact hi h.1.symm)]
  · rfl
theorem crashOne_len (x : St × List Int) (e : NameS × Nat) : (St.crashOne x e).1.files.length = x.1.files.length := by
  unfold St.crashOne
  split
  · show (x.1.files.set e.2 _).length = _
    exact List.length_set
  · rfl
theorem crashOne_self (x : St × List Int) (e : NameS × Nat) (he : e.2 < x.1.files.length) (hf : FilesFit x.1.files) :
    (St.crashOne x e).1.used = x.1.used + ((fileOf (St.crashOne x e).1.files e.2).data.length : Int) ∧ (fileOf (St.crashOne x e).1.files e.2).sure = (fileOf (St.crashOne x e).1.files e.2).data.length := by
  have hp := pick_le x.2 ((fileOf x.1.files e.2).data.length - (fileOf x.1.files e.2).sure)
  have h1 := hf e.2
  unfold St.crashOne
  split
  · rename_i hlt
    have e1 : fileOf (x.1.files.set e.2 ⟨(fileOf x.1.files e.2).data.take ((fileOf x.1.files e.2).sure + pick x.2 ((fileOf x.1.files e.2).data.length - (fileOf x.1.files e.2).sure)), (fileOf x.1.files e.2).sure + pick x.2 ((fileOf x.1.files e.2).data.length - (fileOf x.1.files e.2).sure)⟩) e.2 = ⟨(fileOf x.1.files e.2).data.take ((fileOf x.1.files e.2).sure + pick x.2 ((fileOf x.1.files e.2).data.length - (fileOf x.1.files e.2).sure)), (fileOf x.1.files e.2).sure + pick x.2 ((fileOf x.1.files e.2).data.length - (fileOf x.1.files e.2).sure)⟩ := by
      rw [fileOf_set, if_pos ⟨rfl, he⟩]
    have e2 : ((fileOf x.1.files e.2).data.take ((fileOf x.1.files e.2).sure + pick x.2 ((fileOf x.1.files e.2).data.length - (fileOf x.1.files e.2).sure))).length = (fileOf x.1.files e.2).sure + pick x.2 ((fileOf x.1.files e.2).data.length - (fileOf x.1.files e.2).sure) := by
      rw [List.length_take]; omega
    refine ⟨?_, ?_⟩
    · show x.1.used + _ = x.1.used + ((fileOf (x.1.files.set e.2 _) e.2).data.length : Int)
      rw [e1, e2]
    · show (fileOf (x.1.files.set e.2 _) e.2).sure = (fileOf (x.1.files.set e.2 _) e.2).data.length
      rw [e1, e2]
  · exact ⟨rfl, by show (fileOf x.1.files e.2).sure = (fileOf x.1.files e.2).data.length; omega⟩
theorem fold_other (i : Nat) : ∀ (l : Dir) (x : St × List Int), (∀ e ∈ l, i ≠ e.2) → fileOf (l.foldl St.crashOne x).1.files i = fileOf x.1.files i
  | [], _, _ => rfl
  | e :: r, x, h => (fold_other i r _ fun e' he => h e' (by simp [he])).trans (crashOne_other x e i (h e (by simp)))
theorem fold_len : ∀ (l : Dir) (x : St × List Int), (l.foldl St.crashOne x).1.files.length = x.1.files.length
  | [], _ => rfl
  | e :: r, x => (fold_len r _).trans (crashOne_len x e)
theorem fold_used : ∀ (l : Dir) (x : St × List Int), (l.map (·.2)).Nodup → (∀ e ∈ l, e.2 < x.1.files.length) → FilesFit x.1.files →
    (l.foldl St.crashOne x).1.used = x.1.used + sumOf (l.foldl St.crashOne x).1.files l ∧ ∀ e ∈ l, (fileOf (l.foldl St.crashOne x).1.files e.2).sure = (fileOf (l.foldl St.crashOne x).1.files e.2).data.length
  | [], x, _, _, _ => ⟨by simp [sumOf], fun e he => by cases he⟩
  | e :: r, x, hn, hl, hf => by
    rw [List.map_cons, List.nodup_cons] at hn
    obtain ⟨h1, h2⟩ := fold_used r (St.crashOne x e) hn.2 (fun e' he => by rw [crashOne_len]; exact hl e' (by simp [he])) (crashOne_fit e hf)
    obtain ⟨s1, s2⟩ := crashOne_self x e (hl e (by simp)) hf
    have ho := fold_other e.2 r (St.crashOne x e) fun e' he e2 => hn.1 (List.mem_map.2 ⟨e', he, e2.symm⟩)
    refine ⟨?_, ?_⟩
    · show (r.foldl St.crashOne (St.crashOne x e)).1.used = _
      rw [h1, s1]
      simp only [sumOf, List.map_cons, List.sum_cons, List.foldl_cons]
      rw [ho]
      omega
    · intro e' he
      rcases List.mem_cons.1 he with rfl | he
      · show (fileOf (r.foldl St.crashOne (St.crashOne x e')).1.files e'.2).sure = (fileOf (r.foldl St.crashOne (St.crashOne x e')).1.files e'.2).data.length
        rw [ho]; exact s2
      · exact h2 e' he
theorem WF.crash {st : St} (h : WF 0 st) (h0 : 0 ≤ st.steps) (cs : List Int) : WF 0 (st.crash cs) := by
  have hk := pick_le cs st.wait.length
  have g := h.good _ hk
  obtain ⟨c1, c2, c3, c4, c5, c6, _, _⟩ := crash_fold (keptAt st (pick cs st.wait.length)) (st.crashed cs, cs.tail) h.fit
  obtain ⟨u1, _⟩ := fold_used (keptAt st (pick cs st.wait.length)) (st.crashed cs, cs.tail) g.ids (fun e he => (g.ok e he).1) h.fit
  have hl := fold_len (keptAt st (pick cs st.wait.length)) (st.crashed cs, cs.tail)
  refine ⟨?_, ?_, fun j hj => ?_, ?_, fun c hc => ?_, c1, ?_, Int.le_refl 0, (by show (0 : Int) ≤ _; omega), ?_⟩
  · show 0 ≤ (((keptAt st (pick cs st.wait.length)).foldl St.crashOne (st.crashed cs, cs.tail)).1).room
    rw [c6]; exact h.room0
  · show (((keptAt st (pick cs st.wait.length)).foldl St.crashOne (st.crashed cs, cs.tail)).1).room ≤ _
    rw [c6]; exact h.room1
  · show Good (((keptAt st (pick cs st.wait.length)).foldl St.crashOne (st.crashed cs, cs.tail)).1).files.length (((((keptAt st (pick cs st.wait.length)).foldl St.crashOne (st.crashed cs, cs.tail)).1).wait.take j).foldl Dir.doC (((keptAt st (pick cs st.wait.length)).foldl St.crashOne (st.crashed cs, cs.tail)).1).kept)
    rw [hl, c4, c3]
    show Good st.files.length ((([] : List Chg).take j).foldl Dir.doC (keptAt st (pick cs st.wait.length)))
    rw [List.take_nil]
    exact g
  · show (((keptAt st (pick cs st.wait.length)).foldl St.crashOne (st.crashed cs, cs.tail)).1).dir = (((((keptAt st (pick cs st.wait.length)).foldl St.crashOne (st.crashed cs, cs.tail)).1).wait.take _).foldl Dir.doC (((keptAt st (pick cs st.wait.length)).foldl St.crashOne (st.crashed cs, cs.tail)).1).kept)
    rw [c2, c4, c3]
    show keptAt st (pick cs st.wait.length) = ((([] : List Chg).take _).foldl Dir.doC (keptAt st (pick cs st.wait.length)))
    rw [List.take_nil]
    rfl
  · have hc' : c ∈ (((keptAt st (pick cs st.wait.length)).foldl St.crashOne (st.crashed cs, cs.tail)).1).wait := hc
    rw [c4] at hc'
    cases hc'
  · show (((keptAt st (pick cs st.wait.length)).foldl St.crashOne (st.crashed cs, cs.tail)).1).used = sumOf _ (((keptAt st (pick cs st.wait.length)).foldl St.crashOne (st.crashed cs, cs.tail)).1).dir
    rw [u1, c2]
    show (0 : Int) + _ = sumOf _ (keptAt st (pick cs st.wait.length))
    rw [Int.zero_add]
    rfl
  · show ((((keptAt st (pick cs st.wait.length)).foldl St.crashOne (st.crashed cs, cs.tail)).1).wait.length : Int) ≤ (((keptAt st (pick cs st.wait.length)).foldl St.crashOne (st.crashed cs, cs.tail)).1).steps + 0
    rw [c4, c5]
    show ((0 : Nat) : Int) ≤ st.steps + 0
    omega
/-- Steps: how many more. -/
theorem stepS_steps (st : St) (c : Int) (f : St → St) (hf : (f st.fused).steps = st.steps) : (st.stepS c f).steps = st.steps ∨ (st.stepS c f).steps = st.steps + 1 := by
  unfold St.stepS
  split
  · exact .inl rfl
  · split
    · exact .inl rfl
    · split
      · exact .inl rfl
      · right; show (f st.fused).steps + 1 = _; rw [hf]
theorem crash_steps (st : St) (cs : List Int) (h : FilesFit st.files) : (st.crash cs).steps = st.steps := by
  obtain ⟨_, _, _, _, c5, _⟩ := crash_fold (keptAt st (pick cs st.wait.length)) (st.crashed cs, cs.tail) h
  show (((keptAt st (pick cs st.wait.length)).foldl St.crashOne (st.crashed cs, cs.tail)).1).steps = _
  rw [c5]; rfl
end Go.Proofs.Ytheealfappjabaa
