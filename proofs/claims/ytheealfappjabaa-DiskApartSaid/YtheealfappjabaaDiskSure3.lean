/-
  The calls of DiskSure, each with what it leaves of the file. Condition: at most 120 calls, data of at most 2000 bytes.
-/
import Derived.Test.YtheealfappjabaaDiskSure2
namespace Go.Proofs.Ytheealfappjabaa
open Go.RowKit Go.Maps
theorem room_step (st : St) (c : Int) (f : St → St) (hf : ∀ s : St, (f s).room = s.room) : (st.stepS c f).room = st.room := by
  unfold St.stepS
  split
  · rfl
  · split
    · rfl
    · split
      · rfl
      · show (f st.fused).room = st.room
        rw [hf]; rfl
theorem room_does (st : St) (x : OpV) (n : NameS) : (doesS st x n).room = st.room := by
  unfold doesS
  split
  · rfl
  · split
    · exact room_step _ _ _ fun _ => rfl
    · split
      · exact room_step _ _ _ fun _ => (by unfold St.appendF; split <;> rfl)
      · split
        · exact room_step _ _ _ fun _ => (by unfold St.syncF; split <;> rfl)
        · split
          · exact room_step _ _ _ fun _ => rfl
          · split
            · exact room_step _ _ _ fun _ => rfl
            · split
              · exact room_step _ _ _ fun _ => rfl
              · split
                · unfold St.fuseS; split <;> rfl
                · rfl
/-- A call leaves a disk in memory of which P holds. -/
def LEx (base p : Nat) (k : Int) (w : World) (r : Value) (P : St → Prop) (e : Ending) (w' : World) : Prop := ∃ own' st', e = .returned r ∧ Live base own' p k st' w' ∧ Below base w w' ∧ P st'
theorem LEx.of {base p : Nat} {own : Own} {k k' : Int} {st st' : St} {w : World} {r r' : Value} {P : St → Prop} (l : Live base own p k' st w) (hb : base ≤ w.heap.size) (hr : r = r') (hP : P st') {e : Ending} {w' : World} (h : LDid base own p k st' r w e w') : LEx base p k w r' P e w' := by
  obtain ⟨own', he, d, g⟩ := h
  exact ⟨own', st', hr ▸ he, d, g.below l.at' hb, hP⟩
abbrev bKept : ByteArray := ⟨#[107, 101, 112, 116]⟩
def AheadR (j : Nat) (st : St) : Prop := Ahead nKept j st ∧ st.room = 268435456
theorem ahead_new : AheadR 0 (St.fresh 268435456) := ⟨⟨rfl, rfl, by decide, Nat.le_refl _, rfl⟩, rfl⟩
theorem sure_ahead {base p : Nat} {own : Own} {j : Nat} {k : Int} {st : St} {w : World} (l : Live base own p k st w) (hk : k ≤ 99999) (hb : base ≤ w.heap.size) (hA : AheadR j st) (x : OpV) (h7 : x.d ≠ 7) (hnm : x.nm.size ≤ 140737488355328) (hdt : x.dt.size ≤ 2000) (hn : x.n ≤ 9223372036854775807) :
    Calls Try.prog 11 #[at0 p, .agg x.cells, .string bKept] w (LEx base p (k + 1) w (.tuple #[]) (AheadR (j + 1))) :=
  (does_any l hk x hnm (by omega) hn bKept).mono fun _ _ h => LEx.of l hb rfl ⟨hA.1.does x (by decide) h7 (by rw [Array.length_toList]; exact hdt), by rw [room_does]; exact hA.2⟩ h
theorem AheadR.more {j : Nat} {st : St} (h : AheadR j st) : AheadR (j + 1) st := ⟨⟨h.1.fuse, h.1.down, by have := h.1.used; omega, by have := h.1.few; omega, h.1.look⟩, h.2⟩
theorem sure_behind {base p : Nat} {own : Own} {i D : Nat} {W : List UInt8} {k : Int} {st : St} {w : World} (l : Live base own p k st w) (hk : k ≤ 99999) (hb : base ≤ w.heap.size) (hA : Sure nKept i D W st) (x : OpV) (hnm : x.nm.size ≤ 140737488355328) (hdt : x.dt.size ≤ 2000) (hn : x.n ≤ 9223372036854775807) :
    Calls Try.prog 11 #[at0 p, .agg x.cells, .string bKept] w (LEx base p (k + 1) w (.tuple #[]) (Sure nKept i D W)) :=
  (does_any l hk x hnm (by omega) hn bKept).mono fun _ _ h => LEx.of l hb rfl (hA.does x nKept l.wf (by decide)) h
theorem sure_create {base p : Nat} {own : Own} {j : Nat} {k : Int} {st : St} {w : World} (l : Live base own p k st w) (hk : k ≤ 99999) (hb : base ≤ w.heap.size) (hA : AheadR j st) (hj : j ≤ 120) :
    Calls Try.prog 12 #[at0 p, .string bKept] w (LEx base p (k + 1) w (.int .i64 0) fun s => ∃ i, Mid i ⟨[], 0⟩ 240000 s) :=
  (live_create l hk bKept (by decide)).mono fun _ _ h => (by
    obtain ⟨m, e⟩ := mid_create hA.1 hA.2 hj l.wf
    exact LEx.of l hb (congrArg (Value.int .i64) e) ⟨_, m⟩ h)
theorem sure_append {base p : Nat} {own : Own} {i : Nat} {k : Int} {st : St} {w : World} (l : Live base own p k st w) (hk : k ≤ 99999) (hb : base ≤ w.heap.size) (m : Mid i ⟨[], 0⟩ 240000 st) (x : ByteArray) (hx : x.size ≤ 2000) :
    Calls Try.prog 13 #[at0 p, .string bKept, .string x] w (LEx base p (k + 1) w (.int .i64 0) (Mid i ⟨x.data.toList, 0⟩ 242000)) :=
  (live_append l hk bKept x (by decide) (by omega)).mono fun _ _ h => (by
    obtain ⟨m, e⟩ := mid_append m x.data.toList (by rw [Array.length_toList]; exact hx) (by decide)
    exact LEx.of l hb (congrArg (Value.int .i64) e) m h)
theorem sure_sync {base p : Nat} {own : Own} {i : Nat} {f : FileS} {u : Int} {k : Int} {st : St} {w : World} (l : Live base own p k st w) (hk : k ≤ 99999) (hb : base ≤ w.heap.size) (m : Mid i f u st) :
    Calls Try.prog 14 #[at0 p, .string bKept] w (LEx base p (k + 1) w (.int .i64 0) (Mid i ⟨f.data, f.data.length⟩ u)) :=
  (live_sync l hk bKept (by decide)).mono fun _ _ h => (by
    obtain ⟨m, e⟩ := mid_sync m
    exact LEx.of l hb (congrArg (Value.int .i64) e) m h)
theorem sure_dir {base p : Nat} {own : Own} {i : Nat} {f : FileS} {u : Int} {k : Int} {st : St} {w : World} (l : Live base own p k st w) (hk : k ≤ 99999) (hb : base ≤ w.heap.size) (m : Mid i f u st) :
    Calls Try.prog 15 #[at0 p] w (LEx base p (k + 1) w (.int .i64 0) fun s => Mid i f u s ∧ s.wait = [] ∧ s.kept = s.dir) :=
  (live_syncDir l hk).mono fun _ _ h => (by
    obtain ⟨m, e, h1, h2⟩ := mid_syncDir m l.wf
    exact LEx.of l hb (congrArg (Value.int .i64) e) ⟨m, h1, h2⟩ h)
theorem sure_more {base p : Nat} {own : Own} {i : Nat} {f : FileS} {u : Int} {k : Int} {st : St} {w : World} (l : Live base own p k st w) (hk : k ≤ 99999) (hb : base ≤ w.heap.size) (m : Mid i f u st ∧ st.wait = [] ∧ st.kept = st.dir) (y : ByteArray) (hy : y.size ≤ 2000) (hu : u ≤ 1000000) :
    Calls Try.prog 13 #[at0 p, .string bKept, .string y] w (LEx base p (k + 1) w (.int .i64 0) (Sure nKept i f.sure (f.data ++ y.data.toList))) :=
  (live_append l hk bKept y (by decide) (by omega)).mono fun _ _ h => (by
    have hl : y.data.toList.length ≤ 2000 := by rw [Array.length_toList]; exact hy
    exact LEx.of l hb (congrArg (Value.int .i64) (mid_append m.1 _ hl hu).2) (mid_sure m.1 m.2.1 m.2.2 _ hl hu) h)
/-- What is read behind the crash. -/
def Back (D : Nat) (W : List UInt8) (st : St) : Prop := st.readE nKept = 0 ∧ (∃ L, D ≤ L ∧ L ≤ W.length ∧ st.readS nKept = W.take L) ∧ st.down = false
theorem sure_crash {base p : Nat} {own : Own} {i D : Nat} {W : List UInt8} {k : Int} {st : St} {w : World} (l : Live base own p k st w) (hk : k ≤ 99999) (hb : base ≤ w.heap.size) (m : Sure nKept i D W st) {cs : List Int} {cv : Value} {cb : Nat} (hcs : IntsAt cb cv cs w) (hlt : cs ≠ [] → cb < base) :
    Calls Try.prog 16 #[at0 p, cv] w (LEx base p (k + 1) w (.tuple #[]) (Back D W)) := by
  have hco : cs ≠ [] → own cb = none := fun hne => by
    cases e : own cb with
    | none => rfl
    | some r => exact absurd (l.at'.lo cb (by simp [e])).1 (by have := hlt hne; omega)
  refine (live_crash l hk hcs hco).mono fun _ _ h => LEx.of l hb rfl ?_ h
  obtain ⟨h1, h2⟩ := m.crash l.wf cs
  exact ⟨h1, h2, rfl⟩
end Go.Proofs.Ytheealfappjabaa
