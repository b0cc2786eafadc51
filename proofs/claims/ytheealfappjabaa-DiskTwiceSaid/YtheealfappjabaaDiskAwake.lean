/-
  The calls once more, for a disk that is as it must be; the answer that the document fixes (awake). No condition.
-/
import Derived.Test.YtheealfappjabaaDiskWF2
namespace Go.Proofs.Ytheealfappjabaa
open Go.RowKit Go.Maps
attribute [local go_sem] eq_file ne_file ne_disk ne_map
/-- A disk that lies in memory and is as it must be, of at most k steps. -/
structure Live (base : Nat) (own : Own) (p : Nat) (k : Int) (st : St) (w : World) : Prop where
  at' : DiskAt base own p st w
  wf : WF 0 st
  s0 : 0 ≤ st.steps
  s1 : st.steps ≤ k
def LDid (base : Nat) (own : Own) (p : Nat) (k : Int) (st : St) (r : Value) (w : World) (e : Ending) (w' : World) : Prop := ∃ own', e = .returned r ∧ Live base own' p k st w' ∧ Grow own own' w w'
theorem Live.sane {base p : Nat} {own : Own} {k : Int} {st : St} {w : World} (h : Live base own p k st w) (hk : k ≤ 99999) : Sane st := h.wf.sane (by omega) h.s0 (by have := h.s1; omega)
theorem Live.keep {base p : Nat} {own : Own} {k : Int} {st : St} {w w' : World} (h : Live base own p k st w) (d : DiskAt base own p st w') : Live base own p k st w' := ⟨d, h.wf, h.s0, h.s1⟩
theorem Live.more {base p : Nat} {own : Own} {k k' : Int} {st : St} {w : World} (h : Live base own p k st w) (hk : k ≤ k') : Live base own p k' st w := ⟨h.at', h.wf, h.s0, by have := h.s1; omega⟩
theorem did_live {base p : Nat} {own : Own} {k : Int} {st st' : St} {w : World} {r : Value} (h : Live base own p k st w) (hwf : WF 0 st') (hs : st'.steps = st.steps ∨ st'.steps = st.steps + 1) {e : Ending} {w' : World} (hd : Did base own p st' r w e w') : LDid base own p (k + 1) st' r w e w' := by
  obtain ⟨own', he, d, g⟩ := hd
  have h0 := h.s0
  have h1 := h.s1
  exact ⟨own', he, ⟨d, hwf, by omega, by omega⟩, g⟩
theorem live_create {base p : Nat} {own : Own} {k : Int} {st : St} {w : World} (h : Live base own p k st w) (hk : k ≤ 99999) (n : ByteArray) (hn : n.size ≤ 140737488355328) :
    Calls Try.prog 12 #[at0 p, .string n] w (LDid base own p (k + 1) (st.create n.data.toList) (.int .i64 (st.createE n.data.toList)) w) :=
  (create_any h.at' (h.sane hk) n hn).mono fun _ _ => did_live h (h.wf.create _) (stepS_steps _ _ _ rfl)
theorem live_append {base p : Nat} {own : Own} {k : Int} {st : St} {w : World} (h : Live base own p k st w) (hk : k ≤ 99999) (n x : ByteArray) (hn : n.size ≤ 140737488355328) (hx : x.size ≤ 70368744177664) :
    Calls Try.prog 13 #[at0 p, .string n, .string x] w (LDid base own p (k + 1) (st.append n.data.toList x.data.toList) (.int .i64 (st.appendE n.data.toList x.data.toList)) w) :=
  (append_any h.at' (h.sane hk) n x hn hx).mono fun _ _ => did_live h (h.wf.append _ _) (stepS_steps _ _ _ (appendF_steps _ _ _))
theorem live_sync {base p : Nat} {own : Own} {k : Int} {st : St} {w : World} (h : Live base own p k st w) (hk : k ≤ 99999) (n : ByteArray) (hn : n.size ≤ 140737488355328) :
    Calls Try.prog 14 #[at0 p, .string n] w (LDid base own p (k + 1) (st.sync n.data.toList) (.int .i64 (st.syncE n.data.toList)) w) :=
  (sync_any h.at' (h.sane hk) n hn).mono fun _ _ => did_live h (h.wf.sync _) (stepS_steps _ _ _ (syncF_steps _ _))
theorem live_syncDir {base p : Nat} {own : Own} {k : Int} {st : St} {w : World} (h : Live base own p k st w) (hk : k ≤ 99999) :
    Calls Try.prog 15 #[at0 p] w (LDid base own p (k + 1) st.syncDir (.int .i64 st.syncDirE) w) :=
  (syncDir_any h.at' (h.sane hk)).mono fun _ _ => did_live h h.wf.syncDir (stepS_steps _ _ _ rfl)
theorem size_max {n : ByteArray} (hn : n.size ≤ 140737488355328) : n.data.toList.length ≤ maxLen := by
  have : n.data.toList.length = n.size := by rw [Array.length_toList]; rfl
  rw [this]; unfold maxLen; omega
theorem live_rename {base p : Nat} {own : Own} {k : Int} {st : St} {w : World} (h : Live base own p k st w) (hk : k ≤ 99999) (n m : ByteArray) (hn : n.size ≤ 140737488355328) (hm : m.size ≤ 140737488355328) :
    Calls Try.prog 19 #[at0 p, .string n, .string m] w (LDid base own p (k + 1) (st.rename n.data.toList m.data.toList) (.int .i64 (st.renameE n.data.toList m.data.toList)) w) :=
  (rename_any h.at' (h.sane hk) n m hn hm).mono fun _ _ => did_live h (h.wf.rename _ _ (size_max hn)) (stepS_steps _ _ _ rfl)
theorem live_remove {base p : Nat} {own : Own} {k : Int} {st : St} {w : World} (h : Live base own p k st w) (hk : k ≤ 99999) (n : ByteArray) (hn : n.size ≤ 140737488355328) :
    Calls Try.prog 24 #[at0 p, .string n] w (LDid base own p (k + 1) (st.remove n.data.toList) (.int .i64 (st.removeE n.data.toList)) w) :=
  (remove_any h.at' (h.sane hk) n hn).mono fun _ _ => did_live h (h.wf.remove _ (size_max hn)) (stepS_steps _ _ _ rfl)
theorem live_fuse {base p : Nat} {own : Own} {k : Int} {st : St} {w : World} (h : Live base own p k st w) (n : Int) (hn : n ≤ 9223372036854775807) :
    Calls Try.prog 22 #[at0 p, .int .i64 n] w (LDid base own p (k + 1) (st.fuseS n) (.tuple #[]) w) :=
  (fuse_any h.at' n).mono fun _ _ => did_live h (h.wf.fuse n hn) (.inl (by unfold St.fuseS; split <;> rfl))
theorem live_crash {base p : Nat} {own : Own} {k : Int} {st : St} {w : World} (h : Live base own p k st w) (hk : k ≤ 99999) {cs : List Int} {cv : Value} {cb : Nat} (hcs : IntsAt cb cv cs w) (hco : cs ≠ [] → own cb = none) :
    Calls Try.prog 16 #[at0 p, cv] w (LDid base own p (k + 1) (st.crash cs) (.tuple #[]) w) :=
  (crash_any h.at' (h.sane hk) h.wf.fit hcs hco).mono fun _ _ => did_live h (h.wf.crash h.s0 cs) (.inl (crash_steps st cs h.wf.fit))
def LMade (base : Nat) (room : Int) (w : World) (e : Ending) (w' : World) : Prop := ∃ own p, e = .returned (.tuple #[at0 p, .int .i64 0]) ∧ Live base own p 0 (St.fresh room) w' ∧ Below w.heap.size w w' ∧ ∀ k, k < w.heap.size → own k = none
theorem live_new {base : Nat} (room : Int) (h0 : 0 ≤ room) (h1 : room ≤ 268435456) (w : World) (hb : base ≤ w.heap.size) : Calls Try.prog 10 #[.int .i64 room] w (LMade base room w) :=
  (new_any room h0 h1 w hb).mono fun _ _ ⟨own, p, he, d, b, f⟩ => ⟨own, p, he, ⟨d, WF.fresh h0 h1, Int.le_refl 0, Int.le_refl 0⟩, b, f⟩
/-- A slice of ints that a call lays anew. -/
theorem ints_laid {w : World} {cs : List Int} (hr : ∀ x ∈ cs, -9223372036854775808 ≤ x ∧ x ≤ 9223372036854775807) (hl : cs.length ≤ 1048576) :
    IntsAt w.heap.size (.slice (some ⟨w.heap.size, 0, none⟩) cs.length cs.length) cs (w.alloc (.cells (cs.map fun x => Value.int .i64 x).toArray 3)) := by
  refine ⟨_, _, _, rfl, rfl, Nat.le_refl _, by omega, hr, fun _ => ⟨0, rfl, fun j x hx => ?_⟩⟩
  rw [World.cell?_alloc_new]
  simp [hx]
set_option maxRecDepth 100000 in
set_option maxHeartbeats 2000000 in
theorem awake_any (w : World) : Calls Try.prog 9 #[] w fun e w' => e = .returned (.bool true) ∧ Below w.heap.size w w' := by
  have N := Lib.hid (live_new 10 (by decide) (by decide) w (Nat.le_refl _))
  go_enter Try.func9, Try.ntmps9
  go_wp2_with fail
  refine N.out.mono ?_
  rintro e w1 ⟨own1, p, rfl, l1, b1, _⟩
  have l1 := Lib.hid l1
  have B1 := Lib.hid b1
  clear b1
  go_wp2_with fail
  refine (live_create l1.out (by decide) ⟨#[97]⟩ (by decide)).mono ?_
  rintro e w2 ⟨own2, rfl, l2, g2⟩
  rw [show (St.fresh 10).createE (⟨#[97]⟩ : ByteArray).data.toList = 0 by kernel_rfl]
  have l2 := Lib.hid l2
  have B2 := Lib.hid (B1.out.trans (g2.below l1.out.at' B1.out.size))
  clear g2
  go_wp2_with fail
  refine (live_syncDir l2.out (by decide)).mono ?_
  rintro e w3 ⟨own3, rfl, l3, g3⟩
  rw [show ((St.fresh 10).create (⟨#[97]⟩ : ByteArray).data.toList).syncDirE = 0 by kernel_rfl]
  have l3 := Lib.hid l3
  have B3 := Lib.hid (B2.out.trans (g3.below l2.out.at' B2.out.size))
  clear g3
  go_wp2_with fail
  refine (live_append l3.out (by decide) ⟨#[97]⟩ ⟨#[120, 121, 122]⟩ (by decide) (by decide)).mono ?_
  rintro e w4 ⟨own4, rfl, l4, g4⟩
  rw [show ((St.fresh 10).create (⟨#[97]⟩ : ByteArray).data.toList).syncDir.appendE (⟨#[97]⟩ : ByteArray).data.toList (⟨#[120, 121, 122]⟩ : ByteArray).data.toList = 0 by kernel_rfl]
  have l4 := Lib.hid l4
  have B4 := Lib.hid (B3.out.trans (g4.below l3.out.at' B3.out.size))
  clear g4
  go_wp2_with fail
  have l5 := Lib.hid (l4.out.keep (w' := w4.alloc (.cells #[.int .i64 0, .int .i64 2] 3)) (l4.out.at'.below (below_alloc _ _)))
  have B5 : Hid (Below w.heap.size w (w4.alloc (.cells #[.int .i64 0, .int .i64 2] 3))) := Lib.hid (B4.out.alloc B4.out.size _)
  have I5 := Lib.hid (ints_laid (w := w4) (cs := [0, 2]) (by decide) (by decide))
  have F5 := Lib.hid (free_new l4.out.at' (Nat.le_refl _))
  refine (live_crash (cb := w4.heap.size) l5.out (by decide) I5.out (fun _ => F5.out)).mono ?_
  rintro e w6 ⟨own6, rfl, l6, g6⟩
  have l6 := Lib.hid l6
  have B6 := Lib.hid (B5.out.trans (g6.below l5.out.at' B5.out.size))
  clear g6
  go_wp2_with fail
  refine (read_any l6.out.at' ⟨#[97]⟩ (by decide)).mono ?_
  rintro e w7 ⟨rfl, rfl⟩
  rw [show (((((St.fresh 10).create (⟨#[97]⟩ : ByteArray).data.toList).syncDir.append (⟨#[97]⟩ : ByteArray).data.toList (⟨#[120, 121, 122]⟩ : ByteArray).data.toList).crash [0, 2])).readE (⟨#[97]⟩ : ByteArray).data.toList = 0 by kernel_rfl,
    show (((((St.fresh 10).create (⟨#[97]⟩ : ByteArray).data.toList).syncDir.append (⟨#[97]⟩ : ByteArray).data.toList (⟨#[120, 121, 122]⟩ : ByteArray).data.toList).crash [0, 2])).readS (⟨#[97]⟩ : ByteArray).data.toList = [120, 121] by kernel_rfl]
  go_wp2_with fail
  refine (live_append l6.out (by decide) ⟨#[97]⟩ ⟨#[49, 50, 51, 52, 53, 54, 55, 56, 57]⟩ (by decide) (by decide)).mono ?_
  rintro e w8 ⟨own8, rfl, l8, g8⟩
  rw [show (((((St.fresh 10).create (⟨#[97]⟩ : ByteArray).data.toList).syncDir.append (⟨#[97]⟩ : ByteArray).data.toList (⟨#[120, 121, 122]⟩ : ByteArray).data.toList).crash [0, 2])).appendE (⟨#[97]⟩ : ByteArray).data.toList (⟨#[49, 50, 51, 52, 53, 54, 55, 56, 57]⟩ : ByteArray).data.toList = 8 by kernel_rfl]
  have B8 := Lib.hid (B6.out.trans (g8.below l6.out.at' B6.out.size))
  clear g8
  go_wp2
  go_ret
  exact ⟨rfl, B8.out⟩
end Go.Proofs.Ytheealfappjabaa
