/-
  The contracts of the disk's steps: Create, Append, Sync, SyncDir, Rename, Remove; of Fuse and New. Condition of names: at most 2^47 bytes; of data: at most 2^46; of the disk: the bounds of 'Sane'.
-/
import Derived.Test.YtheealfappjabaaDiskActs4
namespace Go.Proofs.Ytheealfappjabaa
open Go.RowKit Go.Maps Go.WideMaps
/-- Bounds that the machine's numbers want. -/
structure Sane (st : St) : Prop where
  dir : st.dir.length ≤ 4096
  wait : st.kept.length + st.wait.length ≤ 1048576
  sound : ∀ c ∈ st.wait, Sound c
  used0 : 0 ≤ st.used
  used1 : st.used ≤ 1099511627776
  size : ∀ i, (fileOf st.files i).data.length ≤ 268435456
  fuse0 : 0 ≤ st.fuse
  fuse1 : st.fuse ≤ 9223372036854775807
  steps0 : 0 ≤ st.steps
  steps1 : st.steps ≤ 1099511627776
theorem Sane.sizeAt {st : St} (s : Sane st) (f : Option Nat) : 0 ≤ st.sizeAt f ∧ st.sizeAt f ≤ 268435456 := by
  cases f with
  | none => exact ⟨Int.le_refl 0, by show (0 : Int) ≤ _; omega⟩
  | some i => have := s.size i; unfold St.sizeAt; simp only; omega
namespace St
def create (st : St) (n : NameS) : St := st.stepS (st.createC n) (createF n)
def createE (st : St) (n : NameS) : Int := st.stepE (st.createC n)
def append (st : St) (n x : NameS) : St := st.stepS (st.appendC n x) (appendF n x)
def appendE (st : St) (n x : NameS) : Int := st.stepE (st.appendC n x)
def sync (st : St) (n : NameS) : St := st.stepS (st.hasC n) (syncF n)
def syncE (st : St) (n : NameS) : Int := st.stepE (st.hasC n)
def syncDir (st : St) : St := st.stepS 0 syncDirF
def syncDirE (st : St) : Int := st.stepE 0
def rename (st : St) (n m : NameS) : St := st.stepS (st.renameC n m) (renameF n m)
def renameE (st : St) (n m : NameS) : Int := st.stepE (st.renameC n m)
def remove (st : St) (n : NameS) : St := st.stepS (st.hasC n) (removeF n)
def removeE (st : St) (n : NameS) : Int := st.stepE (st.hasC n)
end St
theorem validN_ne {n : NameS} (h : validN n = true) : n ≠ [] := by
  intro e; subst e; simp [validN] at h
theorem free_new {base p : Nat} {own : Own} {st : St} {w : World} (h : DiskAt base own p st w) {b : Nat} (hb : w.heap.size ≤ b) : own b = none := by
  cases e : own b with
  | none => rfl
  | some r => exact absurd (h.lt (b := b) (by simp [e])) (by omega)
theorem enters (F : Nat) (fn : Func) (c : Code) (h1 : Try.prog.funcs[F]? = some fn) (h2 : (fn.name == "runtime.NumGoroutine") = false) (h3 : fn.body = some c) (args : Array Value) (w : World) : (callFunc F args).run Try.prog w = .ok (.enter F args) w := enters_of h1 h2 h3 args w
theorem make_func (fn : Fn) (first cap : Array Value) (w : World) : (Instr.makeFunc fn first cap).run Try.prog w = .ok (.func fn first cap) w := rfl
attribute [local go_sem] make_func
theorem grow_new (own : Own) {B : Nat} {w w' : World} (h : Below B w w') (hB : w.heap.size ≤ B) : Grow own own w w' := Grow.of_below h hB
theorem cell_but {b k p : Nat} {v : Value} {w u : World} (h : But p w u) (hne : b ≠ p) (hc : w.cell? ⟨b, k, none⟩ = some v) : u.cell? ⟨b, k, none⟩ = some v := (h.cell (p := ⟨b, k, none⟩) (World.block_lt_of_cell? _ _ hc) hne).trans hc
theorem box_new (w : World) (v : Value) (t : TypeId) : (w.alloc (.cells #[v] t)).cell? ⟨w.heap.size, 0, none⟩ = some v := by rw [World.cell?_alloc_new]; rfl
theorem DiskAt.apart {base p : Nat} {own : Own} {st : St} {w : World} (h : DiskAt base own p st w) {b : Nat} (hb : own b = none) : b ≠ p := fun e => by
  obtain ⟨nb, kb, pv, o1, _⟩ := h.disk
  rw [e, o1] at hb; cases hb
theorem look_of_has {st : St} {n : NameS} (h : st.hasC n = 0) : ∃ i, st.dir.look n = some i := by
  unfold St.hasC at h
  cases hl : st.dir.look n with
  | some i => exact ⟨i, rfl⟩
  | none => rw [hl] at h; cases h
theorem look_of_append {st : St} {n x : NameS} (h : st.appendC n x = 0) : ∃ i, st.dir.look n = some i := by
  unfold St.appendC at h
  cases hl : st.dir.look n with
  | some i => exact ⟨i, rfl⟩
  | none => rw [hl] at h; cases h
theorem look_of_rename {st : St} {n m : NameS} (h : st.renameC n m = 0) : (∃ i, st.dir.look n = some i) ∧ validN m = true := by
  unfold St.renameC at h
  cases hl : st.dir.look n with
  | none => rw [hl] at h; cases h
  | some i =>
    rw [hl] at h
    refine ⟨⟨i, rfl⟩, ?_⟩
    cases hv : validN m with
    | true => rfl
    | false => rw [hv] at h; cases h
theorem appendF_steps (n x : NameS) (st : St) : (St.appendF n x st).steps = st.steps := by unfold St.appendF; split <;> rfl
theorem syncF_steps (n : NameS) (st : St) : (St.syncF n st).steps = st.steps := by unfold St.syncF; split <;> rfl
set_option maxRecDepth 100000 in
set_option maxHeartbeats 1000000 in
/-- Create. -/
theorem create_any {base p : Nat} {own : Own} {st : St} {w : World} (h : DiskAt base own p st w) (s : Sane st) (n : ByteArray) (hn : n.size ≤ 140737488355328) :
    Calls Try.prog 12 #[at0 p, .string n] w (Did base own p (st.create n.data.toList) (.int .i64 (st.createE n.data.toList)) w) := by
  have hB : Below w.heap.size w (World.alloc (World.alloc w (.cells #[at0 p] 26)) (.cells #[.string n] 9)) := (((Below.refl _ w).alloc (Nat.le_refl _) _).alloc (by simp) _)
  have b0 : ((World.alloc w (.cells #[at0 p] 26))).cell? ⟨w.heap.size, 0, none⟩ = some (at0 p) := by
    have := box_new w (at0 p) 26
    try simp only [World.size_alloc] at this
    exact this
  have b0 : ((World.alloc (World.alloc w (.cells #[at0 p] 26)) (.cells #[.string n] 9))).cell? ⟨w.heap.size, 0, none⟩ = some (at0 p) := (World.cell?_alloc_lt _ _ _ (by simp; try omega)).trans b0
  have b1 : ((World.alloc (World.alloc w (.cells #[at0 p] 26)) (.cells #[.string n] 9))).cell? ⟨w.heap.size + 1, 0, none⟩ = some (.string n) := by
    have := box_new (World.alloc w (.cells #[at0 p] 26)) (.string n) 9
    try simp only [World.size_alloc] at this
    exact this
  have h1 := h.below hB
  have o0 := free_new h (b := w.heap.size) (by omega)
  have o1 := free_new h (b := w.heap.size + 1) (by omega)
  have C : Hid (Calls Try.prog 25 #[at0 p, .func (.func 26) #[] #[at0 (w.heap.size + 1), at0 w.heap.size], .func (.func 28) #[] #[at0 w.heap.size, at0 (w.heap.size + 1)]] (World.alloc (World.alloc w (.cells #[at0 p] 26)) (.cells #[.string n] 9)) (Did base own p (st.stepS (st.createC n.data.toList) (St.createF n.data.toList)) (.int .i64 (st.stepE (st.createC n.data.toList))) (World.alloc (World.alloc w (.cells #[at0 p] 26)) (.cells #[.string n] 9)))) := by
    have hst0 := s.steps0; have hst1 := s.steps1
    have es : (St.createF n.data.toList st.fused).steps = st.steps := rfl
    refine Lib.hid (step_any h1 s.fuse0 s.fuse1 _ _ (enters _ _ _ Try.func26 (by kernel_rfl) rfl) (enters _ _ _ Try.func28 (by kernel_rfl) rfl) _ _ _ (fun _ => create_check h1 n (Nat.le_trans hn (by unfold maxLen; omega)) b0 b1) _ (by rw [es]; exact hst0) (by rw [es]; exact hst1) ?_)
    intro hc0 u hu hbu
    have hv : validN n.data.toList = true := by
      unfold St.createC at hc0
      cases hva : validN n.data.toList with
      | true => rfl
      | false => rw [hva] at hc0; cases hc0
    have e1 := s.dir; have e2 := s.wait
    exact create_do hu n hn (validN_ne hv) (by show st.dir.length ≤ _; omega) (by show st.wait.length ≤ _; omega) (cell_but hbu (h.apart o0) b0) (cell_but hbu (h.apart o1) b1)
  clear b0 b1 h1
  go_enter Try.func12, Try.ntmps12
  go_wp2_with (go_at_call 25; refine C.out.mono ?_; rintro e w' ⟨own', rfl, d, g⟩)
  go_ret
  exact ⟨own', rfl, d, (grow_new own hB (Nat.le_refl _)).trans g⟩
set_option maxRecDepth 100000 in
set_option maxHeartbeats 1000000 in
/-- Append. -/
theorem append_any {base p : Nat} {own : Own} {st : St} {w : World} (h : DiskAt base own p st w) (s : Sane st) (n : ByteArray) (x : ByteArray) (hn : n.size ≤ 140737488355328) (hx : x.size ≤ 70368744177664) :
    Calls Try.prog 13 #[at0 p, .string n, .string x] w (Did base own p (st.append n.data.toList x.data.toList) (.int .i64 (st.appendE n.data.toList x.data.toList)) w) := by
  have hB : Below w.heap.size w (World.alloc (World.alloc (World.alloc w (.cells #[at0 p] 26)) (.cells #[.string n] 9)) (.cells #[.string x] 9)) := ((((Below.refl _ w).alloc (Nat.le_refl _) _).alloc (by simp) _).alloc (by simp; omega) _)
  have b0 : ((World.alloc w (.cells #[at0 p] 26))).cell? ⟨w.heap.size, 0, none⟩ = some (at0 p) := by
    have := box_new w (at0 p) 26
    try simp only [World.size_alloc] at this
    exact this
  have b0 : ((World.alloc (World.alloc w (.cells #[at0 p] 26)) (.cells #[.string n] 9))).cell? ⟨w.heap.size, 0, none⟩ = some (at0 p) := (World.cell?_alloc_lt _ _ _ (by simp; try omega)).trans b0
  have b0 : ((World.alloc (World.alloc (World.alloc w (.cells #[at0 p] 26)) (.cells #[.string n] 9)) (.cells #[.string x] 9))).cell? ⟨w.heap.size, 0, none⟩ = some (at0 p) := (World.cell?_alloc_lt _ _ _ (by simp; try omega)).trans b0
  have b1 : ((World.alloc (World.alloc w (.cells #[at0 p] 26)) (.cells #[.string n] 9))).cell? ⟨w.heap.size + 1, 0, none⟩ = some (.string n) := by
    have := box_new (World.alloc w (.cells #[at0 p] 26)) (.string n) 9
    try simp only [World.size_alloc] at this
    exact this
  have b1 : ((World.alloc (World.alloc (World.alloc w (.cells #[at0 p] 26)) (.cells #[.string n] 9)) (.cells #[.string x] 9))).cell? ⟨w.heap.size + 1, 0, none⟩ = some (.string n) := (World.cell?_alloc_lt _ _ _ (by simp; try omega)).trans b1
  have b2 : ((World.alloc (World.alloc (World.alloc w (.cells #[at0 p] 26)) (.cells #[.string n] 9)) (.cells #[.string x] 9))).cell? ⟨w.heap.size + 1 + 1, 0, none⟩ = some (.string x) := by
    have := box_new (World.alloc (World.alloc w (.cells #[at0 p] 26)) (.cells #[.string n] 9)) (.string x) 9
    try simp only [World.size_alloc] at this
    exact this
  have h1 := h.below hB
  have o0 := free_new h (b := w.heap.size) (by omega)
  have o1 := free_new h (b := w.heap.size + 1) (by omega)
  have o2 := free_new h (b := w.heap.size + 1 + 1) (by omega)
  have C : Hid (Calls Try.prog 25 #[at0 p, .func (.func 30) #[] #[at0 w.heap.size, at0 (w.heap.size + 1), at0 (w.heap.size + 1 + 1)], .func (.func 31) #[] #[at0 w.heap.size, at0 (w.heap.size + 1), at0 (w.heap.size + 1 + 1)]] (World.alloc (World.alloc (World.alloc w (.cells #[at0 p] 26)) (.cells #[.string n] 9)) (.cells #[.string x] 9)) (Did base own p (st.stepS (st.appendC n.data.toList x.data.toList) (St.appendF n.data.toList x.data.toList)) (.int .i64 (st.stepE (st.appendC n.data.toList x.data.toList))) (World.alloc (World.alloc (World.alloc w (.cells #[at0 p] 26)) (.cells #[.string n] 9)) (.cells #[.string x] 9)))) := by
    have hst0 := s.steps0; have hst1 := s.steps1
    have es : (St.appendF n.data.toList x.data.toList st.fused).steps = st.steps := appendF_steps _ _ _
    refine Lib.hid (step_any h1 s.fuse0 s.fuse1 _ _ (enters _ _ _ Try.func30 (by kernel_rfl) rfl) (enters _ _ _ Try.func31 (by kernel_rfl) rfl) _ _ _ (fun _ => append_check h1 n x (Nat.le_trans hn (by unfold maxLen; omega)) (by omega) s.used0 (by have := s.used1; omega) b0 b1 b2) _ (by rw [es]; exact hst0) (by rw [es]; exact hst1) ?_)
    intro hc0 u hu hbu
    obtain ⟨i, hl⟩ := look_of_append hc0
    have e1 := s.size i; have e2 := s.used1
    exact append_do (i := i) hu n x (Nat.le_trans hn (by unfold maxLen; omega)) hl (by show (fileOf st.files i).data.length + _ ≤ _; omega) s.used0 (by show st.used ≤ _; omega) (cell_but hbu (h.apart o0) b0) (cell_but hbu (h.apart o1) b1) (cell_but hbu (h.apart o2) b2) o0 o2
  clear b0 b1 b2 h1
  go_enter Try.func13, Try.ntmps13
  go_wp2_with (go_at_call 25; refine C.out.mono ?_; rintro e w' ⟨own', rfl, d, g⟩)
  go_ret
  exact ⟨own', rfl, d, (grow_new own hB (Nat.le_refl _)).trans g⟩
set_option maxRecDepth 100000 in
set_option maxHeartbeats 1000000 in
/-- Sync. -/
theorem sync_any {base p : Nat} {own : Own} {st : St} {w : World} (h : DiskAt base own p st w) (s : Sane st) (n : ByteArray) (hn : n.size ≤ 140737488355328) :
    Calls Try.prog 14 #[at0 p, .string n] w (Did base own p (st.sync n.data.toList) (.int .i64 (st.syncE n.data.toList)) w) := by
  have hB : Below w.heap.size w (World.alloc (World.alloc w (.cells #[at0 p] 26)) (.cells #[.string n] 9)) := (((Below.refl _ w).alloc (Nat.le_refl _) _).alloc (by simp) _)
  have b0 : ((World.alloc w (.cells #[at0 p] 26))).cell? ⟨w.heap.size, 0, none⟩ = some (at0 p) := by
    have := box_new w (at0 p) 26
    try simp only [World.size_alloc] at this
    exact this
  have b0 : ((World.alloc (World.alloc w (.cells #[at0 p] 26)) (.cells #[.string n] 9))).cell? ⟨w.heap.size, 0, none⟩ = some (at0 p) := (World.cell?_alloc_lt _ _ _ (by simp; try omega)).trans b0
  have b1 : ((World.alloc (World.alloc w (.cells #[at0 p] 26)) (.cells #[.string n] 9))).cell? ⟨w.heap.size + 1, 0, none⟩ = some (.string n) := by
    have := box_new (World.alloc w (.cells #[at0 p] 26)) (.string n) 9
    try simp only [World.size_alloc] at this
    exact this
  have h1 := h.below hB
  have o0 := free_new h (b := w.heap.size) (by omega)
  have o1 := free_new h (b := w.heap.size + 1) (by omega)
  have C : Hid (Calls Try.prog 25 #[at0 p, .func (.func 32) #[] #[at0 w.heap.size, at0 (w.heap.size + 1)], .func (.func 34) #[] #[at0 w.heap.size, at0 (w.heap.size + 1)]] (World.alloc (World.alloc w (.cells #[at0 p] 26)) (.cells #[.string n] 9)) (Did base own p (st.stepS (st.hasC n.data.toList) (St.syncF n.data.toList)) (.int .i64 (st.stepE (st.hasC n.data.toList))) (World.alloc (World.alloc w (.cells #[at0 p] 26)) (.cells #[.string n] 9)))) := by
    have hst0 := s.steps0; have hst1 := s.steps1
    have es : (St.syncF n.data.toList st.fused).steps = st.steps := syncF_steps _ _
    refine Lib.hid (step_any h1 s.fuse0 s.fuse1 _ _ (enters _ _ _ Try.func32 (by kernel_rfl) rfl) (enters _ _ _ Try.func34 (by kernel_rfl) rfl) _ _ _ (fun _ => sync_check h1 n (Nat.le_trans hn (by unfold maxLen; omega)) b0 b1) _ (by rw [es]; exact hst0) (by rw [es]; exact hst1) ?_)
    intro hc0 u hu hbu
    obtain ⟨i, hl⟩ := look_of_has hc0
    exact sync_do (i := i) hu n (Nat.le_trans hn (by unfold maxLen; omega)) hl (cell_but hbu (h.apart o0) b0) (cell_but hbu (h.apart o1) b1)
  clear b0 b1 h1
  go_enter Try.func14, Try.ntmps14
  go_wp2_with (go_at_call 25; refine C.out.mono ?_; rintro e w' ⟨own', rfl, d, g⟩)
  go_ret
  exact ⟨own', rfl, d, (grow_new own hB (Nat.le_refl _)).trans g⟩
set_option maxRecDepth 100000 in
set_option maxHeartbeats 1000000 in
/-- Remove. -/
theorem remove_any {base p : Nat} {own : Own} {st : St} {w : World} (h : DiskAt base own p st w) (s : Sane st) (n : ByteArray) (hn : n.size ≤ 140737488355328) :
    Calls Try.prog 24 #[at0 p, .string n] w (Did base own p (st.remove n.data.toList) (.int .i64 (st.removeE n.data.toList)) w) := by
  have hB : Below w.heap.size w (World.alloc (World.alloc w (.cells #[at0 p] 26)) (.cells #[.string n] 9)) := (((Below.refl _ w).alloc (Nat.le_refl _) _).alloc (by simp) _)
  have b0 : ((World.alloc w (.cells #[at0 p] 26))).cell? ⟨w.heap.size, 0, none⟩ = some (at0 p) := by
    have := box_new w (at0 p) 26
    try simp only [World.size_alloc] at this
    exact this
  have b0 : ((World.alloc (World.alloc w (.cells #[at0 p] 26)) (.cells #[.string n] 9))).cell? ⟨w.heap.size, 0, none⟩ = some (at0 p) := (World.cell?_alloc_lt _ _ _ (by simp; try omega)).trans b0
  have b1 : ((World.alloc (World.alloc w (.cells #[at0 p] 26)) (.cells #[.string n] 9))).cell? ⟨w.heap.size + 1, 0, none⟩ = some (.string n) := by
    have := box_new (World.alloc w (.cells #[at0 p] 26)) (.string n) 9
    try simp only [World.size_alloc] at this
    exact this
  have h1 := h.below hB
  have o0 := free_new h (b := w.heap.size) (by omega)
  have o1 := free_new h (b := w.heap.size + 1) (by omega)
  have C : Hid (Calls Try.prog 25 #[at0 p, .func (.func 54) #[] #[at0 w.heap.size, at0 (w.heap.size + 1)], .func (.func 55) #[] #[at0 w.heap.size, at0 (w.heap.size + 1)]] (World.alloc (World.alloc w (.cells #[at0 p] 26)) (.cells #[.string n] 9)) (Did base own p (st.stepS (st.hasC n.data.toList) (St.removeF n.data.toList)) (.int .i64 (st.stepE (st.hasC n.data.toList))) (World.alloc (World.alloc w (.cells #[at0 p] 26)) (.cells #[.string n] 9)))) := by
    have hst0 := s.steps0; have hst1 := s.steps1
    have es : (St.removeF n.data.toList st.fused).steps = st.steps := rfl
    refine Lib.hid (step_any h1 s.fuse0 s.fuse1 _ _ (enters _ _ _ Try.func54 (by kernel_rfl) rfl) (enters _ _ _ Try.func55 (by kernel_rfl) rfl) _ _ _ (fun _ => remove_check h1 n (Nat.le_trans hn (by unfold maxLen; omega)) b0 b1) _ (by rw [es]; exact hst0) (by rw [es]; exact hst1) ?_)
    intro hc0 u hu hbu
    have e0 := s.sizeAt (st.dir.look n.data.toList); have e1 := s.dir; have e2 := s.wait; have e3 := s.used0; have e4 := s.used1
    exact remove_do hu n hn (by show _ ≤ st.used - st.sizeAt (st.dir.look n.data.toList); omega) (by show st.used - st.sizeAt (st.dir.look n.data.toList) ≤ _; omega) (by show st.dir.length ≤ _; omega) (by show st.wait.length ≤ _; omega) (cell_but hbu (h.apart o0) b0) (cell_but hbu (h.apart o1) b1) o0 o1
  clear b0 b1 h1
  go_enter Try.func24, Try.ntmps24
  go_wp2_with (go_at_call 25; refine C.out.mono ?_; rintro e w' ⟨own', rfl, d, g⟩)
  go_ret
  exact ⟨own', rfl, d, (grow_new own hB (Nat.le_refl _)).trans g⟩
set_option maxRecDepth 100000 in
set_option maxHeartbeats 1000000 in
/-- Rename. -/
theorem rename_any {base p : Nat} {own : Own} {st : St} {w : World} (h : DiskAt base own p st w) (s : Sane st) (n : ByteArray) (m : ByteArray) (hn : n.size ≤ 140737488355328) (hm : m.size ≤ 140737488355328) :
    Calls Try.prog 19 #[at0 p, .string n, .string m] w (Did base own p (st.rename n.data.toList m.data.toList) (.int .i64 (st.renameE n.data.toList m.data.toList)) w) := by
  have hB : Below w.heap.size w (World.alloc (World.alloc (World.alloc w (.cells #[at0 p] 26)) (.cells #[.string n] 9)) (.cells #[.string m] 9)) := ((((Below.refl _ w).alloc (Nat.le_refl _) _).alloc (by simp) _).alloc (by simp; omega) _)
  have b0 : ((World.alloc w (.cells #[at0 p] 26))).cell? ⟨w.heap.size, 0, none⟩ = some (at0 p) := by
    have := box_new w (at0 p) 26
    try simp only [World.size_alloc] at this
    exact this
  have b0 : ((World.alloc (World.alloc w (.cells #[at0 p] 26)) (.cells #[.string n] 9))).cell? ⟨w.heap.size, 0, none⟩ = some (at0 p) := (World.cell?_alloc_lt _ _ _ (by simp; try omega)).trans b0
  have b0 : ((World.alloc (World.alloc (World.alloc w (.cells #[at0 p] 26)) (.cells #[.string n] 9)) (.cells #[.string m] 9))).cell? ⟨w.heap.size, 0, none⟩ = some (at0 p) := (World.cell?_alloc_lt _ _ _ (by simp; try omega)).trans b0
  have b1 : ((World.alloc (World.alloc w (.cells #[at0 p] 26)) (.cells #[.string n] 9))).cell? ⟨w.heap.size + 1, 0, none⟩ = some (.string n) := by
    have := box_new (World.alloc w (.cells #[at0 p] 26)) (.string n) 9
    try simp only [World.size_alloc] at this
    exact this
  have b1 : ((World.alloc (World.alloc (World.alloc w (.cells #[at0 p] 26)) (.cells #[.string n] 9)) (.cells #[.string m] 9))).cell? ⟨w.heap.size + 1, 0, none⟩ = some (.string n) := (World.cell?_alloc_lt _ _ _ (by simp; try omega)).trans b1
  have b2 : ((World.alloc (World.alloc (World.alloc w (.cells #[at0 p] 26)) (.cells #[.string n] 9)) (.cells #[.string m] 9))).cell? ⟨w.heap.size + 1 + 1, 0, none⟩ = some (.string m) := by
    have := box_new (World.alloc (World.alloc w (.cells #[at0 p] 26)) (.cells #[.string n] 9)) (.string m) 9
    try simp only [World.size_alloc] at this
    exact this
  have h1 := h.below hB
  have o0 := free_new h (b := w.heap.size) (by omega)
  have o1 := free_new h (b := w.heap.size + 1) (by omega)
  have o2 := free_new h (b := w.heap.size + 1 + 1) (by omega)
  have C : Hid (Calls Try.prog 25 #[at0 p, .func (.func 45) #[] #[at0 w.heap.size, at0 (w.heap.size + 1), at0 (w.heap.size + 1 + 1)], .func (.func 46) #[] #[at0 (w.heap.size + 1 + 1), at0 (w.heap.size + 1), at0 w.heap.size]] (World.alloc (World.alloc (World.alloc w (.cells #[at0 p] 26)) (.cells #[.string n] 9)) (.cells #[.string m] 9)) (Did base own p (st.stepS (st.renameC n.data.toList m.data.toList) (St.renameF n.data.toList m.data.toList)) (.int .i64 (st.stepE (st.renameC n.data.toList m.data.toList))) (World.alloc (World.alloc (World.alloc w (.cells #[at0 p] 26)) (.cells #[.string n] 9)) (.cells #[.string m] 9)))) := by
    have hst0 := s.steps0; have hst1 := s.steps1
    have es : (St.renameF n.data.toList m.data.toList st.fused).steps = st.steps := rfl
    refine Lib.hid (step_any h1 s.fuse0 s.fuse1 _ _ (enters _ _ _ Try.func45 (by kernel_rfl) rfl) (enters _ _ _ Try.func46 (by kernel_rfl) rfl) _ _ _ (fun _ => rename_check h1 n m (Nat.le_trans hn (by unfold maxLen; omega)) (Nat.le_trans hm (by unfold maxLen; omega)) b0 b1 b2) _ (by rw [es]; exact hst0) (by rw [es]; exact hst1) ?_)
    intro hc0 u hu hbu
    obtain ⟨⟨i, hl⟩, hv⟩ := look_of_rename hc0
    have e0 := s.sizeAt (st.dir.look m.data.toList); have e1 := s.dir; have e2 := s.wait; have e3 := s.used0; have e4 := s.used1
    exact rename_do (i := i) hu n m hn hm hl (validN_ne hv) (by show st.dir.length ≤ _; omega) (by show st.wait.length ≤ _; omega) (by show _ ≤ st.used - st.sizeAt (st.dir.look m.data.toList); omega) (by show st.used - st.sizeAt (st.dir.look m.data.toList) ≤ _; omega) (cell_but hbu (h.apart o0) b0) (cell_but hbu (h.apart o1) b1) (cell_but hbu (h.apart o2) b2) o0 o1 o2
  clear b0 b1 b2 h1
  go_enter Try.func19, Try.ntmps19
  go_wp2_with (go_at_call 25; refine C.out.mono ?_; rintro e w' ⟨own', rfl, d, g⟩)
  go_ret
  exact ⟨own', rfl, d, (grow_new own hB (Nat.le_refl _)).trans g⟩
set_option maxRecDepth 100000 in
set_option maxHeartbeats 1000000 in
/-- SyncDir. -/
theorem syncDir_any {base p : Nat} {own : Own} {st : St} {w : World} (h : DiskAt base own p st w) (s : Sane st) :
    Calls Try.prog 15 #[at0 p] w (Did base own p (st.syncDir) (.int .i64 (st.syncDirE)) w) := by
  have hB : Below w.heap.size w (World.alloc w (.cells #[at0 p] 26)) := ((Below.refl _ w).alloc (Nat.le_refl _) _)
  have b0 : ((World.alloc w (.cells #[at0 p] 26))).cell? ⟨w.heap.size, 0, none⟩ = some (at0 p) := by
    have := box_new w (at0 p) 26
    try simp only [World.size_alloc] at this
    exact this
  have h1 := h.below hB
  have o0 := free_new h (b := w.heap.size) (by omega)
  have C : Hid (Calls Try.prog 25 #[at0 p, .func (.func 35) #[] #[], .func (.func 36) #[] #[at0 w.heap.size]] (World.alloc w (.cells #[at0 p] 26)) (Did base own p (st.stepS (0) (St.syncDirF)) (.int .i64 (st.stepE (0))) (World.alloc w (.cells #[at0 p] 26)))) := by
    have hst0 := s.steps0; have hst1 := s.steps1
    have es : (St.syncDirF st.fused).steps = st.steps := rfl
    refine Lib.hid (step_any h1 s.fuse0 s.fuse1 _ _ (enters _ _ _ Try.func35 (by kernel_rfl) rfl) (enters _ _ _ Try.func36 (by kernel_rfl) rfl) _ _ _ (fun _ => syncDir_check _) _ (by rw [es]; exact hst0) (by rw [es]; exact hst1) ?_)
    intro hc0 u hu hbu
    exact syncDir_do hu s.sound (by show st.kept.length + st.wait.length ≤ _; exact s.wait) (cell_but hbu (h.apart o0) b0)
  clear b0 h1
  go_enter Try.func15, Try.ntmps15
  go_wp2_with (go_at_call 25; refine C.out.mono ?_; rintro e w' ⟨own', rfl, d, g⟩)
  go_ret
  exact ⟨own', rfl, d, (grow_new own hB (Nat.le_refl _)).trans g⟩
set_option maxRecDepth 100000 in
set_option maxHeartbeats 1000000 in
theorem fuse_any {base p : Nat} {own : Own} {st : St} {w : World} (h : DiskAt base own p st w) (n : Int) : Calls Try.prog 22 #[at0 p, .int .i64 n] w (Did base own p (st.fuseS n) (.tuple #[]) w) := by
  have R := ready_any h
  have c6 := h.fuse
  have f6 := h.frozen 6
  unfold St.fuseS
  cases hd : st.down
  · rw [hd] at R
    have hs : Hid (∀ z : Int, z = max n 0 → Did base own p { st with fuse := max n 0 } (.tuple #[]) w (.returned (.tuple #[])) (w.setCell ⟨p, 6, none⟩ (.int .i64 z))) := Lib.hid fun z hz => by
      subst hz
      exact ⟨own, rfl, by have := h.put (st' := { st with fuse := max n 0 }) 6 (.int .i64 (max n 0)) rfl rfl rfl rfl (fun _ _ _ => rfl); exact this, h.grow_put 6 _⟩
    rw [if_neg (by simp)]
    go_enter Try.func22, Try.ntmps22
    go_wp2_with (go_at_call 53; ((with_reducible refine R.mono ?_); rintro e w' ⟨rfl, rfl⟩))
    go_end0
    have H := hs.out _ rfl
    rw [hd] at H
    exact H
  · rw [hd] at R
    rw [if_pos rfl]
    have H : Hid (Did base own p st (.tuple #[]) w (.returned (.tuple #[])) w) := Lib.hid ⟨own, rfl, h, Grow.refl own w⟩
    go_enter Try.func22, Try.ntmps22
    go_wp2_with (go_at_call 53; ((with_reducible refine R.mono ?_); rintro e w' ⟨rfl, rfl⟩))
    go_end0
    exact H.out

def St.fresh (room : Int) : St := ⟨room, 0, [], 0, [], [], 0, false, []⟩
/-- What New hands back: a disk in new memory, that has no names. -/
def Made (base : Nat) (room : Int) (w : World) (e : Ending) (w' : World) : Prop := ∃ own p, e = .returned (.tuple #[at0 p, .int .i64 0]) ∧ DiskAt base own p (St.fresh room) w' ∧ Below w.heap.size w w' ∧ ∀ k, k < w.heap.size → own k = none
theorem fresh_at {base : Nat} {w : World} (hb : base ≤ w.heap.size) (room : Int) :
    ∃ own, DiskAt base own (w.heap.size + 1 + 1) (St.fresh room) (((w.alloc (.map #[] 0)).alloc (.map #[] 0)).alloc (.cells (diskCells (St.fresh room) w.heap.size (w.heap.size + 1) (.slice none 0 0)) 52)) ∧ ∀ k, k < w.heap.size → own k = none := by
  have m1 : (((w.alloc (.map #[] 0)).alloc (.map #[] 0)).alloc (.cells (diskCells (St.fresh room) w.heap.size (w.heap.size + 1) (.slice none 0 0)) 52)).heap = ((w.heap.push (.map #[] 0)).push (.map #[] 0)).push (.cells (diskCells (St.fresh room) w.heap.size (w.heap.size + 1) (.slice none 0 0)) 52) := rfl
  obtain ⟨own, ho⟩ : ∃ own : Own, own = fun k => if k = w.heap.size then some .names else if k = w.heap.size + 1 then some .kept else if k = w.heap.size + 1 + 1 then some .disk else none := ⟨_, rfl⟩
  have n0 : own w.heap.size = some .names := by rw [ho]; simp
  have n1 : own (w.heap.size + 1) = some .kept := by rw [ho]; simp
  have n2 : own (w.heap.size + 1 + 1) = some .disk := by rw [ho]; simp only; rw [if_neg (by omega), if_neg (by omega), if_pos trivial]
  have new : ∀ b r, own b = some r → (b = w.heap.size ∧ r = .names) ∨ (b = w.heap.size + 1 ∧ r = .kept) ∨ (b = w.heap.size + 1 + 1 ∧ r = .disk) := by
    intro b r hb
    rw [ho] at hb
    simp only at hb
    split at hb
    · rename_i e; cases hb; exact .inl ⟨e, rfl⟩
    · split at hb
      · rename_i e; cases hb; exact .inr (.inl ⟨e, rfl⟩)
      · split at hb
        · rename_i e; cases hb; exact .inr (.inr ⟨e, rfl⟩)
        · cases hb
  refine ⟨own, ⟨?_, ?_, ?_, ⟨w.heap.size, w.heap.size + 1, .slice none 0 0, n2, n0, n1, ?_, ?_, ?_, ?_⟩, ?_⟩, ?_⟩
  · intro b hbn
    rw [m1]
    simp only [Array.size_push]
    cases e : own b with
    | none => exact absurd e hbn
    | some r => rcases new b r e with ⟨h, _⟩ | ⟨h, _⟩ | ⟨h, _⟩ <;> omega
  · intro a b r ha hb2
    rcases new a r ha with ⟨h, h2⟩ | ⟨h, h2⟩ | ⟨h, h2⟩ <;> rcases new b r hb2 with ⟨k, k2⟩ | ⟨k, k2⟩ | ⟨k, k2⟩ <;> first | omega | (rw [h2] at k2; cases k2)
  · intro b i hbi
    rcases new b _ hbi with ⟨_, h2⟩ | ⟨_, h2⟩ | ⟨_, h2⟩ <;> cases h2
  · have e := heap_alloc_new ((w.alloc (.map #[] 0)).alloc (.map #[] 0)) (.cells (diskCells (St.fresh room) w.heap.size (w.heap.size + 1) (.slice none 0 0)) 52)
    simp only [World.size_alloc] at e
    exact e
  · exact ((World.ownsMap_made w Try.prog 9 (idOf own)).alloc _).alloc _
  · have e := (World.ownsMap_made (w.alloc (.map #[] 0)) Try.prog 9 (idOf own)).alloc (.cells (diskCells (St.fresh room) w.heap.size (w.heap.size + 1) (.slice none 0 0)) 52)
    simp only [World.size_alloc] at e
    exact e
  · exact ⟨[], World.ownsRow_nil _ _ _ _, rfl, fun g hg => by cases hg⟩
  · intro b i hbi
    rcases new b _ hbi with ⟨_, h2⟩ | ⟨_, h2⟩ | ⟨_, h2⟩ <;> cases h2
  · intro k hk
    rw [ho]
    simp only
    rw [if_neg (by omega), if_neg (by omega), if_neg (by omega)]
set_option maxRecDepth 100000 in
set_option maxHeartbeats 1000000 in
theorem new_any {base : Nat} (room : Int) (h0 : 0 ≤ room) (h1 : room ≤ 268435456) (w : World) (hb : base ≤ w.heap.size) : Calls Try.prog 10 #[.int .i64 room] w (Made base room w) := by
  obtain ⟨own, hd, hf⟩ := fresh_at hb room
  have d := Lib.hid hd
  have f := Lib.hid hf
  clear hd hf hb
  have hmm := @run_makeMap Try.prog
  go_enter Try.func10, Try.ntmps10
  go_wp2
  go_ret2
  exact ⟨own, _, rfl, d.out, (((Below.refl _ w).alloc (Nat.le_refl _) _).alloc (by simp) _).alloc (by simp; omega) _, f.out⟩
end Go.Proofs.Ytheealfappjabaa
