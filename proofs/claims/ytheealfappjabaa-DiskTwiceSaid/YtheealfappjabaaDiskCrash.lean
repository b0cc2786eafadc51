/-
  The contract of a crash. Condition of the disk: the bounds of 'Sane', and no file is surer than it is long.
-/
import Derived.Test.YtheealfappjabaaDiskKeep
namespace Go.Proofs.Ytheealfappjabaa
open Go.RowKit Go.Maps Go.WideMaps
attribute [local go_sem] make_func eq_file ne_file ne_disk ne_map
/-- Of each file: its bounds. -/
def FilesFit (fs : List FileS) : Prop := ∀ i, (fileOf fs i).sure ≤ (fileOf fs i).data.length ∧ (fileOf fs i).data.length ≤ 268435456
theorem fileOf_set (fs : List FileS) (i j : Nat) (f : FileS) : fileOf (fs.set i f) j = if i = j ∧ j < fs.length then f else fileOf fs j := by
  unfold fileOf
  by_cases h : i = j
  · subst h
    by_cases hl : i < fs.length
    · simp [hl]
    · simp [hl, List.set_eq_of_length_le (Nat.le_of_not_lt hl)]
  · simp [h, List.getElem?_set_ne h]
theorem crashOne_fit {x : St × List Int} (e : NameS × Nat) (h : FilesFit x.1.files) : FilesFit (St.crashOne x e).1.files := by
  unfold St.crashOne
  split
  · intro j
    have hp := pick_le x.2 ((fileOf x.1.files e.2).data.length - (fileOf x.1.files e.2).sure)
    show (fileOf (x.1.files.set e.2 _) j).sure ≤ _ ∧ _
    have hj := h j
    have he := h e.2
    show (fileOf (x.1.files.set e.2 _) j).sure ≤ (fileOf (x.1.files.set e.2 _) j).data.length ∧ (fileOf (x.1.files.set e.2 _) j).data.length ≤ _
    rw [fileOf_set]
    split
    · simp only [List.length_take]; omega
    · exact hj
  · exact h
theorem crashOne_same (x : St × List Int) (e : NameS × Nat) : (St.crashOne x e).1.dir = x.1.dir ∧ (St.crashOne x e).1.kept = x.1.kept ∧ (St.crashOne x e).1.wait = x.1.wait ∧ (St.crashOne x e).1.steps = x.1.steps ∧ (St.crashOne x e).1.room = x.1.room := by
  unfold St.crashOne
  split <;> exact ⟨rfl, rfl, rfl, rfl, rfl⟩
theorem crashOne_used {x : St × List Int} (e : NameS × Nat) (h : FilesFit x.1.files) : x.1.used ≤ (St.crashOne x e).1.used ∧ (St.crashOne x e).1.used ≤ x.1.used + 268435456 := by
  have he := h e.2
  have hp := pick_le x.2 ((fileOf x.1.files e.2).data.length - (fileOf x.1.files e.2).sure)
  unfold St.crashOne
  split
  · simp only; omega
  · simp only; omega
theorem crash_fold : ∀ (l : Dir) (x : St × List Int), FilesFit x.1.files → FilesFit (l.foldl St.crashOne x).1.files ∧ (l.foldl St.crashOne x).1.dir = x.1.dir ∧ (l.foldl St.crashOne x).1.kept = x.1.kept ∧ (l.foldl St.crashOne x).1.wait = x.1.wait ∧ (l.foldl St.crashOne x).1.steps = x.1.steps ∧ (l.foldl St.crashOne x).1.room = x.1.room ∧ x.1.used ≤ (l.foldl St.crashOne x).1.used ∧ (l.foldl St.crashOne x).1.used ≤ x.1.used + 268435456 * l.length
  | [], x, h => ⟨h, rfl, rfl, rfl, rfl, rfl, Int.le_refl _, by simp⟩
  | e :: r, x, h => by
    obtain ⟨h1, h2, h3, h4, h5, h6, h7, h8⟩ := crash_fold r (St.crashOne x e) (crashOne_fit e h)
    obtain ⟨k2, k3, k4, k5, k6⟩ := crashOne_same x e
    obtain ⟨u1, u2⟩ := crashOne_used e h
    refine ⟨h1, h2.trans k2, h3.trans k3, h4.trans k4, h5.trans k5, h6.trans k6, ?_, ?_⟩
    · show x.1.used ≤ (r.foldl St.crashOne (St.crashOne x e)).1.used; omega
    · show (r.foldl St.crashOne (St.crashOne x e)).1.used ≤ _; simp only [List.length_cons]; omega
theorem look_mem {d : Dir} (hp : d.Pairwise fun x y => bytesBefore x.1 y.1 = true) {n : NameS} {i : Nat} (h : (n, i) ∈ d) : d.look n = some i := by
  induction d with
  | nil => cases h
  | cons e r ih =>
    obtain ⟨h1, h2⟩ := List.pairwise_cons.1 hp
    unfold Dir.look
    rcases List.mem_cons.1 h with e1 | e1
    · subst e1; simp
    · have hne : (e.1 == n) = false := by
        rw [beq_eq_false_iff_ne]
        intro e2
        have := h1 _ e1
        simp only at this
        rw [e2, WideAt.bytes_irrefl] at this
        cases this
      rw [List.find?_cons, hne]
      exact ih h2 e1
/-- A crash, so far: behind the first j names. -/
def Crashing (base cb B p : Nat) (own0 : Own) (x : St × List Int) (w0 wr : World) : Prop := ∃ own', DiskAt base own' p x.1 wr ∧ Chooses cb B x.2 wr ∧ Grow (plus own0 B) (plus own' B) w0 wr ∧ own' B = none ∧ (x.2 ≠ [] → own' cb = none)
end Go.Proofs.Ytheealfappjabaa
