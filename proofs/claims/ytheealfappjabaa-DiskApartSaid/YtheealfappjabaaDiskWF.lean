/-
  What holds of a disk at all times: mathematics alone. No condition.
-/
import Derived.Test.YtheealfappjabaaDiskRead
namespace Go.Proofs.Ytheealfappjabaa
open Go.RowKit Go.Maps
def sumOf (fs : List FileS) (d : Dir) : Int := (d.map fun e => ((fileOf fs e.2).data.length : Int)).sum
structure Good (m : Nat) (d : Dir) : Prop where
  few : d.length ≤ 4096
  ids : (d.map (·.2)).Nodup
  ok : ∀ e ∈ d, e.2 < m ∧ validN e.1 = true
  rise : d.Pairwise fun x y => bytesBefore x.1 y.1 = true
structure WF (k : Int) (st : St) : Prop where
  room0 : 0 ≤ st.room
  room1 : st.room ≤ 268435456
  good : ∀ j, j ≤ st.wait.length → Good st.files.length (keptAt st j)
  dir : st.dir = keptAt st st.wait.length
  sound : ∀ c ∈ st.wait, Sound c
  fit : FilesFit st.files
  used : st.used = sumOf st.files st.dir
  fuse0 : 0 ≤ st.fuse
  fuse1 : st.fuse ≤ 9223372036854775807
  steps : (st.wait.length : Int) ≤ st.steps + k
theorem sum_ins (fs : List FileS) (x : NameS × Nat) : ∀ d : Dir, sumOf fs (Dir.ins x d) = (fileOf fs x.2).data.length + sumOf fs d
  | [] => by simp [sumOf, Dir.ins]
  | y :: r => by
    have ih := sum_ins fs x r
    unfold Dir.ins
    split
    · simp [sumOf]
    · simp only [sumOf, List.map_cons, List.sum_cons] at ih ⊢
      omega
theorem mem_ins (x : NameS × Nat) : ∀ (d : Dir) (e : NameS × Nat), e ∈ Dir.ins x d ↔ e = x ∨ e ∈ d
  | [], e => by simp [Dir.ins]
  | y :: r, e => by
    have ih := mem_ins x r e
    unfold Dir.ins
    split
    · simp
    · simp only [List.mem_cons, ih]
      constructor
      · rintro (h | h | h)
        · exact .inr (.inl h)
        · exact .inl h
        · exact .inr (.inr h)
      · rintro (h | h | h)
        · exact .inr (.inl h)
        · exact .inl h
        · exact .inr (.inr h)
theorem ids_ins (x : NameS × Nat) : ∀ d : Dir, ((Dir.ins x d).map (·.2)).Perm (x.2 :: d.map (·.2))
  | [] => List.Perm.refl _
  | y :: r => by
    unfold Dir.ins
    split
    · exact List.Perm.refl _
    · simp only [List.map_cons]
      exact ((ids_ins x r).cons _).trans (List.Perm.swap _ _ _)
theorem rise_ins (x : NameS × Nat) : ∀ d : Dir, d.Pairwise (fun a b => bytesBefore a.1 b.1 = true) → (∀ e ∈ d, e.1 ≠ x.1) → (Dir.ins x d).Pairwise fun a b => bytesBefore a.1 b.1 = true
  | [], _, _ => by simp [Dir.ins]
  | y :: r, h, hne => by
    obtain ⟨h1, h2⟩ := List.pairwise_cons.1 h
    unfold Dir.ins
    split
    · rename_i hb
      refine List.pairwise_cons.2 ⟨fun e he => ?_, h⟩
      rcases List.mem_cons.1 he with rfl | he
      · exact hb
      · exact WideShapes.bytes_trans _ _ _ hb (h1 e he)
    · rename_i hb
      have hyx : bytesBefore y.1 x.1 = true := by
        rcases WideAt.bytes_total y.1 x.1 (hne y (by simp)) with h' | h'
        · exact h'
        · exact absurd h' (by simpa using hb)
      refine List.pairwise_cons.2 ⟨fun e he => ?_, rise_ins x r h2 fun e he => hne e (by simp [he])⟩
      rcases (mem_ins x r e).1 he with rfl | he
      · exact hyx
      · exact h1 e he
theorem del_sub (d : Dir) (n : NameS) : (d.del n).Sublist d := List.filter_sublist
theorem mem_del {d : Dir} {n : NameS} {e : NameS × Nat} : e ∈ d.del n ↔ e ∈ d ∧ e.1 ≠ n := by simp [Dir.del]
theorem sum_del (fs : List FileS) (n : NameS) : ∀ d : Dir, d.Pairwise (fun a b => bytesBefore a.1 b.1 = true) → sumOf fs (d.del n) + (match d.look n with | some i => ((fileOf fs i).data.length : Int) | none => 0) = sumOf fs d
  | [], _ => by simp [sumOf, Dir.del, Dir.look]
  | y :: r, h => by
    obtain ⟨h1, h2⟩ := List.pairwise_cons.1 h
    have ih := sum_del fs n r h2
    by_cases hy : y.1 = n
    · have hnone : Dir.look r n = none := by
        cases hl : Dir.look r n with
        | none => rfl
        | some i =>
          have := h1 _ (look_some hl)
          simp only [hy, WideAt.bytes_irrefl] at this
          cases this
      have e1 : Dir.del (y :: r) n = Dir.del r n := by simp [Dir.del, hy]
      have e2 : Dir.look (y :: r) n = some y.2 := by simp [Dir.look, hy]
      rw [e1, e2]
      rw [hnone] at ih
      simp only [sumOf, List.map_cons, List.sum_cons] at ih ⊢
      omega
    · have e1 : Dir.del (y :: r) n = y :: Dir.del r n := by simp [Dir.del, hy]
      have e2 : Dir.look (y :: r) n = Dir.look r n := by simp [Dir.look, hy]
      rw [e1, e2]
      simp only [sumOf, List.map_cons, List.sum_cons] at ih ⊢
      omega
theorem look_del (d : Dir) (n m : NameS) : (d.del n).look m = if m = n then none else d.look m := by
  induction d with
  | nil => simp [Dir.del, Dir.look]
  | cons y r ih =>
    by_cases hy : y.1 = n
    · have e1 : Dir.del (y :: r) n = Dir.del r n := by simp [Dir.del, hy]
      rw [e1, ih]
      split
      · rfl
      · rename_i h
        have : (y.1 == m) = false := by rw [beq_eq_false_iff_ne]; intro e; exact h (by rw [← e, hy])
        simp [Dir.look, this]
    · have e1 : Dir.del (y :: r) n = y :: Dir.del r n := by simp [Dir.del, hy]
      rw [e1]
      by_cases hm : y.1 = m
      · have : m ≠ n := fun e => hy (by rw [hm, e])
        simp [Dir.look, hm, this]
      · have h1 : (y.1 == m) = false := by rw [beq_eq_false_iff_ne]; exact hm
        have e2 : Dir.look (y :: Dir.del r n) m = Dir.look (Dir.del r n) m := by simp [Dir.look, h1]
        have e3 : Dir.look (y :: r) m = Dir.look r m := by simp [Dir.look, h1]
        rw [e2, e3, ih]
theorem look_ins (x : NameS × Nat) (m : NameS) : ∀ d : Dir, (∀ e ∈ d, e.1 ≠ x.1) → (Dir.ins x d).look m = if m = x.1 then some x.2 else d.look m
  | [], _ => by
    by_cases h : m = x.1
    · simp [Dir.ins, Dir.look, h]
    · have : (x.1 == m) = false := by rw [beq_eq_false_iff_ne]; exact fun e => h e.symm
      simp [Dir.ins, Dir.look, h, this]
  | y :: r, hne => by
    have ih := look_ins x m r fun e he => hne e (by simp [he])
    unfold Dir.ins
    split
    · by_cases h : m = x.1
      · simp [Dir.look, h]
      · have : (x.1 == m) = false := by rw [beq_eq_false_iff_ne]; exact fun e => h e.symm
        simp [Dir.look, h, this]
    · by_cases hy : y.1 = m
      · have : m ≠ x.1 := fun e => hne y (by simp) (by rw [hy, e])
        simp [Dir.look, hy, this]
      · have h1 : (y.1 == m) = false := by rw [beq_eq_false_iff_ne]; exact hy
        have e2 : Dir.look (y :: Dir.ins x r) m = Dir.look (Dir.ins x r) m := by simp [Dir.look, h1]
        have e3 : Dir.look (y :: r) m = Dir.look r m := by simp [Dir.look, h1]
        rw [e2, e3, ih]
theorem look_put (d : Dir) (n m : NameS) (i : Nat) : (d.put n i).look m = if m = n then some i else d.look m := by
  unfold Dir.put
  rw [look_ins _ _ _ (fun e he => (mem_del.1 he).2), look_del]
  split <;> simp_all
theorem Good.del {m : Nat} {d : Dir} (h : Good m d) (n : NameS) : Good m (d.del n) :=
  ⟨Nat.le_trans (length_del d n) h.few, h.ids.sublist ((del_sub d n).map _), fun e he => h.ok e (mem_del.1 he).1, h.rise.sublist (del_sub d n)⟩
theorem Good.put {m : Nat} {d : Dir} (h : Good m d) {n : NameS} {i : Nat} (hl : (d.del n).length < 4096) (hi : i < m) (hv : validN n = true) (hni : ∀ e ∈ d, e.1 ≠ n → e.2 ≠ i) : Good m (d.put n i) := by
  unfold Dir.put
  refine ⟨by rw [length_ins]; omega, ?_, ?_, rise_ins _ _ (h.del n).rise fun e he => (mem_del.1 he).2⟩
  · rw [(ids_ins (n, i) (d.del n)).nodup_iff]
    refine List.nodup_cons.2 ⟨fun hm => ?_, (h.del n).ids⟩
    obtain ⟨e, he, e2⟩ := List.mem_map.1 hm
    exact hni e (mem_del.1 he).1 (mem_del.1 he).2 e2
  · intro e he
    rcases (mem_ins _ _ _).1 he with rfl | he
    · exact ⟨hi, hv⟩
    · exact h.ok e (mem_del.1 he).1
theorem Good.more {m m' : Nat} {d : Dir} (h : Good m d) (hm : m ≤ m') : Good m' d := ⟨h.few, h.ids, fun e he => ⟨Nat.lt_of_lt_of_le (h.ok e he).1 hm, (h.ok e he).2⟩, h.rise⟩
theorem id_inj : ∀ {d : Dir}, (d.map (·.2)).Nodup → ∀ {a b : NameS} {i : Nat}, (a, i) ∈ d → (b, i) ∈ d → a = b
  | [], _, _, _, _, h, _ => by cases h
  | y :: r, hn, a, b, i, ha, hb => by
    rw [List.map_cons, List.nodup_cons] at hn
    rcases List.mem_cons.1 ha with e1 | e1 <;> rcases List.mem_cons.1 hb with e2 | e2
    · rw [← e1] at e2; exact (congrArg Prod.fst e2).symm
    · exact absurd (List.mem_map.2 ⟨_, e2, by rw [← e1]⟩) hn.1
    · exact absurd (List.mem_map.2 ⟨_, e1, by rw [← e2]⟩) hn.1
    · exact id_inj hn.2 e1 e2
theorem sum_set (fs : List FileS) (i : Nat) (f : FileS) (hi : i < fs.length) : ∀ d : Dir, (d.map (·.2)).Nodup → sumOf (fs.set i f) d = sumOf fs d + (if i ∈ d.map (·.2) then (f.data.length : Int) - (fileOf fs i).data.length else 0)
  | [], _ => by simp [sumOf]
  | y :: r, hn => by
    rw [List.map_cons, List.nodup_cons] at hn
    have ih := sum_set fs i f hi r hn.2
    simp only [sumOf, List.map_cons, List.sum_cons] at ih ⊢
    rw [ih, fileOf_set]
    by_cases hy : i = y.2
    · subst hy
      rw [if_pos ⟨rfl, hi⟩, if_neg hn.1, if_pos (by simp)]
      omega
    · rw [if_neg (by simp [hy])]
      by_cases hr : i ∈ List.map (fun x => x.2) r
      · rw [if_pos hr, if_pos (by simp [hr])]; omega
      · rw [if_neg hr, if_neg (by simp [hy, hr])]; omega
theorem sum_nonneg (fs : List FileS) : ∀ d : Dir, 0 ≤ sumOf fs d
  | [] => by simp [sumOf]
  | y :: r => by have := sum_nonneg fs r; simp only [sumOf, List.map_cons, List.sum_cons] at this ⊢; omega
theorem sum_le {fs : List FileS} (h : FilesFit fs) : ∀ d : Dir, sumOf fs d ≤ 268435456 * d.length
  | [] => by simp [sumOf]
  | y :: r => by have := sum_le h r; have h2 := (h y.2).2; simp only [sumOf, List.map_cons, List.sum_cons, List.length_cons] at this ⊢; omega
theorem sum_mem (fs : List FileS) : ∀ (d : Dir) (e : NameS × Nat), e ∈ d → ((fileOf fs e.2).data.length : Int) ≤ sumOf fs d
  | y :: r, e, he => by
    have h0 := sum_nonneg fs r
    simp only [sumOf, List.map_cons, List.sum_cons] at h0 ⊢
    rcases List.mem_cons.1 he with rfl | he
    · omega
    · have := sum_mem fs r e he; simp only [sumOf] at this; omega
theorem WF.gdir {k : Int} {st : St} (h : WF k st) : Good st.files.length st.dir := by rw [h.dir]; exact h.good _ (Nat.le_refl _)
theorem WF.sane {k : Int} {st : St} (h : WF k st) (hk : k ≤ 1) (h0 : 0 ≤ st.steps) (hs : st.steps ≤ 100000) : Sane st := by
  have g := h.gdir
  have h1 := sum_le h.fit st.dir
  have h2 := sum_nonneg st.files st.dir
  have h3 := g.few
  have h4 := h.steps
  have h5 := (h.good 0 (Nat.zero_le _)).few
  have e0 : keptAt st 0 = st.kept := by simp [keptAt]
  rw [e0] at h5
  exact ⟨h3, by omega, h.sound, by rw [h.used]; exact h2, by rw [h.used]; omega, fun i => (h.fit i).2, h.fuse0, h.fuse1, h0, by omega⟩
end Go.Proofs.Ytheealfappjabaa
