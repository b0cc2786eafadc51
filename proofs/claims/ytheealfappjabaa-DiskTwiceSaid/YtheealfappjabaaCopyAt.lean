/-
  A copy of a disk, put together: what lies in memory. No condition.
-/
import Derived.Test.YtheealfappjabaaCloneChg
namespace Go.Proofs.Ytheealfappjabaa
open Go Go.RowKit Go.Maps
def onlyF : Option Role → Option Role
  | some (.file i) => some (.file i)
  | some (.data i) => some (.data i)
  | _ => none
def copyOwn (o2 : Own) (q nm km : Nat) (pv : Value) : Own := fun k =>
  if k = q then some .disk else if k = nm then some .names else if k = km then some .kept else if pv.ownBlock = some k then some .wait else onlyF (o2 k)
theorem onlyF_file {o : Option Role} {i : Nat} : onlyF o = some (.file i) ↔ o = some (.file i) := by
  unfold onlyF
  split <;> simp_all
theorem onlyF_data {o : Option Role} {i : Nat} : onlyF o = some (.data i) ↔ o = some (.data i) := by
  unfold onlyF
  split <;> simp_all
theorem onlyF_way {o : Option Role} {r : Role} (h : onlyF o = some r) : o = some r ∧ ((∃ i, r = .file i) ∨ ∃ i, r = .data i) := by
  unfold onlyF at h
  split at h
  · cases h; exact ⟨rfl, .inl ⟨_, rfl⟩⟩
  · cases h; exact ⟨rfl, .inr ⟨_, rfl⟩⟩
  · cases h
theorem copy_at {base p : Nat} {own o2 : Own} {st : St} {B mb : Nat} {L : List (Nat × Nat)} {W : World} (h : Twins base own o2 st B mb L W) (hd : DiskAt base own p st W) {q nm km : Nat} {pv : Value} {xs : List Value}
    (hn : MapAt o2 nm st.dir W) (hk : MapAt o2 km st.kept W) (hq : W.heap[q]? = some (.cells (diskCells st nm km pv) 52 (0, 0)))
    (hr : W.ownsRow 0 72 3 pv st.wait.length xs) (hxs : RowsAre o2 st.wait xs)
    (f1 : q ≠ nm) (f2 : q ≠ km) (f3 : nm ≠ km) (f4 : ∀ g, pv.ownBlock = some g → g ≠ q ∧ g ≠ nm ∧ g ≠ km ∧ o2 g = none ∧ own g = none ∧ base ≤ g)
    (f5 : o2 q = none ∧ o2 nm = none ∧ o2 km = none) (f6 : own q = none ∧ own nm = none ∧ own km = none) (f7 : base ≤ q ∧ base ≤ nm ∧ base ≤ km) :
    DiskAt base (copyOwn o2 q nm km pv) q st W ∧ Apart own (copyOwn o2 q nm km pv) := by
  have hg : ∀ g, pv.ownBlock = some g → g < W.heap.size := fun g e => (World.ownsRow.lt hr g e).2
  have lq := (Array.getElem?_eq_some_iff.1 hq).1
  have ln := World.ownsMap.lt hn
  have lk := World.ownsMap.lt hk
  have oq : copyOwn o2 q nm km pv q = some .disk := by simp [copyOwn]
  have on : copyOwn o2 q nm km pv nm = some .names := by simp [copyOwn, Ne.symm f1]
  have ok : copyOwn o2 q nm km pv km = some .kept := by simp [copyOwn, Ne.symm f2, Ne.symm f3]
  have og : ∀ g, pv.ownBlock = some g → copyOwn o2 q nm km pv g = some .wait := fun g e => by
    obtain ⟨a, b, c, _⟩ := f4 g e
    simp [copyOwn, a, b, c, e]
  have way : ∀ k r, copyOwn o2 q nm km pv k = some r → (k = q ∧ r = .disk) ∨ (k = nm ∧ r = .names) ∨ (k = km ∧ r = .kept) ∨ (pv.ownBlock = some k ∧ r = .wait) ∨ (o2 k = some r ∧ ((∃ i, r = .file i) ∨ ∃ i, r = .data i)) := fun k r e => by
    unfold copyOwn at e
    split at e
    · rename_i h; cases e; exact .inl ⟨h, rfl⟩
    · split at e
      · rename_i h; cases e; exact .inr (.inl ⟨h, rfl⟩)
      · split at e
        · rename_i h; cases e; exact .inr (.inr (.inl ⟨h, rfl⟩))
        · split at e
          · rename_i h; cases e; exact .inr (.inr (.inr (.inl ⟨h, rfl⟩)))
          · exact .inr (.inr (.inr (.inr (onlyF_way e))))
  have back : ∀ k, o2 k ≠ none → copyOwn o2 q nm km pv k = onlyF (o2 k) := fun k hk => by
    have q1 : k ≠ q := fun e => hk (by rw [e]; exact f5.1)
    have q2 : k ≠ nm := fun e => hk (by rw [e]; exact f5.2.1)
    have q3 : k ≠ km := fun e => hk (by rw [e]; exact f5.2.2)
    have q4 : ¬ pv.ownBlock = some k := fun e => hk (f4 k e).2.2.2.1
    unfold copyOwn
    rw [if_neg q1, if_neg q2, if_neg q3, if_neg q4]
  have more : More o2 (copyOwn o2 q nm km pv) := fun b i hb => by
    rw [back b (by simp [hb]), hb]; rfl
  have moreD : ∀ g i, o2 g = some (.data i) → copyOwn o2 q nm km pv g = some (.data i) := fun g i hb => by
    rw [back g (by simp [hb]), hb]; rfl
  refine ⟨⟨?_, ?_, ?_, ⟨nm, km, pv, oq, on, ok, hq, map_keep hn more rfl, map_keep hk more rfl, ⟨xs, hr, hxs.more more, og⟩⟩, ?_⟩, ?_⟩
  · intro k hk'
    obtain ⟨r, hr'⟩ := Option.ne_none_iff_exists'.1 hk'
    rcases way k r hr' with ⟨rfl, _⟩ | ⟨rfl, _⟩ | ⟨rfl, _⟩ | ⟨e, _⟩ | ⟨e, _⟩
    · exact ⟨f7.1, lq⟩
    · exact ⟨f7.2.1, ln⟩
    · exact ⟨f7.2.2, lk⟩
    · exact ⟨(f4 k e).2.2.2.2.2, hg k e⟩
    · exact h.lo k (by simp [e])
  · intro a b r ha hb
    rcases way a r ha with ⟨e1, e1'⟩ | ⟨e1, e1'⟩ | ⟨e1, e1'⟩ | ⟨e1, e1'⟩ | ⟨e1, e1'⟩ <;> rcases way b r hb with ⟨e2, e2'⟩ | ⟨e2, e2'⟩ | ⟨e2, e2'⟩ | ⟨e2, e2'⟩ | ⟨e2, e2'⟩
    all_goals first
      | (exact e1.trans e2.symm)
      | (exact Option.some.inj (e1.symm.trans e2))
      | (exact h.inj _ _ _ e1 e2)
      | (exfalso; rw [e1'] at e2'; cases e2'; done)
      | (exfalso; rcases e2' with ⟨i, e2'⟩ | ⟨i, e2'⟩ <;> (rw [e1'] at e2'; cases e2'))
      | (exfalso; rcases e1' with ⟨i, e1'⟩ | ⟨i, e1'⟩ <;> (rw [e2'] at e1'; cases e1'))
  · intro b i hb
    rcases way b _ hb with ⟨_, e⟩ | ⟨_, e⟩ | ⟨_, e⟩ | ⟨_, e⟩ | ⟨e, _⟩
    · cases e
    · cases e
    · cases e
    · cases e
    · obtain ⟨b', hm⟩ := h.all b i e
      obtain ⟨j, q1, q2⟩ := h.pairs _ hm
      simp only at q1 q2
      rw [e] at q2
      cases q2
      exact hd.few _ _ q1
  · intro b i hb
    rcases way b _ hb with ⟨_, e⟩ | ⟨_, e⟩ | ⟨_, e⟩ | ⟨_, e⟩ | ⟨e, _⟩
    · cases e
    · cases e
    · cases e
    · cases e
    · exact file_keep (h.files b i e) rfl fun g hgj => ⟨rfl, moreD g i hgj⟩
  · intro k
    by_cases e : own k = none
    · exact .inl e
    · refine .inr ?_
      cases hc : copyOwn o2 q nm km pv k with
      | none => rfl
      | some r =>
        exfalso
        rcases way k r hc with ⟨rfl, _⟩ | ⟨rfl, _⟩ | ⟨rfl, _⟩ | ⟨e', _⟩ | ⟨e', _⟩
        · exact e f6.1
        · exact e f6.2.1
        · exact e f6.2.2
        · exact e (f4 k e').2.2.2.2.1
        · exact e ((h.apart k).resolve_right (by simp [e']))
end Go.Proofs.Ytheealfappjabaa
