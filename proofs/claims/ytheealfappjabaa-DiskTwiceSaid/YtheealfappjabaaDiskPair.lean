/-
  Two disks in memory that share no block; what a fuse makes of a script (mathematics). No condition.
-/
import Derived.Test.YtheealfappjabaaDiskSame2
namespace Go.Proofs.Ytheealfappjabaa
open Go.RowKit Go.Maps
def Pair (base p q : Nat) (k k' : Int) (s t : St) (w : World) : Prop := ∃ o1 o2, Live base o1 p k s w ∧ Live base o2 q k' t w ∧ Apart o1 o2
theorem Pair.symm {base p q : Nat} {k k' : Int} {s t : St} {w : World} (h : Pair base p q k k' s t w) : Pair base q p k' k t s w := by
  obtain ⟨o1, o2, h1, h2, h3⟩ := h
  exact ⟨o2, o1, h2, h1, h3.symm⟩
theorem Pair.below {base p q : Nat} {k k' : Int} {s t : St} {w w' : World} (h : Pair base p q k k' s t w) (hb : Below w.heap.size w w') : Pair base p q k k' s t w' := by
  obtain ⟨o1, o2, h1, h2, h3⟩ := h
  exact ⟨o1, o2, h1.keep (h1.at'.below hb), h2.keep (h2.at'.below hb), h3⟩
theorem Pair.more {base p q : Nat} {k k' j j' : Int} {s t : St} {w : World} (h : Pair base p q k k' s t w) (hk : k ≤ j) (hk' : k' ≤ j') : Pair base p q j j' s t w := by
  obtain ⟨o1, o2, h1, h2, h3⟩ := h
  exact ⟨o1, o2, h1.more hk, h2.more hk', h3⟩
/-- What a call on the first leaves. -/
def PDid (base p q : Nat) (k k' : Int) (s t : St) (r : Value) (w : World) (e : Ending) (w' : World) : Prop := e = .returned r ∧ Pair base p q k k' s t w' ∧ Below base w w'
theorem Pair.first {base p q : Nat} {k k' j : Int} {s s' t : St} {w : World} (h : Pair base p q k k' s t w) (hb : base ≤ w.heap.size) {f : FuncId} {args : Array Value} {r : Value} (C : ∀ o1, Live base o1 p k s w → Calls Try.prog f args w (LDid base o1 p j s' r w)) :
    Calls Try.prog f args w (PDid base p q j k' s' t r w) := by
  obtain ⟨o1, o2, h1, h2, h3⟩ := h
  refine (C o1 h1).mono fun e w' hL => ?_
  obtain ⟨o1', he, l, g⟩ := hL
  exact ⟨he, ⟨o1', o2, l, h2.keep (h2.at'.other h3 g), h3.grow h2.at' g⟩, g.below h1.at' hb⟩
theorem Pair.second {base p q : Nat} {k k' j : Int} {s t t' : St} {w : World} (h : Pair base p q k k' s t w) (hb : base ≤ w.heap.size) {f : FuncId} {args : Array Value} {r : Value} (C : ∀ o1, Live base o1 q k' t w → Calls Try.prog f args w (LDid base o1 q j t' r w)) :
    Calls Try.prog f args w (PDid base p q k j s t' r w) :=
  (h.symm.first hb C).mono fun _ _ ⟨he, hp, hb⟩ => ⟨he, hp.symm, hb⟩
theorem pair_new {base p : Nat} {own : Own} {k : Int} {s : St} {w : World} (l : Live base own p k s w) (hb : base ≤ w.heap.size) :
    Calls Try.prog 10 #[.int .i64 268435456] w fun e w' => ∃ q, e = .returned (.tuple #[at0 q, .int .i64 0]) ∧ Pair base p q k 0 s (St.fresh 268435456) w' ∧ Below base w w' :=
  (live_new 268435456 (by decide) (by decide) w hb).mono fun _ _ ⟨o2, q, he, l2, b, f⟩ =>
    ⟨q, he, ⟨own, o2, l.keep (l.at'.below b), l2, fun i => by
      by_cases hi : i < w.heap.size
      · exact .inr (f i hi)
      · refine .inl ?_
        cases e : own i with
        | none => rfl
        | some r => exact absurd (l.at'.lt (b := i) (by simp [e])) hi⟩, b.mono hb⟩
theorem pair_same {base p q : Nat} {k k' : Int} {s t : St} {w : World} (h : Pair base p q k k' s t w) (T : Alike s t) :
    Calls Try.prog 21 #[at0 p, at0 q] w fun e w' => e = .returned (.bool true) ∧ Below w.heap.size w w' := by
  obtain ⟨o1, o2, h1, h2, _⟩ := h
  exact same_any h1.at' h2.at' h1.wf.gdir h2.wf.gdir T
theorem Pair.steps {base p q : Nat} {k k' : Int} {s t : St} {w : World} (h : Pair base p q k k' s t w) : Calls Try.prog 23 #[at0 p] w fun e w' => e = .returned (.int .i64 s.steps) ∧ w = w' := by
  obtain ⟨_, _, h1, _⟩ := h
  exact steps_any h1.at'
theorem Pair.isDown {base p q : Nat} {k k' : Int} {s t : St} {w : World} (h : Pair base p q k k' s t w) : Calls Try.prog 18 #[at0 p] w fun e w' => e = .returned (.bool s.down) ∧ w = w' := by
  obtain ⟨_, _, h1, _⟩ := h
  exact down_any h1.at'
/-- s is what a disk with a fuse of n is where t is it without. -/
def Fused (n : Int) (s t : St) : Prop := t.fuse = 0 ∧ t.down = false ∧ ((t.steps < n ∧ s = { t with fuse := n - t.steps }) ∨ (n ≤ t.steps ∧ s.down = true ∧ s.steps = n - 1))
structure Plain (f : St → St) : Prop where
  with' : ∀ s k, f { s with fuse := k } = { f s with fuse := k }
  steps : ∀ s, (f s).steps = s.steps
  down : ∀ s, (f s).down = s.down
  fuse : ∀ s, (f s).fuse = s.fuse
theorem plain_create (n : NameS) : Plain (St.createF n) := ⟨fun _ _ => rfl, fun _ => rfl, fun _ => rfl, fun _ => rfl⟩
theorem plain_append (n x : NameS) : Plain (St.appendF n x) := ⟨fun s _ => by unfold St.appendF; simp only; split <;> rfl, fun s => by unfold St.appendF; split <;> rfl, fun s => by unfold St.appendF; split <;> rfl, fun s => by unfold St.appendF; split <;> rfl⟩
theorem plain_sync (n : NameS) : Plain (St.syncF n) := ⟨fun s _ => by unfold St.syncF; simp only; split <;> rfl, fun s => by unfold St.syncF; split <;> rfl, fun s => by unfold St.syncF; split <;> rfl, fun s => by unfold St.syncF; split <;> rfl⟩
theorem plain_dir : Plain St.syncDirF := ⟨fun _ _ => rfl, fun _ => rfl, fun _ => rfl, fun _ => rfl⟩
theorem plain_rename (n m : NameS) : Plain (St.renameF n m) := ⟨fun s k => by
    have e : ∀ o, St.sizeAt { s with fuse := k } o = St.sizeAt s o := fun o => by cases o <;> rfl
    unfold St.renameF; simp only [e]; rfl, fun _ => rfl, fun _ => rfl, fun _ => rfl⟩
theorem plain_remove (n : NameS) : Plain (St.removeF n) := ⟨fun s k => by
    have e : ∀ o, St.sizeAt { s with fuse := k } o = St.sizeAt s o := fun o => by cases o <;> rfl
    unfold St.removeF; simp only [e]; rfl, fun _ => rfl, fun _ => rfl, fun _ => rfl⟩
theorem step_more (t : St) (c : Int) (f : St → St) (hf : Plain f) (h1 : t.fuse = 0) (h2 : t.down = false) : (t.stepS c f).fuse = 0 ∧ (t.stepS c f).down = false ∧ t.steps ≤ (t.stepS c f).steps := by
  by_cases hc : c = 0
  · rw [(step_plain h2 h1 hc).1]
    refine ⟨by show (f t).fuse = 0; rw [hf.fuse, h1], by show (f t).down = false; rw [hf.down, h2], ?_⟩
    show t.steps ≤ (f t).steps + 1
    rw [hf.steps]; omega
  · unfold St.stepS
    rw [if_neg (by rw [h2]; simp), if_pos hc]
    exact ⟨h1, h2, Int.le_refl _⟩
theorem fused_step {n : Int} {t : St} (c : Int) (f : St → St) (hf : Plain f) (h1 : t.fuse = 0) (h2 : t.down = false) (h3 : t.steps < n) : Fused n (St.stepS { t with fuse := n - t.steps } c f) (t.stepS c f) := by
  by_cases hc : c = 0
  · rw [(step_plain h2 h1 hc).1]
    refine ⟨by show (f t).fuse = 0; rw [hf.fuse, h1], by show (f t).down = false; rw [hf.down, h2], ?_⟩
    unfold St.stepS
    rw [if_neg (by show ¬ t.down = true; rw [h2]; simp), if_neg (by simpa using hc)]
    by_cases h1' : n - t.steps = 1
    · rw [if_pos h1']
      refine .inr ⟨?_, rfl, ?_⟩
      · show n ≤ (f t).steps + 1
        rw [hf.steps]; omega
      · show t.steps = n - 1
        omega
    · rw [if_neg h1']
      refine .inl ⟨?_, ?_⟩
      · show (f t).steps + 1 < n
        rw [hf.steps]; omega
      · have e : St.fused { t with fuse := n - t.steps } = { t with fuse := n - t.steps - 1 } := by
          unfold St.fused
          simp only
          rw [if_neg (by omega)]
        rw [e, hf.with']
        simp only [hf.steps]
        congr 1
        omega
  · unfold St.stepS
    rw [if_neg (by show ¬ t.down = true; rw [h2]; simp), if_pos hc, if_neg (by rw [h2]; simp), if_pos hc]
    exact ⟨h1, h2, .inl ⟨h3, rfl⟩⟩
theorem fused_dead {n : Int} {s t : St} (c c' : Int) (f f' : St → St) (hf : Plain f') (h1 : t.fuse = 0) (h2 : t.down = false) (h3 : n ≤ t.steps) (h4 : s.down = true) (h5 : s.steps = n - 1) : Fused n (s.stepS c f) (t.stepS c' f') := by
  obtain ⟨g1, g2, g3⟩ := step_more t c' f' hf h1 h2
  have e : s.stepS c f = s := by unfold St.stepS; rw [if_pos h4]
  rw [e]
  exact ⟨g1, g2, .inr ⟨by omega, h4, h5⟩⟩
theorem Fused.does {n : Int} {s t : St} (h : Fused n s t) (x : OpV) (m : NameS) (h7 : x.d ≠ 7) : Fused n (doesS s x m) (doesS t x m) := by
  have h0 := h
  obtain ⟨h1, h2, ⟨h3, rfl⟩ | ⟨h3, h4, h5⟩⟩ := h
  · unfold doesS
    split
    · exact h0
    · split
      · exact fused_step _ _ (plain_create _) h1 h2 h3
      · split
        · exact fused_step _ _ (plain_append _ _) h1 h2 h3
        · split
          · exact fused_step _ _ (plain_sync _) h1 h2 h3
          · split
            · exact fused_step _ _ plain_dir h1 h2 h3
            · split
              · exact fused_step _ _ (plain_rename _ _) h1 h2 h3
              · split
                · exact fused_step _ _ (plain_remove _) h1 h2 h3
                · exact h0
  · unfold doesS
    split
    · exact h0
    · split
      · exact fused_dead _ _ _ _ (plain_create _) h1 h2 h3 h4 h5
      · split
        · exact fused_dead _ _ _ _ (plain_append _ _) h1 h2 h3 h4 h5
        · split
          · exact fused_dead _ _ _ _ (plain_sync _) h1 h2 h3 h4 h5
          · split
            · exact fused_dead _ _ _ _ plain_dir h1 h2 h3 h4 h5
            · split
              · exact fused_dead _ _ _ _ (plain_rename _ _) h1 h2 h3 h4 h5
              · split
                · exact fused_dead _ _ _ _ (plain_remove _) h1 h2 h3 h4 h5
                · exact h0
theorem fused_new {n : Int} (h1 : 1 ≤ n) : Fused n ((St.fresh 268435456).fuseS n) (St.fresh 268435456) := by
  refine ⟨rfl, rfl, .inl ⟨by show (0 : Int) < n; omega, ?_⟩⟩
  unfold St.fuseS
  rw [if_neg (by decide)]
  have : max n 0 = n - (St.fresh 268435456).steps := by show max n 0 = n - 0; omega
  rw [this]
theorem Fused.early {n : Int} {s t : St} (h : Fused n s t) (hn : t.steps < n) : s.steps = t.steps ∧ s.down = false ∧ Alike s t := by
  obtain ⟨h1, h2, ⟨h3, rfl⟩ | ⟨h3, h4, h5⟩⟩ := h
  · exact ⟨rfl, h2, ⟨rfl, rfl, rfl, fun _ => ⟨rfl, rfl⟩⟩⟩
  · omega
theorem Fused.late {n : Int} {s t : St} (h : Fused n s t) (hn : ¬ t.steps < n) : s.steps = n - 1 ∧ s.down = true := by
  obtain ⟨h1, h2, ⟨h3, _⟩ | ⟨h3, h4, h5⟩⟩ := h
  · exact absurd h3 hn
  · exact ⟨h5, h4⟩
end Go.Proofs.Ytheealfappjabaa
