/-
  Any number of disks in memory that share no block; a crash behind a crash (mathematics). No condition.
-/
import Derived.Test.YtheealfappjabaaCopyWalk
import Derived.Test.YtheealfappjabaaDiskPair
namespace Go.Proofs.Ytheealfappjabaa
open Go.RowKit Go.Maps
/-- Disks that share no block: where each lies, how many steps it may have, what it is. -/
def Zoo (base : Nat) (l : List (Nat × Int × St)) (w : World) : Prop :=
  ∃ f : Nat → Own, (∀ i p k s, l[i]? = some (p, k, s) → Live base (f i) p k s w) ∧ ∀ i j, i < l.length → j < l.length → i ≠ j → Apart (f i) (f j)
theorem Zoo.below {base : Nat} {l : List (Nat × Int × St)} {w w' : World} (h : Zoo base l w) (hb : Below w.heap.size w w') : Zoo base l w' := by
  obtain ⟨f, h1, h2⟩ := h
  exact ⟨f, fun i p k s e => (h1 i p k s e).keep ((h1 i p k s e).at'.below hb), h2⟩
theorem Zoo.live {base : Nat} {l : List (Nat × Int × St)} {w : World} (h : Zoo base l w) {i p : Nat} {k : Int} {s : St} (hi : l[i]? = some (p, k, s)) : ∃ o, Live base o p k s w := by
  obtain ⟨f, h1, _⟩ := h
  exact ⟨_, h1 i p k s hi⟩
theorem Zoo.more {base : Nat} {l : List (Nat × Int × St)} {w : World} (h : Zoo base l w) {i p : Nat} {k k' : Int} {s : St} (hi : l[i]? = some (p, k, s)) (hk : k ≤ k') : Zoo base (l.set i (p, k', s)) w := by
  obtain ⟨f, h1, h2⟩ := h
  have hil := (List.getElem?_eq_some_iff.1 hi).1
  refine ⟨f, fun j p' k2 s' e => ?_, fun a b ha hb => h2 a b (by simpa using ha) (by simpa using hb)⟩
  by_cases hj : i = j
  · subst hj
    rw [List.getElem?_set_self hil] at e
    cases e
    exact (h1 i _ _ _ hi).more hk
  · rw [List.getElem?_set_ne hj] at e
    exact h1 j _ _ _ e
def ZDid (base : Nat) (l : List (Nat × Int × St)) (r : Value) (w : World) (e : Ending) (w' : World) : Prop := e = .returned r ∧ Zoo base l w' ∧ Below base w w'
theorem Zoo.act {base : Nat} {l : List (Nat × Int × St)} {w : World} (h : Zoo base l w) (hb : base ≤ w.heap.size) {i p : Nat} {k k' : Int} {s s' : St} (hi : l[i]? = some (p, k, s)) {f : FuncId} {args : Array Value} {r : Value}
    (C : ∀ o, Live base o p k s w → Calls Try.prog f args w (LDid base o p k' s' r w)) : Calls Try.prog f args w (ZDid base (l.set i (p, k', s')) r w) := by
  obtain ⟨o, h1, h2⟩ := h
  have hil := (List.getElem?_eq_some_iff.1 hi).1
  refine (C (o i) (h1 i p k s hi)).mono fun e w' hL => ?_
  obtain ⟨oi, he, lv, g⟩ := hL
  have ot : ∀ j p' k2 s2, j ≠ i → l[j]? = some (p', k2, s2) → Live base (o j) p' k2 s2 w' := fun j p' k2 s2 hj e => (h1 j _ _ _ e).keep ((h1 j _ _ _ e).at'.other (h2 i j hil (List.getElem?_eq_some_iff.1 e).1 (Ne.symm hj)) g)
  refine ⟨he, ⟨fun j => if j = i then oi else o j, fun j p' k2 s2 e => ?_, fun a b ha hb' hab => ?_⟩, g.below (h1 i p k s hi).at' hb⟩
  · by_cases hj : j = i
    · subst hj
      rw [List.getElem?_set_self hil] at e
      cases e
      simpa using lv
    · rw [List.getElem?_set_ne (Ne.symm hj)] at e
      simpa [hj] using ot j _ _ _ hj e
  · rw [List.length_set] at ha hb'
    have ap : ∀ j, j < l.length → j ≠ i → Apart oi (o j) := fun j hj hne => (h2 i j hil hj (Ne.symm hne)).grow (h1 j _ _ _ (List.getElem?_eq_getElem hj)).at' g
    by_cases h3 : a = i <;> by_cases h4 : b = i
    · omega
    · simpa [h3, h4] using ap b hb' h4
    · simpa [h3, h4] using (ap a ha h3).symm
    · simpa [h3, h4] using h2 a b ha hb' hab
theorem apart_new {base p : Nat} {own o2 : Own} {k : Int} {s : St} {w : World} (l : Live base own p k s w) (f : ∀ i, i < w.heap.size → o2 i = none) : Apart own o2 := fun i => by
  by_cases hi : i < w.heap.size
  · exact .inr (f i hi)
  · refine .inl ?_
    cases e : own i with
    | none => rfl
    | some r => exact absurd (l.at'.lt (b := i) (by simp [e])) hi
theorem Zoo.add {base : Nat} {l : List (Nat × Int × St)} {w w' : World} (h : Zoo base l w) {q : Nat} {k : Int} {s : St} {o : Own} (lv : Live base o q k s w') (hb : Below w.heap.size w w') (f : ∀ i, i < w.heap.size → o i = none) : Zoo base (l ++ [(q, k, s)]) w' := by
  obtain ⟨g, h1, h2⟩ := h
  refine ⟨fun j => if j = l.length then o else g j, fun j p' k2 s2 e => ?_, fun a b ha hb' hab => ?_⟩
  · by_cases hj : j = l.length
    · subst hj
      rw [List.getElem?_append_right (Nat.le_refl _)] at e
      simp only [Nat.sub_self, List.getElem?_cons_zero, Option.some.injEq, Prod.mk.injEq] at e
      obtain ⟨rfl, rfl, rfl⟩ := e
      simpa using lv
    · have hjl : j < l.length := by have := (List.getElem?_eq_some_iff.1 e).1; simp at this; omega
      rw [List.getElem?_append_left hjl] at e
      have := (h1 j _ _ _ e)
      simpa [hj] using this.keep (this.at'.below hb)
  · simp only [List.length_append, List.length_cons, List.length_nil] at ha hb'
    have ap : ∀ j, j < l.length → Apart (g j) o := fun j hj => apart_new (h1 j _ _ _ (List.getElem?_eq_getElem hj)) f
    by_cases h3 : a = l.length <;> by_cases h4 : b = l.length
    · omega
    · simpa [h3, h4] using (ap b (by omega)).symm
    · simpa [h3, h4] using ap a (by omega)
    · simpa [h3, h4] using h2 a b (by omega) (by omega) hab
theorem Zoo.nil (base : Nat) (w : World) : Zoo base [] w := ⟨fun _ _ => none, fun i p k s e => (by cases e), fun i j hi => (by cases hi)⟩
theorem zoo_new {base : Nat} {l : List (Nat × Int × St)} {w : World} (h : Zoo base l w) (hb : base ≤ w.heap.size) (room : Int) (h0 : 0 ≤ room) (h1 : room ≤ 268435456) :
    Calls Try.prog 10 #[.int .i64 room] w fun e w' => ∃ q, e = .returned (.tuple #[at0 q, .int .i64 0]) ∧ Zoo base (l ++ [(q, 0, St.fresh room)]) w' ∧ Below base w w' :=
  (live_new room h0 h1 w hb).mono fun _ _ ⟨_, q, he, l2, b, f⟩ => ⟨q, he, h.add l2 b f, b.mono hb⟩
theorem apart_out {base q : Nat} {o : Own} {k : Int} {s : St} {w w' : World} (l : Live base o q k s w') (h : ∀ i, o i ≠ none → w.heap.size ≤ i) : ∀ i, i < w.heap.size → o i = none := fun i hi => by
  have _ := l
  cases e : o i with
  | none => rfl
  | some r => exact absurd (h i (by simp [e])) (by omega)
/-- A copy of one of them. -/
theorem zoo_copy {base : Nat} {l : List (Nat × Int × St)} {w : World} (h : Zoo base l w) (hb : base ≤ w.heap.size) {i p : Nat} {k : Int} {s : St} (hi : l[i]? = some (p, k, s)) (hk : k ≤ 99999) :
    Calls Try.prog 20 #[at0 p] w fun e w' => ∃ q, e = .returned (at0 q) ∧ Zoo base (l ++ [(q, k, s)]) w' ∧ Below base w w' := by
  have h' := h
  obtain ⟨g, h1, h2⟩ := h
  have lv := h1 i p k s hi
  refine (copy_new lv hk hb).mono fun e w' hP => ?_
  obtain ⟨q, o2, he, l2, f2, b⟩ := hP
  exact ⟨q, he, h'.add l2 b f2, b.mono hb⟩
theorem zoo_same {base : Nat} {l : List (Nat × Int × St)} {w : World} (h : Zoo base l w) {i j p q : Nat} {k k' : Int} {s t : St} (hi : l[i]? = some (p, k, s)) (hj : l[j]? = some (q, k', t)) (T : Alike s t) :
    Calls Try.prog 21 #[at0 p, at0 q] w fun e w' => e = .returned (.bool true) ∧ Below w.heap.size w w' := by
  obtain ⟨o1, l1⟩ := h.live hi
  obtain ⟨o2, l2⟩ := h.live hj
  exact same_any l1.at' l2.at' l1.wf.gdir l2.wf.gdir T
theorem zoo_steps {base : Nat} {l : List (Nat × Int × St)} {w : World} (h : Zoo base l w) {i p : Nat} {k : Int} {s : St} (hi : l[i]? = some (p, k, s)) :
    Calls Try.prog 23 #[at0 p] w fun e w' => e = .returned (.int .i64 s.steps) ∧ w = w' := by
  obtain ⟨_, h1⟩ := h.live hi
  exact steps_any h1.at'
theorem zoo_down {base : Nat} {l : List (Nat × Int × St)} {w : World} (h : Zoo base l w) {i p : Nat} {k : Int} {s : St} (hi : l[i]? = some (p, k, s)) :
    Calls Try.prog 18 #[at0 p] w fun e w' => e = .returned (.bool s.down) ∧ w = w' := by
  obtain ⟨_, h1⟩ := h.live hi
  exact down_any h1.at'
theorem Alike.refl (s : St) : Alike s s := ⟨rfl, rfl, rfl, fun _ => ⟨rfl, rfl⟩⟩
theorem fold_sure : ∀ (l : Dir) (x : St × List Int), (∀ e ∈ l, (fileOf x.1.files e.2).sure = (fileOf x.1.files e.2).data.length) → (l.foldl St.crashOne x).1.files = x.1.files
  | [], _, _ => rfl
  | e :: r, x, h => by
    have h1 : (St.crashOne x e).1.files = x.1.files := by
      unfold St.crashOne
      rw [if_neg (by have := h e (by simp); omega)]
    rw [List.foldl_cons, fold_sure r _ (fun e' he => by rw [h1]; exact h e' (by simp [he])), h1]
/-- What a crash leaves: nothing waits, and all that a name has is sure. -/
structure Calm (s : St) : Prop where
  wait : s.wait = []
  dir : s.dir = s.kept
  sure : ∀ e ∈ s.dir, (fileOf s.files e.2).sure = (fileOf s.files e.2).data.length
  down : s.down = false
theorem calm_crash {st : St} (h : WF 0 st) (cs : List Int) : Calm (st.crash cs) := by
  have g := h.good _ (pick_le cs st.wait.length)
  obtain ⟨_, c2, c3, c4, _⟩ := crash_fold (keptAt st (pick cs st.wait.length)) (st.crashed cs, cs.tail) h.fit
  obtain ⟨_, u2⟩ := fold_used (keptAt st (pick cs st.wait.length)) (st.crashed cs, cs.tail) g.ids (fun e he => (g.ok e he).1) h.fit
  refine ⟨c4, ?_, fun e he => u2 e ?_, rfl⟩
  · show (((keptAt st (pick cs st.wait.length)).foldl St.crashOne (st.crashed cs, cs.tail)).1).dir = (((keptAt st (pick cs st.wait.length)).foldl St.crashOne (st.crashed cs, cs.tail)).1).kept
    rw [c2, c3]; rfl
  · have : e ∈ (((keptAt st (pick cs st.wait.length)).foldl St.crashOne (st.crashed cs, cs.tail)).1).dir := he
    rw [c2] at this
    exact this
theorem calm_again {s : St} (h : WF 0 s) (h0 : 0 ≤ s.steps) (c : Calm s) (cs : List Int) : Alike (s.crash cs) s := by
  have hk : keptAt s (pick cs s.wait.length) = s.dir := by
    rw [c.dir]
    unfold keptAt
    rw [c.wait]
    simp
  obtain ⟨_, c2, _⟩ := crash_fold (keptAt s (pick cs s.wait.length)) (s.crashed cs, cs.tail) h.fit
  have hf : (s.crash cs).files = s.files := by
    show (((keptAt s (pick cs s.wait.length)).foldl St.crashOne (s.crashed cs, cs.tail)).1).files = _
    rw [fold_sure]
    · rfl
    · rw [hk]; exact c.sure
  have hd : (s.crash cs).dir = s.dir := by
    show (((keptAt s (pick cs s.wait.length)).foldl St.crashOne (s.crashed cs, cs.tail)).1).dir = _
    rw [c2, ← hk]; rfl
  have hu : (s.crash cs).used = s.used := by rw [(h.crash h0 cs).used, h.used, hf, hd]
  have hdn : (s.crash cs).down = s.down := by rw [c.down]; rfl
  refine ⟨by rw [hd], hu, hdn, fun n => ⟨?_, ?_⟩⟩
  · unfold St.readS; rw [hdn, hd, hf]
  · unfold St.readE; rw [hdn, hd]
end Go.Proofs.Ytheealfappjabaa
