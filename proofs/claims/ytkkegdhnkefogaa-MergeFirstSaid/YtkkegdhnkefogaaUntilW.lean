/-
  A loop over an iterator that would never end if the loop went on behind what it must stop at: what the iterator owes then, and the loop's rule, over the library's own steps; what a round leaves true may speak of the world. No condition.
-/
import Derived.Test.YtkkegdhnkefogaaKit
import Derived.RangeFuncNested
import Derived.RangeFuncBound
import Derived.RangeFuncCalls
import Derived.RangeFuncLeaves
import Derived.RangeFuncBox
namespace Go.Proofs.Ytkkegdhnkefogaa
set_option maxRecDepth 100000
open Go.RowKit
theorem grown_of_belowW {w w' : World} (h : Below w.heap.size w w') : w.grownBy w' none := ⟨h.os, h.tape, h.output, h.size, fun k hk _ => h.block k hk⟩
/-- What the iterator's value owes to a loop whose rounds, where they go on, keep what lay below B, and go on behind nothing but what G says. Ok: what it hands over next; S: what has come when it ends by itself. -/
def SeqUntilW {α : Type} (P : Program) (gf : Nat) (lb : Array Value) (encs : α → Array Value) (B : Nat) (Ok : List α → α → Prop) (G : List α → World → Prop) (S : List α → Prop) (w : World) : Prop :=
  ∀ (l : Nat) (J Jx : List α → World → Prop) (W : World), Below w.heap.size w W → (∀ s A C, J s A → Below A.heap.size A C → J s C) → (∀ s A C, Jx s A → Below A.heap.size A C → Jx s C) → (∀ pre A, J pre A → G pre A) →
    (∀ pre x A, J pre A → Ok pre x → YieldAt Fence.wide 4 P l (encs x) A fun e C => (e = .returned (.bool true) ∧ J (pre ++ [x]) C ∧ Below B A C) ∨ (e = .returned (.bool false) ∧ Jx (pre ++ [x]) C)) →
    J [] W → CallsIn Fence.wide 5 P gf (#[.func (.yield l) #[] #[]] ++ lb) W fun e C => (∃ v, e = .returned v) ∧ ((∃ xs, S xs ∧ J xs C) ∨ (∃ pre, Jx pre C))
variable {α : Type} {P : Program}
/-- The rule for 'for x := range f' over such an iterator. -/
theorem wpIn_range_untilW {g : Operand} {ps : Array Tmp} {assign body : Code} {Q : Exit → Act → World → Prop} {a : Act} {w : World}
    {gf : Nat} {lb : Array Value} (hg : a.eval g = .func (.func gf) #[] lb) (eg : ∀ args v, (callFunc gf args).run P v = .ok (.enter gf args) v)
    {encs : α → Array Value} {B : Nat} (hB : B ≤ w.heap.size) {Ok : List α → α → Prop} {G : List α → World → Prop} {S : List α → Prop} (hseq : SeqUntilW P gf lb encs B Ok G S w) (hps : ∀ x, (encs x).size = ps.size)
    (I : List α → World → Prop) (Ix : Code → List α → World → Prop) (hI : OwnFrom w.heap.size I) (hIx : ∀ c, OwnFrom w.heap.size (Ix c)) (hG : ∀ pre W, I pre W → G pre W) (h0 : I [] w)
    (Ax : α → Act → World → Prop) (hAx : ∀ x a', OwnFrom w.heap.size (fun (_ : Unit) W => Ax x a' W))
    (hassign : ∀ (l : Nat) (pre : List α) (x : α) (W : World) (K : Act → World → Prop), I pre W → (∀ a' W', KeepsFrom w.heap.size W W' → Below B W W' → I pre W' → Ax x a' W' → K a' W') →
      assign.wpIn (Fence.wide.inRound l) 4 P (Exit.then K (fun _ _ _ => False)) { tmps := (ps.zip (encs x)).foldl (fun t (p, v) => t.setIfInBounds p v) a.tmps, defers := [] } W)
    (hbody : ∀ (l : Nat) (pre : List α) (x : α) (a' : Act) (W : World), Ok pre x → I pre W → Ax x a' W → body.wpIn (Fence.wide.inRound l) 4 P (ownPostG w.heap.size (Below B) I Ix (pre ++ [x]) W) a' W)
    (hdone : ∀ (D : Nat) (xs : List α) (W : World), w.heap.size ≤ D → S xs → I xs W → W.heap[D]? = some (.deferred (some [])) → Q .normal { a with defers := { target := .collected D, args := #[] } :: a.defers } W)
    (hstop : ∀ (D : Nat) (c : Code) (pre : List α) (W : World), w.heap.size ≤ D → Ix c pre W → W.heap[D]? = some (.deferred (some [])) → c.wpIn Fence.wide 6 P Q { a with defers := { target := .collected D, args := #[] } :: a.defers } W) :
    (Code.rangeFunc g ps assign body).wpIn Fence.wide 6 P Q a w := by
  refine wpIn_rangeFunc fun fn hfn => ?_
  -- the loop's record in its states, and the two blocks that the statement lays
  obtain ⟨L, hL⟩ : ∃ L : LoopState → Option Code → Loop, L = fun st pe => { state := st, pending := pe, fn, tmps := a.tmps, params := ps, assign, body, defers := w.heap.size } := ⟨_, rfl⟩
  obtain ⟨W1, hW1⟩ : ∃ W1, W1 = (w.alloc (.deferred (some []))).alloc (.loop (L .ready none)) := ⟨_, rfl⟩
  let Held (st : LoopState) (pe : Option Code) (W : World) : Prop := W.heap[w.heap.size + 1]? = some (.loop (L st pe)) ∧ W.heap[w.heap.size]? = some (.deferred (some []))
  have hz1 : W1.heap.size = w.heap.size + 2 := by rw [hW1]; simp
  have hheld1 : Held .ready none W1 := by
    constructor
    · rw [hW1]; have := World.alloc_heap_new (w.alloc (.deferred (some []))) (.loop (L .ready none)); rwa [World.size_alloc] at this
    · rw [hW1]; exact (Below.heap_alloc _ _ _ (by simp)).trans (World.alloc_heap_new w _)
  have hI1 : I [] W1 := by rw [hW1]; exact hI.alloc _ (hI.alloc _ h0)
  have hb1 : Below w.heap.size w W1 := by rw [hW1]; exact ((Below.refl _ w).alloc (Nat.le_refl _) _).alloc (by simp) _
  have hheldB : ∀ {st pe A C}, Held st pe A → Below A.heap.size A C → Held st pe C := fun h hb =>
    ⟨(hb.block _ (Array.getElem?_eq_some_iff.1 h.1).1).trans h.1, (hb.block _ (Array.getElem?_eq_some_iff.1 h.2).1).trans h.2⟩
  have hIB : ∀ {s A C}, I s A → Below A.heap.size A C → I s C := fun h hb => hI _ _ _ none h (grown_of_belowW hb) (fun r e => by cases e)
  have hIxB : ∀ {c s A C}, Ix c s A → Below A.heap.size A C → Ix c s C := fun h hb => hIx _ _ _ _ none h (grown_of_belowW hb) (fun r e => by cases e)
  refine ⟨w.heap.size + 1, [{ target := .collected w.heap.size, args := #[] }], W1, { target := .fn (.func gf) lb, args := #[.func (.yield (w.heap.size + 1)) #[] #[]] }, W1, gf,
    #[.func (.yield (w.heap.size + 1)) #[] #[]] ++ lb, W1, ?_, ?_, fun _ _ => trivial, ?_, fun _ => by decide, ?_⟩
  · rw [hW1, hL]; exact run_enterLoop_outer _ _ _ _ _
  · simp only [resolve, hg]
    simp [go_sem]
  · simp [invoke, go_sem, eg]
  refine (hseq (w.heap.size + 1) (fun pre W => I pre W ∧ Held .ready none W) (fun pre W => ∃ c, Ix c pre W ∧ Held .done (some c) W) W1 hb1
    (fun s A C h hb => ⟨hIB h.1 hb, hheldB h.2 hb⟩) (fun s A C h hb => by obtain ⟨c, h1, h2⟩ := h; exact ⟨c, hIxB h1 hb, hheldB h2 hb⟩) (fun pre A h => hG pre A h.1) ?_ ⟨hI1, hheld1⟩).mono ?_
  · -- one round
    rintro pre x W0 ⟨hi0, hh0⟩ hok
    have hy := run_yield (P := P) (args := encs x) hh0.1 (by rw [hL]; exact hps x)
    rw [hL] at hy
    refine ⟨fn, _, assign, body, hy, roundIn_of_wpIn hfn (hassign _ pre x W0 _ hi0 fun a' W hk0 hb0 hi hax => ?_)⟩
    clear hy
    have hh : Held .ready none W := ⟨hk0.same _ _ (by omega) hh0.1 rfl, hk0.same _ _ (Nat.le_refl _) hh0.2 rfl⟩
    have hlt : w.heap.size + 1 < W.heap.size := (Array.getElem?_eq_some_iff.1 hh.1).1
    refine ⟨_, run_beginRound hh.1 (by rw [hL]), ?_⟩
    obtain ⟨V, hV⟩ : ∃ V, V = W.putObj (w.heap.size + 1) (.loop { L .ready none with state := .busy }) := ⟨_, rfl⟩
    have hbusy : V.heap[w.heap.size + 1]? = some (.loop { L .ready none with state := .busy }) := by rw [hV]; exact World.putObj_heap_same hlt
    have hdef : V.heap[w.heap.size]? = some (.deferred (some [])) := by rw [hV]; exact (World.putObj_heap_other (by omega)).trans hh.2
    have hbV : Below B W V := by rw [hV]; exact belowK_b hB _ _ _ _ (by omega) hh.1 rfl rfl
    have hiV : I pre V := by rw [hV]; exact hI.putObj _ hi (by omega) hh.1 rfl
    have haV : Ax x a' V := by rw [hV]; exact (hAx x a').putObj (s := ()) _ hax (by omega) hh.1 rfl
    rw [← hV]
    refine wpIn_mono (hbody _ pre x a' V hok hiV haV) ?_
    -- the round's end, whatever the jump
    have fin : ∀ (jump : Option Code) (C : World), KeepsFrom w.heap.size V C → ∃ C', (Instr.endRound (w.heap.size + 1) jump).run P C = .ok (.bool jump.isNone) C' ∧ Held (if jump.isNone then .ready else .done) jump C' ∧
        Below B C C' ∧ (∀ s, I s C → I s C') ∧ (∀ c s, Ix c s C → Ix c s C') := fun jump C hk => by
      have h3 := hk.same _ _ (by omega) hbusy rfl
      have hr := run_endRound (P := P) jump h3
      refine ⟨C.putObj (w.heap.size + 1) (.loop (L (if jump.isNone then .ready else .done) jump)), by rw [hL] at hr ⊢; exact hr, ⟨World.putObj_heap_same (Array.getElem?_eq_some_iff.1 h3).1, (World.putObj_heap_other (by omega)).trans (hk.same _ _ (Nat.le_refl _) hdef rfl)⟩, belowK_b hB _ _ _ _ (by omega) h3 rfl rfl, fun s hs => hI.putObj _ hs (by omega) h3 rfl, fun c s hs => (hIx c).putObj _ hs (by omega) h3 rfl⟩
    have left : ∀ (c : Code) (C : World), KeepsFrom w.heap.size V C ∧ Ix c (pre ++ [x]) C → ∃ v C', (Instr.endRound (w.heap.size + 1) (some c)).run P C = .ok v C' ∧
        ((Ending.returned v = .returned (.bool true) ∧ (I (pre ++ [x]) C' ∧ Held .ready none C') ∧ Below B W0 C') ∨ (Ending.returned v = .returned (.bool false) ∧ ∃ c, Ix c (pre ++ [x]) C' ∧ Held .done (some c) C')) := fun c C h => by
      obtain ⟨C', hr, hh', _, _, hx⟩ := fin (some c) C h.1
      exact ⟨_, C', hr, .inr ⟨rfl, c, hx c _ h.2, hh'⟩⟩
    rintro e a3 C hp
    cases e with
    | normal =>
      obtain ⟨C', hr, hh', hb, hx, _⟩ := fin none C hp.1
      exact ⟨_, C', hr, .inl ⟨rfl, ⟨hx _ hp.2.2, hh'⟩, hb0.trans (hbV.trans (hp.2.1.trans hb))⟩⟩
    | ret => exact left .ret C hp
    | exit id => exact left (.exit id) C hp
    | goto t => exact left (.goto t) C hp
    | panic ch => exact hp.elim
    | outgrown => exact hp.elim
  · -- behind the iterator
    rintro e C ⟨⟨v, rfl⟩, (⟨xs, hS, hi, hh⟩ | ⟨pre, c, hi, hh⟩)⟩
    · exact ⟨none, _, by have := run_endLoop (P := P) hh.1 (by rw [hL]; simp); rw [hL] at this; exact this, hdone _ xs _ (Nat.le_refl _) hS (hI.putObj _ hi (by omega) hh.1 rfl) ((World.putObj_heap_other (by omega)).trans hh.2)⟩
    · exact ⟨some c, _, by have := run_endLoop (P := P) hh.1 (by rw [hL]; simp); rw [hL] at this; exact this, hstop _ c pre _ (Nat.le_refl _) ((hIx c).putObj _ hi (by omega) hh.1 rfl) ((World.putObj_heap_other (by omega)).trans hh.2)⟩
end Go.Proofs.Ytkkegdhnkefogaa
