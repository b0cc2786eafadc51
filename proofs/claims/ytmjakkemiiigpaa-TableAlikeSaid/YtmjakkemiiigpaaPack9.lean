/-
  The mathematics of Scan: what a range of a table's rows is, data block by data block, and of all rows. No condition.
-/
import Derived.Test.YtmjakkemiiigpaaPack8
import Derived.RangeFuncNested
import Derived.RangeFuncBound
import Derived.RangeFuncCalls
import Derived.RangeFuncLeaves
import Derived.RangeFuncBox
import Derived.Shelf.Abstract
import Derived.Shelf.RegionOpen
import Derived.WalkKit
import Derived.OwnWalkIn
import Derived.TacticsInMore
import Derived.LoopNIn
import Derived.LoopIn
import Derived.Maps.OwnIn
namespace Go.Proofs.Ytmjakkemiiigpaa
set_option maxRecDepth 100000
open Go.RowKit
/-- Is a key below the end? -/
def belB (tq k : ByteArray) : Bool := tq.toList == [] || Op.bytesLess k.toList tq.toList
/-- Is a row within? -/
def inR (frm tq : ByteArray) (x : Rw) : Bool := !(Op.bytesLess x.key.toList frm.toList) && belB tq x.key
/-- The rows that a scan comes to, data block by data block. -/
def scanP (frm tq : ByteArray) : List (Pt × List Rw) → List Rw
  | [] => []
  | x :: r => if belB tq x.1.en.fst = true then x.2.filter (inR frm tq) ++ scanP frm tq r else []
/-- Keys rise. -/
theorem key_le {x y : Rw} (h : ahd x y.key y.seq = true) : Op.bytesLess y.key.toList x.key.toList = false := by
  unfold ahd at h
  split at h
  · rename_i e
    rw [e, less_before]
    exact WideAt.bytes_irrefl _
  · rw [less_before]
    cases hx : bytesBefore y.key.toList x.key.toList with
    | false => rfl
    | true => have := WideShapes.bytes_trans _ _ _ h hx; rw [WideAt.bytes_irrefl] at this; cases this
theorem less_trans3 {a b c : List UInt8} (h1 : Op.bytesLess b a = false) (h2 : Op.bytesLess b c = true) : Op.bytesLess a c = true := by
  rcases Classical.em (a = b) with e | e
  · rw [e]; exact h2
  · rw [less_before] at h1 h2 ⊢
    rcases WideAt.bytes_total a b e with t | t
    · exact WideShapes.bytes_trans _ _ _ t h2
    · rw [t] at h1; cases h1
theorem sorted_keys {l : List Rw} (hs : SortedR l) {i j : Nat} {x y : Rw} (hij : i ≤ j) (hx : l[i]? = some x) (hy : l[j]? = some y) : Op.bytesLess y.key.toList x.key.toList = false := by
  rcases Nat.lt_or_eq_of_le hij with h | h
  · obtain ⟨h1, e1⟩ := List.getElem?_eq_some_iff.1 hx
    obtain ⟨h2, e2⟩ := List.getElem?_eq_some_iff.1 hy
    have := List.pairwise_iff_getElem.1 hs i j h1 h2 h
    rw [e1, e2] at this
    exact key_le this
  · subst h
    rw [hx] at hy; cases hy
    rw [less_before]; exact WideAt.bytes_irrefl _
/-- The data blocks' rows, one behind the other, are the rows. -/
theorem divs_cat {l : List Rw} {P : Nat → Nat → Bool} {pre : List (Nat × Nat)} (h : Divs l.length P pre) : ∀ i, i ≤ pre.length → (pre.take i).flatMap (chunk l) = l.take (tot (pre.take i))
  | 0, _ => by simp [tot]
  | i + 1, hi => by
    have hx : pre[i]? = some pre[i] := List.getElem?_eq_getElem (by omega)
    obtain ⟨h1, _, _⟩ := h i _ hx
    have e : pre.take (i + 1) = pre.take i ++ [pre[i]] := by rw [List.take_add_one, hx]; rfl
    rw [e, List.flatMap_append, divs_cat h i (by omega), tot_snoc, List.take_add]
    simp [chunk, h1]
/-- A row of a data block, among all rows. -/
theorem chunk_in {l : List Rw} {P : Nat → Nat → Bool} {xs : List (Nat × Nat)} (h : Divs l.length P xs) {i j : Nat} {x : Nat × Nat} {y : Rw} (hx : xs[i]? = some x) (hy : (chunk l x)[j]? = some y) : l[tot (xs.take i) + j]? = some y ∧ tot (xs.take i) + j < tot (xs.take (i + 1)) := by
  obtain ⟨h1, _, _⟩ := h i x hx
  have e : tot (xs.take (i + 1)) = x.1 + x.2 := by rw [List.take_add_one, hx, tot_app, ← h1]; simp [tot]
  have hj : j < x.2 := by
    have := (List.getElem?_eq_some_iff.1 hy).1
    unfold chunk at this
    rw [List.length_take] at this; omega
  refine ⟨?_, by rw [e, ← h1]; omega⟩
  unfold chunk at hy
  rw [List.getElem?_take, if_pos hj, List.getElem?_drop] at hy
  rw [← h1]; exact hy
/-- A table's data blocks with their rows. -/
def prs (l : List Rw) (R : Int) (xs : List (Nat × Nat)) : List (Pt × List Rw) := xs.map fun x => (ptOf l R x, chunk l x)
theorem prs_fst (l : List Rw) (R : Int) (xs : List (Nat × Nat)) : (prs l R xs).map Prod.fst = xs.map (ptOf l R) := by simp [prs]
theorem scan_step {frm tq : ByteArray} {p : Pt} {ls : List Rw} {r : List (Pt × List Rw)} : scanP frm tq ((p, ls) :: r) = if belB tq p.en.fst = true then ls.filter (inR frm tq) ++ scanP frm tq r else [] := rfl
/-- From some data block on. -/
theorem scan_tail {l : List Rw} {R B : Int} {xs : List (Nat × Nat)} (hs : SortedR l) (h : Divs l.length (fitAt l B R) xs) (frm tq : ByteArray) : ∀ (m i : Nat), xs.length - i = m → i ≤ xs.length → scanP frm tq (prs l R (xs.drop i)) = ((xs.drop i).flatMap (chunk l)).filter (inR frm tq)
  | 0, i, hm, hi => by
    have : xs.drop i = [] := List.drop_eq_nil_of_le (by omega)
    rw [this]; rfl
  | m + 1, i, hm, hi => by
    have hx : xs[i]? = some xs[i] := List.getElem?_eq_getElem (by omega)
    have e : xs.drop i = xs[i] :: xs.drop (i + 1) := List.drop_eq_getElem_cons (by omega)
    have ih := scan_tail hs h frm tq m (i + 1) (by omega) (by omega)
    rw [e]
    show scanP frm tq ((ptOf l R xs[i], chunk l xs[i]) :: prs l R (xs.drop (i + 1))) = _
    rw [scan_step, List.flatMap_cons, List.filter_append, ih]
    by_cases hb : belB tq (ptOf l R xs[i]).en.fst = true
    · rw [if_pos hb]
    · rw [if_neg hb]
      symm
      rw [← List.filter_append, List.filter_eq_nil_iff]
      intro y hy hin
      unfold inR at hin
      rw [Bool.and_eq_true] at hin
      have hby := hin.2
      apply hb
      obtain ⟨_, _, _, _, he, hlen⟩ := last_of h hx
      have h2 := (h i _ hx).2.2.1
      have hf : (ptOf l R xs[i]).en.fst = (rwAt l (xs[i]).1).key := by show (enOf (chunk l xs[i])).fst = _; rw [he]
      rw [hf]
      have h1 := (h i _ hx).1
      have hlt := (h i _ hx).2.1
      obtain ⟨z, hz⟩ : ∃ z, l[(xs[i]).1]? = some z := ⟨_, List.getElem?_eq_getElem hlt⟩
      have hz2 : rwAt l (xs[i]).1 = z := by unfold rwAt; rw [List.getD_eq_getElem?_getD, hz]; rfl
      rw [hz2]
      have hy2 : y ∈ l.drop (xs[i]).1 := by
        have hc := divs_cat h xs.length (Nat.le_refl _)
        have hall : (xs[i] :: xs.drop (i + 1)).flatMap (chunk l) = (xs.drop i).flatMap (chunk l) := by rw [← e]
        have hy3 : y ∈ (xs.drop i).flatMap (chunk l) := by rw [← hall, List.flatMap_cons]; exact hy
        obtain ⟨x', hx', hyx⟩ := List.mem_flatMap.1 hy3
        obtain ⟨k, hk⟩ := List.mem_iff_getElem?.1 hx'
        rw [List.getElem?_drop] at hk
        obtain ⟨j, hj⟩ := List.mem_iff_getElem?.1 hyx
        obtain ⟨q1, _⟩ := chunk_in h hk hj
        have hmono : tot (xs.take i) ≤ tot (xs.take (i + k)) := by
          rw [List.take_add, tot_app]; omega
        refine List.mem_iff_getElem?.2 ⟨tot (xs.take (i + k)) + j - (xs[i]).1, ?_⟩
        rw [List.getElem?_drop, h1, show tot (xs.take i) + (tot (xs.take (i + k)) + j - tot (xs.take i)) = tot (xs.take (i + k)) + j by omega]
        exact q1
      obtain ⟨j, hj⟩ := List.mem_iff_getElem?.1 hy2
      rw [List.getElem?_drop] at hj
      have hk := sorted_keys hs (Nat.le_add_right _ j) hz hj
      unfold belB at hby ⊢
      rw [Bool.or_eq_true] at hby ⊢
      rcases hby with q | q
      · exact .inl q
      · exact .inr (less_trans3 hk q)
/-- The data blocks ahead of the first that a scan reads have nothing within. -/
theorem scan_head {l : List Rw} {R B : Int} {xs : List (Nat × Nat)} (hs : SortedR l) (h : Divs l.length (fitAt l B R) xs) (frm tq : ByteArray) {r : Nat} (_hr : r ≤ xs.length) (hb : ∀ i x, i < r → xs[i]? = some x → Op.bytesLess (ptOf l R x).en.lst.toList frm.toList = true) : ((xs.take r).flatMap (chunk l)).filter (inR frm tq) = [] := by
  rw [List.filter_eq_nil_iff]
  intro y hy hin
  unfold inR at hin
  rw [Bool.and_eq_true, Bool.not_eq_true'] at hin
  obtain ⟨x, hx, hyx⟩ := List.mem_flatMap.1 hy
  obtain ⟨i, hi⟩ := List.mem_iff_getElem?.1 hx
  rw [List.getElem?_take] at hi
  split at hi
  · rename_i hir
    obtain ⟨j, hj⟩ := List.mem_iff_getElem?.1 hyx
    obtain ⟨q1, q2⟩ := chunk_in h hi hj
    obtain ⟨k1, k2, z, hz, he, _⟩ := last_of h hi
    have hl : (ptOf l R x).en.lst = z.key := by show (enOf (chunk l x)).lst = _; rw [he]
    have hzk := hb i x hir hi
    rw [hl] at hzk
    have := less_trans3 (sorted_keys hs (by omega) q1 hz) hzk
    rw [this] at hin; cases hin.1
  · cases hi
theorem scan_all {l : List Rw} {R B : Int} {xs : List (Nat × Nat)} (hs : SortedR l) (h : Divs l.length (fitAt l B R) xs) (ht : tot xs = l.length) (frm tq : ByteArray) {r : Nat} (hr : r ≤ xs.length) (hb : ∀ i x, i < r → xs[i]? = some x → Op.bytesLess (ptOf l R x).en.lst.toList frm.toList = true) : scanP frm tq ((prs l R xs).drop r) = l.filter (inR frm tq) := by
  have e : (prs l R xs).drop r = prs l R (xs.drop r) := by unfold prs; rw [List.map_drop]
  rw [e, scan_tail hs h frm tq _ r rfl hr]
  have hc := divs_cat h xs.length (Nat.le_refl _)
  rw [List.take_length, ht, List.take_length] at hc
  have hc2 : l.filter (inR frm tq) = (xs.flatMap (chunk l)).filter (inR frm tq) := by rw [hc]
  rw [hc2]
  have e2 : xs.flatMap (chunk l) = (xs.take r).flatMap (chunk l) ++ (xs.drop r).flatMap (chunk l) := by rw [← List.flatMap_append, List.take_append_drop]
  have h0 := scan_head hs h frm tq hr hb
  calc ((xs.drop r).flatMap (chunk l)).filter (inR frm tq) = ((xs.take r).flatMap (chunk l)).filter (inR frm tq) ++ ((xs.drop r).flatMap (chunk l)).filter (inR frm tq) := by rw [h0]; rfl
    _ = (xs.flatMap (chunk l)).filter (inR frm tq) := by rw [← List.filter_append, ← e2]
/-- Lasts rise. -/
theorem lasts_rise {l : List Rw} {R B : Int} {xs : List (Nat × Nat)} (hs : SortedR l) (h : Divs l.length (fitAt l B R) xs) (frm : ByteArray) {i j : Nat} {x y : Nat × Nat} (hij : i ≤ j) (hx : xs[i]? = some x) (hy : xs[j]? = some y) (hb : Op.bytesLess (ptOf l R y).en.lst.toList frm.toList = true) : Op.bytesLess (ptOf l R x).en.lst.toList frm.toList = true := by
  obtain ⟨a1, a2, u, hu, eu, _⟩ := last_of h hx
  obtain ⟨b1, b2, z, hz, ez, _⟩ := last_of h hy
  have e1 : (ptOf l R x).en.lst = u.key := by show (enOf (chunk l x)).lst = _; rw [eu]
  have e2 : (ptOf l R y).en.lst = z.key := by show (enOf (chunk l y)).lst = _; rw [ez]
  rw [e1]
  rw [e2] at hb
  have hm : tot (xs.take (i + 1)) ≤ tot (xs.take (j + 1)) := by
    have : xs.take (j + 1) = xs.take (i + 1) ++ (xs.take (j + 1)).drop (i + 1) := by
      have := List.take_append_drop (i + 1) (xs.take (j + 1))
      rw [List.take_take, Nat.min_eq_left (by omega)] at this
      exact this.symm
    rw [this, tot_app]; omega
  exact less_trans3 (sorted_keys hs (by omega) hu hz) hb
end Go.Proofs.Ytmjakkemiiigpaa
/-
  A loop over an iterator that would never end if the loop went on behind what it must stop at: what the iterator owes then, and the loop's rule, over the library's own steps; what a round leaves true, and what comes next, may speak of the world. No condition.
-/
namespace Go.Proofs.Ytmjakkemiiigpaa
set_option maxRecDepth 100000
open Go.RowKit
theorem grown_of_belowX {w w' : World} (h : Below w.heap.size w w') : w.grownBy w' none := ⟨h.os, h.tape, h.output, h.size, fun k hk _ => h.block k hk⟩
/-- What the iterator's value owes to a loop whose rounds, where they go on, keep what lay below B, and go on behind nothing but what G says. Ok: what it hands over next; S: what has come when it ends by itself. -/
def SeqUntilX {α : Type} (P : Program) (gf : Nat) (lb : Array Value) (encs : α → Array Value) (B : Nat) (Ok : List α → α → World → World → Prop) (G : List α → World → Prop) (S : List α → Prop) (w : World) : Prop :=
  ∀ (l : Nat) (J Jx : List α → World → Prop) (W : World), Below w.heap.size w W → (∀ s A C, J s A → Below A.heap.size A C → J s C) → (∀ s A C, Jx s A → Below A.heap.size A C → Jx s C) → (∀ pre A, J pre A → G pre A) →
    (∀ pre x A0 A, J pre A0 → Below A0.heap.size A0 A → Ok pre x A0 A → YieldAt Fence.wide 4 P l (encs x) A fun e C => (e = .returned (.bool true) ∧ J (pre ++ [x]) C ∧ Below B A C) ∨ (e = .returned (.bool false) ∧ Jx (pre ++ [x]) C)) →
    J [] W → CallsIn Fence.wide 5 P gf (#[.func (.yield l) #[] #[]] ++ lb) W fun e C => (∃ v, e = .returned v) ∧ ((∃ xs, S xs ∧ J xs C) ∨ (∃ pre, Jx pre C))
variable {α : Type} {P : Program}
/-- The rule for 'for x := range f' over such an iterator. -/
theorem wpIn_range_untilX {g : Operand} {ps : Array Tmp} {assign body : Code} {Q : Exit → Act → World → Prop} {a : Act} {w : World}
    {gf : Nat} {lb : Array Value} (hg : a.eval g = .func (.func gf) #[] lb) (eg : ∀ args v, (callFunc gf args).run P v = .ok (.enter gf args) v)
    {encs : α → Array Value} {B : Nat} (hB : B ≤ w.heap.size) {Ok : List α → α → World → World → Prop} {G : List α → World → Prop} {S : List α → Prop} (hseq : SeqUntilX P gf lb encs B Ok G S w) (hps : ∀ x, (encs x).size = ps.size)
    (I : List α → World → Prop) (Ix : Code → List α → World → Prop) (hI : OwnFrom w.heap.size I) (hIx : ∀ c, OwnFrom w.heap.size (Ix c)) (hG : ∀ pre W, I pre W → G pre W) (h0 : I [] w)
    (Ax : List α → α → Act → World → Prop) (hAx : ∀ pre x a', OwnFrom w.heap.size (fun (_ : Unit) W => Ax pre x a' W))
    (hassign : ∀ (l : Nat) (pre : List α) (x : α) (W0 W : World) (K : Act → World → Prop), I pre W0 → Below W0.heap.size W0 W → Ok pre x W0 W → (∀ a' W', KeepsFrom w.heap.size W W' → Below B W W' → I pre W' → Ax pre x a' W' → K a' W') →
      assign.wpIn (Fence.wide.inRound l) 4 P (Exit.then K (fun _ _ _ => False)) { tmps := (ps.zip (encs x)).foldl (fun t (p, v) => t.setIfInBounds p v) a.tmps, defers := [] } W)
    (hbody : ∀ (l : Nat) (pre : List α) (x : α) (a' : Act) (W : World), I pre W → Ax pre x a' W → body.wpIn (Fence.wide.inRound l) 4 P (ownPostG w.heap.size (Below B) I Ix (pre ++ [x]) W) a' W)
    (hdone : ∀ (D : Nat) (xs : List α) (W : World), w.heap.size ≤ D → S xs → I xs W → W.heap[D]? = some (.deferred (some [])) → Q .normal { a with defers := { target := .collected D, args := #[] } :: a.defers } W)
    (hstop : ∀ (D : Nat) (c : Code) (pre : List α) (W : World), w.heap.size ≤ D → Ix c pre W → W.heap[D]? = some (.deferred (some [])) → c.wpIn Fence.wide 6 P Q { a with defers := { target := .collected D, args := #[] } :: a.defers } W) :
    (Code.rangeFunc g ps assign body).wpIn Fence.wide 6 P Q a w := by
  refine wpIn_rangeFunc fun fn hfn => ?_
  -- the loop's record in its states, and the two blocks that the statement lays
  obtain ⟨L, hL⟩ : ∃ L : LoopState → Option Code → Loop, L = fun st pe => { state := st, pending := pe, fn, tmps := a.tmps, params := ps, assign, body, defers := w.heap.size } := ⟨_, rfl⟩
  obtain ⟨W1, hW1⟩ : ∃ W1, W1 = (w.alloc (.deferred (some []))).alloc (.loop (L .ready none)) := ⟨_, rfl⟩
  let Held (st : LoopState) (pe : Option Code) (W : World) : Prop := W.heap[w.heap.size + 1]? = some (.loop (L st pe)) ∧ W.heap[w.heap.size]? = some (.deferred (some []))
  have hz1 : W1.heap.size = w.heap.size + 2 := by rw [hW1]; simp
  have hheld1 : Held .ready none W1 := by
    constructor
    · rw [hW1]; have := World.alloc_heap_new (w.alloc (.deferred (some []))) (.loop (L .ready none)); rwa [World.size_alloc] at this
    · rw [hW1]; exact (Below.heap_alloc _ _ _ (by simp)).trans (World.alloc_heap_new w _)
  have hI1 : I [] W1 := by rw [hW1]; exact hI.alloc _ (hI.alloc _ h0)
  have hb1 : Below w.heap.size w W1 := by rw [hW1]; exact ((Below.refl _ w).alloc (Nat.le_refl _) _).alloc (by simp) _
  have hheldB : ∀ {st pe A C}, Held st pe A → Below A.heap.size A C → Held st pe C := fun h hb =>
    ⟨(hb.block _ (Array.getElem?_eq_some_iff.1 h.1).1).trans h.1, (hb.block _ (Array.getElem?_eq_some_iff.1 h.2).1).trans h.2⟩
  have hIB : ∀ {s A C}, I s A → Below A.heap.size A C → I s C := fun h hb => hI _ _ _ none h (grown_of_belowX hb) (fun r e => by cases e)
  have hIxB : ∀ {c s A C}, Ix c s A → Below A.heap.size A C → Ix c s C := fun h hb => hIx _ _ _ _ none h (grown_of_belowX hb) (fun r e => by cases e)
  refine ⟨w.heap.size + 1, [{ target := .collected w.heap.size, args := #[] }], W1, { target := .fn (.func gf) lb, args := #[.func (.yield (w.heap.size + 1)) #[] #[]] }, W1, gf,
    #[.func (.yield (w.heap.size + 1)) #[] #[]] ++ lb, W1, ?_, ?_, fun _ _ => trivial, ?_, fun _ => by decide, ?_⟩
  · rw [hW1, hL]; exact run_enterLoop_outer _ _ _ _ _
  · simp only [resolve, hg]
    simp [go_sem]
  · simp [invoke, go_sem, eg]
  refine (hseq (w.heap.size + 1) (fun pre W => I pre W ∧ Held .ready none W) (fun pre W => ∃ c, Ix c pre W ∧ Held .done (some c) W) W1 hb1
    (fun s A C h hb => ⟨hIB h.1 hb, hheldB h.2 hb⟩) (fun s A C h hb => by obtain ⟨c, h1, h2⟩ := h; exact ⟨c, hIxB h1 hb, hheldB h2 hb⟩) (fun pre A h => hG pre A h.1) ?_ ⟨hI1, hheld1⟩).mono ?_
  · -- one round
    rintro pre x W00 W0 ⟨hi00, hh00⟩ hbl hok
    have hi0 := hIB hi00 hbl
    have hh0 := hheldB hh00 hbl
    have hy := run_yield (P := P) (args := encs x) hh0.1 (by rw [hL]; exact hps x)
    rw [hL] at hy
    refine ⟨fn, _, assign, body, hy, roundIn_of_wpIn hfn (hassign _ pre x W00 W0 _ hi00 hbl hok fun a' W hk0 hb0 hi hax => ?_)⟩
    clear hy
    have hh : Held .ready none W := ⟨hk0.same _ _ (by omega) hh0.1 rfl, hk0.same _ _ (Nat.le_refl _) hh0.2 rfl⟩
    have hlt : w.heap.size + 1 < W.heap.size := (Array.getElem?_eq_some_iff.1 hh.1).1
    refine ⟨_, run_beginRound hh.1 (by rw [hL]), ?_⟩
    obtain ⟨V, hV⟩ : ∃ V, V = W.putObj (w.heap.size + 1) (.loop { L .ready none with state := .busy }) := ⟨_, rfl⟩
    have hbusy : V.heap[w.heap.size + 1]? = some (.loop { L .ready none with state := .busy }) := by rw [hV]; exact World.putObj_heap_same hlt
    have hdef : V.heap[w.heap.size]? = some (.deferred (some [])) := by rw [hV]; exact (World.putObj_heap_other (by omega)).trans hh.2
    have hbV : Below B W V := by rw [hV]; exact belowK_b hB _ _ _ _ (by omega) hh.1 rfl rfl
    have hiV : I pre V := by rw [hV]; exact hI.putObj _ hi (by omega) hh.1 rfl
    have haV : Ax pre x a' V := by rw [hV]; exact (hAx pre x a').putObj (s := ()) _ hax (by omega) hh.1 rfl
    rw [← hV]
    refine wpIn_mono (hbody _ pre x a' V hiV haV) ?_
    -- the round's end, whatever the jump
    have fin : ∀ (jump : Option Code) (C : World), KeepsFrom w.heap.size V C → ∃ C', (Instr.endRound (w.heap.size + 1) jump).run P C = .ok (.bool jump.isNone) C' ∧ Held (if jump.isNone then .ready else .done) jump C' ∧
        Below B C C' ∧ (∀ s, I s C → I s C') ∧ (∀ c s, Ix c s C → Ix c s C') := fun jump C hk => by
      have h3 := hk.same _ _ (by omega) hbusy rfl
      have hr := run_endRound (P := P) jump h3
      refine ⟨C.putObj (w.heap.size + 1) (.loop (L (if jump.isNone then .ready else .done) jump)), by rw [hL] at hr ⊢; exact hr, ⟨World.putObj_heap_same (Array.getElem?_eq_some_iff.1 h3).1, (World.putObj_heap_other (by omega)).trans (hk.same _ _ (Nat.le_refl _) hdef rfl)⟩, belowK_b hB _ _ _ _ (by omega) h3 rfl rfl, fun s hs => hI.putObj _ hs (by omega) h3 rfl, fun c s hs => (hIx c).putObj _ hs (by omega) h3 rfl⟩
    have left : ∀ (c : Code) (C : World), KeepsFrom w.heap.size V C ∧ Ix c (pre ++ [x]) C → ∃ v C', (Instr.endRound (w.heap.size + 1) (some c)).run P C = .ok v C' ∧
        ((Ending.returned v = .returned (.bool true) ∧ (I (pre ++ [x]) C' ∧ Held .ready none C') ∧ Below B W0 C') ∨ (Ending.returned v = .returned (.bool false) ∧ ∃ c, Ix c (pre ++ [x]) C' ∧ Held .done (some c) C')) := fun c C h => by
      obtain ⟨C', hr, hh', _, _, hx⟩ := fin (some c) C h.1
      exact ⟨_, C', hr, .inr ⟨rfl, c, hx c _ h.2, hh'⟩⟩
    rintro e a3 C hp
    cases e with
    | normal =>
      obtain ⟨C', hr, hh', hb, hx, _⟩ := fin none C hp.1
      exact ⟨_, C', hr, .inl ⟨rfl, ⟨hx _ hp.2.2, hh'⟩, hb0.trans (hbV.trans (hp.2.1.trans hb))⟩⟩
    | ret => exact left .ret C hp
    | exit id => exact left (.exit id) C hp
    | goto t => exact left (.goto t) C hp
    | panic ch => exact hp.elim
    | outgrown => exact hp.elim
  · -- behind the iterator
    rintro e C ⟨⟨v, rfl⟩, (⟨xs, hS, hi, hh⟩ | ⟨pre, c, hi, hh⟩)⟩
    · exact ⟨none, _, by have := run_endLoop (P := P) hh.1 (by rw [hL]; simp); rw [hL] at this; exact this, hdone _ xs _ (Nat.le_refl _) hS (hI.putObj _ hi (by omega) hh.1 rfl) ((World.putObj_heap_other (by omega)).trans hh.2)⟩
    · exact ⟨some c, _, by have := run_endLoop (P := P) hh.1 (by rw [hL]; simp); rw [hL] at this; exact this, hstop _ c pre _ (Nat.le_refl _) ((hIx c).putObj _ hi (by omega) hh.1 rfl) ((World.putObj_heap_other (by omega)).trans hh.2)⟩
end Go.Proofs.Ytmjakkemiiigpaa
/-
  The contracts of Scan's closures, and of blocks. No condition.
-/
namespace Go.Proofs.Ytmjakkemiiigpaa
set_option maxRecDepth 100000
open Go.RowKit
theorem bel_enters : ∀ (args : Array Value) (w : World), (callFunc 33 args).run Try.prog w = .ok (.enter 33 args) w := enters_of Try.func33 (by kernel_rfl) rfl
theorem lst_enters : ∀ (args : Array Value) (w : World), (callFunc 67 args).run Try.prog w = .ok (.enter 67 args) w := enters_of Try.func67 (by kernel_rfl) rfl
set_option maxRecDepth 100000 in
set_option maxHeartbeats 4000000 in
theorem bel_clo (k tq : ByteArray) (g : Nat) (u : World) (h : u.cell? ⟨g, 0, none⟩ = some (.string tq)) :
    Calls Try.prog 33 #[.string k, .pointer (some ⟨g, 0, none⟩)] u fun e u' => e = .returned (.bool (belB tq k)) ∧ Below u.heap.size u u' := by
  obtain ⟨T, hT⟩ := named (belB tq k)
  rw [← hT.out]
  replace hT := Lib.hid hT.out
  by_cases h0 : tq.toList = []
  · have f1 : (tq.toList == []) = true := by rw [h0]; rfl
    have hTT : Hid (T = true) := Lib.hid (by rw [hT.out]; unfold belB; rw [f1]; rfl)
    clear h0
    go_enter Try.func33, Try.ntmps33
    go_wp2_with fail
    go_returns
    exact ⟨by rw [hTT.out]; rfl, Below.refl _ _⟩
  · have f1 : (tq.toList == []) = false := beq_eq_false_iff_ne.2 h0
    cases hb : Op.bytesLess k.toList tq.toList with
    | true =>
      have hTT : Hid (T = true) := Lib.hid (by rw [hT.out]; unfold belB; rw [hb]; simp)
      clear h0
      go_enter Try.func33, Try.ntmps33
      go_wp2_with fail
      go_returns
      exact ⟨by rw [hTT.out]; rfl, Below.refl _ _⟩
    | false =>
      have hTT : Hid (T = false) := Lib.hid (by rw [hT.out]; unfold belB; rw [hb, f1]; rfl)
      clear h0
      go_enter Try.func33, Try.ntmps33
      go_wp2_with fail
      go_returns
      exact ⟨by rw [hTT.out]; rfl, Below.refl _ _⟩
set_option maxRecDepth 100000 in
set_option maxHeartbeats 4000000 in
theorem lst_clo (x : En) (frm : ByteArray) (g : Nat) (u : World) (h : u.cell? ⟨g, 0, none⟩ = some (.string frm)) :
    Calls Try.prog 67 #[enV x, .pointer (some ⟨g, 0, none⟩)] u fun e u' => e = .returned (.bool (Op.bytesLess x.lst.toList frm.toList)) ∧ Below u.heap.size u u' := by
  have X0 := Lib.hid (Box4.new u 78 (.string x.fst) (.string x.lst) (.int .u64 (x.seq : Int)) (.int .i64 (x.cnt : Int)))
  have W0 := Lib.hid (below_alloc u (.cells #[.string x.fst, .string x.lst, .int .u64 (x.seq : Int), .int .i64 (x.cnt : Int)] 78))
  have f1 := cell_keep W0.out h
  obtain ⟨⟨c0, c1, c2, c3⟩, _⟩ := X0.out.cells
  obtain ⟨T, hT⟩ := named (Op.bytesLess x.lst.toList frm.toList)
  rw [← hT.out]
  have hT := hT.out
  obtain ⟨xf, xl, xs, xc⟩ := x
  simp only at c0 c1 c2 c3 hT
  clear h
  cases T
  · replace hT := hT.symm
    go_enter Try.func67, Try.ntmps67
    go_wp2_with fail
    go_returns
    exact ⟨rfl, W0.out⟩
  · replace hT := hT.symm
    go_enter Try.func67, Try.ntmps67
    go_wp2_with fail
    go_returns
    exact ⟨rfl, W0.out⟩
theorem blocks_any (p : Nat) (frm : ByteArray) (g : Nat) (w : World) :
    Calls Try.prog 34 #[.pointer (some ⟨p, 0, none⟩), .string frm, .func (.func 33) #[] #[.pointer (some ⟨g, 0, none⟩)]] w fun e w' => e = .returned (.func (.func 66) #[] #[.pointer (some ⟨w.heap.size, 0, none⟩), .pointer (some ⟨w.heap.size + 1, 0, none⟩), .pointer (some ⟨w.heap.size + 1 + 1, 0, none⟩)]) ∧
      Boxed w' w.heap.size 30 (.pointer (some ⟨p, 0, none⟩)) ∧ Boxed w' (w.heap.size + 1) 9 (.string frm) ∧ Boxed w' (w.heap.size + 1 + 1) 42 (.func (.func 33) #[] #[.pointer (some ⟨g, 0, none⟩)]) ∧ w'.heap.size = w.heap.size + 1 + 1 + 1 ∧ Below w.heap.size w w' := by
  have hmf := makes_func
  have X1 := ((Boxed.new w 30 (.pointer (some ⟨p, 0, none⟩))).alloc (.cells #[.string frm] 9)).alloc (.cells #[.func (.func 33) #[] #[.pointer (some ⟨g, 0, none⟩)]] 42)
  have X2 := (Boxed.new (w.alloc (.cells #[.pointer (some ⟨p, 0, none⟩)] 30)) 9 (.string frm)).alloc (.cells #[.func (.func 33) #[] #[.pointer (some ⟨g, 0, none⟩)]] 42)
  have X3 := Boxed.new ((w.alloc (.cells #[.pointer (some ⟨p, 0, none⟩)] 30)).alloc (.cells #[.string frm] 9)) 42 (.func (.func 33) #[] #[.pointer (some ⟨g, 0, none⟩)])
  rw [World.size_alloc] at X2
  rw [World.size_alloc, World.size_alloc] at X3
  go_enter Try.func34, Try.ntmps34
  go_wp2_with fail
  go_returns
  exact ⟨rfl, X1, X2, X3, by simp, ((below_alloc w _).alloc (by simp) _).alloc (by simp; omega) _⟩
end Go.Proofs.Ytmjakkemiiigpaa
/-
  The contract of blocks' iterator, where all data blocks can be read. Condition: data blocks of at most 1048576 bytes.
-/
namespace Go.Proofs.Ytmjakkemiiigpaa
set_option maxRecDepth 100000
open Go.RowKit
attribute [local go_sem] Oper.semAt_some
/-- Where a data block's rows lie. -/
structure Bl where
  a : Option Addr
  n : Nat
  c : Nat
  b : Nat
def encB (x : Bl) : Array Value := #[.slice x.a x.n x.c, .int .i64 0]
/-- What blocks' iterator reads between two rounds. -/
structure BkG (p : Nat) (F : List UInt8) (a : Option Addr) (n c b : Nat) (l : List Pt) (frm tq : ByteArray) (bt g : Nat) (w : World) : Prop where
  tab : w.heap[p]? = some (.cells #[.string ⟨F.toArray⟩, .slice a n c] 73 (0, 0))
  pts : Pts a n c b 0 l w
  k0 : Boxed w bt 30 (.pointer (some ⟨p, 0, none⟩))
  k1 : Boxed w (bt + 1) 9 (.string frm)
  k2 : Boxed w (bt + 1 + 1) 42 (.func (.func 33) #[] #[.pointer (some ⟨g, 0, none⟩)])
  cg : Boxed w g 9 (.string tq)
theorem BkG.below {p : Nat} {F : List UInt8} {a : Option Addr} {n c b : Nat} {l : List Pt} {frm tq : ByteArray} {bt g : Nat} {w w' : World} (h : BkG p F a n c b l frm tq bt g w) (hb : Below w.heap.size w w') : BkG p F a n c b l frm tq bt g w' :=
  ⟨(hb.block p (Array.getElem?_eq_some_iff.1 h.tab).1).trans h.tab, h.pts.below hb, (hb.block _ h.k0.lt).trans h.k0, (hb.block _ h.k1.lt).trans h.k1, (hb.block _ h.k2.lt).trans h.k2, (hb.block _ h.cg.lt).trans h.cg⟩
/-- What comes next. -/
def OkB (ps : List (Pt × List Rw)) (tq : ByteArray) (r : Nat) (pre : List Bl) (x : Bl) (A0 A : World) : Prop := ∃ q, ps[r + pre.length]? = some q ∧ belB tq q.1.en.fst = true ∧ x.n = q.2.length ∧ Rs x.a x.n x.c x.b 0 q.2 A ∧ (0 < x.n → A0.heap.size ≤ x.b)
/-- What has come at the end. -/
def EndB (ps : List (Pt × List Rw)) (tq : ByteArray) (r : Nat) (xs : List Bl) : Prop := ∀ q, ps[r + xs.length]? = some q → belB tq q.1.en.fst = false
theorem size_part (w : World) : (Go.sizeOf (Try.prog.elem 68)).run Try.prog w = .ok 5 w := by
  obtain ⟨i0, hi, hz0, hz1, hz2⟩ := info_parts (show (Try.prog.info? (Try.prog.elem 68)).map (fun i => (i.zero, i.size, i.bytes)) = some (some (.agg #[.string .empty, .string .empty, .string .empty, .int .u64 0, .int .i64 0]), 5, 64) by kernel_rfl)
  simp [Go.sizeOf, typeInfo, hi, hz1]
def fromP (p : Option Addr) (c k : Nat) : Option Addr := if c = k then p else p.map (·.add (k * 5))
theorem slp_from (p : Option Addr) (n c k : Nat) (hk : k ≤ n) (u : World) : (Instr.slice 68 (.slice p n c) (some (.int .i64 (k : Int))) none none).run Try.prog u = .ok (.slice (fromP p c k) (n - k) (c - k)) u := by
  rw [run_slice_l u 68 p n c (by kernel_rfl) .i64 (k : Int) (by omega) (by omega), size_part]
  simp only [Result.andThen, sliced, Int.toNat_natCast, fromP]
theorem ReadD.yes {p : Pt} {l : List Rw} {w w' : World} {e : Ending} (h : ReadD p w e w') (hp : ReadP p l) : ∃ a c b, e = .returned (.tuple #[.slice a l.length c, .int .i64 0]) ∧ Rs a l.length c b 0 l w' ∧ (0 < l.length → w.heap.size ≤ b) ∧ Below w.heap.size w w' := by
  rcases h with ⟨l', a, c, b, h1, h2, h3, h5, h4⟩ | ⟨hno, _⟩
  · obtain rfl := readP_one hp h1
    exact ⟨a, c, b, h2, h3, h5, h4⟩
  · exact absurd hp (hno l)
set_option maxRecDepth 100000 in
set_option maxHeartbeats 4000000 in
theorem blocks_until {p : Nat} {F : List UInt8} {a : Option Addr} {n c b : Nat} (ps : List (Pt × List Rw)) (hRead : ∀ q ∈ ps, ReadP q.1 q.2 ∧ q.1.byt.length ≤ 1048576) (frm tq : ByteArray) (bt g r : Nat) (hr1 : r ≤ ps.length) (hr2 : ∀ j q, ps[j]? = some q → (Op.bytesLess q.1.en.lst.toList frm.toList = true ↔ j < r)) (hn : ps.length = n)
    (B : Nat) (w : World) :
    SeqUntilX Try.prog 66 #[.pointer (some ⟨bt, 0, none⟩), .pointer (some ⟨bt + 1, 0, none⟩), .pointer (some ⟨bt + 1 + 1, 0, none⟩)] encB B (OkB ps tq r) (fun _ A => BkG p F a n c b (ps.map Prod.fst) frm tq bt g A) (EndB ps tq r) w := by
  intro L J Jx W hW hJ hJx hG hY h0
  have G0 := Lib.hid (hG [] W h0)
  have HG := Lib.hid hG
  have HJ := Lib.hid hJ
  have HY := Lib.hid hY
  have hmf := makes_func
  have q0 := G0.out.pts.cap
  have m0 := G0.out.pts.most
  have FC : Hid (Calls Try.prog 37 #[.pointer (some ⟨p, 0, none⟩), .func (.func 67) #[] #[.pointer (some ⟨bt + 1, 0, none⟩)]] W fun e w' => e = .returned (.int .i64 (r : Int)) ∧ Below W.heap.size W w') := Lib.hid ((find_any 67 #[.pointer (some ⟨bt + 1, 0, none⟩)] lst_enters ⟨a, n, c, b, G0.out.tab, G0.out.pts⟩ (fun j => decide (j < r)) (fun i j h1 h2 h3 => by
      have := of_decide_eq_true h3; exact decide_eq_true (by omega)) (fun j x hx v hv => by
      rw [List.getElem?_map] at hx
      obtain ⟨q, hq, rfl⟩ := Option.map_eq_some_iff.1 hx
      have h1 := lst_clo q.1.en frm (bt + 1) v (cell_keep hv G0.out.k1.cell)
      have h2 : Op.bytesLess q.1.en.lst.toList frm.toList = decide (j < r) := by
        by_cases e : j < r
        · rw [decide_eq_true e]; exact (hr2 j q hq).2 e
        · rw [decide_eq_false e]
          cases hx2 : Op.bytesLess q.1.en.lst.toList frm.toList with
          | false => rfl
          | true => exact absurd ((hr2 j q hq).1 hx2) e
      rw [h2] at h1
      exact h1)).mono (by
      rintro e w' ⟨r', hc, rfl, hb⟩
      have : r' = r := cut_is (m := r) (by rw [List.length_map]; exact hr1) (fun j _ => by simp) hc
      exact ⟨by rw [this], hb⟩))
  have J0 := Lib.hid h0
  have t1 := G0.out.k0.cell
  clear hY hG hJ hJx h0 hW
  refine callsIn_of_wp Try.func66 rfl trivial ?_ rfl
  simp only [Try.ntmps66, List.size_toArray, List.length_cons, List.length_nil, Nat.reduceAdd, Nat.reduceSub, Array.replicate_succ, Array.replicate_zero, List.push_toArray, List.append_toArray, List.nil_append, List.cons_append]
  have SL := slp_from a n c r (by omega)
  gi_wp2_with (refine ⟨trivial, ?_⟩; gi_at_call 37; refine (callsIn_wide.2 FC.out).mono ?_; rintro e w1 ⟨rfl, hb1⟩; have J1 := Lib.hid (HJ.out _ _ _ J0.out hb1); have G1 := Lib.hid (HG.out _ _ J1.out); have t2 := G1.out.k0.cell; obtain ⟨c0, c1⟩ := tab_cells G1.out.tab; clear hb1)
  obtain ⟨nr, hnr⟩ := named (n - r)
  obtain ⟨cr, hcr⟩ := named (c - r)
  obtain ⟨fp, hfp⟩ := named (fromP a c r)
  rw [← hnr.out, ← hcr.out, ← hfp.out]
  have hnr2 : r + nr = n := by rw [hnr.out]; omega
  have hcr2 : nr ≤ cr ∧ cr ≤ 1048576 := by rw [hnr.out, hcr.out]; omega
  have hfp2 : Hid (0 < nr → fp = some ⟨b, r * 5, none⟩) := Lib.hid (fun h => by
    obtain ⟨ha, _⟩ := G0.out.pts.addr (by omega)
    rw [hfp.out, ha]
    unfold fromP
    rw [if_neg (by omega)]
    simp [addr_add])
  replace hnr := Lib.hid trivial
  replace hcr := Lib.hid trivial
  replace hfp := Lib.hid trivial
  clear SL t1 t2 c0 c1 FC J0 G0
  obtain ⟨hcr3, hcr4⟩ := hcr2
  gi_loopw [18] (fun iv wr => ∃ (pre : List Bl), iv = .int .i64 (pre.length : Int) ∧ pre.length ≤ nr ∧ Hid (J pre wr)) (fun iv _ => nr - (intOf iv).toNat)
  case atStart => exact ⟨[], rfl, Nat.zero_le _, J1⟩
  case round =>
    clear J1 G1
    obtain ⟨pre, rfl, hk, hJs⟩ := hrel
    have G2 := Lib.hid (HG.out _ _ hJs.out)
    obtain ⟨k, hkk⟩ := named pre.length
    rw [← hkk.out] at hk ⊢
    by_cases hlt : k < nr
    · have k1 : (k : Int) < (nr : Int) := by omega
      have k2 : (0 : Int) ≤ (k : Int) := by omega
      obtain rfl := hfp2.out (by omega)
      obtain ⟨q, hq⟩ : ∃ q, ps[r + k]? = some q := ⟨_, List.getElem?_eq_getElem (by omega)⟩
      have hqm := hRead q (List.mem_of_getElem? hq)
      obtain ⟨x0, x1, x2, x3, x4⟩ := G2.out.pts.at' (r + k) q.1 (by rw [List.getElem?_map, hq]; rfl)
      rw [show 0 + (r + k) * 5 = r * 5 + k * 5 by omega] at x0 x1 x2 x3 x4
      have G3 := Lib.hid (G2.out.below (below_alloc wr (.cells #[.string ⟨q.1.byt.toArray⟩, .string q.1.en.fst, .string q.1.en.lst, .int .u64 (q.1.en.seq : Int), .int .i64 (q.1.en.cnt : Int)] 80)))
      have J3 := Lib.hid (HJ.out _ _ _ hJs.out (below_alloc wr (.cells #[.string ⟨q.1.byt.toArray⟩, .string q.1.en.fst, .string q.1.en.lst, .int .u64 (q.1.en.seq : Int), .int .i64 (q.1.en.cnt : Int)] 80)))
      have B3 := Lib.hid (Box5.new q.1 wr)
      obtain ⟨c0, c1, c2, c3, c4⟩ := B3.out.cells
      have v0 := G3.out.k2.cell
      have BC := Lib.hid (bel_clo q.1.en.fst tq g _ G3.out.cg.cell)
      have RC := Lib.hid (fun u => read_any q.1 hqm.2 u)
      have hR1 := Lib.hid hqm.1
      cases hw : belB tq q.1.en.fst with
      | false =>
        rw [hw] at BC
        have EE : Hid (EndB ps tq r pre) := Lib.hid (fun q' hq' => by rw [← hkk.out, hq] at hq'; cases hq'; exact hw)
        replace hq := Lib.hid hq
        replace hw := Lib.hid hw
        obtain ⟨⟨L0, ⟨ef, el, es, ec⟩⟩, ls⟩ := q
        simp only at x0 x1 x2 x3 x4 c0 c1 c2 c3 c4 BC J3 G3 v0
        gi_wp2_with (refine ⟨trivial, ?_⟩; gi_at_call 33; refine (callsIn_wide.2 BC.out).mono ?_; rintro e w2 ⟨rfl, hb2⟩; have J4 := Lib.hid (HJ.out _ _ _ J3.out hb2); clear hb2)
        refine ⟨trivial, ?_⟩
        gi_wp2
        refine ⟨fun _ h => (by cases h), ?_⟩
        gi_wp2
        refine bodyPost_ret (results_none rfl _ _ _) rfl ?_
        exact ⟨⟨_, rfl⟩, .inl ⟨pre, EE.out, J4.out⟩⟩
      | true =>
        rw [hw] at BC
        have HYx := Lib.hid (fun (a2 : Option Addr) (c2 b2 : Nat) (A0 A : World) (h : J pre A0) (hbl : Below A0.heap.size A0 A) (hR : Rs a2 q.2.length c2 b2 0 q.2 A) (hF : 0 < q.2.length → A0.heap.size ≤ b2) => HY.out pre ⟨a2, q.2.length, c2, b2⟩ A0 A h hbl ⟨q, by rw [← hkk.out]; exact hq, hw, rfl, hR, hF⟩)
        unfold encB at HYx
        simp only at HYx
        replace hq := Lib.hid hq
        replace hw := Lib.hid hw
        obtain ⟨⟨L0, ⟨ef, el, es, ec⟩⟩, ls⟩ := q
        simp only at x0 x1 x2 x3 x4 c0 c1 c2 c3 c4 BC J3 G3 v0 RC HYx hR1
        gi_wp2_with (first
          | (refine ⟨trivial, ?_⟩; gi_at_call 33; refine (callsIn_wide.2 BC.out).mono ?_; rintro e w2 ⟨rfl, hb2⟩; have J4 := Lib.hid (HJ.out _ _ _ J3.out hb2); obtain ⟨d0, d1, d2, d3, d4⟩ := (B3.out.below hb2).cells; clear hb2)
          | (refine ⟨trivial, ?_⟩; gi_at_call 40; refine (callsIn_wide.2 (RC.out _)).mono ?_; rintro e w3 hh; obtain ⟨a3, c3', b3, rfl, R3, F3, hb3⟩ := hh.yes hR1.out; obtain ⟨fn, tmps, assign, body, hy, hRR⟩ := HYx.out a3 c3' b3 _ w3 J4.out hb3 R3 F3; clear hb3 R3 F3 hh))
        refine hRR.mono ?_
        rintro e C' (⟨rfl, hJ3, hk3⟩ | ⟨rfl, hJx3⟩)
        · replace hJ3 := Lib.hid hJ3
          clear hk3
          gi_wp2
          go_roundw
          case rel => exact ⟨_, by rw [List.length_append, ← hkk.out]; go_num, by rw [List.length_append, ← hkk.out]; exact hlt, hJ3⟩
          case measure => simp [intOf]; omega
        · gi_wp2
          refine bodyPost_ret (results_none rfl _ _ _) rfl ?_
          exact ⟨⟨_, rfl⟩, .inr ⟨_, hJx3⟩⟩
    · have k1 : ¬ (k : Int) < (nr : Int) := by omega
      have hke : k = nr := by omega
      gi_wp2
      go_end0
      exact ⟨⟨_, rfl⟩, .inl ⟨pre, fun q hq => by rw [← hkk.out] at hq; have := (List.getElem?_eq_some_iff.1 hq).1; omega, hJs.out⟩⟩
end Go.Proofs.Ytmjakkemiiigpaa
/-
  The contract of Scan, where all data blocks can be read. Condition: data blocks of at most 1048576 bytes.
-/
namespace Go.Proofs.Ytmjakkemiiigpaa
set_option maxRecDepth 100000
open Go.RowKit
attribute [local go_sem] Oper.semAt_some
theorem Pts.keep {a : Option Addr} {n c b o : Nat} {l : List Pt} {w w' : World} (h : Pts a n c b o l w) (hk : 0 < n → w'.heap[b]? = w.heap[b]?) (hs : w.heap.size ≤ w'.heap.size) : Pts a n c b o l w' := by
  refine ⟨h.len, h.cap, h.most, fun hn => ⟨(h.addr hn).1, Nat.lt_of_lt_of_le (h.addr hn).2 hs⟩, fun j x hx => ?_⟩
  have hn : 0 < n := by have := (List.getElem?_eq_some_iff.1 hx).1; have := h.len; omega
  obtain ⟨h0, h1, h2, h3, h4⟩ := h.at' j x hx
  simp only [World.cell?, hk hn] at h0 h1 h2 h3 h4 ⊢
  exact ⟨h0, h1, h2, h3, h4⟩
abbrev belV (g : Nat) : Value := .func (.func 33) #[] #[.pointer (some ⟨g, 0, none⟩)]
/-- Scan under way. -/
structure ScI (p : Nat) (F : List UInt8) (a : Option Addr) (n c b : Nat) (l : List Pt) (frm tq : ByteArray) (N : Nat) (es : List Rw) (w W : World) : Prop where
  bk : BkG p F a n c b l frm tq (N + 6) (N + 1) W
  k0 : Boxed W N 9 (.string frm)
  k2 : Boxed W (N + 2) 22 (.slice none 0 0)
  k3 : Boxed W (N + 3) 27 (.int .i64 0)
  k4 : Boxed W (N + 4) 42 (belV (N + 1))
  k5 : ∃ v, Boxed W (N + 5) 22 v ∧ W.ownsRow N 39 4 v es.length (rowR es)
  f : Below N w W
  big : N + 9 ≤ W.heap.size
section
variable {p : Nat} {F : List UInt8} {a : Option Addr} {n c b : Nat} {l : List Pt} {frm tq : ByteArray} {N : Nat} {es : List Rw} {w W W' : World}
theorem ScI.stays (h : ScI p F a n c b l frm tq N es w W) (hb : 0 < n → b < N) (hs : Stays W W') (hB : Below N W W') : ScI p F a n c b l frm tq N es w W' := by
  obtain ⟨v, h5, h6⟩ := h.k5
  exact ⟨⟨hs.2 _ _ _ _ h.bk.tab, h.bk.pts.keep (fun h0 => hB.block b (hb h0)) hs.1, hs.2 _ _ _ _ h.bk.k0, hs.2 _ _ _ _ h.bk.k1, hs.2 _ _ _ _ h.bk.k2, hs.2 _ _ _ _ h.bk.cg⟩, hs.2 _ _ _ _ h.k0, hs.2 _ _ _ _ h.k2, hs.2 _ _ _ _ h.k3, hs.2 _ _ _ _ h.k4, ⟨v, hs.2 _ _ _ _ h5, ownsRow_stays h6 hs⟩, h.f.trans hB, Nat.le_trans h.big hs.1⟩
theorem ScI.below (h : ScI p F a n c b l frm tq N es w W) (hb : 0 < n → b < N) (hB : Below W.heap.size W W') : ScI p F a n c b l frm tq N es w W' :=
  h.stays hb (Stays.of_below hB) (hB.mono (by have := h.big; omega))
/-- One row more. -/
theorem ScI.appended (h : ScI p F a n c b l frm tq N es w W) (hb : 0 < n → b < N) (x : Rw) {v v' : Value} {tmp : Obj} (hv : Boxed W (N + 5) 22 v) (hr : W.ownsRow N 39 4 v es.length (rowR es))
    (hown : W'.ownsRow N 39 4 v' (es.length + 1) (rowR (es ++ [x]))) (hgrow : (W.alloc tmp).grownBy W' v.ownBlock) :
    ScI p F a n c b l frm tq N (es ++ [x]) w (W'.setCell ⟨N + 5, 0, none⟩ v') ∧ KeepsOthers W (W'.setCell ⟨N + 5, 0, none⟩ v') ∧ Below N W (W'.setCell ⟨N + 5, 0, none⟩ v') ∧
      (∀ k, k < W.heap.size → k ≠ N + 5 → v.ownBlock ≠ some k → (W'.setCell ⟨N + 5, 0, none⟩ v').heap[k]? = W.heap[k]?) := by
  have big := h.big
  have hsz : N ≤ W.heap.size := by omega
  obtain ⟨a1, a2, a3, a4, a5⟩ := hv.appended (by decide) hr hsz (by omega) hown hgrow
  have K1 : ∀ {k : Nat} {cs : Array Value} {t : TypeId} {m : Nat × Nat}, W.heap[k]? = some (.cells cs t m) → k ≠ N + 5 → t ≠ 39 → (W'.setCell ⟨N + 5, 0, none⟩ v').heap[k]? = some (.cells cs t m) := fun hk hne ht => stays_appended hr hgrow hk hne ht
  have hp : p ≠ N + 5 := fun e => by have h1 := h.bk.tab; rw [e] at h1; rw [show W.heap[N + 5]? = _ from hv] at h1; cases h1
  refine ⟨⟨⟨K1 h.bk.tab hp (by decide), h.bk.pts.keep (fun h0 => a5.block b (hb h0)) a5.size, K1 h.bk.k0 (by omega) (by decide), K1 h.bk.k1 (by omega) (by decide), K1 h.bk.k2 (by omega) (by decide), K1 h.bk.cg (by omega) (by decide)⟩, K1 h.k0 (by omega) (by decide), K1 h.k2 (by omega) (by decide), K1 h.k3 (by omega) (by decide), K1 h.k4 (by omega) (by decide), ⟨v', a2, by rw [List.length_append]; exact a3⟩, h.f.trans a5, Nat.le_trans big a5.size⟩, a4, a5, fun k hk h1 h2 => ?_⟩
  rw [heap_setCell_other _ _ _ _ h1]
  exact (hgrow.block k (by rw [World.size_alloc]; omega) (fun e => h2 e.symm)).trans (Below.heap_alloc W tmp k hk)
end
theorem cell_stays {W W' : World} (hs : Stays W W') {b o : Nat} {u : Value} (h : W.cell? ⟨b, o, none⟩ = some u) : W'.cell? ⟨b, o, none⟩ = some u := by
  unfold World.cell? at h ⊢
  cases hw : W.heap[b]? with
  | none => simp [hw] at h
  | some ob =>
    cases ob with
    | cells cs t m => rw [hs.2 _ _ _ _ hw]; simp only [hw] at h; exact h
    | _ => simp [hw] at h
theorem rs_stays {a : Option Addr} {n c b o : Nat} {l : List Rw} {W W' : World} (h : Rs a n c b o l W) (hs : Stays W W') : Rs a n c b o l W' :=
  ⟨h.len, h.cap, h.most, fun h0 => ⟨(h.addr h0).1, Nat.lt_of_lt_of_le (h.addr h0).2 hs.1⟩, fun j x hx => by
    obtain ⟨h0, h1, h2, h3⟩ := h.at' j x hx
    exact ⟨cell_stays hs h0, cell_stays hs h1, cell_stays hs h2, cell_stays hs h3⟩⟩
theorem boxed_one {W : World} {k : Nat} {t : TypeId} {v v' : Value} (h : Boxed W k t v) (h' : Boxed W k t v') : v = v' := by
  unfold Boxed at h h'
  rw [h] at h'
  cases h'; rfl
theorem geq_str (x y : ByteArray) (B : Bool) (h : (!Op.bytesLess x.toList y.toList) = B) (u : World) : (binOp .geq 9 (.string x) (.string y)).run Try.prog u = .ok (.bool B) u := by
  have e : binOp .geq 9 (.string x) (.string y) = pure (.bool (!Op.bytesLess x.toList y.toList)) := by simp [binOp, Op.stringOp]
  rw [e, h]; rfl
/-- The rows of the data blocks that came. -/
def gotR (frm tq : ByteArray) (ps : List (Pt × List Rw)) (m : Nat) : List Rw := (ps.take m).flatMap fun q => q.2.filter (inR frm tq)
theorem gotR_succ {frm tq : ByteArray} {ps : List (Pt × List Rw)} {m : Nat} {q : Pt × List Rw} (h : ps[m]? = some q) : gotR frm tq ps (m + 1) = gotR frm tq ps m ++ q.2.filter (inR frm tq) := by
  unfold gotR
  rw [List.take_add_one, h, List.flatMap_append]
  simp
/-- All that come, and then one that is not wanted, or none. -/
theorem scan_got {frm tq : ByteArray} : ∀ {ps : List (Pt × List Rw)} {m : Nat}, m ≤ ps.length → (∀ i q, i < m → ps[i]? = some q → belB tq q.1.en.fst = true) → (∀ q, ps[m]? = some q → belB tq q.1.en.fst = false) → scanP frm tq ps = gotR frm tq ps m
  | [], m, hm, _, _ => by simp [gotR, scanP]
  | q :: ps, 0, _, _, h2 => by
    have := h2 q rfl
    simp [gotR, scanP, this]
  | q :: ps, m + 1, hm, h1, h2 => by
    have hq := h1 0 q (by omega) rfl
    have ih := scan_got (frm := frm) (tq := tq) (ps := ps) (m := m) (by simpa using hm) (fun i y hi hy => h1 (i + 1) y (by omega) hy) (fun y hy => h2 y hy)
    rw [scanP, if_pos hq, ih]
    simp [gotR]
/-- So many data blocks came, each of them wanted. -/
def WantB (ps : List (Pt × List Rw)) (tq : ByteArray) (m : Nat) : Prop := m ≤ ps.length ∧ ∀ i q, i < m → ps[i]? = some q → belB tq q.1.en.fst = true
theorem WantB.succ {ps : List (Pt × List Rw)} {tq : ByteArray} {m : Nat} {q : Pt × List Rw} (h : WantB ps tq m) (hq : ps[m]? = some q) (hw : belB tq q.1.en.fst = true) : WantB ps tq (m + 1) :=
  ⟨(List.getElem?_eq_some_iff.1 hq).1, fun i q' hi hq' => by
    rcases Nat.lt_or_ge i m with h3 | h3
    · exact h.2 i q' h3 hq'
    · obtain rfl : i = m := by omega
      rw [hq] at hq'; cases hq'; exact hw⟩
theorem got_most {frm tq : ByteArray} {ps : List (Pt × List Rw)} {m j : Nat} {q : Pt × List Rw} (h : ps[m]? = some q) : (gotR frm tq ps m ++ (q.2.take j).filter (inR frm tq)).length ≤ (ps.flatMap Prod.snd).length := by
  have hg : ∀ l : List (Pt × List Rw), (l.flatMap fun q => q.2.filter (inR frm tq)).length ≤ (l.flatMap Prod.snd).length := by
    intro l
    induction l with
    | nil => simp
    | cons y l ih =>
      rw [List.flatMap_cons, List.flatMap_cons, List.length_append, List.length_append]
      have := List.length_filter_le (inR frm tq) y.2
      omega
  obtain ⟨hlt, he⟩ := List.getElem?_eq_some_iff.1 h
  have e : ps = ps.take m ++ q :: ps.drop (m + 1) := by
    rw [← he, ← List.drop_eq_getElem_cons hlt, List.take_append_drop]
  have e2 : (ps.flatMap Prod.snd).length = ((ps.take m).flatMap Prod.snd).length + (q.2.length + ((ps.drop (m + 1)).flatMap Prod.snd).length) := by
    conv => lhs; rw [e]
    rw [List.flatMap_append, List.flatMap_cons, List.length_append, List.length_append]
  have h1 := hg (ps.take m)
  have h2 := List.length_filter_le (inR frm tq) (q.2.take j)
  rw [List.length_take] at h2
  rw [e2, List.length_append]
  unfold gotR
  omega
theorem drop_most (ps : List (Pt × List Rw)) (r : Nat) : ((ps.drop r).flatMap Prod.snd).length ≤ (ps.flatMap Prod.snd).length := by
  conv => rhs; rw [← List.take_append_drop r ps]
  rw [List.flatMap_append, List.length_append]; omega
theorem take_row {L : List Rw} {j : Nat} {y : Rw} (h : L[j]? = some y) : L.take (j + 1) = L.take j ++ [y] := by rw [List.take_add_one, h]; rfl
theorem app_bR {n : Nat} (h : n ≤ 1000000) : n + 1 ≤ maxLen ∧ (n + 1) * 48 ≤ 140737488355328 := by unfold maxLen; omega
set_option maxRecDepth 100000 in
set_option maxHeartbeats 8000000 in
theorem scan_tab {p : Nat} {F : List UInt8} (ps : List (Pt × List Rw)) {w : World} (hT : TabAt p F (ps.map Prod.fst) w) (hF : F ≠ []) (hRead : ∀ q ∈ ps, ReadP q.1 q.2 ∧ q.1.byt.length ≤ 1048576) (_hrow : ∀ q ∈ ps, q.2.length ≤ 1048576) (frm tq : ByteArray) (r : Nat) (hr1 : r ≤ ps.length) (hr2 : ∀ j q, ps[j]? = some q → (Op.bytesLess q.1.en.lst.toList frm.toList = true ↔ j < r)) (hsum : (ps.flatMap Prod.snd).length ≤ 1000000) :
    Calls Try.prog 10 #[.pointer (some ⟨p, 0, none⟩), .string frm, .string tq] w fun e w' => ∃ v, e = .returned (.tuple #[v, .int .i64 0]) ∧ w'.ownsRow w.heap.size 39 4 v (scanP frm tq (ps.drop r)).length (rowR (scanP frm tq (ps.drop r))) ∧ Below w.heap.size w w' := by
  have IO := Lib.hid (fun u (hu : Below w.heap.size w u) => isOpen_tab (hT.below hu) hF)
  obtain ⟨a, n, c, b, h1, h2⟩ := hT
  have hn : ps.length = n := by have := h2.len; rw [List.length_map] at this; exact this
  have hbN : 0 < n → b < w.heap.size := fun h0 => (h2.addr h0).2
  have hpN := (Array.getElem?_eq_some_iff.1 h1).1
  have hmf := makes_func
  refine (callsIn_wide (n := 6)).1 ?_
  refine callsIn_of_wp_marks Try.func10 rfl trivial ?_ rfl
  simp only [Try.ntmps10, List.size_toArray, List.length_cons, List.length_nil, Nat.reduceAdd, Nat.reduceSub, Array.replicate_succ, Array.replicate_zero, List.push_toArray, List.append_toArray, List.nil_append, List.cons_append]
  refine wpIn_wide.2 ?_
  obtain ⟨v0, hv0⟩ : ∃ v, v = (((w.alloc (.cells #[.string frm] 9)).alloc (.cells #[.string tq] 9)).alloc (.cells #[.slice none 0 0] 22)).alloc (.cells #[.int .i64 0] 27) := ⟨_, rfl⟩
  have s0 : Boxed v0 w.heap.size 9 (.string frm) := by rw [hv0]; exact (((Boxed.new w _ _).alloc _).alloc _).alloc _
  have s1 : Boxed v0 (w.heap.size + 1) 9 (.string tq) := by
    have := (((Boxed.new (w.alloc (.cells #[.string frm] 9)) 9 (.string tq)).alloc (.cells #[.slice none 0 0] 22)).alloc (.cells #[.int .i64 0] 27))
    rw [World.size_alloc] at this; rw [hv0]; exact this
  have s2 : Boxed v0 (w.heap.size + 2) 22 (.slice none 0 0) := by
    have := ((Boxed.new ((w.alloc (.cells #[.string frm] 9)).alloc (.cells #[.string tq] 9)) 22 (.slice none 0 0)).alloc (.cells #[.int .i64 0] 27))
    rw [World.size_alloc, World.size_alloc] at this; rw [hv0]; exact this
  have s3 : Boxed v0 (w.heap.size + 3) 27 (.int .i64 0) := by
    have := Boxed.new (((w.alloc (.cells #[.string frm] 9)).alloc (.cells #[.string tq] 9)).alloc (.cells #[.slice none 0 0] 22)) 27 (.int .i64 0)
    rw [World.size_alloc, World.size_alloc, World.size_alloc] at this; rw [hv0]; exact this
  have s4 : Below w.heap.size w v0 := by rw [hv0]; exact (((below_alloc w _).alloc (by simp) _).alloc (by simp; omega) _).alloc (by simp; omega) _
  have s5 : v0.heap.size = w.heap.size + 4 := by rw [hv0]; simp
  have z0 := (s0.alloc (.cells #[belV (w.heap.size + 1)] 42)).alloc (.cells #[.slice none 0 0] 22)
  have z4 : Boxed ((v0.alloc (.cells #[belV (w.heap.size + 1)] 42)).alloc (.cells #[.slice none 0 0] 22)) (w.heap.size + 4) 42 (belV (w.heap.size + 1)) := by
    have := (Boxed.new v0 42 (belV (w.heap.size + 1))).alloc (.cells #[.slice none 0 0] 22)
    rw [s5] at this; exact this
  have z5 : Boxed ((v0.alloc (.cells #[belV (w.heap.size + 1)] 42)).alloc (.cells #[.slice none 0 0] 22)) (w.heap.size + 5) 22 (.slice none 0 0) := by
    have := Boxed.new (v0.alloc (.cells #[belV (w.heap.size + 1)] 42)) 22 (.slice none 0 0)
    rw [World.size_alloc, s5] at this; exact this
  have sz6 : ((v0.alloc (.cells #[belV (w.heap.size + 1)] 42)).alloc (.cells #[.slice none 0 0] 22)).heap.size = w.heap.size + 6 := by simp [s5]
  have BA := Lib.hid (blocks_any p frm (w.heap.size + 1) ((v0.alloc (.cells #[belV (w.heap.size + 1)] 42)).alloc (.cells #[.slice none 0 0] 22)))
  rw [sz6] at BA
  have y0 := z0.cell
  have y4 := z4.cell
  have s4h := Lib.hid s4
  go_wp2_with (first
    | (rw [← hv0]; go_at_call 32; ((with_reducible refine (IO.out _ s4h.out).mono ?_); rintro e w1 ⟨rfl, hw1⟩; rw [hw1]; clear hw1))
    | (rw [← hv0]; go_at_call 34; ((with_reducible refine BA.out.mono ?_); rintro e w1 ⟨rfl, hp0, hp1, hp2, hz1, hb1⟩)))
  have hZ : Below w.heap.size w ((v0.alloc (.cells #[belV (w.heap.size + 1)] 42)).alloc (.cells #[.slice none 0 0] 22)) := (s4.alloc s4.size _).alloc (by rw [World.size_alloc]; omega) _
  have hBB : Below w.heap.size w w1 := hZ.trans (hb1.mono (by omega))
  have hS1 : Stays ((v0.alloc (.cells #[belV (w.heap.size + 1)] 42)).alloc (.cells #[.slice none 0 0] 22)) w1 := Stays.of_below (by rw [sz6]; exact hb1)
  have D1 : ScI p F a n c b (ps.map Prod.fst) frm tq w.heap.size [] w w1 :=
    ⟨⟨(hBB.block p hpN).trans h1, h2.below hBB, hp0, hp1, hp2, hS1.box ((s1.alloc _).alloc _)⟩, hS1.box z0, hS1.box ((s2.alloc _).alloc _), hS1.box ((s3.alloc _).alloc _), hS1.box z4, ⟨_, hS1.box z5, World.ownsRow_nil _ _ _ _⟩, hBB, by omega⟩
  have hz9 : w1.heap.size = w.heap.size + 9 := by omega
  clear s0 s1 s2 s3 z0 z4 z5 y0 y4 hp0 hp1 hp2 hz1 hb1 hZ hBB hS1 BA s4h s4 IO h1 h2 hpN
  clear sz6 s5
  clear hv0
  obtain ⟨N, hN⟩ := named w.heap.size
  rw [← hN.out] at D1 hbN hz9 ⊢
  rw [show N + 1 + 1 = N + 2 from rfl, show N + 2 + 1 = N + 3 from rfl, show N + 3 + 1 = N + 4 from rfl, show N + 4 + 1 = N + 5 from rfl]
  have SU := blocks_until (p := p) (F := F) (a := a) (n := n) (c := c) (b := b) ps hRead frm tq (N + 6) (N + 1) r hr1 hr2 hn N w1
  refine (wpIn_wide (n := 6)).1 ?_
  refine wpIn_range_untilX (gf := 66) (lb := #[.pointer (some ⟨N + 6, 0, none⟩), .pointer (some ⟨N + 6 + 1, 0, none⟩), .pointer (some ⟨N + 6 + 1 + 1, 0, none⟩)]) rfl (enters_of Try.func66 (by kernel_rfl) rfl) (B := N) (by omega) SU (fun _ => rfl)
    (fun pre W => ScI p F a n c b (ps.map Prod.fst) frm tq N (gotR frm tq (ps.drop r) pre.length) w W ∧ WantB (ps.drop r) tq pre.length)
    (fun _ _ _ => False)
    (fun s X Y row h hg hr => ⟨h.1.stays hbN (stays_own hg (fun r e => (hr r e).2)) ((Below.refl N X).grown hg (by have := h.1.big; omega) (fun k e => by have := (hr k e).1; omega)), h.2⟩)
    (fun cd s X Y row h hg hr => h.elim)
    (fun pre W h => h.1.bk)
    ⟨D1, Nat.zero_le _, fun i q hi => absurd hi (Nat.not_lt_zero i)⟩
    (fun pre x a' W => a' = { tmps := #[.pointer (some ⟨p, 0, none⟩), .string frm, .string tq, undef, .pointer (some ⟨N, 0, none⟩), .pointer (some ⟨N + 1, 0, none⟩), .pointer (some ⟨N + 2, 0, none⟩), .pointer (some ⟨N + 3, 0, none⟩), .pointer (some ⟨N + 4, 0, none⟩), .pointer (some ⟨N + 5, 0, none⟩), .slice x.a x.n x.c, .int .i64 0, undef, undef, .pointer (some ⟨p, 0, none⟩), .bool true, .bool false, belV (N + 1), .pointer (some ⟨p, 0, none⟩), .string frm, belV (N + 1),
      .func (.func 66) #[] #[.pointer (some ⟨N + 6, 0, none⟩), .pointer (some ⟨N + 6 + 1, 0, none⟩), .pointer (some ⟨N + 6 + 1 + 1, 0, none⟩)], .slice x.a x.n x.c, .int .i64 0, undef, undef, undef, undef, undef, undef, undef, undef, undef, undef, undef, undef, undef, undef, undef, undef, undef, undef, undef, undef, undef, undef, undef, undef, undef], defers := [] } ∧
      ∃ q, ps[r + pre.length]? = some q ∧ belB tq q.1.en.fst = true ∧ x.n = q.2.length ∧ Rs x.a x.n x.c x.b 0 q.2 W ∧ (0 < x.n → N + 9 ≤ x.b ∧ ∃ v, Boxed W (N + 5) 22 v ∧ v.ownBlock ≠ some x.b))
    (fun pre x a' _ X Y row h hg hr => ⟨h.1, by
      obtain ⟨q, k1, k2, k3, k4, k5⟩ := h.2
      have hst := stays_own hg (fun r e => (hr r e).2)
      exact ⟨q, k1, k2, k3, rs_stays k4 hst, fun h0 => ⟨(k5 h0).1, by obtain ⟨v, j1, j2⟩ := (k5 h0).2; exact ⟨v, hst.box j1, j2⟩⟩⟩⟩)
    ?assign ?body ?done ?stop
  case assign =>
    rintro l' pre x W0 W K' hI hbl ⟨q, k1, k2, k3, k4, k5⟩ hK
    unfold encB at *
    obtain ⟨v5, j1, j2⟩ := hI.1.k5
    have big := hI.1.big
    have hI2 := hI.1.below hbN hbl
    replace k3 := Lib.hid k3
    gi_wp2
    refine hK _ _ (KeepsFrom.refl _ _) (Below.refl _ _) ⟨hI2, hI.2⟩ ⟨rfl, q, k1, k2, k3.out, k4, fun h0 => ⟨by have := k5 h0; omega, v5, (hbl.block _ j1.lt).trans j1, fun e => ?_⟩⟩
    have := (World.ownsRow.lt j2 _ e).2
    have := k5 h0
    omega
  case body =>
    rintro l' pre x a' W ⟨hD, hw⟩ ⟨rfl, q, k1, k2, k3, k4, k5⟩
    obtain ⟨xa, xn, xc, xb⟩ := x
    obtain ⟨pt, L⟩ := q
    simp only at k2 k3 k4 k5 ⊢
    have hq : (ps.drop r)[pre.length]? = some (pt, L) := by rw [List.getElem?_drop]; exact k1
    have EN : Hid (∀ C, ScI p F a n c b (ps.map Prod.fst) frm tq N (gotR frm tq (ps.drop r) pre.length ++ L.filter (inR frm tq)) w C → ScI p F a n c b (ps.map Prod.fst) frm tq N (gotR frm tq (ps.drop r) (pre ++ [(⟨xa, xn, xc, xb⟩ : Bl)]).length) w C ∧ WantB (ps.drop r) tq (pre ++ [(⟨xa, xn, xc, xb⟩ : Bl)]).length) := Lib.hid (fun C h => by
      rw [List.length_append]
      refine ⟨by show ScI _ _ _ _ _ _ _ _ _ _ (gotR frm tq (ps.drop r) (pre.length + 1)) _ _; rw [gotR_succ hq]; exact h, hw.succ hq k2⟩)
    have GM : Hid (∀ j, (gotR frm tq (ps.drop r) pre.length ++ (L.take j).filter (inR frm tq)).length ≤ 1000000) := Lib.hid (fun j => Nat.le_trans (got_most hq) (Nat.le_trans (drop_most ps r) hsum))
    obtain ⟨GR, hGR⟩ := named (gotR frm tq (ps.drop r) pre.length)
    rw [← hGR.out] at EN GM hD
    replace hGR := Lib.hid trivial
    have hxm := k4.most
    have hxc := k4.cap
    have hLn := Lib.hid k4.len
    have X0 : Hid (ScI p F a n c b (ps.map Prod.fst) frm tq N (GR ++ (L.take 0).filter (inR frm tq)) w W) := Lib.hid (by simpa using hD)
    have R0 := Lib.hid k4
    have A0 : Hid (0 < xn → N + 9 ≤ xb ∧ ∃ v, Boxed W (N + 5) 22 v ∧ v.ownBlock ≠ some xb) := Lib.hid k5
    have K0 := Lib.hid (KeepsOthers.refl W)
    have B0 := Lib.hid (Below.refl N W)
    obtain ⟨i0, hi0, hy0, hy1, hy2⟩ := info_parts info_rowB
    clear hD hw k1 k2 k3 k4 k5 hq hRead _hrow hr2 SU D1
    gi_wp2
    gi_loopw [29] (fun iv wr => ∃ j : Nat, j ≤ xn ∧ iv = .int .i64 (j : Int) ∧ Hid (ScI p F a n c b (ps.map Prod.fst) frm tq N (GR ++ (L.take j).filter (inR frm tq)) w wr) ∧ Hid (Rs xa xn xc xb 0 L wr) ∧ Hid (0 < xn → N + 9 ≤ xb ∧ ∃ v, Boxed wr (N + 5) 22 v ∧ v.ownBlock ≠ some xb) ∧ Hid (KeepsOthers W wr) ∧ Hid (Below N W wr)) (fun iv _ => xn - (intOf iv).toNat)
    case atStart => exact ⟨0, Nat.zero_le _, rfl, X0, R0, A0, K0, B0⟩
    case round =>
      clear X0 R0 A0 K0 B0
      obtain ⟨j, hj, rfl, hX, hR, hA, hK, hB⟩ := hrel
      by_cases hlt : j < xn
      · have j0 : (j : Int) < (xn : Int) := by omega
        have j1 : (0 : Int) ≤ (j : Int) := by omega
        obtain ⟨y, hy, rfl, x0, x1, x2, x3⟩ := hR.out.at4 hlt
        rw [Nat.zero_add] at x0 x1 x2 x3
        have htk := Lib.hid (take_row hy)
        obtain ⟨hxb9, v5, hv5, hvb⟩ := hA.out (by omega)
        have hbx := (hR.out.addr (by omega)).2
        have bl1 := below_alloc wr (.cells #[.string y.key, .int .u64 (y.seq : Int), .int .i64 y.kind, .string y.val] 39)
        have X1 := Lib.hid (hX.out.below hbN bl1)
        have R1 := Lib.hid (hR.out.below bl1 (Nat.le_refl _))
        have V1 : Hid (Boxed (wr.alloc (.cells #[.string y.key, .int .u64 (y.seq : Int), .int .i64 y.kind, .string y.val] 39)) (N + 5) 22 v5) := Lib.hid ((bl1.block _ hv5.lt).trans hv5)
        have K1 := Lib.hid (hK.out.trans (keeps_below bl1))
        have B1 := Lib.hid (hB.out.trans (bl1.mono (by have := hX.out.big; omega)))
        have Y1 := Lib.hid (RowAt.new y wr)
        obtain ⟨⟨c0, c1, c2, c3⟩, _⟩ := Y1.out.cells
        have f0 := X1.out.k0.cell
        have f4 := X1.out.k4.cell
        have hvb := Lib.hid hvb
        have hbx := Lib.hid hbx
        clear bl1 hv5
        cases hg : Op.bytesLess y.key.toList frm.toList with
        | true =>
          have GQ : ∀ u : World, (binOp .geq 9 (.string y.key) (.string frm)).run Try.prog u = .ok (.bool false) u := fun u => geq_str _ _ _ (by rw [hg]; rfl) u
          have hin : Hid ((L.take (j + 1)).filter (inR frm tq) = (L.take j).filter (inR frm tq)) := Lib.hid (by rw [htk.out, List.filter_append, List.filter_cons_of_neg (by unfold inR; rw [hg]; simp)]; simp)
          clear hg
          gi_wp2
          refine ⟨fun _ h => (by cases h), ?_⟩
          gi_wp2
          go_roundw
          case rel => exact ⟨j + 1, by omega, by go_num, Lib.hid (by rw [hin.out]; exact X1.out), R1, Lib.hid (fun _ => ⟨hxb9, v5, V1.out, hvb.out⟩), K1, B1⟩
          case measure => simp [intOf]; omega
        | false =>
          have GQ : ∀ u : World, (binOp .geq 9 (.string y.key) (.string frm)).run Try.prog u = .ok (.bool true) u := fun u => geq_str _ _ _ (by rw [hg]; rfl) u
          have BC := Lib.hid (bel_clo y.key tq (N + 1) _ X1.out.bk.cg.cell)
          cases hb : belB tq y.key with
          | false =>
            have hin : Hid ((L.take (j + 1)).filter (inR frm tq) = (L.take j).filter (inR frm tq)) := Lib.hid (by rw [htk.out, List.filter_append, List.filter_cons_of_neg (by unfold inR; rw [hb]; simp)]; simp)
            rw [hb] at BC
            clear hg hb
            gi_upto_region 14 with (fail)
            refine ⟨trivial, ?_⟩
            with_reducible refine (CallsIn.inRound l' (callsIn_wide.2 BC.out)).mono ?_
            rintro e w2 ⟨rfl, hb2⟩
            have X2 := Lib.hid (X1.out.below hbN hb2)
            have R2 := Lib.hid (R1.out.below hb2 (Nat.le_refl _))
            have V2 : Hid (Boxed w2 (N + 5) 22 _) := Lib.hid ((hb2.block _ V1.out.lt).trans V1.out)
            have Y2 := Lib.hid (Y1.out.below hb2)
            have K2 := Lib.hid (K1.out.trans (keeps_below hb2))
            have B2 := Lib.hid (B1.out.trans (hb2.mono (by have := X1.out.big; omega)))
            have bx2 := Lib.hid (Nat.lt_of_lt_of_le hbx.out (Nat.le_trans (Nat.le_of_lt (by rw [World.size_alloc]; exact Nat.lt_succ_self _)) hb2.size))
            clear hb2
            gi_wp2
            go_roundw
            case rel => exact ⟨j + 1, by omega, by go_num, Lib.hid (by rw [hin.out]; exact X2.out), R2, Lib.hid (fun _ => ⟨hxb9, v5, V2.out, hvb.out⟩), K2, B2⟩
            case measure => simp [intOf]; omega
          | true =>
            have hin : Hid ((L.take (j + 1)).filter (inR frm tq) = (L.take j).filter (inR frm tq) ++ [y]) := Lib.hid (by rw [htk.out, List.filter_append, List.filter_cons_of_pos (by unfold inR; rw [hb, hg]; rfl)]; simp)
            rw [hb] at BC
            have GMj := Lib.hid (app_bR (GM.out j))
            obtain ⟨ES, hES⟩ := named (GR ++ (L.take j).filter (inR frm tq))
            have hin2 : Hid (GR ++ (L.take (j + 1)).filter (inR frm tq) = ES ++ [y]) := Lib.hid (by rw [hin.out, ← List.append_assoc, hES.out])
            rw [← hES.out] at GMj X1
            replace hES := Lib.hid trivial
            clear hg hb hin
            obtain ⟨vv, hv1, hv2⟩ := X1.out.k5
            obtain ⟨q1, q2, q3, e5⟩ := own_shape hv2
            replace e5 := (boxed_one V1.out hv1).trans e5
            clear hv1 hv2 vv
            subst e5
            gi_upto_region 14 with (fail)
            refine ⟨trivial, ?_⟩
            with_reducible refine (CallsIn.inRound l' (callsIn_wide.2 BC.out)).mono ?_
            rintro e w2 ⟨rfl, hb2⟩
            have X2 := Lib.hid (X1.out.below hbN hb2)
            have R2 := Lib.hid (R1.out.below hb2 (Nat.le_refl _))
            have V2 : Hid (Boxed w2 (N + 5) 22 _) := Lib.hid ((hb2.block _ V1.out.lt).trans V1.out)
            have Y2 := Lib.hid (Y1.out.below hb2)
            have K2 := Lib.hid (K1.out.trans (keeps_below hb2))
            have B2 := Lib.hid (B1.out.trans (hb2.mono (by have := X1.out.big; omega)))
            have bx2 := Lib.hid (Nat.lt_of_lt_of_le hbx.out (Nat.le_trans (Nat.le_of_lt (by rw [World.size_alloc]; exact Nat.lt_succ_self _)) hb2.size))
            clear hb2
            gi_upto_region 14 with (fail)
            have O2 : Hid (w2.ownsRow N 39 4 (.slice q1 q2 q3) ES.length (rowR ES)) := Lib.hid (by obtain ⟨v, h1, h2⟩ := X2.out.k5; rw [boxed_one V2.out h1]; exact h2)
            obtain ⟨⟨d0, d1, d2, d3⟩, _⟩ := Y2.out.cells
            have v0 := V2.out.cell
            have vf := V2.out.frozen
            have big2 := Lib.hid X2.out.big
            obtain ⟨yk, ys, yi, yv⟩ := y
            simp only at d0 d1 d2 d3 hin2
            clear c0 c1 c2 c3 x0 x1 x2 x3 f0 f4
            gi_wp2_with (gi_at_builtin; refine wpListIn_append_own_at _ rfl _ _ 22 rfl N 39 i0 (.agg #[.string .empty, .int .u64 0, .int .i64 0, .string .empty]) 4 48 Try.underlying22 hi0 hy0 hy1 hy2 rfl (by decide) (.slice q1 q2 q3) ES.length (rowR ES) (by rfl) (O2.out.alloc _) ⟨w2.heap.size, 0, none⟩ 1 1 [.string yk, .int .u64 (ys : Int), .int .i64 yi, .string yv] (by rfl) rfl (World.news_of_block (heap_alloc_new _ _)) (by simp [Value.oneCell']) GMj.out.1 GMj.out.2 (by rw [World.size_alloc]; have := big2.out; omega) ?_; intro v' w3 hown' hgrow _ hat; obtain ⟨P1, P2, P3, P4⟩ := X2.out.appended hbN (⟨yk, ys, yi, yv⟩ : Rw) V2.out O2.out (by rw [rowR_snoc]; exact hown') hgrow; obtain ⟨p1, p2, p3, rfl⟩ := own_shape hown'; have X3 := Lib.hid P1; have K3 := Lib.hid (K2.out.trans P2); have B3 := Lib.hid (B2.out.trans P3); have hv8 := V2.out.appended (by decide) O2.out (by have := big2.out; omega) (by omega) hown' hgrow; have c8 := hv8.1.cell; have f8 := hv8.1.frozen; have V3 := Lib.hid hv8.2.1; have R3 := Lib.hid (R2.out.keep (fun _ => P4 xb bx2.out (by omega) hvb.out) P3.size); have hvb3 : Hid ((Value.slice p1 p2 p3).ownBlock ≠ some xb) := Lib.hid (fun e => by rcases hat with h | h; exact hvb.out (h.symm.trans e); (rw [h] at e; injection e with e; rw [World.size_alloc] at e; have := bx2.out; omega)); clear P1 P2 P3 P4 hv8 hown' hgrow hat)
            go_roundw
            case rel => exact ⟨j + 1, by omega, by go_num, Lib.hid (by rw [hin2.out]; exact X3.out), R3, Lib.hid (fun _ => ⟨hxb9, _, V3.out, hvb3.out⟩), K3, B3⟩
            case measure => simp [intOf]; omega
      · have j0 : ¬ (j : Int) < (xn : Int) := by omega
        obtain rfl : j = xn := by omega
        have hX2 : Hid (ScI p F a n c b (ps.map Prod.fst) frm tq N (GR ++ L.filter (inR frm tq)) w wr) := Lib.hid (by have := hX.out; rw [← hLn.out, List.take_length] at this; exact this)
        gi_wp2
        exact ⟨hK.out.from _, hB.out, EN.out _ hX2.out⟩
  case done =>
    rintro D xs W hD hst ⟨hX, hw⟩ hKD
    have hfin : Hid (gotR frm tq (ps.drop r) xs.length = scanP frm tq (ps.drop r)) := Lib.hid ((scan_got hw.1 hw.2 (fun q hq => hst q (by rw [List.getElem?_drop] at hq; exact hq))).symm)
    obtain ⟨v5, h5, hr5⟩ := hX.k5
    rw [hfin.out] at hr5
    obtain ⟨q1, q2, q3, rfl⟩ := own_shape hr5
    have c5 := h5.cell
    have c2 := hX.k2.cell
    have f2 := hX.k2.frozen
    have c3 := hX.k3.cell
    have f3 := hX.k3.frozen
    have hX := Lib.hid hX
    have h5 := Lib.hid h5
    have hr5 := Lib.hid hr5
    have hKD := Lib.hid hKD
    clear hst hw SU D1 hRead _hrow hr2
    have N2 : Boxed ((W.setCell ⟨N + 2, 0, none⟩ (.slice q1 q2 q3)).setCell ⟨N + 3, 0, none⟩ (.int .i64 0)) (N + 2) 22 (.slice q1 q2 q3) := (hX.out.k2.set _).other (by omega) _
    have N3 : Boxed ((W.setCell ⟨N + 2, 0, none⟩ (.slice q1 q2 q3)).setCell ⟨N + 3, 0, none⟩ (.int .i64 0)) (N + 3) 27 (.int .i64 0) := (hX.out.k3.other (by omega) _).set _
    have NK : ((W.setCell ⟨N + 2, 0, none⟩ (.slice q1 q2 q3)).setCell ⟨N + 3, 0, none⟩ (.int .i64 0)).heap[D]? = some (.deferred (some [])) := ((KeepsOthers.setCell W _ _).trans (KeepsOthers.setCell _ _ _)).same D _ hKD.out rfl
    have NR := Lib.hid ((hr5.out.kept (grownBy_setCell' _ (N + 2) (.slice q1 q2 q3)) (.inr (hX.out.k2.not_row (by decide) hr5.out).symm)).kept (grownBy_setCell' _ (N + 3) (.int .i64 0)) (.inr (hX.out.k3.not_row (by decide) hr5.out).symm))
    have NB := Lib.hid ((hX.out.f.setCell (p := ⟨N + 2, 0, none⟩) (Nat.le_add_right _ _) (.slice q1 q2 q3)).setCell (p := ⟨N + 3, 0, none⟩) (Nat.le_add_right _ _) (.int .i64 0))
    go_wp2
    generalize ((W.setCell ⟨N + 2, 0, none⟩ (.slice q1 q2 q3)).setCell ⟨N + 3, 0, none⟩ (.int .i64 0)) = WZ at *
    have X4 := ((boxed_own (N + 2) 22 (fun _ : Unit => .slice q1 q2 q3)).putObj (s := ()) (.deferred none) N2 NK rfl).cell
    have X5 := ((boxed_own (N + 3) 27 (fun _ : Unit => .int .i64 0)).putObj (s := ()) (.deferred none) N3 NK rfl).cell
    have BF : Below N WZ (WZ.putObj D (.deferred none)) := (Below.refl N _).grown (grownBy_putObj' _ D (.deferred none)) (by have := (Array.getElem?_eq_some_iff.1 NK).1; omega) (fun k e => by cases e; omega)
    refine ⟨by simp, .inl ⟨_, _, rfl, run_takeDeferred NK, ?_⟩⟩
    refine ⟨.tuple #[.slice q1 q2 q3, .int .i64 0], ?_, ?_⟩
    · simp [results, Try.results10, go_sem, X4, X5]
    · exact ⟨_, rfl, by rw [← hN.out]; exact ownsRow_putObj NR.out (.deferred none) NK rfl, by rw [← hN.out]; exact NB.out.trans BF⟩
  case stop =>
    rintro D cd pre W hD hno hK
    exact hno.elim
end Go.Proofs.Ytmjakkemiiigpaa
/-
  The mathematics of Get: what a built table has under a key at a number is what its rows have. No condition.
-/
namespace Go.Proofs.Ytmjakkemiiigpaa
set_option maxRecDepth 100000
open Go.RowKit
/-- What rows have under a key at a number. -/
def haveL (l : List Rw) (k : ByteArray) (q : Nat) : Option Rw := l.find? (fun x => x.key.toList == k.toList && decide (x.seq ≤ q))
theorem plc_eq {l : List Rw} (hs : SortedR l) {k : ByteArray} {q i : Nat} (hi : i ≤ l.length) (hb : ∀ j x, j < i → l[j]? = some x → ahd x k q = true) (he : ∀ x, l[i]? = some x → ahd x k q = false) : plc l k q = i := by
  have h1 : i ≤ plc l k q := by
    rcases Nat.eq_zero_or_pos i with h | h
    · omega
    · obtain ⟨x, hx⟩ : ∃ x, l[i - 1]? = some x := ⟨_, List.getElem?_eq_getElem (by omega)⟩
      have := (plc_iff hs (k := k) (q := q) hx).1 (hb _ x (by omega) hx)
      omega
  have h2 := plc_le l k q
  rcases Nat.lt_or_ge i (plc l k q) with h | h
  · obtain ⟨x, hx⟩ : ∃ x, l[i]? = some x := ⟨_, List.getElem?_eq_getElem (by omega)⟩
    have := (plc_iff hs (k := k) (q := q) hx).2 h
    rw [he x hx] at this; cases this
  · omega
/-- A row that stands ahead is none that one looks for. -/
theorem ahd_not {x : Rw} {k : ByteArray} {q : Nat} (h : ahd x k q = true) : (x.key.toList == k.toList && decide (x.seq ≤ q)) = false := by
  unfold ahd at h
  split at h
  · have := of_decide_eq_true h
    rw [Bool.and_eq_false_iff]; exact .inr (decide_eq_false (by omega))
  · rename_i e
    rw [Bool.and_eq_false_iff]; exact .inl (beq_eq_false_iff_ne.2 e)
theorem have_plc {l : List Rw} (hs : SortedR l) (k : ByteArray) (q : Nat) : haveL l k q = match l[plc l k q]? with | some x => (if x.key.toList = k.toList then some x else none) | none => none := by
  obtain ⟨m, hm⟩ : ∃ m, m = plc l k q := ⟨_, rfl⟩
  rw [← hm]
  unfold haveL
  have h0 : (l.take m).find? (fun x => x.key.toList == k.toList && decide (x.seq ≤ q)) = none := by
    rw [List.find?_eq_none]
    intro x hx
    rw [hm] at hx
    rw [ahd_not (plc_front hx)]; simp
  have e : l = l.take m ++ l.drop m := (List.take_append_drop m l).symm
  have e2 : l.find? (fun x => x.key.toList == k.toList && decide (x.seq ≤ q)) = (l.drop m).find? (fun x => x.key.toList == k.toList && decide (x.seq ≤ q)) := by
    conv => lhs; rw [e]
    rw [List.find?_append, h0]; rfl
  rw [e2]
  cases hx : l[m]? with
  | none =>
    have : l.drop m = [] := List.drop_eq_nil_of_le (List.getElem?_eq_none_iff.1 hx)
    rw [this]; rfl
  | some x =>
    obtain ⟨hlt, he⟩ := List.getElem?_eq_some_iff.1 hx
    have ed : l.drop m = x :: l.drop (m + 1) := by rw [List.drop_eq_getElem_cons hlt, he]
    have hna : ahd x k q = false := by
      cases h : ahd x k q with
      | false => rfl
      | true => have := (plc_iff hs hx).1 h; omega
    simp only
    by_cases hk : x.key.toList = k.toList
    · rw [if_pos hk, ed]
      have hq : x.seq ≤ q := by
        unfold ahd at hna
        rw [if_pos hk] at hna
        have := of_decide_eq_false hna
        omega
      rw [List.find?_cons_of_pos]
      simp [hk, hq]
    · rw [if_neg hk, List.find?_eq_none]
      intro y hy hf
      rw [Bool.and_eq_true, beq_iff_eq, decide_eq_true_eq] at hf
      obtain ⟨j, hj⟩ := List.mem_iff_getElem?.1 hy
      rw [List.getElem?_drop] at hj
      have h1 := sorted_keys hs (Nat.le_add_right m j) hx hj
      rw [hf.1] at h1
      unfold ahd at hna
      rw [if_neg hk] at hna
      rw [less_before] at h1
      rcases WideAt.bytes_total _ _ hk with t | t
      · rw [t] at hna; cases hna
      · rw [t] at h1; cases h1
/-- The index of a built table is sorted. -/
theorem idx_at {l : List Rw} {B R : Int} {xs : List (Nat × Nat)} (h : Divs l.length (fitAt l B R) xs) {i : Nat} {y : Rw} (hy : (idxR (xs.map (ptOf l R)))[i]? = some y) : ∃ z, l[tot (xs.take (i + 1)) - 1]? = some z ∧ sameP y z.key z.seq ∧ i < xs.length := by
  unfold idxR at hy
  rw [List.getElem?_map, List.getElem?_map] at hy
  cases hx : xs[i]? with
  | none => rw [hx] at hy; cases hy
  | some x =>
    rw [hx] at hy
    simp only [Option.map_some, Option.some.injEq] at hy
    obtain ⟨_, _, z, hz, ez, _⟩ := last_of h hx
    subst hy
    have e1 : (ptOf l R x).en = ⟨(rwAt l x.1).key, z.key, z.seq, x.2⟩ := ez
    exact ⟨z, hz, ⟨by rw [e1], by rw [e1]⟩, (List.getElem?_eq_some_iff.1 hx).1⟩
theorem tot_mono (xs : List (Nat × Nat)) {i j : Nat} (h : i ≤ j) : tot (xs.take i) ≤ tot (xs.take j) := by
  have : xs.take j = xs.take i ++ (xs.take j).drop i := by
    have := List.take_append_drop i (xs.take j)
    rw [List.take_take, Nat.min_eq_left h] at this
    exact this.symm
  rw [this, tot_app]; omega
theorem idx_sorted {l : List Rw} {B R : Int} {xs : List (Nat × Nat)} (hs : SortedR l) (h : Divs l.length (fitAt l B R) xs) : SortedR (idxR (xs.map (ptOf l R))) := by
  refine List.pairwise_iff_getElem.2 fun i j hi hj hij => ?_
  obtain ⟨z, hz, sz, hiz⟩ := idx_at h (List.getElem?_eq_getElem hi)
  obtain ⟨u, hu, su, hju⟩ := idx_at h (List.getElem?_eq_getElem hj)
  have hx : xs[j]? = some xs[j] := List.getElem?_eq_getElem hju
  obtain ⟨a1, a2, _⟩ := last_of h hx
  have hx2 : xs[i]? = some xs[i] := List.getElem?_eq_getElem hiz
  obtain ⟨b1, b2, _⟩ := last_of h hx2
  have hm := tot_mono xs (show i + 1 ≤ j by omega)
  obtain ⟨p1, q1⟩ := List.getElem?_eq_some_iff.1 hz
  obtain ⟨p2, q2⟩ := List.getElem?_eq_some_iff.1 hu
  have := List.pairwise_iff_getElem.1 hs _ _ p1 p2 (by omega)
  rw [q1, q2] at this
  rw [ahd_left sz, ahd_same su]
  exact this
theorem keysN_in (l : List Rw) : ∀ j, j < l.length → (rwAt l j).key ∈ keysN l (j + 1)
  | 0, _ => by rw [keysN, if_pos (.inl rfl)]; simp
  | j + 1, hj => by
    rw [keysN]
    by_cases e : (rwAt l (j + 1)).key = (rwAt l j).key
    · rw [e]
      exact List.mem_append_left _ (keysN_in l j (by omega))
    · rw [if_pos (.inr e)]
      exact List.mem_append_right _ (by simp)
theorem keysN_sub (l : List Rw) {k : ByteArray} : ∀ (m j : Nat), j ≤ m → k ∈ keysN l j → k ∈ keysN l m
  | 0, j, hj, h => by obtain rfl : j = 0 := by omega
                      exact h
  | m + 1, j, hj, h => by
    rcases Nat.lt_or_eq_of_le hj with e | e
    · rw [keysN]; exact List.mem_append_left _ (keysN_sub l m j (by omega) h)
    · rw [← e]; exact h
theorem key_in {l : List Rw} {y : Rw} (h : y ∈ l) : y.key ∈ keysT l := by
  obtain ⟨j, hj⟩ := List.mem_iff_getElem?.1 h
  have hlt := (List.getElem?_eq_some_iff.1 hj).1
  have := keysN_in l j hlt
  rw [rwAt_some hj] at this
  exact keysN_sub l l.length (j + 1) hlt this
/-- What a built table has. -/
theorem got_built {l : List Rw} {B R : Int} {K : Nat} {xs : List (Nat × Nat)} {s : List UInt8} (h : Built l B R K xs s) (hl : l.length ≤ 1024) {k : ByteArray} {q : Nat} {r : Rw} {ok : Bool} {E : Nat} (hg : GotP (fltT l K) (xs.map (ptOf l R)) k q r ok E) :
    E = 0 ∧ ((haveL l k q = some r ∧ ok = true) ∨ (haveL l k q = none ∧ ok = false ∧ r = rwZ)) := by
  have ha := argT_parts h.arg
  have hs : SortedR l := sorted_of ha.2.2.1
  have hdv := h.good.div
  have hK : 1 ≤ K ∧ K ≤ 32 := by have := h.arg; unfold argT at this; simp at this; omega
  rcases hg with ⟨h1, rfl, rfl, rfl⟩ | ⟨x, hx, hF, h1⟩
  · refine ⟨rfl, .inr ⟨?_, rfl, rfl⟩⟩
    rcases h1 with h1 | h1
    · -- all data blocks are ahead
      rw [have_plc hs]
      have : plc l k q = l.length := by
        refine plc_eq hs (Nat.le_refl _) (fun j y hj hy => ?_) (fun y hy => ?_)
        · have hn : xs ≠ [] := by
            rintro rfl
            have := h.all
            simp [tot] at this
            omega
          have hpos : 0 < xs.length := List.length_pos_iff.2 hn
          have hlast : (idxR (xs.map (ptOf l R)))[xs.length - 1]? = some ((idxR (xs.map (ptOf l R)))[xs.length - 1]'(by rw [idxR_len, List.length_map]; omega)) := List.getElem?_eq_getElem _
          have hah := (plc_iff (idx_sorted hs hdv) (k := k) (q := q) hlast).2 (by rw [List.length_map] at h1; omega)
          obtain ⟨z, hz, sz, _⟩ := idx_at hdv hlast
          rw [ahd_left sz] at hah
          rw [show xs.length - 1 + 1 = xs.length by omega, List.take_length, h.all] at hz
          rcases Nat.lt_or_ge j (l.length - 1) with hlt | hge
          · obtain ⟨p1, q1⟩ := List.getElem?_eq_some_iff.1 hy
            obtain ⟨p2, q2⟩ := List.getElem?_eq_some_iff.1 hz
            have := List.pairwise_iff_getElem.1 hs _ _ p1 p2 hlt
            rw [q1, q2] at this
            exact ahd_trans this hah
          · obtain rfl : j = l.length - 1 := by omega
            rw [hy] at hz; cases hz; exact hah
        · have := (List.getElem?_eq_some_iff.1 hy).1
          omega
      rw [this, List.getElem?_eq_none (Nat.le_refl _)]
    · -- the filter has not the key
      unfold haveL
      rw [List.find?_eq_none]
      intro y hy hf
      rw [Bool.and_eq_true, beq_iff_eq] at hf
      have hmem : k.data.toList ∈ (keysT l).map fun x => x.data.toList := by
        have h2 : y.key.data.toList ∈ (keysT l).map fun x => x.data.toList := List.mem_map.2 ⟨_, key_in hy, rfl⟩
        rw [← Lib.toList_data, hf.1, Lib.toList_data] at h2
        exact h2
      have := has_text hK.1 hK.2 (by rw [List.length_map]; have := keysN_len l l.length; unfold keysT; omega) hmem
      unfold fltT at h1
      rw [this] at h1; cases h1
  · -- some data block is not ahead
    obtain ⟨m, hm⟩ : ∃ m, m = plc (idxR (xs.map (ptOf l R))) k q := ⟨_, rfl⟩
    rw [← hm] at hx
    rw [List.getElem?_map] at hx
    cases hxm : xs[m]? with
    | none => rw [hxm] at hx; cases hx
    | some c =>
      rw [hxm] at hx
      simp only [Option.map_some, Option.some.injEq] at hx
      subst hx
      have hRd := readP_built (h.good.ok c (List.mem_of_getElem? hxm))
      rcases h1 with ⟨hno, _⟩ | ⟨ls, y, hls, hy, h2⟩
      · exact absurd hRd (hno _)
      · obtain rfl := readP_one hRd hls
        obtain ⟨q1, q2⟩ := chunk_in hdv hxm hy
        have hp : plc l k q = tot (xs.take m) + plc (chunk l c) k q := by
          have hyf : ahd y k q = false := by
            have hss : SortedR (chunk l c) := by
              unfold chunk
              exact (hs.sublist (List.drop_sublist _ _)).sublist (List.take_sublist _ _)
            cases he : ahd y k q with
            | false => rfl
            | true => have := (plc_iff hss hy).1 he; omega
          refine plc_eq hs (by have := (List.getElem?_eq_some_iff.1 q1).1; omega) (fun j z hj hz => ?_) (fun z hz => by rw [q1] at hz; cases hz; exact hyf)
          rcases Nat.lt_or_ge j (tot (xs.take m)) with hlt | hge
          · have hm0 : 0 < m := by
              rcases Nat.eq_zero_or_pos m with e | e
              · rw [e] at hlt; simp [tot] at hlt
              · exact e
            have hmx := (List.getElem?_eq_some_iff.1 hxm).1
            have hpv : (idxR (xs.map (ptOf l R)))[m - 1]? = some ((idxR (xs.map (ptOf l R)))[m - 1]'(by rw [idxR_len, List.length_map]; omega)) := List.getElem?_eq_getElem _
            have hah := (plc_iff (idx_sorted hs hdv) (k := k) (q := q) hpv).2 (by omega)
            obtain ⟨u, hu, su, _⟩ := idx_at hdv hpv
            rw [ahd_left su] at hah
            rw [show m - 1 + 1 = m by omega] at hu
            rcases Nat.lt_or_ge j (tot (xs.take m) - 1) with h3 | h3
            · obtain ⟨p1, e1⟩ := List.getElem?_eq_some_iff.1 hz
              obtain ⟨p2, e2⟩ := List.getElem?_eq_some_iff.1 hu
              have := List.pairwise_iff_getElem.1 hs _ _ p1 p2 h3
              rw [e1, e2] at this
              exact ahd_trans this hah
            · obtain rfl : j = tot (xs.take m) - 1 := by omega
              rw [hz] at hu; cases hu; exact hah
          · have hjc : j - tot (xs.take m) < plc (chunk l c) k q := by omega
            have hjl : j - tot (xs.take m) < (chunk l c).length := by have := plc_le (chunk l c) k q; omega
            obtain ⟨u, hu⟩ : ∃ u, (chunk l c)[j - tot (xs.take m)]? = some u := ⟨_, List.getElem?_eq_getElem hjl⟩
            obtain ⟨w1, _⟩ := chunk_in hdv hxm hu
            rw [show tot (xs.take m) + (j - tot (xs.take m)) = j by omega, hz] at w1
            cases w1
            refine plc_front (l := chunk l c) (k := k) (q := q) (x := z) ?_
            exact List.mem_iff_getElem?.2 ⟨_, by rw [List.getElem?_take, if_pos hjc]; exact hu⟩
        have hh := have_plc hs k q
        rw [hp, q1] at hh
        simp only at hh
        rcases h2 with ⟨h3, rfl, rfl, rfl⟩ | ⟨h3, rfl, rfl, rfl⟩
        · rw [if_pos h3] at hh
          exact ⟨rfl, .inl ⟨hh, rfl⟩⟩
        · rw [if_neg h3] at hh
          exact ⟨rfl, .inr ⟨hh, rfl, rfl⟩⟩
end Go.Proofs.Ytmjakkemiiigpaa
/-
  What a table that was built answers: the contracts of Open, Scan, Get, Len, First, Last at it. Condition: at most 1024 rows.
-/
namespace Go.Proofs.Ytmjakkemiiigpaa
set_option maxRecDepth 100000
open Go.RowKit
theorem cut_ex (P : Nat → Bool) : ∀ n, (∀ i j, i ≤ j → j < n → P j = true → P i = true) → ∃ r, r ≤ n ∧ ∀ j, j < n → (P j = true ↔ j < r)
  | 0, _ => ⟨0, Nat.le_refl _, fun j hj => absurd hj (Nat.not_lt_zero j)⟩
  | n + 1, h => by
    obtain ⟨r, hr, h1⟩ := cut_ex P n (fun i j hij hj => h i j hij (by omega))
    cases hp : P n with
    | true => exact ⟨n + 1, Nat.le_refl _, fun j hj => ⟨fun _ => hj, fun _ => h j n (by omega) (by omega) hp⟩⟩
    | false =>
      refine ⟨r, by omega, fun j hj => ?_⟩
      rcases Nat.lt_or_eq_of_le (Nat.le_of_lt_succ hj) with h2 | h2
      · exact h1 j h2
      · subst h2; rw [hp]; simp; omega
theorem flt_ne (l : List Rw) (K : Nat) : fltT l K ≠ [] := by unfold fltT Blm.text; simp
section
variable {l : List Rw} {B R : Int} {K : Nat} {xs : List (Nat × Nat)} {s : List UInt8}
theorem Built.sorted (h : Built l B R K xs s) : SortedR l := sorted_of (argT_parts h.arg).2.2.1
theorem Built.byt (_h : Built l B R K xs s) : ∀ x ∈ xs, (ptOf l R x).byt.length ≤ 65550 := fun x _ => put_small (buildB (chunk l x) R).1 (buildB_len _ _)
theorem Built.few (h : Built l B R K xs s) : xs.length ≤ l.length := by have := divs_len h.good.div; have := h.all; omega
theorem Built.okps (h : Built l B R K xs s) (hl : l.length ≤ 1024) : OkPs (xs.map (ptOf l R)) := by
  refine ⟨by rw [List.length_map]; have := h.few; omega, fun p hp => ?_⟩
  obtain ⟨x, hx, rfl⟩ := List.mem_map.1 hp
  obtain ⟨j, hj⟩ := List.mem_iff_getElem?.1 hx
  obtain ⟨_, _, y, hy, ey, hc⟩ := last_of h.good.div hj
  have hk := build_keys (h.good.ok x hx)
  have h4 := h.good.div j _ hj
  have e0 : (enOf (chunk l x)).fst = (rwAt (chunk l x) 0).key := by unfold enOf; rw [if_neg (by rw [hc]; have := h4.2.2.1; omega)]
  have e1 : (enOf (chunk l x)).lst = (rwAt (chunk l x) ((chunk l x).length - 1)).key := by unfold enOf; rw [if_neg (by rw [hc]; have := h4.2.2.1; omega)]
  have e2 : (enOf (chunk l x)).cnt = x.2 := by rw [ey]
  have hb := h.byt x hx
  refine ⟨by omega, ?_, ?_, ?_, ?_⟩
  · show (enOf (chunk l x)).fst.size ≤ 520; rw [e0]; exact hk 0
  · show (enOf (chunk l x)).lst.size ≤ 520; rw [e1]; exact hk _
  · show (enOf (chunk l x)).cnt ≤ 1024; rw [e2]; have := h4.2.2.2.1; omega
  · show 1 ≤ (enOf (chunk l x)).cnt; rw [e2]; exact h4.2.2.1
theorem Built.len (h : Built l B R K xs s) : lenP (xs.map (ptOf l R)) = l.length := by
  rw [← h.all]
  unfold lenP tot
  rw [List.map_map]
  congr 1
  refine List.map_congr_left fun x hx => ?_
  obtain ⟨j, hj⟩ := List.mem_iff_getElem?.1 hx
  obtain ⟨_, _, y, hy, ey, hc⟩ := last_of h.good.div hj
  show (enOf (chunk l x)).cnt = x.2
  rw [ey]
/-- What a built table's first key is. -/
def fstL (l : List Rw) : ByteArray := match l[0]? with | none => ⟨#[]⟩ | some x => x.key
def lstL (l : List Rw) : ByteArray := match l[l.length - 1]? with | none => ⟨#[]⟩ | some x => x.key
theorem Built.fst (h : Built l B R K xs s) : fstP (xs.map (ptOf l R)) = fstL l := by
  cases hx : xs with
  | nil =>
    have : l.length = 0 := by rw [← h.all, hx]; rfl
    have : l = [] := List.length_eq_zero_iff.1 this
    rw [this]; rfl
  | cons x r =>
    have hj : xs[0]? = some x := by rw [hx]; rfl
    obtain ⟨_, _, y, hy, ey, hc⟩ := last_of h.good.div hj
    obtain ⟨h1, h2, h3, _⟩ := h.good.div 0 x hj
    have h0 : x.1 = 0 := by rw [h1]; rfl
    show (enOf (chunk l x)).fst = _
    rw [ey, h0]
    unfold fstL rwAt
    rw [List.getD_eq_getElem?_getD]
    obtain ⟨z, hz⟩ : ∃ z, l[0]? = some z := ⟨_, List.getElem?_eq_getElem (by omega)⟩
    rw [hz]; rfl
theorem Built.lst (h : Built l B R K xs s) : lstP (xs.map (ptOf l R)) = lstL l := by
  unfold lstP lstL
  rw [List.getElem?_map, List.length_map]
  cases hx : xs[xs.length - 1]? with
  | none =>
    have h0 : xs.length = 0 := by
      rcases Nat.eq_zero_or_pos xs.length with e | e
      · exact e
      · rw [List.getElem?_eq_getElem (by omega)] at hx; cases hx
    have : xs = [] := List.length_eq_zero_iff.1 h0
    have : l.length = 0 := by rw [← h.all, this]; rfl
    have : l = [] := List.length_eq_zero_iff.1 this
    rw [this]; rfl
  | some x =>
    obtain ⟨h1, _, y, hy, ey, hc⟩ := last_of h.good.div hx
    have hpos : 0 < xs.length := by have := (List.getElem?_eq_some_iff.1 hx).1; omega
    rw [show xs.length - 1 + 1 = xs.length by omega, List.take_length, h.all] at hy
    rw [hy]
    show (enOf (chunk l x)).lst = y.key
    rw [ey]
theorem open_built (h : Built l B R K xs s) (hl : l.length ≤ 1024) (w : World) : Calls Try.prog 9 #[.string ⟨s.toArray⟩] w fun e w' => (∃ p, e = .returned (.tuple #[.pointer (some ⟨p, 0, none⟩), .int .i64 0]) ∧ TabAt p (fltT l K) (xs.map (ptOf l R)) w') ∧ Below w.heap.size w w' := by
  have ho := built_open h hl
  refine (open_any s (by have := h.most; omega) w).mono ?_
  rintro e w' (⟨F, ps, p, h1, h2, h3, h4⟩ | ⟨hno, _⟩)
  · obtain ⟨rfl, rfl⟩ := openP_one ho h1
    exact ⟨⟨p, h2, h3⟩, h4⟩
  · exact absurd ho (hno _ _)
theorem scan_built (h : Built l B R K xs s) (hl : l.length ≤ 1024) {p : Nat} {w : World} (hT : TabAt p (fltT l K) (xs.map (ptOf l R)) w) (frm tq : ByteArray) :
    Calls Try.prog 10 #[.pointer (some ⟨p, 0, none⟩), .string frm, .string tq] w fun e w' => ∃ v, e = .returned (.tuple #[v, .int .i64 0]) ∧ w'.ownsRow w.heap.size 39 4 v (l.filter (inR frm tq)).length (rowR (l.filter (inR frm tq))) ∧ Below w.heap.size w w' := by
  have hs := h.sorted
  obtain ⟨r, hr, h1⟩ := cut_ex (fun j => match xs[j]? with | some x => Op.bytesLess (ptOf l R x).en.lst.toList frm.toList | none => false) xs.length (fun i j hij hj hp => by
    obtain ⟨x, hx⟩ : ∃ x, xs[i]? = some x := ⟨_, List.getElem?_eq_getElem (by omega)⟩
    obtain ⟨y, hy⟩ : ∃ y, xs[j]? = some y := ⟨_, List.getElem?_eq_getElem (by omega)⟩
    rw [hy] at hp
    rw [hx]
    exact lasts_rise hs h.good.div frm hij hx hy hp)
  have hps : (prs l R xs).length = xs.length := by unfold prs; rw [List.length_map]
  have hat : ∀ j q, (prs l R xs)[j]? = some q → ∃ x, xs[j]? = some x ∧ q = (ptOf l R x, chunk l x) := fun j q hq => by
    unfold prs at hq
    rw [List.getElem?_map] at hq
    obtain ⟨x, hx, rfl⟩ := Option.map_eq_some_iff.1 hq
    exact ⟨x, hx, rfl⟩
  have hall : scanP frm tq ((prs l R xs).drop r) = l.filter (inR frm tq) := scan_all hs h.good.div h.all frm tq hr (fun i x hi hx => by
    have := (h1 i (by omega)).2 hi
    rw [hx] at this; exact this)
  have hsum : ((prs l R xs).flatMap Prod.snd).length ≤ 1000000 := by
    have : (prs l R xs).flatMap Prod.snd = xs.flatMap (chunk l) := by unfold prs; rw [List.flatMap_map]
    have hc := divs_cat h.good.div xs.length (Nat.le_refl _)
    rw [List.take_length, h.all, List.take_length] at hc
    rw [this, hc]; omega
  have := scan_tab (prs l R xs) (by rw [prs_fst]; exact hT) (flt_ne l K) (fun q hq => by
    obtain ⟨x, hx, rfl⟩ := List.mem_map.1 hq
    exact ⟨readP_built (h.good.ok x hx), by have := h.byt x hx; show (ptOf l R x).byt.length ≤ _; omega⟩) (fun q hq => by
    obtain ⟨x, hx, rfl⟩ := List.mem_map.1 hq
    show (chunk l x).length ≤ _
    unfold chunk
    rw [List.length_take, List.length_drop]; omega) frm tq r (by rw [hps]; exact hr) (fun j q hq => by
    obtain ⟨x, hx, rfl⟩ := hat j q hq
    have := h1 j (List.getElem?_eq_some_iff.1 hx).1
    rw [hx] at this
    exact this) hsum
  rw [hall] at this
  exact this
theorem get_built (h : Built l B R K xs s) (hl : l.length ≤ 1024) {p : Nat} {w : World} (hT : TabAt p (fltT l K) (xs.map (ptOf l R)) w) (k : ByteArray) (hk : k.size ≤ maxLen) (q : Nat) :
    Calls Try.prog 15 #[.pointer (some ⟨p, 0, none⟩), .string k, .int .u64 (q : Int)] w fun e w' => e = .returned (.tuple #[rowV ((haveL l k q).getD rwZ), .bool (haveL l k q).isSome, .int .i64 0]) ∧ Below w.heap.size w w' := by
  refine (get_tab hT (flt_ne l K) (by have := h.flt; omega) (h.okps hl) (idx_sorted h.sorted h.good.div) k hk q).mono ?_
  rintro e w' ⟨r, ok, E, hg, rfl, hb⟩
  obtain ⟨rfl, ⟨h1, rfl⟩ | ⟨h1, rfl, rfl⟩⟩ := got_built h hl hg
  · rw [h1]; exact ⟨rfl, hb⟩
  · rw [h1]; exact ⟨rfl, hb⟩
end
end Go.Proofs.Ytmjakkemiiigpaa
/-
  Options of a table that came in as an argument. No condition.
-/
namespace Go.Proofs.Ytmjakkemiiigpaa
set_option maxRecDepth 100000
open Go Go.RowKit Go.ChangeShapes Go.WideShapes
/-- A table's options. -/
structure To where
  B : Int
  R : Int
  K : Int
theorem open_topt {H : Type} {enc : TypeId × Value → H} {W : World} {b0 : Nat} {r : Reach} {v : Value} {d : DataW H} {ps : List MemPlace} {ts : List TypeId} {ds : List (DataW H)}
    (hv : Value.okWide Try.prog W r b0 24 v) (h : DataW.Trod enc Try.prog W 0 (fun _ => true) true 24 v d ps)
    (_hsz : (DataW.weightsEach Try.prog ts ds).all (· ≤ reachBytes) = true) {j : Nat} (_ht : ts[j]? = some 24) (_hd : ds[j]? = some d) :
    ∃ x : To, v = .agg #[.int .i64 x.B, .int .i64 x.R, .int .i64 x.K] ∧ True := by
  obtain ⟨cs, rfl, hsz2⟩ := okWide_struct Try.underlying24 hv
  obtain ⟨fuel, hf⟩ := h
  have oc : Try.prog.cellsOf 24 = 3 := by kernel_rfl
  have i1 : Try.prog.cellsOf 3 = 1 := by kernel_rfl
  obtain ⟨xs, n, _, hx, _, hn, hg⟩ := DataW.trod_struct Try.underlying24 hf
  have g0 := hg 0 _ rfl
  have g1 := hg 1 _ rfl
  have g2 := hg 2 _ rfl
  clear hg hf
  rw [oc] at hsz2
  obtain ⟨l⟩ := cs
  have hl : l.length = 3 := hsz2
  match l, hl with
  | [c0, c1, c2], _ =>
    have hm : xs.length = 3 := hn
    match xs, hm with
    | [y0, y1, y2], _ =>
      simp only [Value.cells] at g0 g1 g2
      obtain ⟨a0, e0, _, _⟩ := DataW.trod_int Try.underlying3 g0
      obtain ⟨a1, e1, _, _⟩ := DataW.trod_int Try.underlying3 g1
      obtain ⟨a2, e2, _, _⟩ := DataW.trod_int Try.underlying3 g2
      simp [i1] at e0 e1 e2
      subst e0 e1 e2
      exact ⟨⟨a0, a1, a2⟩, rfl, trivial⟩
end Go.Proofs.Ytmjakkemiiigpaa
