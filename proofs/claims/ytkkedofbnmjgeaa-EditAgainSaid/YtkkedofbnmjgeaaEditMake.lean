/-
  An edit under way: a block that holds it, and lists that grow. No condition.
-/
import Derived.Test.YtkkedofbnmjgeaaEditListed
import Derived.Test.YtkkedofbnmjgeaaRowGen
import Derived.Test.YtkkedofbnmjgeaaCodeText
namespace Go.Proofs.Ytkkedofbnmjgeaa
set_option maxRecDepth 100000
open Go Go.RowKit
/-- Of the blocks below B all stand but p. -/
structure Fr (B p : Nat) (w w' : World) : Prop where
  os : w'.os = w.os
  tape : w'.tape = w.tape
  output : w'.output = w.output
  size : w.heap.size ≤ w'.heap.size
  block : ∀ k : Nat, k < B → k ≠ p → w'.heap[k]? = w.heap[k]?
theorem Fr.refl (B p : Nat) (w : World) : Fr B p w w := ⟨rfl, rfl, rfl, Nat.le_refl _, fun _ _ _ => rfl⟩
theorem Fr.trans {B p : Nat} {x y z : World} (h : Fr B p x y) (k : Fr B p y z) : Fr B p x z :=
  ⟨k.os.trans h.os, k.tape.trans h.tape, k.output.trans h.output, Nat.le_trans h.size k.size, fun j hj hb => (k.block j hj hb).trans (h.block j hj hb)⟩
theorem Fr.of_below {B p : Nat} {w w' : World} (h : Below B w w') : Fr B p w w' := ⟨h.os, h.tape, h.output, h.size, fun k hk _ => h.block k hk⟩
theorem Fr.below {B p N : Nat} {w w' : World} (h : Fr B p w w') (hB : N ≤ B) (hp : N ≤ p) : Below N w w' := ⟨h.os, h.tape, h.output, h.size, fun k hk => h.block k (by omega) (by omega)⟩
theorem Fr.of_but {B p : Nat} {w w' : World} (h : But p w w') (hB : B ≤ w.heap.size) : Fr B p w w' := ⟨h.os, h.tape, h.output, h.size, fun k hk hp => h.block k (by omega) hp⟩
theorem Fr.set {B p : Nat} {w w' : World} (h : Fr B p w w') (o : Nat) (u : Value) : Fr B p w (w'.setCell ⟨p, o, none⟩ u) :=
  have g : Below 0 w' (w'.setCell ⟨p, o, none⟩ u) := (Below.refl 0 w').setCell (Nat.zero_le _) u
  h.trans ⟨g.os, g.tape, g.output, g.size, fun k _ hb => heap_setCell_other _ _ _ _ hb⟩
theorem Fr.grown {B p : Nat} {C w1 : World} {row : Option Nat} {tmp : Obj} (hB : B ≤ C.heap.size) (h : (C.alloc tmp).grownBy w1 row) (hr : ∀ r, row = some r → B ≤ r) : Fr B p C w1 :=
  ⟨h.os, h.tape, h.output, Nat.le_trans (by rw [World.size_alloc]; omega) h.size, fun k hk _ => (h.block k (by rw [World.size_alloc]; omega) (fun e => by have := hr k e.symm; omega)).trans (Below.heap_alloc C tmp k (by omega))⟩
theorem row_of {w : World} {B n : Nat} {e : TypeId} {v : Value} {xs : List Value} {size : Nat} (h : w.ownsRow B e size v n xs) : ∀ r, v.ownBlock = some r → B ≤ r ∧ r < w.heap.size ∧ ∃ cs, w.heap[r]? = some (.cells cs e (0, 0)) := by
  intro r hr
  rcases h.2 with ⟨rfl, _⟩ | ⟨g, cap, cur, rfl, hb, hg, _⟩
  · cases hr
  · simp only [Value.ownBlock, Option.some.injEq] at hr
    subst hr
    exact ⟨hb, (Array.getElem?_eq_some_iff.1 hg).1, cur, hg⟩
/-- Another row, of elements of another type, stands when a row grows. -/
theorem row_apart {C w1 : World} {B n m : Nat} {e e2 : TypeId} {v v2 : Value} {xs ys : List Value} {size size2 : Nat} {tmp : Obj} (h : C.ownsRow B e size v n xs) (k : C.ownsRow B e2 size2 v2 m ys) (hne : e ≠ e2) (hg : (C.alloc tmp).grownBy w1 v.ownBlock) : w1.ownsRow B e2 size2 v2 m ys := by
  refine (k.alloc tmp).kept hg ?_
  cases h1 : v2.ownBlock with
  | none => exact .inl rfl
  | some r =>
    refine .inr fun e => hne ?_
    obtain ⟨_, _, c1, q1⟩ := row_of k r h1
    obtain ⟨_, _, c2, q2⟩ := row_of h r e.symm
    rw [q1] at q2
    injection q2 with q2
    injection q2 with _ q3
    exact q3.symm
/-- A store into a block below B. -/
theorem row_low {w : World} {B n p o : Nat} {e : TypeId} {v u : Value} {xs : List Value} {size : Nat} (h : w.ownsRow B e size v n xs) (hp : p < B) : (w.setCell ⟨p, o, none⟩ u).ownsRow B e size v n xs := by
  have hg : w.grownBy (w.setCell ⟨p, o, none⟩ u) (some p) :=
    have g : Below 0 w (w.setCell ⟨p, o, none⟩ u) := (Below.refl 0 w).setCell (Nat.zero_le _) u
    ⟨g.os, g.tape, g.output, g.size, fun c _ hc => heap_setCell_other _ _ _ _ fun e => hc (by rw [e])⟩
  refine h.kept hg ?_
  cases h1 : v.ownBlock with
  | none => exact .inl rfl
  | some r =>
    refine .inr fun e => ?_
    have := (row_of h r h1).1
    cases e
    omega
abbrev edC (a b c : Nat) (vg va : Value) : Obj := .cells #[.int .u64 (a : Int), .int .u64 (b : Int), .int .u64 (c : Int), vg, va] 30 (0, 0)
/-- An edit under way: block p holds it, its lists lie behind B. -/
structure EdM (B p : Nat) (e : Ed) (vg va : Value) (w : World) : Prop where
  ed : w.heap[p]? = some (edC e.log e.next e.seq vg va)
  og : w.ownsRow B 54 2 vg e.gone.length (e.gone.flatMap cellsG)
  oa : w.ownsRow B 52 8 va e.added.length (e.added.flatMap cellsP)
  lt : p < B
  big : B ≤ w.heap.size
theorem edC_cells {p : Nat} {a b c : Nat} {vg va : Value} {w : World} (h : w.heap[p]? = some (edC a b c vg va)) : w.cell? ⟨p, 0, none⟩ = some (.int .u64 (a : Int)) ∧ w.cell? ⟨p, 1, none⟩ = some (.int .u64 (b : Int)) ∧ w.cell? ⟨p, 2, none⟩ = some (.int .u64 (c : Int)) ∧ w.cell? ⟨p, 3, none⟩ = some vg ∧ w.cell? ⟨p, 4, none⟩ = some va := by
  simp only [World.cell?, h]
  exact ⟨rfl, rfl, rfl, rfl, rfl⟩
theorem edC_frozen {p : Nat} {a b c : Nat} {vg va : Value} {w : World} (h : w.heap[p]? = some (edC a b c vg va)) : ∀ o, w.frozen? ⟨p, o, none⟩ = false := fun o => by simp [World.frozen?, h]
theorem EdM.cells {B p : Nat} {e : Ed} {vg va : Value} {w : World} (h : EdM B p e vg va w) : w.cell? ⟨p, 0, none⟩ = some (.int .u64 (e.log : Int)) ∧ w.cell? ⟨p, 1, none⟩ = some (.int .u64 (e.next : Int)) ∧ w.cell? ⟨p, 2, none⟩ = some (.int .u64 (e.seq : Int)) ∧ w.cell? ⟨p, 3, none⟩ = some vg ∧ w.cell? ⟨p, 4, none⟩ = some va := edC_cells h.ed
theorem EdM.frozen {B p : Nat} {e : Ed} {vg va : Value} {w : World} (h : EdM B p e vg va w) : ∀ o, w.frozen? ⟨p, o, none⟩ = false := edC_frozen h.ed
theorem EdM.but {B p b : Nat} {e : Ed} {vg va : Value} {w w' : World} (h : EdM B p e vg va w) (hb : But b w w') (hB : b < B) (hne : p ≠ b) : EdM B p e vg va w' :=
  ⟨(hb.block p (by have := h.lt; have := h.big; omega) hne).trans h.ed, ownsRow_but h.og hb hB, ownsRow_but h.oa hb hB, h.lt, Nat.le_trans h.big hb.size⟩
theorem EdM.below {B p : Nat} {e : Ed} {vg va : Value} {w w' : World} (h : EdM B p e vg va w) (hb : Below w.heap.size w w') : EdM B p e vg va w' := by
  have row : ∀ {t : TypeId} {s n : Nat} {v : Value} {xs : List Value}, w.ownsRow B t s v n xs → w'.ownsRow B t s v n xs := fun {t s n v xs} k => by
    refine ⟨k.1, ?_⟩
    rcases k.2 with h2 | ⟨g, cap, cur, h1, h2, h3, h4⟩
    · exact .inl h2
    · exact .inr ⟨g, cap, cur, h1, h2, (hb.block g (Array.getElem?_eq_some_iff.1 h3).1).trans h3, h4⟩
  exact ⟨(hb.block p (by have := h.lt; have := h.big; omega)).trans h.ed, row h.og, row h.oa, h.lt, Nat.le_trans h.big hb.size⟩
/-- A new edit. -/
theorem EdM.new (a b c : Nat) (w : World) : EdM (w.heap.size + 1) w.heap.size ⟨a, b, c, [], []⟩ (.slice none 0 0) (.slice none 0 0) (w.alloc (edC a b c (.slice none 0 0) (.slice none 0 0))) :=
  ⟨heap_alloc_new _ _, World.ownsRow_nil _ _ _ _, World.ownsRow_nil _ _ _ _, by omega, by rw [World.size_alloc]; exact Nat.le_refl _⟩
theorem EdM.addG {B p : Nat} {e : Ed} {vg va v' : Value} {C w1 : World} {tmp : Obj} {x : Gn} (h : EdM B p e vg va C) (hown : w1.ownsRow B 54 2 v' (e.gone.length + 1) (e.gone.flatMap cellsG ++ cellsG x)) (hgrow : (C.alloc tmp).grownBy w1 vg.ownBlock) :
    EdM B p ⟨e.log, e.next, e.seq, e.gone ++ [x], e.added⟩ v' va (w1.setCell ⟨p, 3, none⟩ v') ∧ Fr B p C (w1.setCell ⟨p, 3, none⟩ v') ∧ w1.cell? ⟨p, 3, none⟩ = some vg ∧ w1.frozen? ⟨p, 3, none⟩ = false := by
  have hp := h.lt
  have hB := h.big
  have hr : ∀ r, vg.ownBlock = some r → B ≤ r := fun r e => (row_of h.og r e).1
  have hed : w1.heap[p]? = some (edC e.log e.next e.seq vg va) := ((hgrow.block p (by rw [World.size_alloc]; omega) (fun e => by have := hr p e.symm; omega)).trans (Below.heap_alloc C tmp p (by omega))).trans h.ed
  have hF : Fr B p C w1 := Fr.grown hB hgrow hr
  have hF2 := hF.set 3 v'
  refine ⟨⟨?_, ?_, row_low (row_apart h.og h.oa (by decide) hgrow) hp, hp, Nat.le_trans hB hF2.size⟩, hF2, (edC_cells hed).2.2.2.1, edC_frozen hed 3⟩
  · exact (heap_setCell_same _ _ 3 _ _ v' hed).trans rfl
  · show World.ownsRow _ B _ 2 v' (e.gone ++ [x]).length _
    rw [List.length_append, List.length_singleton, rowG_snoc]
    exact row_low hown hp
theorem EdM.addA {B p : Nat} {e : Ed} {vg va v' : Value} {C w1 : World} {tmp : Obj} {x : Pl} (h : EdM B p e vg va C) (hown : w1.ownsRow B 52 8 v' (e.added.length + 1) (e.added.flatMap cellsP ++ cellsP x)) (hgrow : (C.alloc tmp).grownBy w1 va.ownBlock) :
    EdM B p ⟨e.log, e.next, e.seq, e.gone, e.added ++ [x]⟩ vg v' (w1.setCell ⟨p, 4, none⟩ v') ∧ Fr B p C (w1.setCell ⟨p, 4, none⟩ v') ∧ w1.cell? ⟨p, 4, none⟩ = some va ∧ w1.frozen? ⟨p, 4, none⟩ = false := by
  have hp := h.lt
  have hB := h.big
  have hr : ∀ r, va.ownBlock = some r → B ≤ r := fun r e => (row_of h.oa r e).1
  have hed : w1.heap[p]? = some (edC e.log e.next e.seq vg va) := ((hgrow.block p (by rw [World.size_alloc]; omega) (fun e => by have := hr p e.symm; omega)).trans (Below.heap_alloc C tmp p (by omega))).trans h.ed
  have hF : Fr B p C w1 := Fr.grown hB hgrow hr
  have hF2 := hF.set 4 v'
  refine ⟨⟨?_, row_low (row_apart h.oa h.og (by decide) hgrow) hp, ?_, hp, Nat.le_trans hB hF2.size⟩, hF2, (edC_cells hed).2.2.2.2, edC_frozen hed 4⟩
  · exact (heap_setCell_same _ _ 4 _ _ v' hed).trans rfl
  · show World.ownsRow _ B _ 8 v' (e.added ++ [x]).length _
    rw [List.length_append, List.length_singleton, rowG_snoc]
    exact row_low hown hp
/-- What is under way is an edit. -/
theorem EdM.at {B p : Nat} {e : Ed} {vg va : Value} {w : World} (h : EdM B p e vg va w) : ∃ hg ha : Hd, vg = hdV hg ∧ va = hdV ha ∧ EdAt e hg ha w ∧ (0 < hg.n → B ≤ hg.b) ∧ (0 < ha.n → B ≤ ha.b) := by
  obtain ⟨a, c, b, h1, h2, h3, h4⟩ := sl_of_rowG (cells := cellsG) (fun _ => rfl) rfl h.og
  obtain ⟨a', c', b', k1, k2, k3, k4⟩ := sl_of_rowG (cells := cellsP) (fun _ => rfl) rfl h.oa
  exact ⟨⟨a, e.gone.length, c, b, 0⟩, ⟨a', e.added.length, c', b', 0⟩, h1, k1, ⟨⟨h2, h4⟩, ⟨k2, k4⟩⟩, h3, k3⟩
theorem infoG : (Try.prog.info? 54).map (fun i => (i.zero, i.size, i.bytes)) = some (some (.agg #[.int .i64 0, .int .u64 0]), 2, 16) := by kernel_rfl
theorem infoP : (Try.prog.info? 52).map (fun i => (i.zero, i.size, i.bytes)) = some (some (.agg #[.int .i64 0, .int .u64 0, .int .i64 0, .int .i64 0, .string .empty, .string .empty, .int .u64 0, .int .u64 0]), 8, 80) := by kernel_rfl
theorem one_g (x : Gn) : ∀ u ∈ cellsG x, u.oneCell' = true := by
  intro u hu
  simp only [cellsG, List.mem_cons, List.not_mem_nil, or_false] at hu
  rcases hu with rfl | rfl <;> rfl
theorem one_p (x : Pl) : ∀ u ∈ cellsP x, u.oneCell' = true := by
  intro u hu
  simp only [cellsP, cellsM, List.mem_cons, List.not_mem_nil, or_false] at hu
  rcases hu with rfl | rfl | rfl | rfl | rfl | rfl | rfl | rfl <;> rfl
theorem bound_app {n : Nat} (h : n ≤ 2000) : n + 1 ≤ maxLen ∧ (n + 1) * 80 ≤ 140737488355328 ∧ (n + 1) * 16 ≤ 140737488355328 := by unfold maxLen; omega
end Go.Proofs.Ytkkedofbnmjgeaa
