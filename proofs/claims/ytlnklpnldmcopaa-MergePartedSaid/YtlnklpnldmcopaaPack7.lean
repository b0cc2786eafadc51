/-
  The contracts of Swap, Push and Pop of the heap of lists. Condition: at most 1000 lists.
-/
import Derived.Test.YtlnklpnldmcopaaPack6
namespace Go.Proofs.Ytlnklpnldmcopaa
set_option maxRecDepth 100000
open Go.RowKit
/-- Of what there was all blocks of cells stand but the heap's own. -/
def ElseH (w w' : World) : Prop := w.heap.size ≤ w'.heap.size ∧ ∀ (k : Nat) (cs : Array Value) (t : TypeId) (m : Nat × Nat), w.heap[k]? = some (.cells cs t m) → t ≠ 73 → t ≠ 76 → w'.heap[k]? = some (.cells cs t m)
theorem ElseH.trans {x y z : World} (h : ElseH x y) (k : ElseH y z) : ElseH x z := ⟨Nat.le_trans h.1 k.1, fun a cs t m ha h1 h2 => k.2 a cs t m (h.2 a cs t m ha h1 h2) h1 h2⟩
theorem ElseH.of_below {x y : World} (h : Below x.heap.size x y) : ElseH x y := ⟨h.size, fun k cs t m hk _ _ => (h.block k (Array.getElem?_eq_some_iff.1 hk).1).trans hk⟩
theorem ElseH.of_grown {x y : World} {r : Nat} {cs : Array Value} {t : TypeId} {m : Nat × Nat} (h : x.grownBy y (some r)) (hr : x.heap[r]? = some (.cells cs t m)) (ht : t = 73 ∨ t = 76) : ElseH x y :=
  ⟨h.size, fun k cs' t' m' hk h1 h2 => (h.block k (Array.getElem?_eq_some_iff.1 hk).1 (fun e => by
    cases e
    rw [hr] at hk
    cases hk
    rcases ht with e | e
    · exact h1 e
    · exact h2 e)).trans hk⟩
theorem row_block {w : World} {B g n c : Nat} {e : TypeId} {xs : List Value} {size : Nat} (h : w.ownsRow B e size (.slice (some ⟨g, 0, none⟩) n c) n xs) : B ≤ g ∧ ∃ cur, w.heap[g]? = some (.cells cur e (0, 0)) := by
  rcases h.2 with ⟨h', _⟩ | ⟨g', cap', cur, h', hb, hg, _⟩
  · cases h'
  · simp only [Value.slice.injEq, Option.some.injEq, Addr.mk.injEq, and_true, true_and] at h'
    obtain ⟨rfl, rfl⟩ := h'
    exact ⟨hb, cur, hg⟩
theorem rowPt_set (ps : List Nat) (i b : Nat) : rowPt (ps.set i b) = (rowPt ps).set i (.pointer (some ⟨b, 0, none⟩)) := by unfold rowPt; rw [List.map_set]
theorem rowPt_len (ps : List Nat) : (rowPt ps).length = ps.length := by unfold rowPt; rw [List.length_map]
theorem ItemAt.keep {B b : Nat} {x : It} {w w' : World} (h : ItemAt B b x w) (hB : B ≤ w.heap.size) (hb : Below B w w') (hk : w'.heap[b]? = w.heap[b]?) : ItemAt B b x w' := by
  obtain ⟨a, n, c, bb, o, h1, h2, h3⟩ := h
  exact ⟨a, n, c, bb, o, hk.trans h1, h2.keep (fun _ => hb.block bb h3) hb.size, h3⟩
/-- What a call on the heap leaves. -/
structure HpD (B hp k : Nat) (ps : List Nat) (it : Nat → It) (w w' : World) : Prop where
  hp : Hp B hp k ps it w'
  els : ElseH w w'
  bel : Below B w w'
theorem HpD.trans {B hp k k2 : Nat} {ps ps2 : List Nat} {it it2 : Nat → It} {w w1 w2 : World} (h : HpD B hp k ps it w w1) (h2 : HpD B hp k2 ps2 it2 w1 w2) : HpD B hp k2 ps2 it2 w w2 := ⟨h2.hp, h.els.trans h2.els, h.bel.trans h2.bel⟩
theorem HpD.below {B hp k : Nat} {ps : List Nat} {it : Nat → It} {w w1 w2 : World} (h : HpD B hp k ps it w w1) (hb : Below w1.heap.size w1 w2) : HpD B hp k ps it w w2 := ⟨h.hp.below hb, h.els.trans (.of_below hb), h.bel.trans (hb.mono h.hp.big)⟩
theorem HpD.refl {B hp k : Nat} {ps : List Nat} {it : Nat → It} {w : World} (h : Hp B hp k ps it w) : HpD B hp k ps it w w := ⟨h, .of_below (Below.refl _ _), Below.refl _ _⟩
/-- A store into the heap's row. -/
theorem Hp.put {B hp k : Nat} {ps : List Nat} {it : Nat → It} {w : World} (h : Hp B hp k ps it w) {g c : Nat} (h1 : w.heap[hp]? = some (.cells #[.slice (some ⟨g, 0, none⟩) ps.length c, .int .i64 (k : Int)] 73 (0, 0))) (h2 : w.ownsRow B 76 1 (.slice (some ⟨g, 0, none⟩) ps.length c) ps.length (rowPt ps)) (i b : Nat) (u : Value) :
    (w.setCell ⟨g, i, none⟩ u).heap[hp]? = some (.cells #[.slice (some ⟨g, 0, none⟩) ps.length c, .int .i64 (k : Int)] 73 (0, 0)) ∧ (w.setCell ⟨g, i, none⟩ u).ownsRow B 76 1 (.slice (some ⟨g, 0, none⟩) ps.length c) ps.length ((rowPt ps).set i u) ∧ ElseH w (w.setCell ⟨g, i, none⟩ u) ∧ Below B w (w.setCell ⟨g, i, none⟩ u) ∧ (∀ b ∈ ps, ItemAt B b (it b) (w.setCell ⟨g, i, none⟩ u)) := by
  obtain ⟨r1, r2⟩ := h2.stored i u
  obtain ⟨hg, cur, hcur⟩ := row_block h2
  have hbel : Below B w (w.setCell ⟨g, i, none⟩ u) := (Below.refl B w).setCell (p := ⟨g, i, none⟩) hg u
  have hne : hp ≠ g := fun e => by subst e; rw [h1] at hcur; cases hcur
  refine ⟨(heap_setCell_other _ _ _ _ hne).trans h1, r1, ElseH.of_grown r2 hcur (.inr rfl), hbel, fun b hb => (h.item b hb).1.keep h.big hbel (heap_setCell_other _ _ _ _ fun e => ?_)⟩
  obtain ⟨a, n, c', bb, o, q1, _⟩ := (h.item b hb).1
  have e : b = g := e
  subst e
  rw [q1] at hcur; cases hcur
theorem swp_eq {ps : List Nat} {i j bi bj : Nat} (hi : ps[i]? = some bi) (hj : ps[j]? = some bj) : swp ps i j = (ps.set i bj).set j bi := by
  unfold swp
  rw [List.getD_eq_getElem?_getD, List.getD_eq_getElem?_getD, hi, hj]; rfl
set_option maxRecDepth 100000 in
set_option maxHeartbeats 8000000 in
theorem swap_any {B hp k : Nat} {ps : List Nat} {it : Nat → It} {w : World} (h : Hp B hp k ps it w) {i j bi bj : Nat} (hi : ps[i]? = some bi) (hj : ps[j]? = some bj) :
    Calls Try.prog 86 #[.pointer (some ⟨hp, 0, none⟩), .int .i64 (i : Int), .int .i64 (j : Int)] w fun e w' => e = .returned (.tuple #[]) ∧ HpD B hp k (swp ps i j) it w w' := by
  have li := (List.getElem?_eq_some_iff.1 hi).1
  have lj := (List.getElem?_eq_some_iff.1 hj).1
  obtain ⟨g, c, h1, h2, hc, hm, hrow⟩ := h.row (by omega)
  obtain ⟨a0, _, _, _⟩ := two_cells h1
  have a1 := hrow i bi hi
  have a2 := hrow j bj hj
  have f1 := World.ownsRow.frozenAt h2 i
  have f2 := World.ownsRow.frozenAt h2 j
  obtain ⟨hgB, cur, hcur⟩ := row_block h2
  have hne : hp ≠ g := fun e => by subst e; rw [h1] at hcur; cases hcur
  have hd : Hp B hp k ps it w.drew := h.below (Below.refl _ _).drew
  obtain ⟨p1, p2, p3, p4, p5⟩ := hd.put (g := g) (c := c) h1 h2 i bj (.pointer (some ⟨bj, 0, none⟩))
  have hi1 : Hp B hp k (ps.set i bj) it (w.drew.setCell ⟨g, i, none⟩ (.pointer (some ⟨bj, 0, none⟩))) ∨ True := .inr trivial
  have hfin : HpD B hp k (swp ps i j) it w ((w.drew.setCell ⟨g, i, none⟩ (.pointer (some ⟨bj, 0, none⟩))).setCell ⟨g, j, none⟩ (.pointer (some ⟨bi, 0, none⟩))) := by
    obtain ⟨r1, r2⟩ := p2.stored j (.pointer (some ⟨bi, 0, none⟩))
    obtain ⟨_, cur2, hcur2⟩ := row_block p2
    have hbel2 : Below B (w.drew.setCell ⟨g, i, none⟩ (.pointer (some ⟨bj, 0, none⟩))) ((w.drew.setCell ⟨g, i, none⟩ (.pointer (some ⟨bj, 0, none⟩))).setCell ⟨g, j, none⟩ (.pointer (some ⟨bi, 0, none⟩))) := (Below.refl B _).setCell (p := ⟨g, j, none⟩) hgB _
    have hperm := swp_perm li lj
    refine ⟨⟨⟨_, (heap_setCell_other _ _ _ _ hne).trans p1, ?_⟩, fun b hb => ?_, (hperm.nodup_iff).2 h.nodup, h.low⟩, (ElseH.of_below (Below.refl _ _).drew).trans (p3.trans (ElseH.of_grown r2 hcur2 (.inr rfl))), ((Below.refl B w).drew.trans p4).trans hbel2⟩
    · rw [swp_len, swp_eq hi hj, rowPt_set, rowPt_set]; exact r1
    · have hb2 := hperm.mem_iff.1 hb
      refine ⟨(p5 b hb2).keep (by have := h.big; have := p4.size; exact Nat.le_trans h.big p4.size) hbel2 (heap_setCell_other _ _ _ _ fun e => ?_), (h.item b hb2).2⟩
      obtain ⟨a, n, c', bb, o, q1, _⟩ := p5 b hb2
      have e : b = g := e
      subst e
      rw [q1] at hcur2; cases hcur2
  have hfin := Lib.hid hfin
  obtain ⟨n, hn⟩ := named ps.length
  rw [← hn.out] at a0 li lj hc
  have i1 : (i : Int) < (n : Int) := by omega
  have j1 : (j : Int) < (n : Int) := by omega
  have S0 := Lib.hid (show w.drew.cell? ⟨hp, 0, none⟩ = some (.slice (some ⟨g, 0, none⟩) n c) from a0)
  have hSk : Hid (∀ (u : World) (o : Nat) (x : Value), u.cell? ⟨hp, 0, none⟩ = some (.slice (some ⟨g, 0, none⟩) n c) → (u.setCell ⟨g, o, none⟩ x).cell? ⟨hp, 0, none⟩ = some (.slice (some ⟨g, 0, none⟩) n c)) := Lib.hid (fun u o x hu => by
    have : (u.setCell ⟨g, o, none⟩ x).heap[hp]? = u.heap[hp]? := heap_setCell_other _ _ _ _ hne
    rw [World.cell?_of_block (a := ⟨hp, 0, none⟩) this]; exact hu)
  have b1 : w.drew.cell? ⟨g, i, none⟩ = some (.pointer (some ⟨bi, 0, none⟩)) := a1
  have b2 : w.drew.cell? ⟨g, j, none⟩ = some (.pointer (some ⟨bj, 0, none⟩)) := a2
  have e1 : w.drew.frozen? ⟨g, i, none⟩ = false := f1
  have e2 : w.drew.frozen? ⟨g, j, none⟩ = false := f2
  have c2 : ∃ x, (w.drew.setCell ⟨g, i, none⟩ (.pointer (some ⟨bj, 0, none⟩))).cell? ⟨g, j, none⟩ = some x := by
    rw [← hn.out] at p2
    have := World.ownsRow.cellAt p2 j (by omega)
    rw [this]
    exact ⟨_, List.getElem?_eq_getElem (by rw [List.length_set, rowPt_len, ← hn.out]; omega)⟩
  obtain ⟨x2, c2⟩ := c2
  have d2 := World.ownsRow.frozenAt p2 j
  have c2' : (w.setCell ⟨g, i, none⟩ (.pointer (some ⟨bj, 0, none⟩))).cell? ⟨g, j, none⟩ = some x2 := c2
  have d2' : (w.setCell ⟨g, i, none⟩ (.pointer (some ⟨bj, 0, none⟩))).frozen? ⟨g, j, none⟩ = false := d2
  clear a0 a1 a2 f1 f2 hrow h1 h2 h hd p1 p2 p3 p4 p5 hcur hi1 hi hj hn
  go_enter Try.func86, Try.ntmps86
  go_upto_region 0 with fail
  refine wp_region_held_drew (S := (fun v => v.cell? ⟨hp, 0, none⟩ = some (.slice (some ⟨g, 0, none⟩) n c))) (by kernel_rfl) (S0.out) (fun hHeld => ?_)
  refine held_take (i := 0) (v := ?_) rfl (by kernel_rfl) (by kernel_rfl) (by kernel_rfl) (fun _ _ _ h => h) (by rfl) (fun w hSw => ?_) (by assumption) ?_; rotate_left 1; focus (((try dsimp only at hSw); first | (go_simp; done) | (go_simp; with_reducible rfl)))
  try simp only [Act.put, List.setIfInBounds_toArray, List.set_cons_zero, List.set_cons_succ]
  refine held_take (i := 1) (v := ?_) rfl (by kernel_rfl) (by kernel_rfl) (by kernel_rfl) (fun _ _ _ h => h) (by rfl) (fun w hSw => ?_) (by assumption) ?_; rotate_left 1; focus (((try dsimp only at hSw); first | (go_simp; done) | (go_simp; with_reducible rfl)))
  try simp only [Act.put, List.setIfInBounds_toArray, List.set_cons_zero, List.set_cons_succ]
  refine held_take (i := 2) (v := ?_) rfl (by kernel_rfl) (by kernel_rfl) (by kernel_rfl) (fun _ _ _ h => h) (by rfl) (fun w hSw => ?_) (by assumption) ?_; rotate_left 1; focus (((try dsimp only at hSw); first | (go_simp; done) | (go_simp; with_reducible rfl)))
  try simp only [Act.put, List.setIfInBounds_toArray, List.set_cons_zero, List.set_cons_succ]
  refine held_take (i := 3) (v := ?_) rfl (by kernel_rfl) (by kernel_rfl) (by kernel_rfl) (fun _ _ _ h => h) (by rfl) (fun w hSw => ?_) (by assumption) ?_; rotate_left 1; focus (((try dsimp only at hSw); first | (go_simp; done) | (go_simp; with_reducible rfl)))
  try simp only [Act.put, List.setIfInBounds_toArray, List.set_cons_zero, List.set_cons_succ]
  refine held_take (i := 4) (v := ?_) rfl (by kernel_rfl) (by kernel_rfl) (by kernel_rfl) (fun _ _ _ h => h) (by rfl) (fun w hSw => ?_) (by assumption) ?_; rotate_left 1; focus (((try dsimp only at hSw); first | (go_simp; done) | (go_simp; with_reducible rfl)))
  try simp only [Act.put, List.setIfInBounds_toArray, List.set_cons_zero, List.set_cons_succ]
  refine held_take (i := 5) (v := ?_) rfl (by kernel_rfl) (by kernel_rfl) (by kernel_rfl) (fun _ _ _ h => h) (by rfl) (fun w hSw => ?_) (by assumption) ?_; rotate_left 1; focus (((try dsimp only at hSw); first | (go_simp; done) | (go_simp; with_reducible rfl)))
  try simp only [Act.put, List.setIfInBounds_toArray, List.set_cons_zero, List.set_cons_succ]
  refine held_take (i := 6) (v := ?_) rfl (by kernel_rfl) (by kernel_rfl) (by kernel_rfl) (fun _ _ _ h => h) (by rfl) (fun w hSw => ?_) (by assumption) ?_; rotate_left 1; focus (((try dsimp only at hSw); first | (go_simp; done) | (go_simp; with_reducible rfl)))
  try simp only [Act.put, List.setIfInBounds_toArray, List.set_cons_zero, List.set_cons_succ]
  refine held_take (i := 7) (v := ?_) rfl (by kernel_rfl) (by kernel_rfl) (by kernel_rfl) (fun _ _ _ h => h) (by rfl) (fun w hSw => ?_) (by assumption) ?_; rotate_left 1; focus (((try dsimp only at hSw); first | (go_simp; done) | (go_simp; with_reducible rfl)))
  try simp only [Act.put, List.setIfInBounds_toArray, List.set_cons_zero, List.set_cons_succ]
  refine held_take (i := 8) (v := ?_) rfl (by kernel_rfl) (by kernel_rfl) (by kernel_rfl) (fun _ _ _ h => h) (by rfl) (fun w hSw => ?_) (by assumption) ?_; rotate_left 1; focus (((try dsimp only at hSw); first | (go_simp; done) | (go_simp; with_reducible rfl)))
  try simp only [Act.put, List.setIfInBounds_toArray, List.set_cons_zero, List.set_cons_succ]
  refine held_take (i := 9) (v := ?_) rfl (by kernel_rfl) (by kernel_rfl) (by kernel_rfl) (fun _ _ _ h => h) (by rfl) (fun w hSw => ?_) (by assumption) ?_; rotate_left 1; focus (((try dsimp only at hSw); first | (go_simp; done) | (go_simp; with_reducible rfl)))
  try simp only [Act.put, List.setIfInBounds_toArray, List.set_cons_zero, List.set_cons_succ]
  refine held_take (i := 10) (v := ?_) rfl (by kernel_rfl) (by kernel_rfl) (by kernel_rfl) (fun _ _ _ h => h) (by rfl) (fun w hSw => ?_) (by assumption) ?_; rotate_left 1; focus (((try dsimp only at hSw); first | (go_simp; done) | (go_simp; with_reducible rfl)))
  try simp only [Act.put, List.setIfInBounds_toArray, List.set_cons_zero, List.set_cons_succ]
  refine held_take (i := 11) (v := ?_) rfl (by kernel_rfl) (by kernel_rfl) (by kernel_rfl) (fun _ _ _ h => h) (by rfl) (fun w hSw => ?_) (by assumption) ?_; rotate_left 1; focus (((try dsimp only at hSw); first | (go_simp; done) | (go_simp; with_reducible rfl)))
  try simp only [Act.put, List.setIfInBounds_toArray, List.set_cons_zero, List.set_cons_succ]
  refine held_take (i := 12) (v := ?_) rfl (by kernel_rfl) (by kernel_rfl) (by kernel_rfl) (fun _ _ _ h => h) (by rfl) (fun w hSw => ?_) (by assumption) ?_; rotate_left 1; focus (((try dsimp only at hSw); first | (go_simp; done) | (go_simp; with_reducible rfl)))
  try simp only [Act.put, List.setIfInBounds_toArray, List.set_cons_zero, List.set_cons_succ]
  refine held_take (i := 13) (v := ?_) rfl (by kernel_rfl) (by kernel_rfl) (by kernel_rfl) (fun _ _ _ h => h) (by rfl) (fun w hSw => ?_) (by assumption) ?_; rotate_left 1; focus (((try dsimp only at hSw); first | (go_simp; done) | (go_simp; with_reducible rfl)))
  try simp only [Act.put, List.setIfInBounds_toArray, List.set_cons_zero, List.set_cons_succ]
  refine held_take (i := 14) (v := ?_) rfl (by kernel_rfl) (by kernel_rfl) (by kernel_rfl) (fun _ _ _ h => h) (by rfl) (fun w hSw => ?_) (by assumption) ?_; rotate_left 1; focus (((try dsimp only at hSw); first | (go_simp; done) | (go_simp; with_reducible rfl)))
  try simp only [Act.put, List.setIfInBounds_toArray, List.set_cons_zero, List.set_cons_succ]
  refine held_take (i := 15) (v := ?_) rfl (by kernel_rfl) (by kernel_rfl) (by kernel_rfl) (fun _ _ _ h => h) (by rfl) (fun w hSw => ?_) (by assumption) ?_; rotate_left 1; focus (((try dsimp only at hSw); first | (go_simp; done) | (go_simp; with_reducible rfl)))
  try simp only [Act.put, List.setIfInBounds_toArray, List.set_cons_zero, List.set_cons_succ]
  refine held_take (i := 17) (v := ?_) rfl (by kernel_rfl) (by kernel_rfl) (by kernel_rfl) (fun _ _ _ h => h) (by rfl) (fun w hSw => ?_) (by assumption) ?_; rotate_left 1; focus (((try dsimp only at hSw); first | (go_simp; done) | (go_simp; with_reducible rfl)))
  try simp only [Act.put, List.setIfInBounds_toArray, List.set_cons_zero, List.set_cons_succ]
  refine held_take (i := 18) (v := ?_) rfl (by kernel_rfl) (by kernel_rfl) (by kernel_rfl) (fun _ _ _ h => h) (by rfl) (fun w hSw => ?_) (by assumption) ?_; rotate_left 1; focus (((try dsimp only at hSw); first | (go_simp; done) | (go_simp; with_reducible rfl)))
  try simp only [Act.put, List.setIfInBounds_toArray, List.set_cons_zero, List.set_cons_succ]
  refine held_take (i := 19) (v := ?_) rfl (by kernel_rfl) (by kernel_rfl) (by kernel_rfl) (fun _ _ _ h => h) (by rfl) (fun w hSw => ?_) (by assumption) ?_; rotate_left 1; focus (((try dsimp only at hSw); first | (go_simp; done) | (go_simp; with_reducible rfl)))
  try simp only [Act.put, List.setIfInBounds_toArray, List.set_cons_zero, List.set_cons_succ]
  refine held_take (i := 20) (v := ?_) rfl (by kernel_rfl) (by kernel_rfl) (by kernel_rfl) (fun _ _ _ h => h) (by rfl) (fun w hSw => ?_) (by assumption) ?_; rotate_left 1; focus (((try dsimp only at hSw); first | (go_simp; done) | (go_simp; with_reducible rfl)))
  try simp only [Act.put, List.setIfInBounds_toArray, List.set_cons_zero, List.set_cons_succ]
  refine held_take (i := 21) (v := ?_) rfl (by kernel_rfl) (by kernel_rfl) (by kernel_rfl) (fun _ _ _ h => h) (by rfl) (fun w hSw => ?_) (by assumption) ?_; rotate_left 1; focus (((try dsimp only at hSw); first | (go_simp; done) | (go_simp; with_reducible rfl)))
  try simp only [Act.put, List.setIfInBounds_toArray, List.set_cons_zero, List.set_cons_succ]
  refine held_take (i := 22) (v := ?_) rfl (by kernel_rfl) (by kernel_rfl) (by kernel_rfl) (fun _ _ _ h => h) (by rfl) (fun w hSw => ?_) (by assumption) ?_; rotate_left 1; focus (((try dsimp only at hSw); first | (go_simp; done) | (go_simp; with_reducible rfl)))
  try simp only [Act.put, List.setIfInBounds_toArray, List.set_cons_zero, List.set_cons_succ]
  refine held_two (i := 16) (j := 23) (by kernel_rfl) rfl rfl (by rfl) (by rfl) (fun K hK => ?_) (fun K hK => ?_)
  · go_simp
    refine hK.out _ _ (S0.out) (fun hHeld => ?_)
    try simp only [Act.put, List.setIfInBounds_toArray, List.set_cons_zero, List.set_cons_succ]
    refine held_call (i := 23) (by kernel_rfl) rfl (by rfl) (fun K hK => ?_)
    go_simp
    refine hK.out _ _ (S0.out) (fun hHeld => ?_)
    try simp only [Act.put, List.setIfInBounds_toArray, List.set_cons_zero, List.set_cons_succ]
    refine held_take (i := 24) (v := ?_) rfl (by kernel_rfl) (by kernel_rfl) (by kernel_rfl) (fun _ _ _ h => h) (by rfl) (fun w hSw => ?_) (by assumption) ?_; rotate_left 1; focus (((try dsimp only at hSw); first | (go_simp; done) | (go_simp; with_reducible rfl)))
    try simp only [Act.put, List.setIfInBounds_toArray, List.set_cons_zero, List.set_cons_succ]
    refine held_call (i := 25) (by kernel_rfl) rfl (by rfl) (fun K hK => ?_)
    go_simp
    refine hK.out _ _ (hSk.out _ _ _ S0.out) (fun hHeld => ?_)
    try simp only [Act.put, List.setIfInBounds_toArray, List.set_cons_zero, List.set_cons_succ]
    refine held_take (i := 26) (v := ?_) rfl (by kernel_rfl) (by kernel_rfl) (by kernel_rfl) (fun _ _ _ h => h) (by rfl) (fun w hSw => ?_) (by assumption) ?_; rotate_left 1; focus (((try dsimp only at hSw); first | (go_simp; done) | (go_simp; with_reducible rfl)))
    try simp only [Act.put, List.setIfInBounds_toArray, List.set_cons_zero, List.set_cons_succ]
    refine held_call (i := 27) (by kernel_rfl) rfl (by rfl) (fun K hK => ?_)
    go_simp
    refine hK.out _ _ (hSk.out _ _ _ (hSk.out _ _ _ S0.out)) (fun hHeld => ?_)
    try simp only [Act.put, List.setIfInBounds_toArray, List.set_cons_zero, List.set_cons_succ]
    refine wpAnyH_done (by kernel_rfl) ?_ _
    go_wp2_with fail
    go_returns
    exact ⟨rfl, hfin.out⟩
  · go_simp
    refine hK.out _ _ (S0.out) (fun hHeld => ?_)
    try simp only [Act.put, List.setIfInBounds_toArray, List.set_cons_zero, List.set_cons_succ]
    refine held_call (i := 16) (by kernel_rfl) rfl (by rfl) (fun K hK => ?_)
    go_simp
    refine hK.out _ _ (S0.out) (fun hHeld => ?_)
    try simp only [Act.put, List.setIfInBounds_toArray, List.set_cons_zero, List.set_cons_succ]
    refine held_take (i := 24) (v := ?_) rfl (by kernel_rfl) (by kernel_rfl) (by kernel_rfl) (fun _ _ _ h => h) (by rfl) (fun w hSw => ?_) (by assumption) ?_; rotate_left 1; focus (((try dsimp only at hSw); first | (go_simp; done) | (go_simp; with_reducible rfl)))
    try simp only [Act.put, List.setIfInBounds_toArray, List.set_cons_zero, List.set_cons_succ]
    refine held_call (i := 25) (by kernel_rfl) rfl (by rfl) (fun K hK => ?_)
    go_simp
    refine hK.out _ _ (hSk.out _ _ _ S0.out) (fun hHeld => ?_)
    try simp only [Act.put, List.setIfInBounds_toArray, List.set_cons_zero, List.set_cons_succ]
    refine held_take (i := 26) (v := ?_) rfl (by kernel_rfl) (by kernel_rfl) (by kernel_rfl) (fun _ _ _ h => h) (by rfl) (fun w hSw => ?_) (by assumption) ?_; rotate_left 1; focus (((try dsimp only at hSw); first | (go_simp; done) | (go_simp; with_reducible rfl)))
    try simp only [Act.put, List.setIfInBounds_toArray, List.set_cons_zero, List.set_cons_succ]
    refine held_call (i := 27) (by kernel_rfl) rfl (by rfl) (fun K hK => ?_)
    go_simp
    refine hK.out _ _ (hSk.out _ _ _ (hSk.out _ _ _ S0.out)) (fun hHeld => ?_)
    try simp only [Act.put, List.setIfInBounds_toArray, List.set_cons_zero, List.set_cons_succ]
    refine wpAnyH_done (by kernel_rfl) ?_ _
    go_wp2_with fail
    go_returns
    exact ⟨rfl, hfin.out⟩
theorem ElseH.of_row {x y : World} {row : Option Nat} (h : x.grownBy y row) (hr : ∀ r, row = some r → ∃ cs m, x.heap[r]? = some (.cells cs 76 m)) : ElseH x y :=
  ⟨h.size, fun k cs' t' m' hk h1 h2 => (h.block k (Array.getElem?_eq_some_iff.1 hk).1 (fun e => by
    obtain ⟨cs, m, hc⟩ := hr k e.symm
    rw [hc] at hk
    cases hk
    exact h2 rfl)).trans hk⟩
theorem own_block {w : World} {B n : Nat} {e : TypeId} {v : Value} {xs : List Value} {size : Nat} (h : w.ownsRow B e size v n xs) : ∀ r, v.ownBlock = some r → B ≤ r ∧ ∃ cs, w.heap[r]? = some (.cells cs e (0, 0)) := by
  intro r hr
  rcases h.2 with ⟨rfl, _⟩ | ⟨g, cap, cur, rfl, hb, hg, _⟩
  · cases hr
  · simp only [Value.ownBlock, Option.some.injEq] at hr
    subst hr
    exact ⟨hb, cur, hg⟩
/-- One more, behind the others. -/
theorem Hp.append {B hp k : Nat} {ps : List Nat} {it : Nat → It} {C w1 : World} (h : Hp B hp k ps it C) {v v' : Value} {tmp : Obj} (h1 : C.heap[hp]? = some (.cells #[v, .int .i64 (k : Int)] 73 (0, 0))) (h2 : C.ownsRow B 76 1 v ps.length (rowPt ps)) {b : Nat} {x : It} (hx : ItemAt B b x C) (hB : B ≤ b) (hn : b ∉ ps)
    (hown : w1.ownsRow B 76 1 v' (ps.length + 1) (rowPt ps ++ [.pointer (some ⟨b, 0, none⟩)])) (hgrow : (C.alloc tmp).grownBy w1 v.ownBlock) :
    HpD B hp k (ps ++ [b]) (fun c => if c = b then x else it c) C (w1.setCell ⟨hp, 0, none⟩ v') := by
  have hbig := h.big
  have hlt := h.size
  have hb1 : Below B C w1 := ((Below.refl B C).alloc hbig tmp).grown hgrow (by rw [World.size_alloc]; omega) (fun r hr => (own_block h2 r hr).1)
  have hb2 : Below B C (w1.setCell ⟨hp, 0, none⟩ v') := hb1.setCell (p := ⟨hp, 0, none⟩) h.low v'
  have keep : ∀ (c : Nat) (cs : Array Value) (t : TypeId) (m : Nat × Nat), C.heap[c]? = some (.cells cs t m) → t ≠ 76 → w1.heap[c]? = some (.cells cs t m) := fun c cs t m hc ht => by
    have lt := (Array.getElem?_eq_some_iff.1 hc).1
    refine (hgrow.block c (by rw [World.size_alloc]; omega) fun e => ?_).trans ((Below.heap_alloc C tmp c lt).trans hc)
    obtain ⟨_, cs', hc'⟩ := own_block h2 c e.symm
    rw [hc] at hc'; cases hc'; exact ht rfl
  have hp1 := keep hp _ _ _ h1 (by decide)
  have hit : ∀ c y, ItemAt B c y C → ItemAt B c y (w1.setCell ⟨hp, 0, none⟩ v') := fun c y hy => by
    refine hy.keep hbig hb2 ?_
    obtain ⟨a, n, c', bb, o, q1, _⟩ := hy
    have hne : c ≠ hp := fun e => by subst e; rw [h1] at q1; cases q1
    rw [heap_setCell_other _ _ _ _ hne, keep c _ _ _ q1 (by decide), q1]
  have hhd : (w1.setCell ⟨hp, 0, none⟩ v').heap[hp]? = some (.cells #[v', .int .i64 (k : Int)] 73 (0, 0)) := by
    have := heap_setCell_same _ _ 0 _ _ v' hp1
    exact this
  have hrow : (w1.setCell ⟨hp, 0, none⟩ v').ownsRow B 76 1 v' (ps.length + 1) (rowPt ps ++ [.pointer (some ⟨b, 0, none⟩)]) := by
    refine hown.kept (grownBy_setCell' w1 hp v') ?_
    cases hob : v'.ownBlock with
    | none => exact .inl rfl
    | some r =>
      refine .inr fun e => ?_
      obtain ⟨_, cs, hc⟩ := own_block hown r hob
      cases e
      rw [hp1] at hc; cases hc
  refine ⟨⟨⟨v', hhd, ?_⟩, fun c hc => ?_, ?_, h.low⟩, ?_, hb2⟩
  · have e : rowPt (ps ++ [b]) = rowPt ps ++ [.pointer (some ⟨b, 0, none⟩)] := by unfold rowPt; simp
    rw [List.length_append, List.length_singleton, e]
    exact hrow
  · rcases List.mem_append.1 hc with hc | hc
    · have hne : c ≠ b := fun e => hn (e ▸ hc)
      rw [if_neg hne]
      exact ⟨hit c _ (h.item c hc).1, (h.item c hc).2⟩
    · obtain rfl := List.mem_singleton.1 hc
      rw [if_pos rfl]
      exact ⟨hit c _ hx, hB⟩
  · exact List.nodup_append.2 ⟨h.nodup, List.pairwise_singleton _ b, fun a ha c hc e => by rw [List.mem_singleton] at hc; subst hc; subst e; exact hn ha⟩
  · refine (ElseH.of_below (below_alloc C tmp)).trans ((ElseH.of_row hgrow fun r hr => ?_).trans (ElseH.of_grown (grownBy_setCell' w1 hp v') hp1 (.inl rfl)))
    obtain ⟨_, cs, hc⟩ := own_block h2 r hr
    exact ⟨cs, (0, 0), (Below.heap_alloc C tmp r (Array.getElem?_eq_some_iff.1 hc).1).trans hc⟩
theorem ta_rows_no (v : Value) (w : World) : (Instr.typeAssert (.iface 76 v) 20 22 true).run Try.prog w = .ok (.tuple #[.slice none 0 0, .bool false]) w := by
  have z : ∀ w, (zeroValue 22).run Try.prog w = .ok (.slice none 0 0) w := fun w => Try.zeroValue22 w
  simp [Instr.typeAssert, run_underlying Try.underlying22, z, go_sem, Result.andThen]
theorem ta_rows_yes (v : Value) (w : World) : (Instr.typeAssert (.iface 22 v) 20 22 true).run Try.prog w = .ok (.tuple #[v, .bool true]) w := by
  simp [Instr.typeAssert, run_underlying Try.underlying22, go_sem, Result.andThen]
theorem ta_rest_yes (v : Value) (w : World) : (Instr.typeAssert (.iface 76 v) 20 76 true).run Try.prog w = .ok (.tuple #[v, .bool true]) w := by
  simp [Instr.typeAssert, run_underlying Try.underlying76, go_sem, Result.andThen]
theorem ta_rest (v : Value) (w : World) : (Instr.typeAssert (.iface 76 v) 20 76 false).run Try.prog w = .ok v w := by
  simp [Instr.typeAssert, run_underlying Try.underlying76, go_sem, Result.andThen]
theorem infoPt : (Try.prog.info? 76).map (fun i => (i.zero, i.size, i.bytes)) = some (some (.pointer none), 1, 8) := by kernel_rfl
set_option maxRecDepth 100000 in
set_option maxHeartbeats 8000000 in
/-- Push of what is left of a list. -/
theorem pushrest_any {B hp k : Nat} {ps : List Nat} {it : Nat → It} {w : World} (h : Hp B hp k ps it w) (hl : ps.length ≤ 1000) {b : Nat} {x : It} (hx : ItemAt B b x w) (hB : B ≤ b) (hn : b ∉ ps) :
    Calls Try.prog 41 #[.pointer (some ⟨hp, 0, none⟩), .iface 76 (.pointer (some ⟨b, 0, none⟩))] w fun e w' => e = .returned (.tuple #[]) ∧ HpD B hp k (ps ++ [b]) (fun c => if c = b then x else it c) w w' := by
  obtain ⟨v, h1, h2⟩ := h.hd
  obtain ⟨c0, c1, f0, _⟩ := two_cells h1
  obtain ⟨p, c, rfl⟩ := row_shape h2
  obtain ⟨ti, hi, hy0, hy1, hy2⟩ := info_parts infoPt
  have hbig := h.big
  have AP := Lib.hid (fun (w1 : World) (v' : Value) (tmp : Obj) (hown : w1.ownsRow B 76 1 v' (ps.length + 1) (rowPt ps ++ [.pointer (some ⟨b, 0, none⟩)])) (hgrow : (w.alloc tmp).grownBy w1 (Value.slice p ps.length c).ownBlock) => h.append (tmp := tmp) h1 h2 hx hB hn hown hgrow)
  have KP : Hid (∀ (w1 : World) (tmp : Obj), (w.alloc tmp).grownBy w1 (Value.slice p ps.length c).ownBlock → w1.cell? ⟨hp, 0, none⟩ = some (.slice p ps.length c) ∧ w1.frozen? ⟨hp, 0, none⟩ = false) := Lib.hid (fun w1 tmp hg => by
    have lt := h.size
    have : w1.heap[hp]? = some (.cells #[.slice p ps.length c, .int .i64 (k : Int)] 73 (0, 0)) := by
      refine (hg.block hp (by rw [World.size_alloc]; omega) fun e => ?_).trans ((Below.heap_alloc w tmp hp lt).trans h1)
      obtain ⟨_, cs', hc'⟩ := own_block h2 hp e.symm
      rw [h1] at hc'; cases hc'
    obtain ⟨q1, _, q2, _⟩ := two_cells this
    exact ⟨q1, q2⟩)
  have h2 := Lib.hid h2
  obtain ⟨n, hnn⟩ := named ps.length
  rw [← hnn.out] at c0 h2 AP KP hl
  clear h h1 hx
  have TA1 := ta_rows_no (.pointer (some ⟨b, 0, none⟩))
  have TA2 := ta_rest_yes (.pointer (some ⟨b, 0, none⟩))
  go_enter Try.func41, Try.ntmps41
  go_wp2_with (at_builtin; refine wpList_append_own _ rfl _ _ 71 rfl B 76 ti (.pointer none) 1 8 Try.underlying71 hi hy0 hy1 hy2 rfl (by decide) (.slice p n c) n (rowPt ps) rfl (h2.out.alloc _) ⟨w.heap.size, 0, none⟩ 1 1 [.pointer (some ⟨b, 0, none⟩)] rfl rfl (World.news_of_block (heap_alloc_new _ _)) (by simp [Value.oneCell']) (by unfold maxLen; omega) (by omega) (by rw [World.size_alloc]; omega) ?_; intro v' w5 hown' hgrow _; have F5 := Lib.hid (AP.out _ _ _ hown' hgrow); obtain ⟨k5, l5⟩ := KP.out _ _ hgrow; obtain ⟨s1, s2, s3, rfl⟩ := own_shape hown')
  go_returns
  exact ⟨rfl, F5.out⟩
theorem Hp.num {B hp k : Nat} {ps : List Nat} {it : Nat → It} {w : World} (h : Hp B hp k ps it w) : HpD B hp (k + 1) ps it w (w.setCell ⟨hp, 1, none⟩ (.int .i64 ((k : Int) + 1))) := by
  obtain ⟨v, h1, h2⟩ := h.hd
  have hb : Below B w (w.setCell ⟨hp, 1, none⟩ (.int .i64 ((k : Int) + 1))) := (Below.refl B w).setCell (p := ⟨hp, 1, none⟩) h.low _
  have hg : w.grownBy (w.setCell ⟨hp, 1, none⟩ (.int .i64 ((k : Int) + 1))) (some hp) := ⟨hb.os, hb.tape, hb.output, hb.size, fun c _ hc => heap_setCell_other _ _ _ _ fun e => hc (by rw [e])⟩
  refine ⟨⟨⟨v, ?_, h2.kept hg ?_⟩, fun b hbm => ⟨(h.item b hbm).1.keep h.big hb (heap_setCell_other _ _ _ _ fun e => ?_), (h.item b hbm).2⟩, h.nodup, h.low⟩, ElseH.of_grown hg h1 (.inl rfl), hb⟩
  · have := heap_setCell_same _ _ 1 _ _ (.int .i64 ((k : Int) + 1)) h1
    exact this
  · cases hob : v.ownBlock with
    | none => exact .inl rfl
    | some r =>
      refine .inr fun e => ?_
      obtain ⟨_, cs, hc⟩ := own_block h2 r hob
      cases e
      rw [h1] at hc; cases hc
  · obtain ⟨a, n, c', bb, o, q1, _⟩ := (h.item b hbm).1
    have e : b = hp := e
    subst e
    rw [h1] at q1; cases q1
set_option maxRecDepth 100000 in
set_option maxHeartbeats 8000000 in
/-- Push of a whole list. -/
theorem pushrows_any {B hp k : Nat} {ps : List Nat} {it : Nat → It} {w : World} (h : Hp B hp k ps it w) (hl : ps.length ≤ 1000) (hk : k ≤ 1000) {a : Option Addr} {n c bb o : Nat} {x : Rw} {r : List Rw} (hr : Rs a n c bb o (x :: r) w) (hbb : bb < B) :
    Calls Try.prog 41 #[.pointer (some ⟨hp, 0, none⟩), .iface 22 (.slice a n c)] w fun e w' => e = .returned (.tuple #[]) ∧ HpD B hp (k + 1) (ps ++ [w.heap.size]) (fun c => if c = w.heap.size then ⟨k + 1, x, r⟩ else it c) w w' := by
  obtain ⟨v0, h01, _⟩ := h.hd
  obtain ⟨_, q1, _, q2⟩ := two_cells h01
  have hD := h.num
  have hsz : (w.setCell ⟨hp, 1, none⟩ (.int .i64 ((k : Int) + 1))).heap.size = w.heap.size := by simp [World.setCell]
  have hr1 := hr.keep (w' := w.setCell ⟨hp, 1, none⟩ (.int .i64 ((k : Int) + 1))) (fun _ => hD.bel.block bb hbb) hD.bel.size
  have hD := Lib.hid hD
  have TA1 := ta_rows_yes (.slice a n c)
  obtain ⟨ti, hi, hy0, hy1, hy2⟩ := info_parts infoPt
  have kw : wrap64 ((k : Int) + 1) = (k : Int) + 1 := by unfold wrap64; omega
  have hBw := h.big
  clear h h01 hr
  go_enter Try.func41, Try.ntmps41
  go_upto_region 4 with fail
  generalize (w.setCell ⟨hp, 1, none⟩ (.int .i64 ((k : Int) + 1))) = W1 at *
  obtain ⟨v, h1, h2⟩ := hD.out.hp.hd
  obtain ⟨c0, c1, f0, _⟩ := two_cells h1
  obtain ⟨p, cc, rfl⟩ := row_shape h2
  have hC : Hp B hp (k + 1) ps it (W1.alloc (.cells #[.slice a n c, .int .i64 ((k : Int) + 1)] 79)).drew := hD.out.hp.below (below_alloc W1 (.cells #[.slice a n c, .int .i64 ((k : Int) + 1)] 79)).drew
  have h1C : (W1.alloc (.cells #[.slice a n c, .int .i64 ((k : Int) + 1)] 79)).drew.heap[hp]? = some (.cells #[.slice p ps.length cc, .int .i64 ((k + 1 : Nat) : Int)] 73 (0, 0)) := (Below.heap_alloc W1 _ hp hD.out.hp.size).trans h1
  have h2C : (W1.alloc (.cells #[.slice a n c, .int .i64 ((k : Int) + 1)] 79)).drew.ownsRow B 76 1 (.slice p ps.length cc) ps.length (rowPt ps) := h2.alloc _
  have hx : ItemAt B W1.heap.size ⟨k + 1, x, r⟩ (W1.alloc (.cells #[.slice a n c, .int .i64 ((k : Int) + 1)] 79)).drew := ⟨a, n, c, bb, o, heap_alloc_new W1 _, hr1.below (below_alloc W1 _).drew (Nat.le_refl _), hbb⟩
  have hBW : B ≤ W1.heap.size := by rw [hsz]; exact hBw
  have hn : W1.heap.size ∉ ps := fun hm => by
    obtain ⟨⟨_, _, _, _, _, q, _⟩, _⟩ := hD.out.hp.item _ hm
    exact absurd (Array.getElem?_eq_some_iff.1 q).1 (by omega)
  have AP : Hid (∀ (w1 : World) (v' : Value) (tmp : Obj), w1.ownsRow B 76 1 v' (ps.length + 1) (rowPt ps ++ [.pointer (some ⟨w.heap.size, 0, none⟩)]) → ((W1.alloc (.cells #[.slice a n c, .int .i64 ((k : Int) + 1)] 79)).drew.alloc tmp).grownBy w1 (Value.slice p ps.length cc).ownBlock → HpD B hp (k + 1) (ps ++ [w.heap.size]) (fun c => if c = w.heap.size then ⟨k + 1, x, r⟩ else it c) w (w1.setCell ⟨hp, 0, none⟩ v')) := Lib.hid (fun w1 v' tmp ho hg => by
    rw [← hsz] at ho
    have := hC.append (tmp := tmp) h1C h2C hx hBW hn ho hg
    rw [hsz] at this
    exact ⟨this.hp, hD.out.els.trans ((ElseH.of_below (below_alloc W1 _).drew).trans this.els), hD.out.bel.trans (((below_alloc W1 _).drew.mono hBW).trans this.bel)⟩)
  have KP : Hid (∀ (w1 : World) (tmp : Obj), ((W1.alloc (.cells #[.slice a n c, .int .i64 ((k : Int) + 1)] 79)).drew.alloc tmp).grownBy w1 (Value.slice p ps.length cc).ownBlock → w1.cell? ⟨hp, 0, none⟩ = some (.slice p ps.length cc) ∧ w1.cell? ⟨hp, 1, none⟩ = some (.int .i64 ((k : Int) + 1)) ∧ w1.frozen? ⟨hp, 0, none⟩ = false ∧ w1.heap[hp]? = some (.cells #[.slice p ps.length cc, .int .i64 ((k + 1 : Nat) : Int)] 73 (0, 0))) := Lib.hid (fun w1 tmp hg => by
    have lt := hC.size
    have : w1.heap[hp]? = some (.cells #[.slice p ps.length cc, .int .i64 ((k + 1 : Nat) : Int)] 73 (0, 0)) := by
      refine (hg.block hp (by rw [World.size_alloc]; omega) fun e => ?_).trans ((Below.heap_alloc _ tmp hp lt).trans h1C)
      obtain ⟨_, cs', hc'⟩ := own_block h2C hp e.symm
      rw [h1C] at hc'; cases hc'
    obtain ⟨q1, q3, q2, _⟩ := two_cells this
    exact ⟨q1, q3, q2, this⟩)
  have h2C := Lib.hid h2C
  have hlt : hp < W1.heap.size := hD.out.hp.size
  have c0A : (W1.alloc (.cells #[.slice a n c, .int .i64 ((k : Int) + 1)] 79)).cell? ⟨hp, 0, none⟩ = some (.slice p ps.length cc) := (World.cell?_alloc_lt _ _ _ hlt).trans c0
  have c0B : ((W1.alloc (.cells #[.slice a n c, .int .i64 ((k : Int) + 1)] 79)).alloc (.cells #[.pointer (some ⟨w.heap.size, 0, none⟩)] 76)).cell? ⟨hp, 0, none⟩ = some (.slice p ps.length cc) := (World.cell?_alloc_lt _ _ _ (by rw [World.size_alloc]; exact Nat.lt_succ_of_lt hlt)).trans c0A
  have c1 : W1.cell? ⟨hp, 1, none⟩ = some (.int .i64 ((k : Int) + 1)) := c1
  have c1A : (W1.alloc (.cells #[.slice a n c, .int .i64 ((k : Int) + 1)] 79)).cell? ⟨hp, 1, none⟩ = some (.int .i64 ((k : Int) + 1)) := (World.cell?_alloc_lt _ _ _ hlt).trans c1
  have c1B : ((W1.alloc (.cells #[.slice a n c, .int .i64 ((k : Int) + 1)] 79)).alloc (.cells #[.pointer (some ⟨w.heap.size, 0, none⟩)] 76)).cell? ⟨hp, 1, none⟩ = some (.int .i64 ((k : Int) + 1)) := (World.cell?_alloc_lt _ _ _ (by rw [World.size_alloc]; exact Nat.lt_succ_of_lt hlt)).trans c1A
  have hBC : B ≤ ((W1.alloc (.cells #[.slice a n c, .int .i64 ((k : Int) + 1)] 79)).drew.alloc (.cells #[.pointer (some ⟨w.heap.size, 0, none⟩)] 76)).heap.size := by rw [World.size_alloc]; exact Nat.le_succ_of_le hC.big
  obtain ⟨m, hm⟩ := named ps.length
  rw [← hm.out] at c0 c0A c0B h2C AP KP hl
  clear hC h1C hx hD h1 h2 hr1 q1 q2
  refine wp_region_held_drew (S := (fun v => v.cell? ⟨hp, 1, none⟩ = some (.int .i64 ((k : Int) + 1)))) (by kernel_rfl) (c1) (fun hHeld => ?_)
  refine held_take (i := 0) (v := ?_) rfl (by kernel_rfl) (by kernel_rfl) (by kernel_rfl) (fun _ _ _ h => h) (by rfl) (fun w hSw => ?_) (by assumption) ?_; rotate_left 1; focus (((try dsimp only at hSw); first | (go_simp; done) | (go_simp; with_reducible rfl)))
  try simp only [Act.put, List.setIfInBounds_toArray, List.set_cons_zero, List.set_cons_succ]
  refine held_take (i := 1) (v := ?_) rfl (by kernel_rfl) (by kernel_rfl) (by kernel_rfl) (fun _ _ _ h => h) (by rfl) (fun w hSw => ?_) (by assumption) ?_; rotate_left 1; focus (((try dsimp only at hSw); first | (go_simp; done) | (go_simp; with_reducible rfl)))
  try simp only [Act.put, List.setIfInBounds_toArray, List.set_cons_zero, List.set_cons_succ]
  refine held_take (i := 2) (v := ?_) rfl (by kernel_rfl) (by kernel_rfl) (by kernel_rfl) (fun _ _ _ h => h) (by rfl) (fun w hSw => ?_) (by assumption) ?_; rotate_left 1; focus (((try dsimp only at hSw); first | (go_simp; done) | (go_simp; with_reducible rfl)))
  try simp only [Act.put, List.setIfInBounds_toArray, List.set_cons_zero, List.set_cons_succ]
  refine held_take (i := 3) (v := ?_) rfl (by kernel_rfl) (by kernel_rfl) (by kernel_rfl) (fun _ _ _ h => h) (by rfl) (fun w hSw => ?_) (by assumption) ?_; rotate_left 1; focus (((try dsimp only at hSw); first | (go_simp; done) | (go_simp; with_reducible rfl)))
  try simp only [Act.put, List.setIfInBounds_toArray, List.set_cons_zero, List.set_cons_succ]
  refine held_take (i := 5) (v := ?_) rfl (by kernel_rfl) (by kernel_rfl) (by kernel_rfl) (fun _ _ _ h => h) (by rfl) (fun w hSw => ?_) (by assumption) ?_; rotate_left 1; focus (((try dsimp only at hSw); first | (go_simp; done) | (go_simp; with_reducible rfl)))
  try simp only [Act.put, List.setIfInBounds_toArray, List.set_cons_zero, List.set_cons_succ]
  refine held_take (i := 6) (v := ?_) rfl (by kernel_rfl) (by kernel_rfl) (by kernel_rfl) (fun _ _ _ h => h) (by rfl) (fun w hSw => ?_) (by assumption) ?_; rotate_left 1; focus (((try dsimp only at hSw); first | (go_simp; done) | (go_simp; with_reducible rfl)))
  try simp only [Act.put, List.setIfInBounds_toArray, List.set_cons_zero, List.set_cons_succ]
  refine held_take (i := 7) (v := ?_) rfl (by kernel_rfl) (by kernel_rfl) (by kernel_rfl) (fun _ _ _ h => h) (by rfl) (fun w hSw => ?_) (by assumption) ?_; rotate_left 1; focus (((try dsimp only at hSw); first | (go_simp; done) | (go_simp; with_reducible rfl)))
  try simp only [Act.put, List.setIfInBounds_toArray, List.set_cons_zero, List.set_cons_succ]
  refine held_take (i := 8) (v := ?_) rfl (by kernel_rfl) (by kernel_rfl) (by kernel_rfl) (fun _ _ _ h => h) (by rfl) (fun w hSw => ?_) (by assumption) ?_; rotate_left 1; focus (((try dsimp only at hSw); first | (go_simp; done) | (go_simp; with_reducible rfl)))
  try simp only [Act.put, List.setIfInBounds_toArray, List.set_cons_zero, List.set_cons_succ]
  refine held_take (i := 9) (v := ?_) rfl (by kernel_rfl) (by kernel_rfl) (by kernel_rfl) (fun _ _ _ h => h) (by rfl) (fun w hSw => ?_) (by assumption) ?_; rotate_left 1; focus (((try dsimp only at hSw); first | (go_simp; done) | (go_simp; with_reducible rfl)))
  try simp only [Act.put, List.setIfInBounds_toArray, List.set_cons_zero, List.set_cons_succ]
  refine held_take (i := 10) (v := ?_) rfl (by kernel_rfl) (by kernel_rfl) (by kernel_rfl) (fun _ _ _ h => h) (by rfl) (fun w hSw => ?_) (by assumption) ?_; rotate_left 1; focus (((try dsimp only at hSw); first | (go_simp; done) | (go_simp; with_reducible rfl)))
  try simp only [Act.put, List.setIfInBounds_toArray, List.set_cons_zero, List.set_cons_succ]
  refine held_two (i := 4) (j := 11) (by kernel_rfl) rfl rfl (by rfl) (by rfl) (fun K hK => ?_) (fun K hK => ?_)
  · go_simp
    refine hK.out _ _ (by first | exact c1 | exact c1A | exact c1B) (fun hHeld => ?_)
    try simp only [Act.put, List.setIfInBounds_toArray, List.set_cons_zero, List.set_cons_succ]
    refine held_call (i := 11) (by kernel_rfl) rfl (by rfl) (fun K hK => ?_)
    go_simp
    refine hK.out _ _ (c1A) (fun hHeld => ?_)
    try simp only [Act.put, List.setIfInBounds_toArray, List.set_cons_zero, List.set_cons_succ]
    refine held_call (i := 12) (by kernel_rfl) rfl (by rfl) (fun K hK => ?_)
    go_simp
    refine hK.out _ _ (c1B) (fun hHeld => ?_)
    try simp only [Act.put, List.setIfInBounds_toArray, List.set_cons_zero, List.set_cons_succ]
    refine held_call (i := 13) (by kernel_rfl) rfl (by rfl) (fun K hK => ?_)
    refine wp_append_own _ (.tmp 21) (.tmp 29) 71 rfl B 76 ti (.pointer none) 1 8 Try.underlying71 hi hy0 hy1 hy2 rfl (by decide) (.slice p m cc) m (rowPt ps) (by rfl) (h2C.out.alloc (.cells #[.pointer (some ⟨w.heap.size, 0, none⟩)] 76)) ⟨w.heap.size + 1, 0, none⟩ 1 1 [.pointer (some ⟨w.heap.size, 0, none⟩)] (by rfl) rfl (World.news_of_block (by have := heap_alloc_new (W1.alloc (.cells #[.slice a n c, .int .i64 ((k : Int) + 1)] 79)).drew (.cells #[.pointer (some ⟨w.heap.size, 0, none⟩)] 76); rw [show (W1.alloc (.cells #[.slice a n c, .int .i64 ((k : Int) + 1)] 79)).drew.heap.size = w.heap.size + 1 from (World.size_alloc _ _).trans (by rw [hsz])] at this; exact this)) (by simp [Value.oneCell']) (by unfold maxLen; omega) (by omega) hBC ?_
    intro v' w5 hown' hgrow _
    have F5 := Lib.hid (AP.out _ _ _ hown' hgrow)
    obtain ⟨k5, k6, l5, H5⟩ := KP.out _ _ hgrow
    have c1D := Lib.hid k6
    have H5 := Lib.hid H5
    obtain ⟨s1, s2, s3, rfl⟩ := own_shape hown'
    clear hown' hgrow
    refine hK.out _ _ (c1D.out) (fun hHeld => ?_)
    try simp only [Act.put, List.setIfInBounds_toArray, List.set_cons_zero, List.set_cons_succ]
    refine held_take (i := 14) (v := ?_) rfl (by kernel_rfl) (by kernel_rfl) (by kernel_rfl) (fun _ _ _ h => h) (by rfl) (fun w hSw => ?_) (by assumption) ?_; rotate_left 1; focus (((try dsimp only at hSw); first | (go_simp; done) | (go_simp; with_reducible rfl)))
    try simp only [Act.put, List.setIfInBounds_toArray, List.set_cons_zero, List.set_cons_succ]
    refine held_take (i := 15) (v := ?_) rfl (by kernel_rfl) (by kernel_rfl) (by kernel_rfl) (fun _ _ _ h => h) (by rfl) (fun w hSw => ?_) (by assumption) ?_; rotate_left 1; focus (((try dsimp only at hSw); first | (go_simp; done) | (go_simp; with_reducible rfl)))
    try simp only [Act.put, List.setIfInBounds_toArray, List.set_cons_zero, List.set_cons_succ]
    refine held_call (i := 16) (by kernel_rfl) rfl (by rfl) (fun K hK => ?_)
    go_simp
    refine hK.out _ _ ((two_cells (heap_setCell_same _ _ 0 _ _ (.slice s1 s2 s3) H5.out)).2.1) (fun hHeld => ?_)
    try simp only [Act.put, List.setIfInBounds_toArray, List.set_cons_zero, List.set_cons_succ]
    refine wpAnyH_done (by kernel_rfl) ?_ _
    go_wp2_with fail
    go_returns
    exact ⟨rfl, F5.out⟩
  · go_simp
    refine hK.out _ _ (c1A) (fun hHeld => ?_)
    try simp only [Act.put, List.setIfInBounds_toArray, List.set_cons_zero, List.set_cons_succ]
    refine held_two (i := 4) (j := 12) (by kernel_rfl) rfl rfl (by rfl) (by rfl) (fun K hK => ?_) (fun K hK => ?_)
    · go_simp
      refine hK.out _ _ (by first | exact c1 | exact c1A | exact c1B) (fun hHeld => ?_)
      try simp only [Act.put, List.setIfInBounds_toArray, List.set_cons_zero, List.set_cons_succ]
      refine held_call (i := 12) (by kernel_rfl) rfl (by rfl) (fun K hK => ?_)
      go_simp
      refine hK.out _ _ (c1B) (fun hHeld => ?_)
      try simp only [Act.put, List.setIfInBounds_toArray, List.set_cons_zero, List.set_cons_succ]
      refine held_call (i := 13) (by kernel_rfl) rfl (by rfl) (fun K hK => ?_)
      refine wp_append_own _ (.tmp 21) (.tmp 29) 71 rfl B 76 ti (.pointer none) 1 8 Try.underlying71 hi hy0 hy1 hy2 rfl (by decide) (.slice p m cc) m (rowPt ps) (by rfl) (h2C.out.alloc (.cells #[.pointer (some ⟨w.heap.size, 0, none⟩)] 76)) ⟨w.heap.size + 1, 0, none⟩ 1 1 [.pointer (some ⟨w.heap.size, 0, none⟩)] (by rfl) rfl (World.news_of_block (by have := heap_alloc_new (W1.alloc (.cells #[.slice a n c, .int .i64 ((k : Int) + 1)] 79)).drew (.cells #[.pointer (some ⟨w.heap.size, 0, none⟩)] 76); rw [show (W1.alloc (.cells #[.slice a n c, .int .i64 ((k : Int) + 1)] 79)).drew.heap.size = w.heap.size + 1 from (World.size_alloc _ _).trans (by rw [hsz])] at this; exact this)) (by simp [Value.oneCell']) (by unfold maxLen; omega) (by omega) hBC ?_
      intro v' w5 hown' hgrow _
      have F5 := Lib.hid (AP.out _ _ _ hown' hgrow)
      obtain ⟨k5, k6, l5, H5⟩ := KP.out _ _ hgrow
      have c1D := Lib.hid k6
      have H5 := Lib.hid H5
      obtain ⟨s1, s2, s3, rfl⟩ := own_shape hown'
      clear hown' hgrow
      refine hK.out _ _ (c1D.out) (fun hHeld => ?_)
      try simp only [Act.put, List.setIfInBounds_toArray, List.set_cons_zero, List.set_cons_succ]
      refine held_take (i := 14) (v := ?_) rfl (by kernel_rfl) (by kernel_rfl) (by kernel_rfl) (fun _ _ _ h => h) (by rfl) (fun w hSw => ?_) (by assumption) ?_; rotate_left 1; focus (((try dsimp only at hSw); first | (go_simp; done) | (go_simp; with_reducible rfl)))
      try simp only [Act.put, List.setIfInBounds_toArray, List.set_cons_zero, List.set_cons_succ]
      refine held_take (i := 15) (v := ?_) rfl (by kernel_rfl) (by kernel_rfl) (by kernel_rfl) (fun _ _ _ h => h) (by rfl) (fun w hSw => ?_) (by assumption) ?_; rotate_left 1; focus (((try dsimp only at hSw); first | (go_simp; done) | (go_simp; with_reducible rfl)))
      try simp only [Act.put, List.setIfInBounds_toArray, List.set_cons_zero, List.set_cons_succ]
      refine held_call (i := 16) (by kernel_rfl) rfl (by rfl) (fun K hK => ?_)
      go_simp
      refine hK.out _ _ ((two_cells (heap_setCell_same _ _ 0 _ _ (.slice s1 s2 s3) H5.out)).2.1) (fun hHeld => ?_)
      try simp only [Act.put, List.setIfInBounds_toArray, List.set_cons_zero, List.set_cons_succ]
      refine wpAnyH_done (by kernel_rfl) ?_ _
      go_wp2_with fail
      go_returns
      exact ⟨rfl, F5.out⟩
    · go_simp
      refine hK.out _ _ (c1B) (fun hHeld => ?_)
      try simp only [Act.put, List.setIfInBounds_toArray, List.set_cons_zero, List.set_cons_succ]
      refine held_call (i := 4) (by kernel_rfl) rfl (by rfl) (fun K hK => ?_)
      go_simp
      refine hK.out _ _ (by first | exact c1 | exact c1A | exact c1B) (fun hHeld => ?_)
      try simp only [Act.put, List.setIfInBounds_toArray, List.set_cons_zero, List.set_cons_succ]
      refine held_call (i := 13) (by kernel_rfl) rfl (by rfl) (fun K hK => ?_)
      refine wp_append_own _ (.tmp 21) (.tmp 29) 71 rfl B 76 ti (.pointer none) 1 8 Try.underlying71 hi hy0 hy1 hy2 rfl (by decide) (.slice p m cc) m (rowPt ps) (by rfl) (h2C.out.alloc (.cells #[.pointer (some ⟨w.heap.size, 0, none⟩)] 76)) ⟨w.heap.size + 1, 0, none⟩ 1 1 [.pointer (some ⟨w.heap.size, 0, none⟩)] (by rfl) rfl (World.news_of_block (by have := heap_alloc_new (W1.alloc (.cells #[.slice a n c, .int .i64 ((k : Int) + 1)] 79)).drew (.cells #[.pointer (some ⟨w.heap.size, 0, none⟩)] 76); rw [show (W1.alloc (.cells #[.slice a n c, .int .i64 ((k : Int) + 1)] 79)).drew.heap.size = w.heap.size + 1 from (World.size_alloc _ _).trans (by rw [hsz])] at this; exact this)) (by simp [Value.oneCell']) (by unfold maxLen; omega) (by omega) hBC ?_
      intro v' w5 hown' hgrow _
      have F5 := Lib.hid (AP.out _ _ _ hown' hgrow)
      obtain ⟨k5, k6, l5, H5⟩ := KP.out _ _ hgrow
      have c1D := Lib.hid k6
      have H5 := Lib.hid H5
      obtain ⟨s1, s2, s3, rfl⟩ := own_shape hown'
      clear hown' hgrow
      refine hK.out _ _ (c1D.out) (fun hHeld => ?_)
      try simp only [Act.put, List.setIfInBounds_toArray, List.set_cons_zero, List.set_cons_succ]
      refine held_take (i := 14) (v := ?_) rfl (by kernel_rfl) (by kernel_rfl) (by kernel_rfl) (fun _ _ _ h => h) (by rfl) (fun w hSw => ?_) (by assumption) ?_; rotate_left 1; focus (((try dsimp only at hSw); first | (go_simp; done) | (go_simp; with_reducible rfl)))
      try simp only [Act.put, List.setIfInBounds_toArray, List.set_cons_zero, List.set_cons_succ]
      refine held_take (i := 15) (v := ?_) rfl (by kernel_rfl) (by kernel_rfl) (by kernel_rfl) (fun _ _ _ h => h) (by rfl) (fun w hSw => ?_) (by assumption) ?_; rotate_left 1; focus (((try dsimp only at hSw); first | (go_simp; done) | (go_simp; with_reducible rfl)))
      try simp only [Act.put, List.setIfInBounds_toArray, List.set_cons_zero, List.set_cons_succ]
      refine held_call (i := 16) (by kernel_rfl) rfl (by rfl) (fun K hK => ?_)
      go_simp
      refine hK.out _ _ ((two_cells (heap_setCell_same _ _ 0 _ _ (.slice s1 s2 s3) H5.out)).2.1) (fun hHeld => ?_)
      try simp only [Act.put, List.setIfInBounds_toArray, List.set_cons_zero, List.set_cons_succ]
      refine wpAnyH_done (by kernel_rfl) ?_ _
      go_wp2_with fail
      go_returns
      exact ⟨rfl, F5.out⟩
end Go.Proofs.Ytlnklpnldmcopaa
/-
  The contract of Pop of the heap of lists. No condition.
-/
namespace Go.Proofs.Ytlnklpnldmcopaa
set_option maxRecDepth 100000
open Go.RowKit
theorem own_short {w : World} {B g n c m : Nat} {e : TypeId} {xs : List Value} (h : w.ownsRow B e 1 (.slice (some ⟨g, 0, none⟩) n c) n xs) (hm : m ≤ n) : w.ownsRow B e 1 (.slice (some ⟨g, 0, none⟩) m c) m (xs.take m) := by
  have hl := h.1
  rcases h.2 with ⟨h', _⟩ | ⟨g', cap', cur, h', hb, hg, hnc, hcm, hcs, ht⟩
  · cases h'
  · simp only [Value.slice.injEq, Option.some.injEq, Addr.mk.injEq, and_true, true_and] at h'
    obtain ⟨rfl, rfl⟩ := h'
    refine ⟨by rw [List.length_take]; omega, .inr ⟨g, c, cur, rfl, hb, hg, by omega, hcm, hcs, ?_⟩⟩
    rw [← ht, List.take_take]
    congr 1
    omega
theorem size_pt (w : World) : (Go.sizeOf (Try.prog.elem 71)).run Try.prog w = .ok 1 w := by
  obtain ⟨i0, hi, hz0, hz1, hz2⟩ := info_parts (show (Try.prog.info? (Try.prog.elem 71)).map (fun i => (i.zero, i.size, i.bytes)) = some (some (.pointer none), 1, 8) by kernel_rfl)
  simp [Go.sizeOf, typeInfo, hi, hz1]
theorem slp_upto (p : Option Addr) (n c k : Nat) (hk : k ≤ c) (u : World) : (Instr.slice 71 (.slice p n c) none (some (.int .i64 (k : Int))) none).run Try.prog u = .ok (.slice p k c) u := by
  rw [run_slice_h u 71 p n c (by kernel_rfl) .i64 (k : Int) (by omega) (by omega), size_pt]
  cases p <;> simp [Result.andThen, sliced, Addr.add]
set_option maxRecDepth 100000 in
set_option maxHeartbeats 4000000 in
theorem hpop_any {B hp k : Nat} {ps : List Nat} {it : Nat → It} {w : World} (h : Hp B hp k ps it w) {n b : Nat} (hn : ps.length = n + 1) (hb : ps[n]? = some b) :
    Calls Try.prog 85 #[.pointer (some ⟨hp, 0, none⟩)] w fun e w' => e = .returned (.iface 76 (.pointer (some ⟨b, 0, none⟩))) ∧ HpD B hp k (ps.take n) it w w' := by
  obtain ⟨g, c, h1, h2, hc, hm, hrow⟩ := h.row (by omega)
  obtain ⟨c0, c1, f0, _⟩ := two_cells h1
  have a1 := hrow n b hb
  rw [hn] at h1 h2 c0 hc
  have hfin : HpD B hp k (ps.take n) it w (w.setCell ⟨hp, 0, none⟩ (.slice (some ⟨g, 0, none⟩) n c)) := by
    have hbel : Below B w (w.setCell ⟨hp, 0, none⟩ (.slice (some ⟨g, 0, none⟩) n c)) := (Below.refl B w).setCell (p := ⟨hp, 0, none⟩) h.low _
    obtain ⟨hgB, cur, hcur⟩ := row_block h2
    have hne : hp ≠ g := fun e => by subst e; rw [h1] at hcur; cases hcur
    have hlt : (ps.take n).length = n := by rw [List.length_take]; omega
    refine ⟨⟨⟨_, heap_setCell_same _ _ 0 _ _ _ h1, ?_⟩, fun c' hc' => ?_, h.nodup.sublist (List.take_sublist _ _), h.low⟩, ElseH.of_grown (grownBy_setCell' w hp _) h1 (.inl rfl), hbel⟩
    · have h3 := own_short h2 (m := n) (by omega)
      have e : (rowPt ps).take n = rowPt (ps.take n) := by unfold rowPt; rw [List.map_take]
      rw [e] at h3
      rw [hlt]
      refine h3.kept (grownBy_setCell' w hp _) (.inr fun e => hne ?_)
      simp only [Value.ownBlock, Option.some.injEq] at e
      exact e.symm
    · have hm' := List.mem_of_mem_take hc'
      refine ⟨(h.item c' hm').1.keep h.big hbel (heap_setCell_other _ _ _ _ fun e => ?_), (h.item c' hm').2⟩
      obtain ⟨a, n', c'', bb, o, q1, _⟩ := (h.item c' hm').1
      have e : c' = hp := e
      subst e
      rw [h1] at q1; cases q1
  have hfin := Lib.hid hfin
  have SL := slp_upto (some ⟨g, 0, none⟩) (n + 1) c n (by omega)
  have i1 : (n : Int) < (n : Int) + 1 := by omega
  have wr1 : wrap64 ((n : Int) + 1 - 1) = (n : Int) := by unfold wrap64; omega
  have wr2 : (n : Int) + 1 - 1 = (n : Int) := by omega
  have wr3 : wrap64 (n : Int) = (n : Int) := by unfold wrap64; omega
  clear h h1 h2 hrow hb
  go_enter Try.func85, Try.ntmps85
  go_wp2_with fail
  go_returns
  exact ⟨rfl, hfin.out⟩
set_option maxRecDepth 100000 in
set_option maxHeartbeats 4000000 in
/-- Sifting up. -/
theorem up_any {B hp k : Nat} {ps : List Nat} {it : Nat → It} {w : World} (h : Hp B hp k ps it w) {j : Nat} (hj : j < ps.length) (hl : ps.length ≤ 1000) (hu : UpI (fun a b => ltI (it a) (it b)) ps.length j ps) :
    Calls Try.prog 59 #[.iface 58 (.pointer (some ⟨hp, 0, none⟩)), .int .i64 (j : Int)] w fun e w' => e = .returned (.tuple #[]) ∧ ∃ qs, qs.Perm ps ∧ HeapP (fun a b => ltI (it a) (it b)) qs.length 0 qs ∧ HpD B hp k qs it w w' := by
  have h := Lib.hid h
  have hu := Lib.hid hu
  go_enter Try.func59, Try.ntmps59
  go_wp2_with fail
  go_loopw [1] (fun jv wr => ∃ (i : Nat) (qs : List Nat), i < qs.length ∧ jv = .int .i64 (i : Int) ∧ Hid (qs.Perm ps) ∧ Hid (UpI (fun a b => ltI (it a) (it b)) qs.length i qs) ∧ Hid (HpD B hp k qs it w wr)) (fun jv _ => (intOf jv).toNat)
  case atStart => exact ⟨j, ps, hj, rfl, Lib.hid (List.Perm.refl _), hu, Lib.hid (HpD.refl h.out)⟩
  case round =>
    obtain ⟨i, qs, hi, rfl, hp1, hu1, hD⟩ := hrel
    have hql : qs.length ≤ 1000 := by rw [hp1.out.length_eq]; exact hl
    by_cases h0 : i = 0
    · subst h0
      have e0 : (((0 : Nat) : Int) - 1).tdiv 2 = 0 := by decide
      have e1 : ((0 : Int) == ((0 : Nat) : Int)) = true := rfl
      have hfin := Lib.hid (hu1.out.done (.inl rfl))
      go_wp2_with fail
      go_returns
      exact ⟨rfl, qs, hp1.out, hfin.out, hD.out⟩
    · obtain ⟨P, hP⟩ := named (par i)
      have hPi : P < i := by rw [hP.out]; unfold par; omega
      have e0 : ((i : Int) - 1).tdiv 2 = (P : Int) := by
        rw [hP.out]; unfold par
        rw [Int.tdiv_eq_ediv_of_nonneg (by omega)]; omega
      have e1 : ((P : Int) == (i : Int)) = false := by rw [beq_eq_false_iff_ne]; omega
      have e1' : (P == i) = false := by rw [beq_eq_false_iff_ne]; omega
      have gi : qs[i]? = some (qs.getD i 0) := by rw [List.getD_eq_getElem?_getD, List.getElem?_eq_getElem hi]; rfl
      have gP : qs[P]? = some (qs.getD P 0) := by rw [List.getD_eq_getElem?_getD, List.getElem?_eq_getElem (show P < qs.length by omega)]; rfl
      have LC := Lib.hid (less_any hD.out.hp gi gP)
      have SW := Lib.hid (fun (u : World) (hu : Hp B hp k qs it u) => swap_any hu gP gi)
      obtain ⟨T, hT⟩ := named (ltI (it (qs.getD i 0)) (it (qs.getD P 0)))
      rw [← hT.out] at LC
      cases T with
      | false =>
        have hfin := Lib.hid (hu1.out.done (.inr (by rw [← hP.out]; exact hT.out.symm)))
        clear hT
        go_wp2_with (go_at_call 84; ((with_reducible refine LC.out.mono ?_); rintro e w1 ⟨rfl, hb1⟩; have D1 := Lib.hid (hD.out.below hb1); clear hb1))
        go_returns
        exact ⟨rfl, qs, hp1.out, hfin.out, D1.out⟩
      | true =>
        have hstep := hu1.out.step (ordI it) rfl hi (by omega) (by rw [← hP.out]; exact hT.out.symm)
        rw [← hP.out] at hstep
        have hperm2 := Lib.hid ((swp_perm (ps := qs) (i := P) (j := i) (by omega) hi).trans hp1.out)
        have hlen2 := Lib.hid (swp_len qs P i)
        rw [← hlen2.out] at hstep
        have hstep := Lib.hid hstep
        clear hT
        go_wp2_with (first
          | (go_at_call 84; ((with_reducible refine LC.out.mono ?_); rintro e w1 ⟨rfl, hb1⟩; have D1 := Lib.hid (hD.out.below hb1); clear hb1))
          | (go_at_call 86; ((with_reducible refine (SW.out _ D1.out.hp).mono ?_); rintro e w2 ⟨rfl, hd2⟩; have D2 := Lib.hid (D1.out.trans hd2); clear hd2)))
        go_roundw
        case rel => exact ⟨P, swp qs P i, by rw [hlen2.out]; omega, rfl, hperm2, hstep, D2⟩
        case measure => simp [intOf] <;> omega
end Go.Proofs.Ytlnklpnldmcopaa
