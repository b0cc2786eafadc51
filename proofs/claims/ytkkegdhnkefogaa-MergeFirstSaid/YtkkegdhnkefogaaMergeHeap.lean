/-
  The heap of lists in memory; the contracts of Len and Less. Condition: at most 1000 lists.
-/
import Derived.Test.YtkkegdhnkefogaaMergeSmall
import Derived.Test.YtkkegdhnkefogaaMergeHeapMath
import Derived.Test.YtkkegdhnkefogaaMergeRefAt
import Derived.Test.YtkkegdhnkefogaaBlockOrder
import Derived.Test.YtkkegdhnkefogaaStays
import Derived.Test.YtkkegdhnkefogaaHeld
namespace Go.Proofs.Ytkkegdhnkefogaa
set_option maxRecDepth 100000
open Go.RowKit
/-- What is left of a list, a row at least, and which list it is. -/
structure It where
  num : Nat
  hd : Rw
  tl : List Rw
def ltI (a b : It) : Bool := if smpB a.hd b.hd = true then decide (a.num < b.num) else ahd a.hd b.hd.key b.hd.seq
theorem smpB_refl (x : Rw) : smpB x x = true := smpB_iff.2 ⟨rfl, rfl⟩
theorem smpB_symm {x y : Rw} (h : smpB x y = true) : smpB y x = true := by
  obtain ⟨h1, h2⟩ := smpB_iff.1 h
  exact smpB_iff.2 ⟨h1.symm, h2.symm⟩
theorem smpB_trans {x y z : Rw} (h : smpB x y = true) (h2 : smpB y z = true) : smpB x z = true := by
  obtain ⟨a, b⟩ := smpB_iff.1 h
  obtain ⟨c, d⟩ := smpB_iff.1 h2
  exact smpB_iff.2 ⟨a.trans c, b.trans d⟩
theorem ahd_no_same {x y : Rw} (h : smpB x y = true) : ahd x y.key y.seq = false := ahd_irrefl (smpB_iff.1 h)
theorem ahd_anti {x y : Rw} (h : ahd x y.key y.seq = true) : ahd y x.key x.seq = false := by
  cases e : ahd y x.key x.seq with
  | false => rfl
  | true =>
    have := ahd_trans h e
    rw [ahd_irrefl ⟨rfl, rfl⟩] at this; cases this
theorem ahd_or {x y : Rw} (h : smpB x y = false) : ahd x y.key y.seq = true ∨ ahd y x.key x.seq = true := ahd_total (fun e => by rw [smpB_iff.2 e] at h; cases h)
theorem ordI : ∀ (it : Nat → It), OrdB (fun a b => ltI (it a) (it b)) := fun it => by
  refine ⟨fun a b h => ?_, fun a b c h1 h2 => ?_⟩
  · show ltI (it b) (it a) = false
    have h : ltI (it a) (it b) = true := h
    unfold ltI at h ⊢
    cases e : smpB (it a).hd (it b).hd with
    | true =>
      rw [e, if_pos rfl, decide_eq_true_eq] at h
      rw [smpB_symm e, if_pos rfl, decide_eq_false_iff_not]; omega
    | false =>
      rw [e, if_neg (by simp)] at h
      have e2 : smpB (it b).hd (it a).hd = false := by
        cases e3 : smpB (it b).hd (it a).hd with
        | false => rfl
        | true => rw [smpB_symm e3] at e; cases e
      rw [e2, if_neg (by simp)]
      exact ahd_anti h
  · show ltI (it a) (it c) = false
    have h1 : ltI (it a) (it b) = false := h1
    have h2 : ltI (it b) (it c) = false := h2
    unfold ltI at h1 h2 ⊢
    generalize it a = A at *
    generalize it b = Bb at *
    generalize it c = C at *
    cases e1 : smpB A.hd Bb.hd with
    | true =>
      rw [e1, if_pos rfl, decide_eq_false_iff_not] at h1
      cases e2 : smpB Bb.hd C.hd with
      | true =>
        rw [e2, if_pos rfl, decide_eq_false_iff_not] at h2
        rw [smpB_trans e1 e2, if_pos rfl, decide_eq_false_iff_not]; omega
      | false =>
        rw [e2, if_neg (by simp)] at h2
        have e3 : smpB A.hd C.hd = false := by
          cases e4 : smpB A.hd C.hd with
          | false => rfl
          | true => rw [smpB_trans (smpB_symm e1) e4] at e2; cases e2
        rw [e3, if_neg (by simp), ahd_left (smpB_iff.1 e1)]; exact h2
    | false =>
      rw [e1, if_neg (by simp)] at h1
      have h1' : ahd Bb.hd A.hd.key A.hd.seq = true := by
        rcases ahd_or e1 with h | h
        · rw [h] at h1; cases h1
        · exact h
      cases e2 : smpB Bb.hd C.hd with
      | true =>
        have e3 : smpB A.hd C.hd = false := by
          cases e4 : smpB A.hd C.hd with
          | false => rfl
          | true => rw [smpB_trans e4 (smpB_symm e2)] at e1; cases e1
        rw [e3, if_neg (by simp)]
        have : ahd C.hd A.hd.key A.hd.seq = true := by rw [← ahd_left (smpB_iff.1 e2)]; exact h1'
        exact ahd_anti this
      | false =>
        rw [e2, if_neg (by simp)] at h2
        have h2' : ahd C.hd Bb.hd.key Bb.hd.seq = true := by
          rcases ahd_or e2 with h | h
          · rw [h] at h2; cases h2
          · exact h
        have h3 := ahd_trans h2' h1'
        cases e3 : smpB A.hd C.hd with
        | true => rw [ahd_no_same (smpB_symm e3)] at h3; cases h3
        | false => rw [if_neg (by simp)]; exact ahd_anti h3
/-- One of them in memory; its rows lie below B. -/
def ItemAt (B b : Nat) (x : It) (w : World) : Prop := ∃ a n c bb o, w.heap[b]? = some (.cells #[.slice a n c, .int .i64 (x.num : Int)] 75 (0, 0)) ∧ Rs a n c bb o (x.hd :: x.tl) w ∧ bb < B
def rowPt (ps : List Nat) : List Value := ps.map fun b => .pointer (some ⟨b, 0, none⟩)
/-- The heap: its block, how many lists had rows, where the lists stand. -/
structure Hp (B hp k : Nat) (ps : List Nat) (it : Nat → It) (w : World) : Prop where
  hd : ∃ v, w.heap[hp]? = some (.cells #[v, .int .i64 (k : Int)] 69 (0, 0)) ∧ w.ownsRow B 72 1 v ps.length (rowPt ps)
  item : ∀ b ∈ ps, ItemAt B b (it b) w ∧ B ≤ b
  nodup : ps.Nodup
  low : B ≤ hp
theorem Hp.size {B hp k : Nat} {ps : List Nat} {it : Nat → It} {w : World} (h : Hp B hp k ps it w) : hp < w.heap.size := by
  obtain ⟨v, h1, _⟩ := h.hd
  exact (Array.getElem?_eq_some_iff.1 h1).1
theorem Hp.big {B hp k : Nat} {ps : List Nat} {it : Nat → It} {w : World} (h : Hp B hp k ps it w) : B ≤ w.heap.size := by have := h.size; have := h.low; omega
theorem ItemAt.below {B b : Nat} {x : It} {w w' : World} (h : ItemAt B b x w) (hb : Below w.heap.size w w') : ItemAt B b x w' := by
  obtain ⟨a, n, c, bb, o, h1, h2, h3⟩ := h
  exact ⟨a, n, c, bb, o, (hb.block _ (Array.getElem?_eq_some_iff.1 h1).1).trans h1, h2.below hb (Nat.le_refl _), h3⟩
theorem Hp.below {B hp k : Nat} {ps : List Nat} {it : Nat → It} {w w' : World} (h : Hp B hp k ps it w) (hb : Below w.heap.size w w') : Hp B hp k ps it w' := by
  obtain ⟨v, h1, h2⟩ := h.hd
  exact ⟨⟨v, (hb.block _ (Array.getElem?_eq_some_iff.1 h1).1).trans h1, own_belowM h2 hb⟩, fun b hbm => ⟨(h.item b hbm).1.below hb, (h.item b hbm).2⟩, h.nodup, h.low⟩
theorem rowPt_at {ps : List Nat} {i b : Nat} (h : ps[i]? = some b) : (rowPt ps)[i]? = some (.pointer (some ⟨b, 0, none⟩)) := by unfold rowPt; rw [List.getElem?_map, h]; rfl
/-- The heap's slice, where it holds something. -/
theorem Hp.row {B hp k : Nat} {ps : List Nat} {it : Nat → It} {w : World} (h : Hp B hp k ps it w) (h0 : 0 < ps.length) : ∃ g c, w.heap[hp]? = some (.cells #[.slice (some ⟨g, 0, none⟩) ps.length c, .int .i64 (k : Int)] 69 (0, 0)) ∧ w.ownsRow B 72 1 (.slice (some ⟨g, 0, none⟩) ps.length c) ps.length (rowPt ps) ∧ ps.length ≤ c ∧ c ≤ 9223372036854775807 ∧ (∀ i b, ps[i]? = some b → w.cell? ⟨g, i, none⟩ = some (.pointer (some ⟨b, 0, none⟩))) := by
  obtain ⟨v, h1, h2⟩ := h.hd
  have h3 := h2
  rcases h2.2 with ⟨_, e⟩ | ⟨g, cap, cur, rfl, _, _, hc, hm, _⟩
  · omega
  · exact ⟨g, cap, h1, h3, hc, hm, fun i b hi => (World.ownsRow.cellAt h3 i (by have := (List.getElem?_eq_some_iff.1 hi).1; omega)).trans (rowPt_at hi)⟩
theorem two_cells {w : World} {b : Nat} {x y : Value} {t : TypeId} (h : w.heap[b]? = some (.cells #[x, y] t (0, 0))) : w.cell? ⟨b, 0, none⟩ = some x ∧ w.cell? ⟨b, 1, none⟩ = some y ∧ w.frozen? ⟨b, 0, none⟩ = false ∧ w.frozen? ⟨b, 1, none⟩ = false := by
  refine ⟨?_, ?_, ?_, ?_⟩ <;> first | simp [World.cell?, h] | simp [World.frozen?, h]
set_option maxRecDepth 100000 in
set_option maxHeartbeats 2000000 in
theorem hlen_any {B hp k : Nat} {ps : List Nat} {it : Nat → It} {w : World} (h : Hp B hp k ps it w) : Calls Try.prog 25 #[.pointer (some ⟨hp, 0, none⟩)] w fun e w' => e = .returned (.int .i64 (ps.length : Int)) ∧ w' = w := by
  obtain ⟨v, h1, h2⟩ := h.hd
  obtain ⟨c0, c1, _, _⟩ := two_cells h1
  obtain ⟨p, c, rfl⟩ := row_shape h2
  clear h h1 h2
  go_enter Try.func25, Try.ntmps25
  go_wp2_with fail
  go_returns
  exact ⟨rfl, rfl⟩
theorem rs_pair (w : World) (xk : ByteArray) (xs : Nat) (xi : Int) (xv yk : ByteArray) (ys : Nat) (yi : Int) (yv : ByteArray) : Rs (some ⟨w.heap.size, 0, none⟩) 2 2 w.heap.size 0 [⟨xk, xs, xi, xv⟩, ⟨yk, ys, yi, yv⟩] (w.alloc (.cells #[.string xk, .int .u64 (xs : Int), .int .i64 xi, .string xv, .string yk, .int .u64 (ys : Int), .int .i64 yi, .string yv] 42)) := by
  refine ⟨rfl, Nat.le_refl _, by omega, fun _ => ⟨rfl, by simp⟩, fun j x hx => ?_⟩
  have hj : j < 2 := (List.getElem?_eq_some_iff.1 hx).1
  rcases (show j = 0 ∨ j = 1 by omega) with rfl | rfl
  all_goals (
    simp only [List.getElem?_cons_zero, List.getElem?_cons_succ, Option.some.injEq] at hx
    subst hx
    refine ⟨?_, ?_, ?_, ?_⟩ <;> (rw [World.cell?_alloc_new]; rfl))
theorem ordR_pair (x y : Rw) : ordR [x, y] = ahd x y.key y.seq := by simp [ordR]
set_option maxRecDepth 100000 in
set_option maxHeartbeats 8000000 in
theorem less_any {B hp k : Nat} {ps : List Nat} {it : Nat → It} {w : World} (h : Hp B hp k ps it w) {i j bi bj : Nat} (hi : ps[i]? = some bi) (hj : ps[j]? = some bj) :
    Calls Try.prog 91 #[.pointer (some ⟨hp, 0, none⟩), .int .i64 (i : Int), .int .i64 (j : Int)] w fun e w' => e = .returned (.bool (ltI (it bi) (it bj))) ∧ Below w.heap.size w w' := by
  have li := (List.getElem?_eq_some_iff.1 hi).1
  have lj := (List.getElem?_eq_some_iff.1 hj).1
  obtain ⟨g, c, h1, _, hc, hm, hrow⟩ := h.row (by omega)
  obtain ⟨a0, _, _, _⟩ := two_cells h1
  have a1 := hrow i bi hi
  have a2 := hrow j bj hj
  obtain ⟨xa, xn, xc, xb, xo, hx1, hx2, _⟩ := (h.item bi (List.mem_of_getElem? hi)).1
  obtain ⟨ya, yn, yc, yb, yo, hy1, hy2, _⟩ := (h.item bj (List.mem_of_getElem? hj)).1
  have xp : 0 < xn := by have := hx2.len; simp at this; omega
  have yp : 0 < yn := by have := hy2.len; simp at this; omega
  obtain ⟨rfl, _⟩ := hx2.addr xp
  obtain ⟨rfl, _⟩ := hy2.addr yp
  have xq := hx2.cap
  have xr := hx2.most
  have yq := hy2.cap
  have yr := hy2.most
  obtain ⟨b0, b1, _, _⟩ := two_cells hx1
  obtain ⟨d0, d1, _, _⟩ := two_cells hy1
  obtain ⟨x0, x1, x2, x3⟩ := hx2.at' 0 _ rfl
  obtain ⟨y0, y1, y2, y3⟩ := hy2.at' 0 _ rfl
  rw [Nat.zero_mul, Nat.add_zero] at x0 x1 x2 x3 y0 y1 y2 y3
  have SA := Lib.hid (fun u => same_any (it bi).hd (it bj).hd u)
  obtain ⟨R, hR⟩ := named (ltI (it bi) (it bj))
  rw [← hR.out]
  have hR2 := hR.out
  unfold ltI at hR2
  have OA : Hid (∀ u g', Rs (some ⟨g', 0, none⟩) 2 2 g' 0 [(it bi).hd, (it bj).hd] u → Calls Try.prog 23 #[.slice (some ⟨g', 0, none⟩) 2 2] u fun e w' => e = .returned (.bool (ahd (it bi).hd (it bj).hd.key (it bj).hd.seq)) ∧ Below u.heap.size u w') := Lib.hid (fun u g' hu => by have := order_any hu; rwa [ordR_pair] at this)
  obtain ⟨xm, hxm⟩ := named (it bi).num
  obtain ⟨ym, hym⟩ := named (it bj).num
  rw [← hxm.out] at b1 hR2
  rw [← hym.out] at d1 hR2
  obtain ⟨X, hX⟩ := named (it bi).hd
  obtain ⟨Y, hY⟩ := named (it bj).hd
  rw [← hX.out] at x0 x1 x2 x3 SA hR2 OA
  rw [← hY.out] at y0 y1 y2 y3 SA hR2 OA
  obtain ⟨n, hn⟩ := named ps.length
  rw [← hn.out] at a0 li lj hc
  have i1 : (i : Int) < (n : Int) := by omega
  have j1 : (j : Int) < (n : Int) := by omega
  have xp1 : (0 : Int) < (xn : Int) := by omega
  have yp1 : (0 : Int) < (yn : Int) := by omega
  clear hx1 hx2 hy1 hy2 hrow h1 h hi hj hX hY hxm hym hR
  obtain ⟨xk, xs, xi, xv⟩ := X
  obtain ⟨yk, ys, yi, yv⟩ := Y
  simp only at x0 x1 x2 x3 y0 y1 y2 y3 SA hR2 OA
  have m0 := Lib.hid (show (fun v => v.cell? ⟨hp, 0, none⟩ = some (.slice (some ⟨g, 0, none⟩) n c) ∧ v.cell? ⟨g, i, none⟩ = some (.pointer (some ⟨bi, 0, none⟩)) ∧ v.cell? ⟨g, j, none⟩ = some (.pointer (some ⟨bj, 0, none⟩)) ∧ v.cell? ⟨bi, 0, none⟩ = some (.slice (some ⟨xb, xo, none⟩) xn xc) ∧ v.cell? ⟨bi, 1, none⟩ = some (.int .i64 (xm : Int)) ∧ v.cell? ⟨bj, 0, none⟩ = some (.slice (some ⟨yb, yo, none⟩) yn yc) ∧ v.cell? ⟨bj, 1, none⟩ = some (.int .i64 (ym : Int)) ∧ v.cell? ⟨xb, xo, none⟩ = some (.string xk) ∧ v.cell? ⟨xb, xo + 1, none⟩ = some (.int .u64 (xs : Int)) ∧ v.cell? ⟨xb, xo + 2, none⟩ = some (.int .i64 xi) ∧ v.cell? ⟨xb, xo + 3, none⟩ = some (.string xv) ∧ v.cell? ⟨yb, yo, none⟩ = some (.string yk) ∧ v.cell? ⟨yb, yo + 1, none⟩ = some (.int .u64 (ys : Int)) ∧ v.cell? ⟨yb, yo + 2, none⟩ = some (.int .i64 yi) ∧ v.cell? ⟨yb, yo + 3, none⟩ = some (.string yv))  w from ⟨a0, a1, a2, b0, b1, d0, d1, x0, x1, x2, x3, y0, y1, y2, y3⟩)
  have hkeep : Hid (∀ u u', (fun v => v.cell? ⟨hp, 0, none⟩ = some (.slice (some ⟨g, 0, none⟩) n c) ∧ v.cell? ⟨g, i, none⟩ = some (.pointer (some ⟨bi, 0, none⟩)) ∧ v.cell? ⟨g, j, none⟩ = some (.pointer (some ⟨bj, 0, none⟩)) ∧ v.cell? ⟨bi, 0, none⟩ = some (.slice (some ⟨xb, xo, none⟩) xn xc) ∧ v.cell? ⟨bi, 1, none⟩ = some (.int .i64 (xm : Int)) ∧ v.cell? ⟨bj, 0, none⟩ = some (.slice (some ⟨yb, yo, none⟩) yn yc) ∧ v.cell? ⟨bj, 1, none⟩ = some (.int .i64 (ym : Int)) ∧ v.cell? ⟨xb, xo, none⟩ = some (.string xk) ∧ v.cell? ⟨xb, xo + 1, none⟩ = some (.int .u64 (xs : Int)) ∧ v.cell? ⟨xb, xo + 2, none⟩ = some (.int .i64 xi) ∧ v.cell? ⟨xb, xo + 3, none⟩ = some (.string xv) ∧ v.cell? ⟨yb, yo, none⟩ = some (.string yk) ∧ v.cell? ⟨yb, yo + 1, none⟩ = some (.int .u64 (ys : Int)) ∧ v.cell? ⟨yb, yo + 2, none⟩ = some (.int .i64 yi) ∧ v.cell? ⟨yb, yo + 3, none⟩ = some (.string yv)) u → Below u.heap.size u u' → (fun v => v.cell? ⟨hp, 0, none⟩ = some (.slice (some ⟨g, 0, none⟩) n c) ∧ v.cell? ⟨g, i, none⟩ = some (.pointer (some ⟨bi, 0, none⟩)) ∧ v.cell? ⟨g, j, none⟩ = some (.pointer (some ⟨bj, 0, none⟩)) ∧ v.cell? ⟨bi, 0, none⟩ = some (.slice (some ⟨xb, xo, none⟩) xn xc) ∧ v.cell? ⟨bi, 1, none⟩ = some (.int .i64 (xm : Int)) ∧ v.cell? ⟨bj, 0, none⟩ = some (.slice (some ⟨yb, yo, none⟩) yn yc) ∧ v.cell? ⟨bj, 1, none⟩ = some (.int .i64 (ym : Int)) ∧ v.cell? ⟨xb, xo, none⟩ = some (.string xk) ∧ v.cell? ⟨xb, xo + 1, none⟩ = some (.int .u64 (xs : Int)) ∧ v.cell? ⟨xb, xo + 2, none⟩ = some (.int .i64 xi) ∧ v.cell? ⟨xb, xo + 3, none⟩ = some (.string xv) ∧ v.cell? ⟨yb, yo, none⟩ = some (.string yk) ∧ v.cell? ⟨yb, yo + 1, none⟩ = some (.int .u64 (ys : Int)) ∧ v.cell? ⟨yb, yo + 2, none⟩ = some (.int .i64 yi) ∧ v.cell? ⟨yb, yo + 3, none⟩ = some (.string yv)) u') := Lib.hid (fun u u' ⟨q1, q2, q3, q4, q5, q6, q7, q8, q9, q10, q11, q12, q13, q14, q15⟩ hb => ⟨cell_keep hb q1, cell_keep hb q2, cell_keep hb q3, cell_keep hb q4, cell_keep hb q5, cell_keep hb q6, cell_keep hb q7, cell_keep hb q8, cell_keep hb q9, cell_keep hb q10, cell_keep hb q11, cell_keep hb q12, cell_keep hb q13, cell_keep hb q14, cell_keep hb q15⟩)
  have m1 := Lib.hid (hkeep.out w w.drew m0.out (Below.refl _ _).drew)
  have W1 : Hid (Below w.heap.size w w.drew) := Lib.hid (Below.refl _ _).drew
  have m2 := Lib.hid (hkeep.out w.drew w.drew.drew m1.out (Below.refl _ _).drew)
  have W2 : Hid (Below w.heap.size w w.drew.drew) := Lib.hid W1.out.drew
  clear a0 a1 a2 b0 b1 d0 d1 x0 x1 x2 x3 y0 y1 y2 y3
  obtain ⟨T, hT⟩ := named (smpB ⟨xk, xs, xi, xv⟩ ⟨yk, ys, yi, yv⟩)
  rw [← hT.out] at SA hR2
  go_enter Try.func91, Try.ntmps91
  go_upto_region 1 with fail
  refine wp_region_held_drew (S := (fun v => v.cell? ⟨hp, 0, none⟩ = some (.slice (some ⟨g, 0, none⟩) n c) ∧ v.cell? ⟨g, i, none⟩ = some (.pointer (some ⟨bi, 0, none⟩)) ∧ v.cell? ⟨g, j, none⟩ = some (.pointer (some ⟨bj, 0, none⟩)) ∧ v.cell? ⟨bi, 0, none⟩ = some (.slice (some ⟨xb, xo, none⟩) xn xc) ∧ v.cell? ⟨bi, 1, none⟩ = some (.int .i64 (xm : Int)) ∧ v.cell? ⟨bj, 0, none⟩ = some (.slice (some ⟨yb, yo, none⟩) yn yc) ∧ v.cell? ⟨bj, 1, none⟩ = some (.int .i64 (ym : Int)) ∧ v.cell? ⟨xb, xo, none⟩ = some (.string xk) ∧ v.cell? ⟨xb, xo + 1, none⟩ = some (.int .u64 (xs : Int)) ∧ v.cell? ⟨xb, xo + 2, none⟩ = some (.int .i64 xi) ∧ v.cell? ⟨xb, xo + 3, none⟩ = some (.string xv) ∧ v.cell? ⟨yb, yo, none⟩ = some (.string yk) ∧ v.cell? ⟨yb, yo + 1, none⟩ = some (.int .u64 (ys : Int)) ∧ v.cell? ⟨yb, yo + 2, none⟩ = some (.int .i64 yi) ∧ v.cell? ⟨yb, yo + 3, none⟩ = some (.string yv))) (by kernel_rfl) (m1.out) (fun hHeld => ?_)
  refine held_take (i := 0) (v := ?_) rfl (by kernel_rfl) (by kernel_rfl) (by kernel_rfl) (fun _ _ _ h => h) (by rfl) (fun w hSw => ?_) (by assumption) ?_; rotate_left 1; focus (((try dsimp only at hSw); first | (go_simp; done) | (go_simp; with_reducible rfl)))
  try simp only [Act.put, List.setIfInBounds_toArray, List.set_cons_zero, List.set_cons_succ]
  refine held_take (i := 1) (v := ?_) rfl (by kernel_rfl) (by kernel_rfl) (by kernel_rfl) (fun _ _ _ h => h) (by rfl) (fun w hSw => ?_) (by assumption) ?_; rotate_left 1; focus (((try dsimp only at hSw); first | (go_simp; done) | (go_simp; with_reducible rfl)))
  try simp only [Act.put, List.setIfInBounds_toArray, List.set_cons_zero, List.set_cons_succ]
  refine held_take (i := 2) (v := ?_) rfl (by kernel_rfl) (by kernel_rfl) (by kernel_rfl) (fun _ _ _ h => h) (by rfl) (fun w hSw => ?_) (by assumption) ?_; rotate_left 1; focus (((try dsimp only at hSw); first | (go_simp; done) | (go_simp; with_reducible rfl)))
  try simp only [Act.put, List.setIfInBounds_toArray, List.set_cons_zero, List.set_cons_succ]
  refine held_take (i := 3) (v := ?_) rfl (by kernel_rfl) (by kernel_rfl) (by kernel_rfl) (fun _ _ _ h => h) (by rfl) (fun w hSw => ?_) (by assumption) ?_; rotate_left 1; focus (((try dsimp only at hSw); first | (go_simp; done) | (go_simp; with_reducible rfl)))
  try simp only [Act.put, List.setIfInBounds_toArray, List.set_cons_zero, List.set_cons_succ]
  refine held_take (i := 4) (v := ?_) rfl (by kernel_rfl) (by kernel_rfl) (by kernel_rfl) (fun _ _ _ h => h) (by rfl) (fun w hSw => ?_) (by assumption) ?_; rotate_left 1; focus (((try dsimp only at hSw); first | (go_simp; done) | (go_simp; with_reducible rfl)))
  try simp only [Act.put, List.setIfInBounds_toArray, List.set_cons_zero, List.set_cons_succ]
  refine held_take (i := 5) (v := ?_) rfl (by kernel_rfl) (by kernel_rfl) (by kernel_rfl) (fun _ _ _ h => h) (by rfl) (fun w hSw => ?_) (by assumption) ?_; rotate_left 1; focus (((try dsimp only at hSw); first | (go_simp; done) | (go_simp; with_reducible rfl)))
  try simp only [Act.put, List.setIfInBounds_toArray, List.set_cons_zero, List.set_cons_succ]
  refine held_take (i := 6) (v := ?_) rfl (by kernel_rfl) (by kernel_rfl) (by kernel_rfl) (fun _ _ _ h => h) (by rfl) (fun w hSw => ?_) (by assumption) ?_; rotate_left 1; focus (((try dsimp only at hSw); first | (go_simp; done) | (go_simp; with_reducible rfl)))
  try simp only [Act.put, List.setIfInBounds_toArray, List.set_cons_zero, List.set_cons_succ]
  refine held_take (i := 7) (v := ?_) rfl (by kernel_rfl) (by kernel_rfl) (by kernel_rfl) (fun _ _ _ h => h) (by rfl) (fun w hSw => ?_) (by assumption) ?_; rotate_left 1; focus (((try dsimp only at hSw); first | (go_simp; done) | (go_simp; with_reducible rfl)))
  try simp only [Act.put, List.setIfInBounds_toArray, List.set_cons_zero, List.set_cons_succ]
  refine held_take (i := 8) (v := ?_) rfl (by kernel_rfl) (by kernel_rfl) (by kernel_rfl) (fun _ _ _ h => h) (by rfl) (fun w hSw => ?_) (by assumption) ?_; rotate_left 1; focus (((try dsimp only at hSw); first | (go_simp; done) | (go_simp; with_reducible rfl)))
  try simp only [Act.put, List.setIfInBounds_toArray, List.set_cons_zero, List.set_cons_succ]
  refine held_take (i := 9) (v := ?_) rfl (by kernel_rfl) (by kernel_rfl) (by kernel_rfl) (fun _ _ _ h => h) (by rfl) (fun w hSw => ?_) (by assumption) ?_; rotate_left 1; focus (((try dsimp only at hSw); first | (go_simp; done) | (go_simp; with_reducible rfl)))
  try simp only [Act.put, List.setIfInBounds_toArray, List.set_cons_zero, List.set_cons_succ]
  refine held_take (i := 10) (v := ?_) rfl (by kernel_rfl) (by kernel_rfl) (by kernel_rfl) (fun _ _ _ h => h) (by rfl) (fun w hSw => ?_) (by assumption) ?_; rotate_left 1; focus (((try dsimp only at hSw); first | (go_simp; done) | (go_simp; with_reducible rfl)))
  try simp only [Act.put, List.setIfInBounds_toArray, List.set_cons_zero, List.set_cons_succ]
  refine held_take (i := 11) (v := ?_) rfl (by kernel_rfl) (by kernel_rfl) (by kernel_rfl) (fun _ _ _ h => h) (by rfl) (fun w hSw => ?_) (by assumption) ?_; rotate_left 1; focus (((try dsimp only at hSw); first | (go_simp; done) | (go_simp; with_reducible rfl)))
  try simp only [Act.put, List.setIfInBounds_toArray, List.set_cons_zero, List.set_cons_succ]
  refine held_take (i := 12) (v := ?_) rfl (by kernel_rfl) (by kernel_rfl) (by kernel_rfl) (fun _ _ _ h => h) (by rfl) (fun w hSw => ?_) (by assumption) ?_; rotate_left 1; focus (((try dsimp only at hSw); first | (go_simp; done) | (go_simp; with_reducible rfl)))
  try simp only [Act.put, List.setIfInBounds_toArray, List.set_cons_zero, List.set_cons_succ]
  refine held_take (i := 13) (v := ?_) rfl (by kernel_rfl) (by kernel_rfl) (by kernel_rfl) (fun _ _ _ h => h) (by rfl) (fun w hSw => ?_) (by assumption) ?_; rotate_left 1; focus (((try dsimp only at hSw); first | (go_simp; done) | (go_simp; with_reducible rfl)))
  try simp only [Act.put, List.setIfInBounds_toArray, List.set_cons_zero, List.set_cons_succ]
  refine held_take (i := 14) (v := ?_) rfl (by kernel_rfl) (by kernel_rfl) (by kernel_rfl) (fun _ _ _ h => h) (by rfl) (fun w hSw => ?_) (by assumption) ?_; rotate_left 1; focus (((try dsimp only at hSw); first | (go_simp; done) | (go_simp; with_reducible rfl)))
  try simp only [Act.put, List.setIfInBounds_toArray, List.set_cons_zero, List.set_cons_succ]
  refine held_take (i := 15) (v := ?_) rfl (by kernel_rfl) (by kernel_rfl) (by kernel_rfl) (fun _ _ _ h => h) (by rfl) (fun w hSw => ?_) (by assumption) ?_; rotate_left 1; focus (((try dsimp only at hSw); first | (go_simp; done) | (go_simp; with_reducible rfl)))
  try simp only [Act.put, List.setIfInBounds_toArray, List.set_cons_zero, List.set_cons_succ]
  refine wpAnyH_done (by kernel_rfl) ?_ _
  go_upto_region 2 with fail
  refine wp_region_held_drew (S := (fun v => v.cell? ⟨hp, 0, none⟩ = some (.slice (some ⟨g, 0, none⟩) n c) ∧ v.cell? ⟨g, i, none⟩ = some (.pointer (some ⟨bi, 0, none⟩)) ∧ v.cell? ⟨g, j, none⟩ = some (.pointer (some ⟨bj, 0, none⟩)) ∧ v.cell? ⟨bi, 0, none⟩ = some (.slice (some ⟨xb, xo, none⟩) xn xc) ∧ v.cell? ⟨bi, 1, none⟩ = some (.int .i64 (xm : Int)) ∧ v.cell? ⟨bj, 0, none⟩ = some (.slice (some ⟨yb, yo, none⟩) yn yc) ∧ v.cell? ⟨bj, 1, none⟩ = some (.int .i64 (ym : Int)) ∧ v.cell? ⟨xb, xo, none⟩ = some (.string xk) ∧ v.cell? ⟨xb, xo + 1, none⟩ = some (.int .u64 (xs : Int)) ∧ v.cell? ⟨xb, xo + 2, none⟩ = some (.int .i64 xi) ∧ v.cell? ⟨xb, xo + 3, none⟩ = some (.string xv) ∧ v.cell? ⟨yb, yo, none⟩ = some (.string yk) ∧ v.cell? ⟨yb, yo + 1, none⟩ = some (.int .u64 (ys : Int)) ∧ v.cell? ⟨yb, yo + 2, none⟩ = some (.int .i64 yi) ∧ v.cell? ⟨yb, yo + 3, none⟩ = some (.string yv))) (by kernel_rfl) (m2.out) (fun hHeld => ?_)
  refine held_take (i := 0) (v := ?_) rfl (by kernel_rfl) (by kernel_rfl) (by kernel_rfl) (fun _ _ _ h => h) (by rfl) (fun w hSw => ?_) (by assumption) ?_; rotate_left 1; focus (((try dsimp only at hSw); first | (go_simp; done) | (go_simp; with_reducible rfl)))
  try simp only [Act.put, List.setIfInBounds_toArray, List.set_cons_zero, List.set_cons_succ]
  refine held_take (i := 1) (v := ?_) rfl (by kernel_rfl) (by kernel_rfl) (by kernel_rfl) (fun _ _ _ h => h) (by rfl) (fun w hSw => ?_) (by assumption) ?_; rotate_left 1; focus (((try dsimp only at hSw); first | (go_simp; done) | (go_simp; with_reducible rfl)))
  try simp only [Act.put, List.setIfInBounds_toArray, List.set_cons_zero, List.set_cons_succ]
  refine held_take (i := 2) (v := ?_) rfl (by kernel_rfl) (by kernel_rfl) (by kernel_rfl) (fun _ _ _ h => h) (by rfl) (fun w hSw => ?_) (by assumption) ?_; rotate_left 1; focus (((try dsimp only at hSw); first | (go_simp; done) | (go_simp; with_reducible rfl)))
  try simp only [Act.put, List.setIfInBounds_toArray, List.set_cons_zero, List.set_cons_succ]
  refine held_take (i := 3) (v := ?_) rfl (by kernel_rfl) (by kernel_rfl) (by kernel_rfl) (fun _ _ _ h => h) (by rfl) (fun w hSw => ?_) (by assumption) ?_; rotate_left 1; focus (((try dsimp only at hSw); first | (go_simp; done) | (go_simp; with_reducible rfl)))
  try simp only [Act.put, List.setIfInBounds_toArray, List.set_cons_zero, List.set_cons_succ]
  refine held_take (i := 4) (v := ?_) rfl (by kernel_rfl) (by kernel_rfl) (by kernel_rfl) (fun _ _ _ h => h) (by rfl) (fun w hSw => ?_) (by assumption) ?_; rotate_left 1; focus (((try dsimp only at hSw); first | (go_simp; done) | (go_simp; with_reducible rfl)))
  try simp only [Act.put, List.setIfInBounds_toArray, List.set_cons_zero, List.set_cons_succ]
  refine held_take (i := 5) (v := ?_) rfl (by kernel_rfl) (by kernel_rfl) (by kernel_rfl) (fun _ _ _ h => h) (by rfl) (fun w hSw => ?_) (by assumption) ?_; rotate_left 1; focus (((try dsimp only at hSw); first | (go_simp; done) | (go_simp; with_reducible rfl)))
  try simp only [Act.put, List.setIfInBounds_toArray, List.set_cons_zero, List.set_cons_succ]
  refine held_take (i := 6) (v := ?_) rfl (by kernel_rfl) (by kernel_rfl) (by kernel_rfl) (fun _ _ _ h => h) (by rfl) (fun w hSw => ?_) (by assumption) ?_; rotate_left 1; focus (((try dsimp only at hSw); first | (go_simp; done) | (go_simp; with_reducible rfl)))
  try simp only [Act.put, List.setIfInBounds_toArray, List.set_cons_zero, List.set_cons_succ]
  refine held_take (i := 7) (v := ?_) rfl (by kernel_rfl) (by kernel_rfl) (by kernel_rfl) (fun _ _ _ h => h) (by rfl) (fun w hSw => ?_) (by assumption) ?_; rotate_left 1; focus (((try dsimp only at hSw); first | (go_simp; done) | (go_simp; with_reducible rfl)))
  try simp only [Act.put, List.setIfInBounds_toArray, List.set_cons_zero, List.set_cons_succ]
  refine held_take (i := 8) (v := ?_) rfl (by kernel_rfl) (by kernel_rfl) (by kernel_rfl) (fun _ _ _ h => h) (by rfl) (fun w hSw => ?_) (by assumption) ?_; rotate_left 1; focus (((try dsimp only at hSw); first | (go_simp; done) | (go_simp; with_reducible rfl)))
  try simp only [Act.put, List.setIfInBounds_toArray, List.set_cons_zero, List.set_cons_succ]
  refine held_take (i := 9) (v := ?_) rfl (by kernel_rfl) (by kernel_rfl) (by kernel_rfl) (fun _ _ _ h => h) (by rfl) (fun w hSw => ?_) (by assumption) ?_; rotate_left 1; focus (((try dsimp only at hSw); first | (go_simp; done) | (go_simp; with_reducible rfl)))
  try simp only [Act.put, List.setIfInBounds_toArray, List.set_cons_zero, List.set_cons_succ]
  refine held_take (i := 10) (v := ?_) rfl (by kernel_rfl) (by kernel_rfl) (by kernel_rfl) (fun _ _ _ h => h) (by rfl) (fun w hSw => ?_) (by assumption) ?_; rotate_left 1; focus (((try dsimp only at hSw); first | (go_simp; done) | (go_simp; with_reducible rfl)))
  try simp only [Act.put, List.setIfInBounds_toArray, List.set_cons_zero, List.set_cons_succ]
  refine held_take (i := 11) (v := ?_) rfl (by kernel_rfl) (by kernel_rfl) (by kernel_rfl) (fun _ _ _ h => h) (by rfl) (fun w hSw => ?_) (by assumption) ?_; rotate_left 1; focus (((try dsimp only at hSw); first | (go_simp; done) | (go_simp; with_reducible rfl)))
  try simp only [Act.put, List.setIfInBounds_toArray, List.set_cons_zero, List.set_cons_succ]
  refine held_call (i := 12) (by kernel_rfl) rfl (by rfl) (fun K hK => ?_)
  go_simp
  refine (SA.out _).mono ?_
  rintro e w3 ⟨rfl, hb3⟩
  have m3 := Lib.hid (hkeep.out _ w3 m2.out hb3)
  have W3 : Hid (Below w.heap.size w w3) := Lib.hid (below_of W2.out hb3)
  clear hb3
  refine hK.out _ _ (m3.out) (fun hHeld => ?_)
  try simp only [Act.put, List.setIfInBounds_toArray, List.set_cons_zero, List.set_cons_succ]
  refine wpAnyH_done (by kernel_rfl) ?_ _
  have m4 := Lib.hid (hkeep.out w3 w3.drew m3.out (Below.refl _ _).drew)
  have W4 : Hid (Below w.heap.size w w3.drew) := Lib.hid W3.out.drew
  cases T with
  | true =>
    rw [if_pos rfl] at hR2
    replace hR2 := Lib.hid hR2
    go_upto_region 3 with fail
    refine wp_region_held_drew (S := (fun v => v.cell? ⟨hp, 0, none⟩ = some (.slice (some ⟨g, 0, none⟩) n c) ∧ v.cell? ⟨g, i, none⟩ = some (.pointer (some ⟨bi, 0, none⟩)) ∧ v.cell? ⟨g, j, none⟩ = some (.pointer (some ⟨bj, 0, none⟩)) ∧ v.cell? ⟨bi, 0, none⟩ = some (.slice (some ⟨xb, xo, none⟩) xn xc) ∧ v.cell? ⟨bi, 1, none⟩ = some (.int .i64 (xm : Int)) ∧ v.cell? ⟨bj, 0, none⟩ = some (.slice (some ⟨yb, yo, none⟩) yn yc) ∧ v.cell? ⟨bj, 1, none⟩ = some (.int .i64 (ym : Int)) ∧ v.cell? ⟨xb, xo, none⟩ = some (.string xk) ∧ v.cell? ⟨xb, xo + 1, none⟩ = some (.int .u64 (xs : Int)) ∧ v.cell? ⟨xb, xo + 2, none⟩ = some (.int .i64 xi) ∧ v.cell? ⟨xb, xo + 3, none⟩ = some (.string xv) ∧ v.cell? ⟨yb, yo, none⟩ = some (.string yk) ∧ v.cell? ⟨yb, yo + 1, none⟩ = some (.int .u64 (ys : Int)) ∧ v.cell? ⟨yb, yo + 2, none⟩ = some (.int .i64 yi) ∧ v.cell? ⟨yb, yo + 3, none⟩ = some (.string yv))) (by kernel_rfl) (m4.out) (fun hHeld => ?_)
    refine held_take (i := 0) (v := ?_) rfl (by kernel_rfl) (by kernel_rfl) (by kernel_rfl) (fun _ _ _ h => h) (by rfl) (fun w hSw => ?_) (by assumption) ?_; rotate_left 1; focus (((try dsimp only at hSw); first | (go_simp; done) | (go_simp; with_reducible rfl)))
    try simp only [Act.put, List.setIfInBounds_toArray, List.set_cons_zero, List.set_cons_succ]
    refine held_take (i := 1) (v := ?_) rfl (by kernel_rfl) (by kernel_rfl) (by kernel_rfl) (fun _ _ _ h => h) (by rfl) (fun w hSw => ?_) (by assumption) ?_; rotate_left 1; focus (((try dsimp only at hSw); first | (go_simp; done) | (go_simp; with_reducible rfl)))
    try simp only [Act.put, List.setIfInBounds_toArray, List.set_cons_zero, List.set_cons_succ]
    refine held_take (i := 2) (v := ?_) rfl (by kernel_rfl) (by kernel_rfl) (by kernel_rfl) (fun _ _ _ h => h) (by rfl) (fun w hSw => ?_) (by assumption) ?_; rotate_left 1; focus (((try dsimp only at hSw); first | (go_simp; done) | (go_simp; with_reducible rfl)))
    try simp only [Act.put, List.setIfInBounds_toArray, List.set_cons_zero, List.set_cons_succ]
    refine held_take (i := 3) (v := ?_) rfl (by kernel_rfl) (by kernel_rfl) (by kernel_rfl) (fun _ _ _ h => h) (by rfl) (fun w hSw => ?_) (by assumption) ?_; rotate_left 1; focus (((try dsimp only at hSw); first | (go_simp; done) | (go_simp; with_reducible rfl)))
    try simp only [Act.put, List.setIfInBounds_toArray, List.set_cons_zero, List.set_cons_succ]
    refine held_take (i := 4) (v := ?_) rfl (by kernel_rfl) (by kernel_rfl) (by kernel_rfl) (fun _ _ _ h => h) (by rfl) (fun w hSw => ?_) (by assumption) ?_; rotate_left 1; focus (((try dsimp only at hSw); first | (go_simp; done) | (go_simp; with_reducible rfl)))
    try simp only [Act.put, List.setIfInBounds_toArray, List.set_cons_zero, List.set_cons_succ]
    refine held_take (i := 5) (v := ?_) rfl (by kernel_rfl) (by kernel_rfl) (by kernel_rfl) (fun _ _ _ h => h) (by rfl) (fun w hSw => ?_) (by assumption) ?_; rotate_left 1; focus (((try dsimp only at hSw); first | (go_simp; done) | (go_simp; with_reducible rfl)))
    try simp only [Act.put, List.setIfInBounds_toArray, List.set_cons_zero, List.set_cons_succ]
    refine held_take (i := 6) (v := ?_) rfl (by kernel_rfl) (by kernel_rfl) (by kernel_rfl) (fun _ _ _ h => h) (by rfl) (fun w hSw => ?_) (by assumption) ?_; rotate_left 1; focus (((try dsimp only at hSw); first | (go_simp; done) | (go_simp; with_reducible rfl)))
    try simp only [Act.put, List.setIfInBounds_toArray, List.set_cons_zero, List.set_cons_succ]
    refine held_take (i := 7) (v := ?_) rfl (by kernel_rfl) (by kernel_rfl) (by kernel_rfl) (fun _ _ _ h => h) (by rfl) (fun w hSw => ?_) (by assumption) ?_; rotate_left 1; focus (((try dsimp only at hSw); first | (go_simp; done) | (go_simp; with_reducible rfl)))
    try simp only [Act.put, List.setIfInBounds_toArray, List.set_cons_zero, List.set_cons_succ]
    refine held_take (i := 8) (v := ?_) rfl (by kernel_rfl) (by kernel_rfl) (by kernel_rfl) (fun _ _ _ h => h) (by rfl) (fun w hSw => ?_) (by assumption) ?_; rotate_left 1; focus (((try dsimp only at hSw); first | (go_simp; done) | (go_simp; with_reducible rfl)))
    try simp only [Act.put, List.setIfInBounds_toArray, List.set_cons_zero, List.set_cons_succ]
    refine held_take (i := 9) (v := ?_) rfl (by kernel_rfl) (by kernel_rfl) (by kernel_rfl) (fun _ _ _ h => h) (by rfl) (fun w hSw => ?_) (by assumption) ?_; rotate_left 1; focus (((try dsimp only at hSw); first | (go_simp; done) | (go_simp; with_reducible rfl)))
    try simp only [Act.put, List.setIfInBounds_toArray, List.set_cons_zero, List.set_cons_succ]
    refine wpAnyH_done (by kernel_rfl) ?_ _
    go_wp2_with fail
    go_returns
    exact ⟨by rw [hR2.out]; rfl, W4.out⟩
  | false =>
    rw [if_neg (by simp)] at hR2
    rw [← hR2] at OA
    replace hR2 := Lib.hid hR2
    go_upto_region 4 with fail
    refine wp_region_held_drew (S := (fun v => v.cell? ⟨hp, 0, none⟩ = some (.slice (some ⟨g, 0, none⟩) n c) ∧ v.cell? ⟨g, i, none⟩ = some (.pointer (some ⟨bi, 0, none⟩)) ∧ v.cell? ⟨g, j, none⟩ = some (.pointer (some ⟨bj, 0, none⟩)) ∧ v.cell? ⟨bi, 0, none⟩ = some (.slice (some ⟨xb, xo, none⟩) xn xc) ∧ v.cell? ⟨bi, 1, none⟩ = some (.int .i64 (xm : Int)) ∧ v.cell? ⟨bj, 0, none⟩ = some (.slice (some ⟨yb, yo, none⟩) yn yc) ∧ v.cell? ⟨bj, 1, none⟩ = some (.int .i64 (ym : Int)) ∧ v.cell? ⟨xb, xo, none⟩ = some (.string xk) ∧ v.cell? ⟨xb, xo + 1, none⟩ = some (.int .u64 (xs : Int)) ∧ v.cell? ⟨xb, xo + 2, none⟩ = some (.int .i64 xi) ∧ v.cell? ⟨xb, xo + 3, none⟩ = some (.string xv) ∧ v.cell? ⟨yb, yo, none⟩ = some (.string yk) ∧ v.cell? ⟨yb, yo + 1, none⟩ = some (.int .u64 (ys : Int)) ∧ v.cell? ⟨yb, yo + 2, none⟩ = some (.int .i64 yi) ∧ v.cell? ⟨yb, yo + 3, none⟩ = some (.string yv))) (by kernel_rfl) (m4.out) (fun hHeld => ?_)
    refine held_take (i := 0) (v := ?_) rfl (by kernel_rfl) (by kernel_rfl) (by kernel_rfl) (fun _ _ _ h => h) (by rfl) (fun w hSw => ?_) (by assumption) ?_; rotate_left 1; focus (((try dsimp only at hSw); first | (go_simp; done) | (go_simp; with_reducible rfl)))
    try simp only [Act.put, List.setIfInBounds_toArray, List.set_cons_zero, List.set_cons_succ]
    refine held_take (i := 1) (v := ?_) rfl (by kernel_rfl) (by kernel_rfl) (by kernel_rfl) (fun _ _ _ h => h) (by rfl) (fun w hSw => ?_) (by assumption) ?_; rotate_left 1; focus (((try dsimp only at hSw); first | (go_simp; done) | (go_simp; with_reducible rfl)))
    try simp only [Act.put, List.setIfInBounds_toArray, List.set_cons_zero, List.set_cons_succ]
    refine held_take (i := 2) (v := ?_) rfl (by kernel_rfl) (by kernel_rfl) (by kernel_rfl) (fun _ _ _ h => h) (by rfl) (fun w hSw => ?_) (by assumption) ?_; rotate_left 1; focus (((try dsimp only at hSw); first | (go_simp; done) | (go_simp; with_reducible rfl)))
    try simp only [Act.put, List.setIfInBounds_toArray, List.set_cons_zero, List.set_cons_succ]
    refine held_take (i := 3) (v := ?_) rfl (by kernel_rfl) (by kernel_rfl) (by kernel_rfl) (fun _ _ _ h => h) (by rfl) (fun w hSw => ?_) (by assumption) ?_; rotate_left 1; focus (((try dsimp only at hSw); first | (go_simp; done) | (go_simp; with_reducible rfl)))
    try simp only [Act.put, List.setIfInBounds_toArray, List.set_cons_zero, List.set_cons_succ]
    refine held_take (i := 4) (v := ?_) rfl (by kernel_rfl) (by kernel_rfl) (by kernel_rfl) (fun _ _ _ h => h) (by rfl) (fun w hSw => ?_) (by assumption) ?_; rotate_left 1; focus (((try dsimp only at hSw); first | (go_simp; done) | (go_simp; with_reducible rfl)))
    try simp only [Act.put, List.setIfInBounds_toArray, List.set_cons_zero, List.set_cons_succ]
    refine held_take (i := 5) (v := ?_) rfl (by kernel_rfl) (by kernel_rfl) (by kernel_rfl) (fun _ _ _ h => h) (by rfl) (fun w hSw => ?_) (by assumption) ?_; rotate_left 1; focus (((try dsimp only at hSw); first | (go_simp; done) | (go_simp; with_reducible rfl)))
    try simp only [Act.put, List.setIfInBounds_toArray, List.set_cons_zero, List.set_cons_succ]
    refine held_take (i := 6) (v := ?_) rfl (by kernel_rfl) (by kernel_rfl) (by kernel_rfl) (fun _ _ _ h => h) (by rfl) (fun w hSw => ?_) (by assumption) ?_; rotate_left 1; focus (((try dsimp only at hSw); first | (go_simp; done) | (go_simp; with_reducible rfl)))
    try simp only [Act.put, List.setIfInBounds_toArray, List.set_cons_zero, List.set_cons_succ]
    refine held_take (i := 7) (v := ?_) rfl (by kernel_rfl) (by kernel_rfl) (by kernel_rfl) (fun _ _ _ h => h) (by rfl) (fun w hSw => ?_) (by assumption) ?_; rotate_left 1; focus (((try dsimp only at hSw); first | (go_simp; done) | (go_simp; with_reducible rfl)))
    try simp only [Act.put, List.setIfInBounds_toArray, List.set_cons_zero, List.set_cons_succ]
    refine held_take (i := 8) (v := ?_) rfl (by kernel_rfl) (by kernel_rfl) (by kernel_rfl) (fun _ _ _ h => h) (by rfl) (fun w hSw => ?_) (by assumption) ?_; rotate_left 1; focus (((try dsimp only at hSw); first | (go_simp; done) | (go_simp; with_reducible rfl)))
    try simp only [Act.put, List.setIfInBounds_toArray, List.set_cons_zero, List.set_cons_succ]
    refine held_take (i := 9) (v := ?_) rfl (by kernel_rfl) (by kernel_rfl) (by kernel_rfl) (fun _ _ _ h => h) (by rfl) (fun w hSw => ?_) (by assumption) ?_; rotate_left 1; focus (((try dsimp only at hSw); first | (go_simp; done) | (go_simp; with_reducible rfl)))
    try simp only [Act.put, List.setIfInBounds_toArray, List.set_cons_zero, List.set_cons_succ]
    refine held_take (i := 10) (v := ?_) rfl (by kernel_rfl) (by kernel_rfl) (by kernel_rfl) (fun _ _ _ h => h) (by rfl) (fun w hSw => ?_) (by assumption) ?_; rotate_left 1; focus (((try dsimp only at hSw); first | (go_simp; done) | (go_simp; with_reducible rfl)))
    try simp only [Act.put, List.setIfInBounds_toArray, List.set_cons_zero, List.set_cons_succ]
    refine held_take (i := 11) (v := ?_) rfl (by kernel_rfl) (by kernel_rfl) (by kernel_rfl) (fun _ _ _ h => h) (by rfl) (fun w hSw => ?_) (by assumption) ?_; rotate_left 1; focus (((try dsimp only at hSw); first | (go_simp; done) | (go_simp; with_reducible rfl)))
    try simp only [Act.put, List.setIfInBounds_toArray, List.set_cons_zero, List.set_cons_succ]
    refine held_call (i := 12) (by kernel_rfl) rfl (by rfl) (fun K hK => ?_)
    go_simp
    have W5 := Lib.hid (W4.out.alloc W4.out.size (.cells #[.string xk, .int .u64 (xs : Int), .int .i64 xi, .string xv, .string yk, .int .u64 (ys : Int), .int .i64 yi, .string yv] 42))
    have m5 := Lib.hid (hkeep.out w3.drew _ m4.out (below_alloc w3.drew (.cells #[.string xk, .int .u64 (xs : Int), .int .i64 xi, .string xv, .string yk, .int .u64 (ys : Int), .int .i64 yi, .string yv] 42)))
    refine hK.out _ _ (m5.out) (fun hHeld => ?_)
    try simp only [Act.put, List.setIfInBounds_toArray, List.set_cons_zero, List.set_cons_succ]
    refine held_call (i := 13) (by kernel_rfl) rfl (by rfl) (fun K hK => ?_)
    go_simp
    refine (OA.out _ _ (rs_pair w3.drew _ _ _ _ _ _ _ _)).mono ?_
    rintro e w6 ⟨rfl, hb6⟩
    have m6 := Lib.hid (hkeep.out _ w6 m5.out hb6)
    have W6 : Hid (Below w.heap.size w w6) := Lib.hid (below_of W5.out hb6)
    clear hb6
    refine hK.out _ _ (m6.out) (fun hHeld => ?_)
    try simp only [Act.put, List.setIfInBounds_toArray, List.set_cons_zero, List.set_cons_succ]
    refine held_take (i := 14) (v := ?_) rfl (by kernel_rfl) (by kernel_rfl) (by kernel_rfl) (fun _ _ _ h => h) (by rfl) (fun w hSw => ?_) (by assumption) ?_; rotate_left 1; focus (((try dsimp only at hSw); first | (go_simp; done) | (go_simp; with_reducible rfl)))
    try simp only [Act.put, List.setIfInBounds_toArray, List.set_cons_zero, List.set_cons_succ]
    refine wpAnyH_done (by kernel_rfl) ?_ _
    go_wp2_with fail
    go_returns
    exact ⟨rfl, W6.out⟩
end Go.Proofs.Ytkkegdhnkefogaa
