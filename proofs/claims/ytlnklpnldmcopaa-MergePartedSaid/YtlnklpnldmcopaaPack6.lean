/-
  The heap of lists in memory; the contracts of Len and Less. Condition: at most 1000 lists.
-/
import Derived.Test.YtlnklpnldmcopaaPack5
import Derived.Laws.OwnMore
import Derived.Deep.AppendLies
import Derived.Deep.Upon
namespace Go.Proofs.Ytlnklpnldmcopaa
set_option maxRecDepth 100000
open Go.RowKit
/-- What is left of a list, a row at least, and which list it is. -/
structure It where
  num : Nat
  hd : Rw
  tl : List Rw
def ltI (a b : It) : Bool := if smpB a.hd b.hd = true then decide (a.num < b.num) else ahd a.hd b.hd.key b.hd.seq
theorem smpB_refl (x : Rw) : smpB x x = true := smpB_iff.2 ⟨rfl, rfl⟩
theorem smpB_symm {x y : Rw} (h : smpB x y = true) : smpB y x = true := by
  obtain ⟨h1, h2⟩ := smpB_iff.1 h
  exact smpB_iff.2 ⟨h1.symm, h2.symm⟩
theorem smpB_trans {x y z : Rw} (h : smpB x y = true) (h2 : smpB y z = true) : smpB x z = true := by
  obtain ⟨a, b⟩ := smpB_iff.1 h
  obtain ⟨c, d⟩ := smpB_iff.1 h2
  exact smpB_iff.2 ⟨a.trans c, b.trans d⟩
theorem ahd_no_same {x y : Rw} (h : smpB x y = true) : ahd x y.key y.seq = false := ahd_irrefl (smpB_iff.1 h)
theorem ahd_anti {x y : Rw} (h : ahd x y.key y.seq = true) : ahd y x.key x.seq = false := by
  cases e : ahd y x.key x.seq with
  | false => rfl
  | true =>
    have := ahd_trans h e
    rw [ahd_irrefl ⟨rfl, rfl⟩] at this; cases this
theorem ahd_or {x y : Rw} (h : smpB x y = false) : ahd x y.key y.seq = true ∨ ahd y x.key x.seq = true := ahd_total (fun e => by rw [smpB_iff.2 e] at h; cases h)
theorem ordI : ∀ (it : Nat → It), OrdB (fun a b => ltI (it a) (it b)) := fun it => by
  refine ⟨fun a b h => ?_, fun a b c h1 h2 => ?_⟩
  · show ltI (it b) (it a) = false
    have h : ltI (it a) (it b) = true := h
    unfold ltI at h ⊢
    cases e : smpB (it a).hd (it b).hd with
    | true =>
      rw [e, if_pos rfl, decide_eq_true_eq] at h
      rw [smpB_symm e, if_pos rfl, decide_eq_false_iff_not]; omega
    | false =>
      rw [e, if_neg (by simp)] at h
      have e2 : smpB (it b).hd (it a).hd = false := by
        cases e3 : smpB (it b).hd (it a).hd with
        | false => rfl
        | true => rw [smpB_symm e3] at e; cases e
      rw [e2, if_neg (by simp)]
      exact ahd_anti h
  · show ltI (it a) (it c) = false
    have h1 : ltI (it a) (it b) = false := h1
    have h2 : ltI (it b) (it c) = false := h2
    unfold ltI at h1 h2 ⊢
    generalize it a = A at *
    generalize it b = Bb at *
    generalize it c = C at *
    cases e1 : smpB A.hd Bb.hd with
    | true =>
      rw [e1, if_pos rfl, decide_eq_false_iff_not] at h1
      cases e2 : smpB Bb.hd C.hd with
      | true =>
        rw [e2, if_pos rfl, decide_eq_false_iff_not] at h2
        rw [smpB_trans e1 e2, if_pos rfl, decide_eq_false_iff_not]; omega
      | false =>
        rw [e2, if_neg (by simp)] at h2
        have e3 : smpB A.hd C.hd = false := by
          cases e4 : smpB A.hd C.hd with
          | false => rfl
          | true => rw [smpB_trans (smpB_symm e1) e4] at e2; cases e2
        rw [e3, if_neg (by simp), ahd_left (smpB_iff.1 e1)]; exact h2
    | false =>
      rw [e1, if_neg (by simp)] at h1
      have h1' : ahd Bb.hd A.hd.key A.hd.seq = true := by
        rcases ahd_or e1 with h | h
        · rw [h] at h1; cases h1
        · exact h
      cases e2 : smpB Bb.hd C.hd with
      | true =>
        have e3 : smpB A.hd C.hd = false := by
          cases e4 : smpB A.hd C.hd with
          | false => rfl
          | true => rw [smpB_trans e4 (smpB_symm e2)] at e1; cases e1
        rw [e3, if_neg (by simp)]
        have : ahd C.hd A.hd.key A.hd.seq = true := by rw [← ahd_left (smpB_iff.1 e2)]; exact h1'
        exact ahd_anti this
      | false =>
        rw [e2, if_neg (by simp)] at h2
        have h2' : ahd C.hd Bb.hd.key Bb.hd.seq = true := by
          rcases ahd_or e2 with h | h
          · rw [h] at h2; cases h2
          · exact h
        have h3 := ahd_trans h2' h1'
        cases e3 : smpB A.hd C.hd with
        | true => rw [ahd_no_same (smpB_symm e3)] at h3; cases h3
        | false => rw [if_neg (by simp)]; exact ahd_anti h3
/-- One of them in memory; its rows lie below B. -/
def ItemAt (B b : Nat) (x : It) (w : World) : Prop := ∃ a n c bb o, w.heap[b]? = some (.cells #[.slice a n c, .int .i64 (x.num : Int)] 79 (0, 0)) ∧ Rs a n c bb o (x.hd :: x.tl) w ∧ bb < B
def rowPt (ps : List Nat) : List Value := ps.map fun b => .pointer (some ⟨b, 0, none⟩)
/-- The heap: its block, how many lists had rows, where the lists stand. -/
structure Hp (B hp k : Nat) (ps : List Nat) (it : Nat → It) (w : World) : Prop where
  hd : ∃ v, w.heap[hp]? = some (.cells #[v, .int .i64 (k : Int)] 73 (0, 0)) ∧ w.ownsRow B 76 1 v ps.length (rowPt ps)
  item : ∀ b ∈ ps, ItemAt B b (it b) w ∧ B ≤ b
  nodup : ps.Nodup
  low : B ≤ hp
theorem Hp.size {B hp k : Nat} {ps : List Nat} {it : Nat → It} {w : World} (h : Hp B hp k ps it w) : hp < w.heap.size := by
  obtain ⟨v, h1, _⟩ := h.hd
  exact (Array.getElem?_eq_some_iff.1 h1).1
theorem Hp.big {B hp k : Nat} {ps : List Nat} {it : Nat → It} {w : World} (h : Hp B hp k ps it w) : B ≤ w.heap.size := by have := h.size; have := h.low; omega
theorem ItemAt.below {B b : Nat} {x : It} {w w' : World} (h : ItemAt B b x w) (hb : Below w.heap.size w w') : ItemAt B b x w' := by
  obtain ⟨a, n, c, bb, o, h1, h2, h3⟩ := h
  exact ⟨a, n, c, bb, o, (hb.block _ (Array.getElem?_eq_some_iff.1 h1).1).trans h1, h2.below hb (Nat.le_refl _), h3⟩
theorem Hp.below {B hp k : Nat} {ps : List Nat} {it : Nat → It} {w w' : World} (h : Hp B hp k ps it w) (hb : Below w.heap.size w w') : Hp B hp k ps it w' := by
  obtain ⟨v, h1, h2⟩ := h.hd
  exact ⟨⟨v, (hb.block _ (Array.getElem?_eq_some_iff.1 h1).1).trans h1, own_belowM h2 hb⟩, fun b hbm => ⟨(h.item b hbm).1.below hb, (h.item b hbm).2⟩, h.nodup, h.low⟩
theorem rowPt_at {ps : List Nat} {i b : Nat} (h : ps[i]? = some b) : (rowPt ps)[i]? = some (.pointer (some ⟨b, 0, none⟩)) := by unfold rowPt; rw [List.getElem?_map, h]; rfl
/-- The heap's slice, where it holds something. -/
theorem Hp.row {B hp k : Nat} {ps : List Nat} {it : Nat → It} {w : World} (h : Hp B hp k ps it w) (h0 : 0 < ps.length) : ∃ g c, w.heap[hp]? = some (.cells #[.slice (some ⟨g, 0, none⟩) ps.length c, .int .i64 (k : Int)] 73 (0, 0)) ∧ w.ownsRow B 76 1 (.slice (some ⟨g, 0, none⟩) ps.length c) ps.length (rowPt ps) ∧ ps.length ≤ c ∧ c ≤ 9223372036854775807 ∧ (∀ i b, ps[i]? = some b → w.cell? ⟨g, i, none⟩ = some (.pointer (some ⟨b, 0, none⟩))) := by
  obtain ⟨v, h1, h2⟩ := h.hd
  have h3 := h2
  rcases h2.2 with ⟨_, e⟩ | ⟨g, cap, cur, rfl, _, _, hc, hm, _⟩
  · omega
  · exact ⟨g, cap, h1, h3, hc, hm, fun i b hi => (World.ownsRow.cellAt h3 i (by have := (List.getElem?_eq_some_iff.1 hi).1; omega)).trans (rowPt_at hi)⟩
theorem two_cells {w : World} {b : Nat} {x y : Value} {t : TypeId} (h : w.heap[b]? = some (.cells #[x, y] t (0, 0))) : w.cell? ⟨b, 0, none⟩ = some x ∧ w.cell? ⟨b, 1, none⟩ = some y ∧ w.frozen? ⟨b, 0, none⟩ = false ∧ w.frozen? ⟨b, 1, none⟩ = false := by
  refine ⟨?_, ?_, ?_, ?_⟩ <;> first | simp [World.cell?, h] | simp [World.frozen?, h]
set_option maxRecDepth 100000 in
set_option maxHeartbeats 2000000 in
theorem hlen_any {B hp k : Nat} {ps : List Nat} {it : Nat → It} {w : World} (h : Hp B hp k ps it w) : Calls Try.prog 30 #[.pointer (some ⟨hp, 0, none⟩)] w fun e w' => e = .returned (.int .i64 (ps.length : Int)) ∧ w' = w := by
  obtain ⟨v, h1, h2⟩ := h.hd
  obtain ⟨c0, c1, _, _⟩ := two_cells h1
  obtain ⟨p, c, rfl⟩ := row_shape h2
  clear h h1 h2
  go_enter Try.func30, Try.ntmps30
  go_wp2_with fail
  go_returns
  exact ⟨rfl, rfl⟩
theorem rs_pair (w : World) (xk : ByteArray) (xs : Nat) (xi : Int) (xv yk : ByteArray) (ys : Nat) (yi : Int) (yv : ByteArray) : Rs (some ⟨w.heap.size, 0, none⟩) 2 2 w.heap.size 0 [⟨xk, xs, xi, xv⟩, ⟨yk, ys, yi, yv⟩] (w.alloc (.cells #[.string xk, .int .u64 (xs : Int), .int .i64 xi, .string xv, .string yk, .int .u64 (ys : Int), .int .i64 yi, .string yv] 38)) := by
  refine ⟨rfl, Nat.le_refl _, by omega, fun _ => ⟨rfl, by simp⟩, fun j x hx => ?_⟩
  have hj : j < 2 := (List.getElem?_eq_some_iff.1 hx).1
  rcases (show j = 0 ∨ j = 1 by omega) with rfl | rfl
  all_goals (
    simp only [List.getElem?_cons_zero, List.getElem?_cons_succ, Option.some.injEq] at hx
    subst hx
    refine ⟨?_, ?_, ?_, ?_⟩ <;> (rw [World.cell?_alloc_new]; rfl))
theorem ordR_pair (x y : Rw) : ordR [x, y] = ahd x y.key y.seq := by simp [ordR]
set_option maxRecDepth 100000 in
set_option maxHeartbeats 8000000 in
theorem less_any {B hp k : Nat} {ps : List Nat} {it : Nat → It} {w : World} (h : Hp B hp k ps it w) {i j bi bj : Nat} (hi : ps[i]? = some bi) (hj : ps[j]? = some bj) :
    Calls Try.prog 84 #[.pointer (some ⟨hp, 0, none⟩), .int .i64 (i : Int), .int .i64 (j : Int)] w fun e w' => e = .returned (.bool (ltI (it bi) (it bj))) ∧ Below w.heap.size w w' := by
  have li := (List.getElem?_eq_some_iff.1 hi).1
  have lj := (List.getElem?_eq_some_iff.1 hj).1
  obtain ⟨g, c, h1, _, hc, hm, hrow⟩ := h.row (by omega)
  obtain ⟨a0, _, _, _⟩ := two_cells h1
  have a1 := hrow i bi hi
  have a2 := hrow j bj hj
  obtain ⟨xa, xn, xc, xb, xo, hx1, hx2, _⟩ := (h.item bi (List.mem_of_getElem? hi)).1
  obtain ⟨ya, yn, yc, yb, yo, hy1, hy2, _⟩ := (h.item bj (List.mem_of_getElem? hj)).1
  have xp : 0 < xn := by have := hx2.len; simp at this; omega
  have yp : 0 < yn := by have := hy2.len; simp at this; omega
  obtain ⟨rfl, _⟩ := hx2.addr xp
  obtain ⟨rfl, _⟩ := hy2.addr yp
  have xq := hx2.cap
  have xr := hx2.most
  have yq := hy2.cap
  have yr := hy2.most
  obtain ⟨b0, b1, _, _⟩ := two_cells hx1
  obtain ⟨d0, d1, _, _⟩ := two_cells hy1
  obtain ⟨x0, x1, x2, x3⟩ := hx2.at' 0 _ rfl
  obtain ⟨y0, y1, y2, y3⟩ := hy2.at' 0 _ rfl
  rw [Nat.zero_mul, Nat.add_zero] at x0 x1 x2 x3 y0 y1 y2 y3
  have SA := Lib.hid (fun u => same_any (it bi).hd (it bj).hd u)
  obtain ⟨R, hR⟩ := named (ltI (it bi) (it bj))
  rw [← hR.out]
  have hR2 := hR.out
  unfold ltI at hR2
  have OA : Hid (∀ u g', Rs (some ⟨g', 0, none⟩) 2 2 g' 0 [(it bi).hd, (it bj).hd] u → Calls Try.prog 18 #[.slice (some ⟨g', 0, none⟩) 2 2] u fun e w' => e = .returned (.bool (ahd (it bi).hd (it bj).hd.key (it bj).hd.seq)) ∧ Below u.heap.size u w') := Lib.hid (fun u g' hu => by have := order_any hu; rwa [ordR_pair] at this)
  obtain ⟨xm, hxm⟩ := named (it bi).num
  obtain ⟨ym, hym⟩ := named (it bj).num
  rw [← hxm.out] at b1 hR2
  rw [← hym.out] at d1 hR2
  obtain ⟨X, hX⟩ := named (it bi).hd
  obtain ⟨Y, hY⟩ := named (it bj).hd
  rw [← hX.out] at x0 x1 x2 x3 SA hR2 OA
  rw [← hY.out] at y0 y1 y2 y3 SA hR2 OA
  obtain ⟨n, hn⟩ := named ps.length
  rw [← hn.out] at a0 li lj hc
  have i1 : (i : Int) < (n : Int) := by omega
  have j1 : (j : Int) < (n : Int) := by omega
  have xp1 : (0 : Int) < (xn : Int) := by omega
  have yp1 : (0 : Int) < (yn : Int) := by omega
  clear hx1 hx2 hy1 hy2 hrow h1 h hi hj hX hY hxm hym hR
  obtain ⟨xk, xs, xi, xv⟩ := X
  obtain ⟨yk, ys, yi, yv⟩ := Y
  simp only at x0 x1 x2 x3 y0 y1 y2 y3 SA hR2 OA
  have m0 := Lib.hid (show (fun v => v.cell? ⟨hp, 0, none⟩ = some (.slice (some ⟨g, 0, none⟩) n c) ∧ v.cell? ⟨g, i, none⟩ = some (.pointer (some ⟨bi, 0, none⟩)) ∧ v.cell? ⟨g, j, none⟩ = some (.pointer (some ⟨bj, 0, none⟩)) ∧ v.cell? ⟨bi, 0, none⟩ = some (.slice (some ⟨xb, xo, none⟩) xn xc) ∧ v.cell? ⟨bi, 1, none⟩ = some (.int .i64 (xm : Int)) ∧ v.cell? ⟨bj, 0, none⟩ = some (.slice (some ⟨yb, yo, none⟩) yn yc) ∧ v.cell? ⟨bj, 1, none⟩ = some (.int .i64 (ym : Int)) ∧ v.cell? ⟨xb, xo, none⟩ = some (.string xk) ∧ v.cell? ⟨xb, xo + 1, none⟩ = some (.int .u64 (xs : Int)) ∧ v.cell? ⟨xb, xo + 2, none⟩ = some (.int .i64 xi) ∧ v.cell? ⟨xb, xo + 3, none⟩ = some (.string xv) ∧ v.cell? ⟨yb, yo, none⟩ = some (.string yk) ∧ v.cell? ⟨yb, yo + 1, none⟩ = some (.int .u64 (ys : Int)) ∧ v.cell? ⟨yb, yo + 2, none⟩ = some (.int .i64 yi) ∧ v.cell? ⟨yb, yo + 3, none⟩ = some (.string yv))  w from ⟨a0, a1, a2, b0, b1, d0, d1, x0, x1, x2, x3, y0, y1, y2, y3⟩)
  have hkeep : Hid (∀ u u', (fun v => v.cell? ⟨hp, 0, none⟩ = some (.slice (some ⟨g, 0, none⟩) n c) ∧ v.cell? ⟨g, i, none⟩ = some (.pointer (some ⟨bi, 0, none⟩)) ∧ v.cell? ⟨g, j, none⟩ = some (.pointer (some ⟨bj, 0, none⟩)) ∧ v.cell? ⟨bi, 0, none⟩ = some (.slice (some ⟨xb, xo, none⟩) xn xc) ∧ v.cell? ⟨bi, 1, none⟩ = some (.int .i64 (xm : Int)) ∧ v.cell? ⟨bj, 0, none⟩ = some (.slice (some ⟨yb, yo, none⟩) yn yc) ∧ v.cell? ⟨bj, 1, none⟩ = some (.int .i64 (ym : Int)) ∧ v.cell? ⟨xb, xo, none⟩ = some (.string xk) ∧ v.cell? ⟨xb, xo + 1, none⟩ = some (.int .u64 (xs : Int)) ∧ v.cell? ⟨xb, xo + 2, none⟩ = some (.int .i64 xi) ∧ v.cell? ⟨xb, xo + 3, none⟩ = some (.string xv) ∧ v.cell? ⟨yb, yo, none⟩ = some (.string yk) ∧ v.cell? ⟨yb, yo + 1, none⟩ = some (.int .u64 (ys : Int)) ∧ v.cell? ⟨yb, yo + 2, none⟩ = some (.int .i64 yi) ∧ v.cell? ⟨yb, yo + 3, none⟩ = some (.string yv)) u → Below u.heap.size u u' → (fun v => v.cell? ⟨hp, 0, none⟩ = some (.slice (some ⟨g, 0, none⟩) n c) ∧ v.cell? ⟨g, i, none⟩ = some (.pointer (some ⟨bi, 0, none⟩)) ∧ v.cell? ⟨g, j, none⟩ = some (.pointer (some ⟨bj, 0, none⟩)) ∧ v.cell? ⟨bi, 0, none⟩ = some (.slice (some ⟨xb, xo, none⟩) xn xc) ∧ v.cell? ⟨bi, 1, none⟩ = some (.int .i64 (xm : Int)) ∧ v.cell? ⟨bj, 0, none⟩ = some (.slice (some ⟨yb, yo, none⟩) yn yc) ∧ v.cell? ⟨bj, 1, none⟩ = some (.int .i64 (ym : Int)) ∧ v.cell? ⟨xb, xo, none⟩ = some (.string xk) ∧ v.cell? ⟨xb, xo + 1, none⟩ = some (.int .u64 (xs : Int)) ∧ v.cell? ⟨xb, xo + 2, none⟩ = some (.int .i64 xi) ∧ v.cell? ⟨xb, xo + 3, none⟩ = some (.string xv) ∧ v.cell? ⟨yb, yo, none⟩ = some (.string yk) ∧ v.cell? ⟨yb, yo + 1, none⟩ = some (.int .u64 (ys : Int)) ∧ v.cell? ⟨yb, yo + 2, none⟩ = some (.int .i64 yi) ∧ v.cell? ⟨yb, yo + 3, none⟩ = some (.string yv)) u') := Lib.hid (fun u u' ⟨q1, q2, q3, q4, q5, q6, q7, q8, q9, q10, q11, q12, q13, q14, q15⟩ hb => ⟨cell_keep hb q1, cell_keep hb q2, cell_keep hb q3, cell_keep hb q4, cell_keep hb q5, cell_keep hb q6, cell_keep hb q7, cell_keep hb q8, cell_keep hb q9, cell_keep hb q10, cell_keep hb q11, cell_keep hb q12, cell_keep hb q13, cell_keep hb q14, cell_keep hb q15⟩)
  have m1 := Lib.hid (hkeep.out w w.drew m0.out (Below.refl _ _).drew)
  have W1 : Hid (Below w.heap.size w w.drew) := Lib.hid (Below.refl _ _).drew
  have m2 := Lib.hid (hkeep.out w.drew w.drew.drew m1.out (Below.refl _ _).drew)
  have W2 : Hid (Below w.heap.size w w.drew.drew) := Lib.hid W1.out.drew
  clear a0 a1 a2 b0 b1 d0 d1 x0 x1 x2 x3 y0 y1 y2 y3
  obtain ⟨T, hT⟩ := named (smpB ⟨xk, xs, xi, xv⟩ ⟨yk, ys, yi, yv⟩)
  rw [← hT.out] at SA hR2
  go_enter Try.func84, Try.ntmps84
  go_upto_region 1 with fail
  refine wp_region_held_drew (S := (fun v => v.cell? ⟨hp, 0, none⟩ = some (.slice (some ⟨g, 0, none⟩) n c) ∧ v.cell? ⟨g, i, none⟩ = some (.pointer (some ⟨bi, 0, none⟩)) ∧ v.cell? ⟨g, j, none⟩ = some (.pointer (some ⟨bj, 0, none⟩)) ∧ v.cell? ⟨bi, 0, none⟩ = some (.slice (some ⟨xb, xo, none⟩) xn xc) ∧ v.cell? ⟨bi, 1, none⟩ = some (.int .i64 (xm : Int)) ∧ v.cell? ⟨bj, 0, none⟩ = some (.slice (some ⟨yb, yo, none⟩) yn yc) ∧ v.cell? ⟨bj, 1, none⟩ = some (.int .i64 (ym : Int)) ∧ v.cell? ⟨xb, xo, none⟩ = some (.string xk) ∧ v.cell? ⟨xb, xo + 1, none⟩ = some (.int .u64 (xs : Int)) ∧ v.cell? ⟨xb, xo + 2, none⟩ = some (.int .i64 xi) ∧ v.cell? ⟨xb, xo + 3, none⟩ = some (.string xv) ∧ v.cell? ⟨yb, yo, none⟩ = some (.string yk) ∧ v.cell? ⟨yb, yo + 1, none⟩ = some (.int .u64 (ys : Int)) ∧ v.cell? ⟨yb, yo + 2, none⟩ = some (.int .i64 yi) ∧ v.cell? ⟨yb, yo + 3, none⟩ = some (.string yv))) (by kernel_rfl) (m1.out) (fun hHeld => ?_)
  refine held_take (i := 0) (v := ?_) rfl (by kernel_rfl) (by kernel_rfl) (by kernel_rfl) (fun _ _ _ h => h) (by rfl) (fun w hSw => ?_) (by assumption) ?_; rotate_left 1; focus (((try dsimp only at hSw); first | (go_simp; done) | (go_simp; with_reducible rfl)))
  try simp only [Act.put, List.setIfInBounds_toArray, List.set_cons_zero, List.set_cons_succ]
  refine held_take (i := 1) (v := ?_) rfl (by kernel_rfl) (by kernel_rfl) (by kernel_rfl) (fun _ _ _ h => h) (by rfl) (fun w hSw => ?_) (by assumption) ?_; rotate_left 1; focus (((try dsimp only at hSw); first | (go_simp; done) | (go_simp; with_reducible rfl)))
  try simp only [Act.put, List.setIfInBounds_toArray, List.set_cons_zero, List.set_cons_succ]
  refine held_take (i := 2) (v := ?_) rfl (by kernel_rfl) (by kernel_rfl) (by kernel_rfl) (fun _ _ _ h => h) (by rfl) (fun w hSw => ?_) (by assumption) ?_; rotate_left 1; focus (((try dsimp only at hSw); first | (go_simp; done) | (go_simp; with_reducible rfl)))
  try simp only [Act.put, List.setIfInBounds_toArray, List.set_cons_zero, List.set_cons_succ]
  refine held_take (i := 3) (v := ?_) rfl (by kernel_rfl) (by kernel_rfl) (by kernel_rfl) (fun _ _ _ h => h) (by rfl) (fun w hSw => ?_) (by assumption) ?_; rotate_left 1; focus (((try dsimp only at hSw); first | (go_simp; done) | (go_simp; with_reducible rfl)))
  try simp only [Act.put, List.setIfInBounds_toArray, List.set_cons_zero, List.set_cons_succ]
  refine held_take (i := 4) (v := ?_) rfl (by kernel_rfl) (by kernel_rfl) (by kernel_rfl) (fun _ _ _ h => h) (by rfl) (fun w hSw => ?_) (by assumption) ?_; rotate_left 1; focus (((try dsimp only at hSw); first | (go_simp; done) | (go_simp; with_reducible rfl)))
  try simp only [Act.put, List.setIfInBounds_toArray, List.set_cons_zero, List.set_cons_succ]
  refine held_take (i := 5) (v := ?_) rfl (by kernel_rfl) (by kernel_rfl) (by kernel_rfl) (fun _ _ _ h => h) (by rfl) (fun w hSw => ?_) (by assumption) ?_; rotate_left 1; focus (((try dsimp only at hSw); first | (go_simp; done) | (go_simp; with_reducible rfl)))
  try simp only [Act.put, List.setIfInBounds_toArray, List.set_cons_zero, List.set_cons_succ]
  refine held_take (i := 6) (v := ?_) rfl (by kernel_rfl) (by kernel_rfl) (by kernel_rfl) (fun _ _ _ h => h) (by rfl) (fun w hSw => ?_) (by assumption) ?_; rotate_left 1; focus (((try dsimp only at hSw); first | (go_simp; done) | (go_simp; with_reducible rfl)))
  try simp only [Act.put, List.setIfInBounds_toArray, List.set_cons_zero, List.set_cons_succ]
  refine held_take (i := 7) (v := ?_) rfl (by kernel_rfl) (by kernel_rfl) (by kernel_rfl) (fun _ _ _ h => h) (by rfl) (fun w hSw => ?_) (by assumption) ?_; rotate_left 1; focus (((try dsimp only at hSw); first | (go_simp; done) | (go_simp; with_reducible rfl)))
  try simp only [Act.put, List.setIfInBounds_toArray, List.set_cons_zero, List.set_cons_succ]
  refine held_take (i := 8) (v := ?_) rfl (by kernel_rfl) (by kernel_rfl) (by kernel_rfl) (fun _ _ _ h => h) (by rfl) (fun w hSw => ?_) (by assumption) ?_; rotate_left 1; focus (((try dsimp only at hSw); first | (go_simp; done) | (go_simp; with_reducible rfl)))
  try simp only [Act.put, List.setIfInBounds_toArray, List.set_cons_zero, List.set_cons_succ]
  refine held_take (i := 9) (v := ?_) rfl (by kernel_rfl) (by kernel_rfl) (by kernel_rfl) (fun _ _ _ h => h) (by rfl) (fun w hSw => ?_) (by assumption) ?_; rotate_left 1; focus (((try dsimp only at hSw); first | (go_simp; done) | (go_simp; with_reducible rfl)))
  try simp only [Act.put, List.setIfInBounds_toArray, List.set_cons_zero, List.set_cons_succ]
  refine held_take (i := 10) (v := ?_) rfl (by kernel_rfl) (by kernel_rfl) (by kernel_rfl) (fun _ _ _ h => h) (by rfl) (fun w hSw => ?_) (by assumption) ?_; rotate_left 1; focus (((try dsimp only at hSw); first | (go_simp; done) | (go_simp; with_reducible rfl)))
  try simp only [Act.put, List.setIfInBounds_toArray, List.set_cons_zero, List.set_cons_succ]
  refine held_take (i := 11) (v := ?_) rfl (by kernel_rfl) (by kernel_rfl) (by kernel_rfl) (fun _ _ _ h => h) (by rfl) (fun w hSw => ?_) (by assumption) ?_; rotate_left 1; focus (((try dsimp only at hSw); first | (go_simp; done) | (go_simp; with_reducible rfl)))
  try simp only [Act.put, List.setIfInBounds_toArray, List.set_cons_zero, List.set_cons_succ]
  refine held_take (i := 12) (v := ?_) rfl (by kernel_rfl) (by kernel_rfl) (by kernel_rfl) (fun _ _ _ h => h) (by rfl) (fun w hSw => ?_) (by assumption) ?_; rotate_left 1; focus (((try dsimp only at hSw); first | (go_simp; done) | (go_simp; with_reducible rfl)))
  try simp only [Act.put, List.setIfInBounds_toArray, List.set_cons_zero, List.set_cons_succ]
  refine held_take (i := 13) (v := ?_) rfl (by kernel_rfl) (by kernel_rfl) (by kernel_rfl) (fun _ _ _ h => h) (by rfl) (fun w hSw => ?_) (by assumption) ?_; rotate_left 1; focus (((try dsimp only at hSw); first | (go_simp; done) | (go_simp; with_reducible rfl)))
  try simp only [Act.put, List.setIfInBounds_toArray, List.set_cons_zero, List.set_cons_succ]
  refine held_take (i := 14) (v := ?_) rfl (by kernel_rfl) (by kernel_rfl) (by kernel_rfl) (fun _ _ _ h => h) (by rfl) (fun w hSw => ?_) (by assumption) ?_; rotate_left 1; focus (((try dsimp only at hSw); first | (go_simp; done) | (go_simp; with_reducible rfl)))
  try simp only [Act.put, List.setIfInBounds_toArray, List.set_cons_zero, List.set_cons_succ]
  refine held_take (i := 15) (v := ?_) rfl (by kernel_rfl) (by kernel_rfl) (by kernel_rfl) (fun _ _ _ h => h) (by rfl) (fun w hSw => ?_) (by assumption) ?_; rotate_left 1; focus (((try dsimp only at hSw); first | (go_simp; done) | (go_simp; with_reducible rfl)))
  try simp only [Act.put, List.setIfInBounds_toArray, List.set_cons_zero, List.set_cons_succ]
  refine wpAnyH_done (by kernel_rfl) ?_ _
  go_upto_region 2 with fail
  refine wp_region_held_drew (S := (fun v => v.cell? ⟨hp, 0, none⟩ = some (.slice (some ⟨g, 0, none⟩) n c) ∧ v.cell? ⟨g, i, none⟩ = some (.pointer (some ⟨bi, 0, none⟩)) ∧ v.cell? ⟨g, j, none⟩ = some (.pointer (some ⟨bj, 0, none⟩)) ∧ v.cell? ⟨bi, 0, none⟩ = some (.slice (some ⟨xb, xo, none⟩) xn xc) ∧ v.cell? ⟨bi, 1, none⟩ = some (.int .i64 (xm : Int)) ∧ v.cell? ⟨bj, 0, none⟩ = some (.slice (some ⟨yb, yo, none⟩) yn yc) ∧ v.cell? ⟨bj, 1, none⟩ = some (.int .i64 (ym : Int)) ∧ v.cell? ⟨xb, xo, none⟩ = some (.string xk) ∧ v.cell? ⟨xb, xo + 1, none⟩ = some (.int .u64 (xs : Int)) ∧ v.cell? ⟨xb, xo + 2, none⟩ = some (.int .i64 xi) ∧ v.cell? ⟨xb, xo + 3, none⟩ = some (.string xv) ∧ v.cell? ⟨yb, yo, none⟩ = some (.string yk) ∧ v.cell? ⟨yb, yo + 1, none⟩ = some (.int .u64 (ys : Int)) ∧ v.cell? ⟨yb, yo + 2, none⟩ = some (.int .i64 yi) ∧ v.cell? ⟨yb, yo + 3, none⟩ = some (.string yv))) (by kernel_rfl) (m2.out) (fun hHeld => ?_)
  refine held_take (i := 0) (v := ?_) rfl (by kernel_rfl) (by kernel_rfl) (by kernel_rfl) (fun _ _ _ h => h) (by rfl) (fun w hSw => ?_) (by assumption) ?_; rotate_left 1; focus (((try dsimp only at hSw); first | (go_simp; done) | (go_simp; with_reducible rfl)))
  try simp only [Act.put, List.setIfInBounds_toArray, List.set_cons_zero, List.set_cons_succ]
  refine held_take (i := 1) (v := ?_) rfl (by kernel_rfl) (by kernel_rfl) (by kernel_rfl) (fun _ _ _ h => h) (by rfl) (fun w hSw => ?_) (by assumption) ?_; rotate_left 1; focus (((try dsimp only at hSw); first | (go_simp; done) | (go_simp; with_reducible rfl)))
  try simp only [Act.put, List.setIfInBounds_toArray, List.set_cons_zero, List.set_cons_succ]
  refine held_take (i := 2) (v := ?_) rfl (by kernel_rfl) (by kernel_rfl) (by kernel_rfl) (fun _ _ _ h => h) (by rfl) (fun w hSw => ?_) (by assumption) ?_; rotate_left 1; focus (((try dsimp only at hSw); first | (go_simp; done) | (go_simp; with_reducible rfl)))
  try simp only [Act.put, List.setIfInBounds_toArray, List.set_cons_zero, List.set_cons_succ]
  refine held_take (i := 3) (v := ?_) rfl (by kernel_rfl) (by kernel_rfl) (by kernel_rfl) (fun _ _ _ h => h) (by rfl) (fun w hSw => ?_) (by assumption) ?_; rotate_left 1; focus (((try dsimp only at hSw); first | (go_simp; done) | (go_simp; with_reducible rfl)))
  try simp only [Act.put, List.setIfInBounds_toArray, List.set_cons_zero, List.set_cons_succ]
  refine held_take (i := 4) (v := ?_) rfl (by kernel_rfl) (by kernel_rfl) (by kernel_rfl) (fun _ _ _ h => h) (by rfl) (fun w hSw => ?_) (by assumption) ?_; rotate_left 1; focus (((try dsimp only at hSw); first | (go_simp; done) | (go_simp; with_reducible rfl)))
  try simp only [Act.put, List.setIfInBounds_toArray, List.set_cons_zero, List.set_cons_succ]
  refine held_take (i := 5) (v := ?_) rfl (by kernel_rfl) (by kernel_rfl) (by kernel_rfl) (fun _ _ _ h => h) (by rfl) (fun w hSw => ?_) (by assumption) ?_; rotate_left 1; focus (((try dsimp only at hSw); first | (go_simp; done) | (go_simp; with_reducible rfl)))
  try simp only [Act.put, List.setIfInBounds_toArray, List.set_cons_zero, List.set_cons_succ]
  refine held_take (i := 6) (v := ?_) rfl (by kernel_rfl) (by kernel_rfl) (by kernel_rfl) (fun _ _ _ h => h) (by rfl) (fun w hSw => ?_) (by assumption) ?_; rotate_left 1; focus (((try dsimp only at hSw); first | (go_simp; done) | (go_simp; with_reducible rfl)))
  try simp only [Act.put, List.setIfInBounds_toArray, List.set_cons_zero, List.set_cons_succ]
  refine held_take (i := 7) (v := ?_) rfl (by kernel_rfl) (by kernel_rfl) (by kernel_rfl) (fun _ _ _ h => h) (by rfl) (fun w hSw => ?_) (by assumption) ?_; rotate_left 1; focus (((try dsimp only at hSw); first | (go_simp; done) | (go_simp; with_reducible rfl)))
  try simp only [Act.put, List.setIfInBounds_toArray, List.set_cons_zero, List.set_cons_succ]
  refine held_take (i := 8) (v := ?_) rfl (by kernel_rfl) (by kernel_rfl) (by kernel_rfl) (fun _ _ _ h => h) (by rfl) (fun w hSw => ?_) (by assumption) ?_; rotate_left 1; focus (((try dsimp only at hSw); first | (go_simp; done) | (go_simp; with_reducible rfl)))
  try simp only [Act.put, List.setIfInBounds_toArray, List.set_cons_zero, List.set_cons_succ]
  refine held_take (i := 9) (v := ?_) rfl (by kernel_rfl) (by kernel_rfl) (by kernel_rfl) (fun _ _ _ h => h) (by rfl) (fun w hSw => ?_) (by assumption) ?_; rotate_left 1; focus (((try dsimp only at hSw); first | (go_simp; done) | (go_simp; with_reducible rfl)))
  try simp only [Act.put, List.setIfInBounds_toArray, List.set_cons_zero, List.set_cons_succ]
  refine held_take (i := 10) (v := ?_) rfl (by kernel_rfl) (by kernel_rfl) (by kernel_rfl) (fun _ _ _ h => h) (by rfl) (fun w hSw => ?_) (by assumption) ?_; rotate_left 1; focus (((try dsimp only at hSw); first | (go_simp; done) | (go_simp; with_reducible rfl)))
  try simp only [Act.put, List.setIfInBounds_toArray, List.set_cons_zero, List.set_cons_succ]
  refine held_take (i := 11) (v := ?_) rfl (by kernel_rfl) (by kernel_rfl) (by kernel_rfl) (fun _ _ _ h => h) (by rfl) (fun w hSw => ?_) (by assumption) ?_; rotate_left 1; focus (((try dsimp only at hSw); first | (go_simp; done) | (go_simp; with_reducible rfl)))
  try simp only [Act.put, List.setIfInBounds_toArray, List.set_cons_zero, List.set_cons_succ]
  refine held_call (i := 12) (by kernel_rfl) rfl (by rfl) (fun K hK => ?_)
  go_simp
  refine (SA.out _).mono ?_
  rintro e w3 ⟨rfl, hb3⟩
  have m3 := Lib.hid (hkeep.out _ w3 m2.out hb3)
  have W3 : Hid (Below w.heap.size w w3) := Lib.hid (below_of W2.out hb3)
  clear hb3
  refine hK.out _ _ (m3.out) (fun hHeld => ?_)
  try simp only [Act.put, List.setIfInBounds_toArray, List.set_cons_zero, List.set_cons_succ]
  refine wpAnyH_done (by kernel_rfl) ?_ _
  have m4 := Lib.hid (hkeep.out w3 w3.drew m3.out (Below.refl _ _).drew)
  have W4 : Hid (Below w.heap.size w w3.drew) := Lib.hid W3.out.drew
  cases T with
  | true =>
    rw [if_pos rfl] at hR2
    replace hR2 := Lib.hid hR2
    go_upto_region 3 with fail
    refine wp_region_held_drew (S := (fun v => v.cell? ⟨hp, 0, none⟩ = some (.slice (some ⟨g, 0, none⟩) n c) ∧ v.cell? ⟨g, i, none⟩ = some (.pointer (some ⟨bi, 0, none⟩)) ∧ v.cell? ⟨g, j, none⟩ = some (.pointer (some ⟨bj, 0, none⟩)) ∧ v.cell? ⟨bi, 0, none⟩ = some (.slice (some ⟨xb, xo, none⟩) xn xc) ∧ v.cell? ⟨bi, 1, none⟩ = some (.int .i64 (xm : Int)) ∧ v.cell? ⟨bj, 0, none⟩ = some (.slice (some ⟨yb, yo, none⟩) yn yc) ∧ v.cell? ⟨bj, 1, none⟩ = some (.int .i64 (ym : Int)) ∧ v.cell? ⟨xb, xo, none⟩ = some (.string xk) ∧ v.cell? ⟨xb, xo + 1, none⟩ = some (.int .u64 (xs : Int)) ∧ v.cell? ⟨xb, xo + 2, none⟩ = some (.int .i64 xi) ∧ v.cell? ⟨xb, xo + 3, none⟩ = some (.string xv) ∧ v.cell? ⟨yb, yo, none⟩ = some (.string yk) ∧ v.cell? ⟨yb, yo + 1, none⟩ = some (.int .u64 (ys : Int)) ∧ v.cell? ⟨yb, yo + 2, none⟩ = some (.int .i64 yi) ∧ v.cell? ⟨yb, yo + 3, none⟩ = some (.string yv))) (by kernel_rfl) (m4.out) (fun hHeld => ?_)
    refine held_take (i := 0) (v := ?_) rfl (by kernel_rfl) (by kernel_rfl) (by kernel_rfl) (fun _ _ _ h => h) (by rfl) (fun w hSw => ?_) (by assumption) ?_; rotate_left 1; focus (((try dsimp only at hSw); first | (go_simp; done) | (go_simp; with_reducible rfl)))
    try simp only [Act.put, List.setIfInBounds_toArray, List.set_cons_zero, List.set_cons_succ]
    refine held_take (i := 1) (v := ?_) rfl (by kernel_rfl) (by kernel_rfl) (by kernel_rfl) (fun _ _ _ h => h) (by rfl) (fun w hSw => ?_) (by assumption) ?_; rotate_left 1; focus (((try dsimp only at hSw); first | (go_simp; done) | (go_simp; with_reducible rfl)))
    try simp only [Act.put, List.setIfInBounds_toArray, List.set_cons_zero, List.set_cons_succ]
    refine held_take (i := 2) (v := ?_) rfl (by kernel_rfl) (by kernel_rfl) (by kernel_rfl) (fun _ _ _ h => h) (by rfl) (fun w hSw => ?_) (by assumption) ?_; rotate_left 1; focus (((try dsimp only at hSw); first | (go_simp; done) | (go_simp; with_reducible rfl)))
    try simp only [Act.put, List.setIfInBounds_toArray, List.set_cons_zero, List.set_cons_succ]
    refine held_take (i := 3) (v := ?_) rfl (by kernel_rfl) (by kernel_rfl) (by kernel_rfl) (fun _ _ _ h => h) (by rfl) (fun w hSw => ?_) (by assumption) ?_; rotate_left 1; focus (((try dsimp only at hSw); first | (go_simp; done) | (go_simp; with_reducible rfl)))
    try simp only [Act.put, List.setIfInBounds_toArray, List.set_cons_zero, List.set_cons_succ]
    refine held_take (i := 4) (v := ?_) rfl (by kernel_rfl) (by kernel_rfl) (by kernel_rfl) (fun _ _ _ h => h) (by rfl) (fun w hSw => ?_) (by assumption) ?_; rotate_left 1; focus (((try dsimp only at hSw); first | (go_simp; done) | (go_simp; with_reducible rfl)))
    try simp only [Act.put, List.setIfInBounds_toArray, List.set_cons_zero, List.set_cons_succ]
    refine held_take (i := 5) (v := ?_) rfl (by kernel_rfl) (by kernel_rfl) (by kernel_rfl) (fun _ _ _ h => h) (by rfl) (fun w hSw => ?_) (by assumption) ?_; rotate_left 1; focus (((try dsimp only at hSw); first | (go_simp; done) | (go_simp; with_reducible rfl)))
    try simp only [Act.put, List.setIfInBounds_toArray, List.set_cons_zero, List.set_cons_succ]
    refine held_take (i := 6) (v := ?_) rfl (by kernel_rfl) (by kernel_rfl) (by kernel_rfl) (fun _ _ _ h => h) (by rfl) (fun w hSw => ?_) (by assumption) ?_; rotate_left 1; focus (((try dsimp only at hSw); first | (go_simp; done) | (go_simp; with_reducible rfl)))
    try simp only [Act.put, List.setIfInBounds_toArray, List.set_cons_zero, List.set_cons_succ]
    refine held_take (i := 7) (v := ?_) rfl (by kernel_rfl) (by kernel_rfl) (by kernel_rfl) (fun _ _ _ h => h) (by rfl) (fun w hSw => ?_) (by assumption) ?_; rotate_left 1; focus (((try dsimp only at hSw); first | (go_simp; done) | (go_simp; with_reducible rfl)))
    try simp only [Act.put, List.setIfInBounds_toArray, List.set_cons_zero, List.set_cons_succ]
    refine held_take (i := 8) (v := ?_) rfl (by kernel_rfl) (by kernel_rfl) (by kernel_rfl) (fun _ _ _ h => h) (by rfl) (fun w hSw => ?_) (by assumption) ?_; rotate_left 1; focus (((try dsimp only at hSw); first | (go_simp; done) | (go_simp; with_reducible rfl)))
    try simp only [Act.put, List.setIfInBounds_toArray, List.set_cons_zero, List.set_cons_succ]
    refine held_take (i := 9) (v := ?_) rfl (by kernel_rfl) (by kernel_rfl) (by kernel_rfl) (fun _ _ _ h => h) (by rfl) (fun w hSw => ?_) (by assumption) ?_; rotate_left 1; focus (((try dsimp only at hSw); first | (go_simp; done) | (go_simp; with_reducible rfl)))
    try simp only [Act.put, List.setIfInBounds_toArray, List.set_cons_zero, List.set_cons_succ]
    refine wpAnyH_done (by kernel_rfl) ?_ _
    go_wp2_with fail
    go_returns
    exact ⟨by rw [hR2.out]; rfl, W4.out⟩
  | false =>
    rw [if_neg (by simp)] at hR2
    rw [← hR2] at OA
    replace hR2 := Lib.hid hR2
    go_upto_region 4 with fail
    refine wp_region_held_drew (S := (fun v => v.cell? ⟨hp, 0, none⟩ = some (.slice (some ⟨g, 0, none⟩) n c) ∧ v.cell? ⟨g, i, none⟩ = some (.pointer (some ⟨bi, 0, none⟩)) ∧ v.cell? ⟨g, j, none⟩ = some (.pointer (some ⟨bj, 0, none⟩)) ∧ v.cell? ⟨bi, 0, none⟩ = some (.slice (some ⟨xb, xo, none⟩) xn xc) ∧ v.cell? ⟨bi, 1, none⟩ = some (.int .i64 (xm : Int)) ∧ v.cell? ⟨bj, 0, none⟩ = some (.slice (some ⟨yb, yo, none⟩) yn yc) ∧ v.cell? ⟨bj, 1, none⟩ = some (.int .i64 (ym : Int)) ∧ v.cell? ⟨xb, xo, none⟩ = some (.string xk) ∧ v.cell? ⟨xb, xo + 1, none⟩ = some (.int .u64 (xs : Int)) ∧ v.cell? ⟨xb, xo + 2, none⟩ = some (.int .i64 xi) ∧ v.cell? ⟨xb, xo + 3, none⟩ = some (.string xv) ∧ v.cell? ⟨yb, yo, none⟩ = some (.string yk) ∧ v.cell? ⟨yb, yo + 1, none⟩ = some (.int .u64 (ys : Int)) ∧ v.cell? ⟨yb, yo + 2, none⟩ = some (.int .i64 yi) ∧ v.cell? ⟨yb, yo + 3, none⟩ = some (.string yv))) (by kernel_rfl) (m4.out) (fun hHeld => ?_)
    refine held_take (i := 0) (v := ?_) rfl (by kernel_rfl) (by kernel_rfl) (by kernel_rfl) (fun _ _ _ h => h) (by rfl) (fun w hSw => ?_) (by assumption) ?_; rotate_left 1; focus (((try dsimp only at hSw); first | (go_simp; done) | (go_simp; with_reducible rfl)))
    try simp only [Act.put, List.setIfInBounds_toArray, List.set_cons_zero, List.set_cons_succ]
    refine held_take (i := 1) (v := ?_) rfl (by kernel_rfl) (by kernel_rfl) (by kernel_rfl) (fun _ _ _ h => h) (by rfl) (fun w hSw => ?_) (by assumption) ?_; rotate_left 1; focus (((try dsimp only at hSw); first | (go_simp; done) | (go_simp; with_reducible rfl)))
    try simp only [Act.put, List.setIfInBounds_toArray, List.set_cons_zero, List.set_cons_succ]
    refine held_take (i := 2) (v := ?_) rfl (by kernel_rfl) (by kernel_rfl) (by kernel_rfl) (fun _ _ _ h => h) (by rfl) (fun w hSw => ?_) (by assumption) ?_; rotate_left 1; focus (((try dsimp only at hSw); first | (go_simp; done) | (go_simp; with_reducible rfl)))
    try simp only [Act.put, List.setIfInBounds_toArray, List.set_cons_zero, List.set_cons_succ]
    refine held_take (i := 3) (v := ?_) rfl (by kernel_rfl) (by kernel_rfl) (by kernel_rfl) (fun _ _ _ h => h) (by rfl) (fun w hSw => ?_) (by assumption) ?_; rotate_left 1; focus (((try dsimp only at hSw); first | (go_simp; done) | (go_simp; with_reducible rfl)))
    try simp only [Act.put, List.setIfInBounds_toArray, List.set_cons_zero, List.set_cons_succ]
    refine held_take (i := 4) (v := ?_) rfl (by kernel_rfl) (by kernel_rfl) (by kernel_rfl) (fun _ _ _ h => h) (by rfl) (fun w hSw => ?_) (by assumption) ?_; rotate_left 1; focus (((try dsimp only at hSw); first | (go_simp; done) | (go_simp; with_reducible rfl)))
    try simp only [Act.put, List.setIfInBounds_toArray, List.set_cons_zero, List.set_cons_succ]
    refine held_take (i := 5) (v := ?_) rfl (by kernel_rfl) (by kernel_rfl) (by kernel_rfl) (fun _ _ _ h => h) (by rfl) (fun w hSw => ?_) (by assumption) ?_; rotate_left 1; focus (((try dsimp only at hSw); first | (go_simp; done) | (go_simp; with_reducible rfl)))
    try simp only [Act.put, List.setIfInBounds_toArray, List.set_cons_zero, List.set_cons_succ]
    refine held_take (i := 6) (v := ?_) rfl (by kernel_rfl) (by kernel_rfl) (by kernel_rfl) (fun _ _ _ h => h) (by rfl) (fun w hSw => ?_) (by assumption) ?_; rotate_left 1; focus (((try dsimp only at hSw); first | (go_simp; done) | (go_simp; with_reducible rfl)))
    try simp only [Act.put, List.setIfInBounds_toArray, List.set_cons_zero, List.set_cons_succ]
    refine held_take (i := 7) (v := ?_) rfl (by kernel_rfl) (by kernel_rfl) (by kernel_rfl) (fun _ _ _ h => h) (by rfl) (fun w hSw => ?_) (by assumption) ?_; rotate_left 1; focus (((try dsimp only at hSw); first | (go_simp; done) | (go_simp; with_reducible rfl)))
    try simp only [Act.put, List.setIfInBounds_toArray, List.set_cons_zero, List.set_cons_succ]
    refine held_take (i := 8) (v := ?_) rfl (by kernel_rfl) (by kernel_rfl) (by kernel_rfl) (fun _ _ _ h => h) (by rfl) (fun w hSw => ?_) (by assumption) ?_; rotate_left 1; focus (((try dsimp only at hSw); first | (go_simp; done) | (go_simp; with_reducible rfl)))
    try simp only [Act.put, List.setIfInBounds_toArray, List.set_cons_zero, List.set_cons_succ]
    refine held_take (i := 9) (v := ?_) rfl (by kernel_rfl) (by kernel_rfl) (by kernel_rfl) (fun _ _ _ h => h) (by rfl) (fun w hSw => ?_) (by assumption) ?_; rotate_left 1; focus (((try dsimp only at hSw); first | (go_simp; done) | (go_simp; with_reducible rfl)))
    try simp only [Act.put, List.setIfInBounds_toArray, List.set_cons_zero, List.set_cons_succ]
    refine held_take (i := 10) (v := ?_) rfl (by kernel_rfl) (by kernel_rfl) (by kernel_rfl) (fun _ _ _ h => h) (by rfl) (fun w hSw => ?_) (by assumption) ?_; rotate_left 1; focus (((try dsimp only at hSw); first | (go_simp; done) | (go_simp; with_reducible rfl)))
    try simp only [Act.put, List.setIfInBounds_toArray, List.set_cons_zero, List.set_cons_succ]
    refine held_take (i := 11) (v := ?_) rfl (by kernel_rfl) (by kernel_rfl) (by kernel_rfl) (fun _ _ _ h => h) (by rfl) (fun w hSw => ?_) (by assumption) ?_; rotate_left 1; focus (((try dsimp only at hSw); first | (go_simp; done) | (go_simp; with_reducible rfl)))
    try simp only [Act.put, List.setIfInBounds_toArray, List.set_cons_zero, List.set_cons_succ]
    refine held_call (i := 12) (by kernel_rfl) rfl (by rfl) (fun K hK => ?_)
    go_simp
    have W5 := Lib.hid (W4.out.alloc W4.out.size (.cells #[.string xk, .int .u64 (xs : Int), .int .i64 xi, .string xv, .string yk, .int .u64 (ys : Int), .int .i64 yi, .string yv] 38))
    have m5 := Lib.hid (hkeep.out w3.drew _ m4.out (below_alloc w3.drew (.cells #[.string xk, .int .u64 (xs : Int), .int .i64 xi, .string xv, .string yk, .int .u64 (ys : Int), .int .i64 yi, .string yv] 38)))
    refine hK.out _ _ (m5.out) (fun hHeld => ?_)
    try simp only [Act.put, List.setIfInBounds_toArray, List.set_cons_zero, List.set_cons_succ]
    refine held_call (i := 13) (by kernel_rfl) rfl (by rfl) (fun K hK => ?_)
    go_simp
    refine (OA.out _ _ (rs_pair w3.drew _ _ _ _ _ _ _ _)).mono ?_
    rintro e w6 ⟨rfl, hb6⟩
    have m6 := Lib.hid (hkeep.out _ w6 m5.out hb6)
    have W6 : Hid (Below w.heap.size w w6) := Lib.hid (below_of W5.out hb6)
    clear hb6
    refine hK.out _ _ (m6.out) (fun hHeld => ?_)
    try simp only [Act.put, List.setIfInBounds_toArray, List.set_cons_zero, List.set_cons_succ]
    refine held_take (i := 14) (v := ?_) rfl (by kernel_rfl) (by kernel_rfl) (by kernel_rfl) (fun _ _ _ h => h) (by rfl) (fun w hSw => ?_) (by assumption) ?_; rotate_left 1; focus (((try dsimp only at hSw); first | (go_simp; done) | (go_simp; with_reducible rfl)))
    try simp only [Act.put, List.setIfInBounds_toArray, List.set_cons_zero, List.set_cons_succ]
    refine wpAnyH_done (by kernel_rfl) ?_ _
    go_wp2_with fail
    go_returns
    exact ⟨rfl, W6.out⟩
end Go.Proofs.Ytlnklpnldmcopaa
/-
  The document's There. No condition but at most 1048575 rows.
-/
namespace Go.Proofs.Ytlnklpnldmcopaa
set_option maxRecDepth 100000
open Go.RowKit
end Go.Proofs.Ytlnklpnldmcopaa
/-
  'append(a, b...)': a the call's own row, b any slice: one law for whatever element. No condition.
-/
namespace Go.Proofs.Ytlnklpnldmcopaa
set_option maxRecDepth 100000
open Go.RowKit
theorem wp_append_src {P : Program} {o : Oper} {a : Act} {w : World} {K : Act → World → Prop} {Q : Exit → Act → World → Prop} (s x : Operand) (t : TypeId)
    (ho : o.op = .call { callee := .builtin .append, args := #[s, x], argTypes := #[t, t] }) (B : Nat) (e : TypeId) (size bytes : Nat) (z : Value) (ht : P.underlying t = some (.slice e))
    (hinf : (P.info? e).map (fun i => (i.zero, i.size, i.bytes)) = some (some z, size, bytes)) (hzs : z.cells.size = size) (hsz : 0 < size) (hby : bytes ≤ 1000)
    (v : Value) (k : Nat) (xs : List Value) (q : Option Addr) (n c : Nat) (ys : List Value) (hown : w.ownsRow B e size v k xs) (hq : q = none → n = 0 ∧ c = 0) (hl : ys.length = n * size) (hsrc : ∀ p, q = some p → ∀ j u, ys[j]? = some u → w.cell? (p.add j) = some u) (hs : a.eval s = v) (hx : a.eval x = .slice q n c) (h1 : ∀ u ∈ ys, u.oneCell' = true) (hk : k ≤ 1048576) (hn : n ≤ 1048576) (hB : B ≤ w.heap.size)
    (h : ∀ v' w', w'.ownsRow B e size v' (k + n) (xs ++ ys) → w.grownBy w' v.ownBlock → (∃ va vc, v' = .slice va (k + n) vc) → K (a.put o.dst v') w') : o.wp P a w K Q := by
  obtain ⟨i0, hi, hz0, hz1, hz2⟩ := info_parts hinf
  have shape : ∀ {v' : Value} {w' : World} {l : List Value}, w'.ownsRow B e size v' (k + n) l → ∃ va vc, v' = .slice va (k + n) vc := fun hr => by
    rcases hr.2 with ⟨e1, e0⟩ | ⟨g', cap, cur, e1, _⟩
    · exact ⟨none, 0, by rw [e1, e0]⟩
    · exact ⟨_, _, e1⟩
  cases q with
  | none =>
    obtain ⟨rfl, rfl⟩ := hq rfl
    have hy : ys = [] := List.length_eq_zero_iff.1 (by rw [hl, Nat.zero_mul])
    subst hy
    have hrun : (Builtin.append_ #[t, t] o.type #[v, .slice none 0 0]).run P w = .ok v w := by
      rcases hown.2 with ⟨rfl, _⟩ | ⟨g, cap, cur, rfl, _, _, hle, _⟩
      · exact run_append_nothing w _ _ _ e i0 ht hi none 0 0 (Nat.le_refl _) _ (Src.ofNil w ht 0)
      · exact run_append_nothing w _ _ _ e i0 ht hi _ k cap hle _ (Src.ofNil w ht 0)
    have h2 : w.ownsRow B e size v (k + 0) (xs ++ []) := by rw [Nat.add_zero, List.append_nil]; exact hown
    unfold Oper.wp
    simp [execOp, ho, resolve, invoke, builtin, hs, hx, hrun, Result.andThen]
    exact h v w h2 ⟨rfl, rfl, rfl, Nat.le_refl _, fun _ _ _ => rfl⟩ (shape h2)
  | some p =>
    have hb2 : (k + n) * bytes ≤ 140737488355328 := Nat.le_trans (Nat.mul_le_mul_left (k + n) hby) (by omega)
    exact wp_append_own w s x t ho B e i0 z size bytes ht hi hz0 hz1 hz2 hzs hsz v k xs hs hown p n c ys hx hl (hsrc p rfl) h1 (by unfold maxLen; omega) hb2 hB fun v' w' a1 a2 _ => h v' w' a1 a2 (shape a1)
theorem wpList_append_src {P : Program} {ops : Array Oper} {rest : List Oper} {o : Oper} {a : Act} {w : World} {Q : Exit → Act → World → Prop} (hgd : o.guard = none) (s x : Operand) (t : TypeId)
    (ho : o.op = .call { callee := .builtin .append, args := #[s, x], argTypes := #[t, t] }) (B : Nat) (e : TypeId) (size bytes : Nat) (z : Value) (ht : P.underlying t = some (.slice e))
    (hinf : (P.info? e).map (fun i => (i.zero, i.size, i.bytes)) = some (some z, size, bytes)) (hzs : z.cells.size = size) (hsz : 0 < size) (hby : bytes ≤ 1000)
    (v : Value) (k : Nat) (xs : List Value) (q : Option Addr) (n c : Nat) (ys : List Value) (hown : w.ownsRow B e size v k xs) (hq : q = none → n = 0 ∧ c = 0) (hl : ys.length = n * size) (hsrc : ∀ p, q = some p → ∀ j u, ys[j]? = some u → w.cell? (p.add j) = some u) (hs : a.eval s = v) (hx : a.eval x = .slice q n c) (h1 : ∀ u ∈ ys, u.oneCell' = true) (hk : k ≤ 1048576) (hn : n ≤ 1048576) (hB : B ≤ w.heap.size)
    (h : ∀ v' w', w'.ownsRow B e size v' (k + n) (xs ++ ys) → w.grownBy w' v.ownBlock → (∃ va vc, v' = .slice va (k + n) vc) → wpList P ops Q rest (a.put o.dst v') w') : wpList P ops Q (o :: rest) a w :=
  wpList_plain hgd fun _ hK => wp_append_src s x t ho B e size bytes z ht hinf hzs hsz hby v k xs q n c ys hown hq hl hsrc hs hx h1 hk hn hB fun v' w' a1 a2 a3 => hK _ _ (h v' w' a1 a2 a3)
theorem step_append_src {P : Program} {ops : Array Oper} {o : Oper} {a : Act} {w : World} {K : Act → World → Prop} {Q : Exit → Act → World → Prop} {E : Prop} (hgd : o.guard = none) (s x : Operand) (t : TypeId)
    (ho : o.op = .call { callee := .builtin .append, args := #[s, x], argTypes := #[t, t] }) (B : Nat) (e : TypeId) (size bytes : Nat) (z : Value) (ht : P.underlying t = some (.slice e))
    (hinf : (P.info? e).map (fun i => (i.zero, i.size, i.bytes)) = some (some z, size, bytes)) (hzs : z.cells.size = size) (hsz : 0 < size) (hby : bytes ≤ 1000)
    (v : Value) (k : Nat) (xs : List Value) (q : Option Addr) (n c : Nat) (ys : List Value) (hown : w.ownsRow B e size v k xs) (hq : q = none → n = 0 ∧ c = 0) (hl : ys.length = n * size) (hsrc : ∀ p, q = some p → ∀ j u, ys[j]? = some u → w.cell? (p.add j) = some u) (hs : a.eval s = v) (hx : a.eval x = .slice q n c) (h1 : ∀ u ∈ ys, u.oneCell' = true) (hk : k ≤ 1048576) (hn : n ≤ 1048576) (hB : B ≤ w.heap.size)
    (h : ∀ v' w', w'.ownsRow B e size v' (k + n) (xs ++ ys) → w.grownBy w' v.ownBlock → (∃ va vc, v' = .slice va (k + n) vc) → K (a.put o.dst v') w') :
    if Region.wanted o (yielded ops a.tmps) = true then Oper.wp P o a w K Q else E := by
  have hw : Region.wanted o (yielded ops a.tmps) = true := by simp [Region.wanted, hgd]
  rw [if_pos hw]
  exact wp_append_src s x t ho B e size bytes z ht hinf hzs hsz hby v k xs q n c ys hown hq hl hsrc hs hx h1 hk hn hB h
end Go.Proofs.Ytlnklpnldmcopaa
/-
  'append(a, b...)': a the call's own row, b another row, nil or not: one law for whatever element. No condition.
-/
namespace Go.Proofs.Ytlnklpnldmcopaa
set_option maxRecDepth 100000
open Go.RowKit
theorem wp_append_two {P : Program} {o : Oper} {a : Act} {w : World} {K : Act → World → Prop} {Q : Exit → Act → World → Prop} (s x : Operand) (t : TypeId)
    (ho : o.op = .call { callee := .builtin .append, args := #[s, x], argTypes := #[t, t] }) (B B' : Nat) (e : TypeId) (size bytes : Nat) (z : Value) (ht : P.underlying t = some (.slice e))
    (hinf : (P.info? e).map (fun i => (i.zero, i.size, i.bytes)) = some (some z, size, bytes)) (hzs : z.cells.size = size) (hsz : 0 < size) (hby : bytes ≤ 64)
    (v : Value) (k : Nat) (xs : List Value) (sv : Value) (n : Nat) (ys : List Value) (hown : w.ownsRow B e size v k xs) (hsrc : w.ownsRow B' e size sv n ys) (hs : a.eval s = v) (hx : a.eval x = sv) (h1 : ∀ u ∈ ys, u.oneCell' = true) (hk : k ≤ 1048576) (hn : n ≤ 1048576) (hB : B ≤ w.heap.size)
    (h : ∀ v' w', w'.ownsRow B e size v' (k + n) (xs ++ ys) → w.grownBy w' v.ownBlock → (∃ va vc, v' = .slice va (k + n) vc) → K (a.put o.dst v') w') : o.wp P a w K Q := by
  obtain ⟨i0, hi, hz0, hz1, hz2⟩ := info_parts hinf
  have shape : ∀ {v' : Value} {w' : World} {l : List Value}, w'.ownsRow B e size v' (k + n) l → ∃ va vc, v' = .slice va (k + n) vc := fun hr => by
    rcases hr.2 with ⟨e1, e0⟩ | ⟨g', cap, cur, e1, _⟩
    · exact ⟨none, 0, by rw [e1, e0]⟩
    · exact ⟨_, _, e1⟩
  rcases hsrc.2 with ⟨rfl, rfl⟩ | ⟨g, cap, cur, rfl, hg, hb, hle, hm, hcs, htk⟩
  · have hy : ys = [] := List.length_eq_zero_iff.1 (by simpa using hsrc.1)
    subst hy
    have hrun : (Builtin.append_ #[t, t] o.type #[v, .slice none 0 0]).run P w = .ok v w := by
      rcases hown.2 with ⟨rfl, _⟩ | ⟨g, cap, cur, rfl, _, _, hle, _⟩
      · exact run_append_nothing w _ _ _ e i0 ht hi none 0 0 (Nat.le_refl _) _ (Src.ofNil w ht 0)
      · exact run_append_nothing w _ _ _ e i0 ht hi _ k cap hle _ (Src.ofNil w ht 0)
    have h2 : w.ownsRow B e size v (k + 0) (xs ++ []) := by rw [Nat.add_zero, List.append_nil]; exact hown
    unfold Oper.wp
    simp [execOp, ho, resolve, invoke, builtin, hs, hx, hrun, Result.andThen]
    exact h v w h2 ⟨rfl, rfl, rfl, Nat.le_refl _, fun _ _ _ => rfl⟩ (shape h2)
  · have hb2 : (k + n) * bytes ≤ 140737488355328 := Nat.le_trans (Nat.mul_le_mul_left (k + n) hby) (by omega)
    exact wp_append_own w s x t ho B e i0 z size bytes ht hi hz0 hz1 hz2 hzs hsz v k xs hs hown ⟨g, 0, none⟩ n cap ys hx hsrc.1 (fun j u hj => World.ownsRow.cells hsrc (g := g) rfl j u hj) h1 (by unfold maxLen; omega) hb2 hB fun v' w' a1 a2 _ => h v' w' a1 a2 (shape a1)
theorem wpList_append_two {P : Program} {ops : Array Oper} {rest : List Oper} {o : Oper} {a : Act} {w : World} {Q : Exit → Act → World → Prop} (hgd : o.guard = none) (s x : Operand) (t : TypeId)
    (ho : o.op = .call { callee := .builtin .append, args := #[s, x], argTypes := #[t, t] }) (B B' : Nat) (e : TypeId) (size bytes : Nat) (z : Value) (ht : P.underlying t = some (.slice e))
    (hinf : (P.info? e).map (fun i => (i.zero, i.size, i.bytes)) = some (some z, size, bytes)) (hzs : z.cells.size = size) (hsz : 0 < size) (hby : bytes ≤ 64)
    (v : Value) (k : Nat) (xs : List Value) (sv : Value) (n : Nat) (ys : List Value) (hown : w.ownsRow B e size v k xs) (hsrc : w.ownsRow B' e size sv n ys) (hs : a.eval s = v) (hx : a.eval x = sv) (h1 : ∀ u ∈ ys, u.oneCell' = true) (hk : k ≤ 1048576) (hn : n ≤ 1048576) (hB : B ≤ w.heap.size)
    (h : ∀ v' w', w'.ownsRow B e size v' (k + n) (xs ++ ys) → w.grownBy w' v.ownBlock → (∃ va vc, v' = .slice va (k + n) vc) → wpList P ops Q rest (a.put o.dst v') w') : wpList P ops Q (o :: rest) a w :=
  wpList_plain hgd fun _ hK => wp_append_two s x t ho B B' e size bytes z ht hinf hzs hsz hby v k xs sv n ys hown hsrc hs hx h1 hk hn hB fun v' w' a1 a2 a3 => hK _ _ (h v' w' a1 a2 a3)
theorem step_append_two {P : Program} {ops : Array Oper} {o : Oper} {a : Act} {w : World} {K : Act → World → Prop} {Q : Exit → Act → World → Prop} {E : Prop} (hgd : o.guard = none) (s x : Operand) (t : TypeId)
    (ho : o.op = .call { callee := .builtin .append, args := #[s, x], argTypes := #[t, t] }) (B B' : Nat) (e : TypeId) (size bytes : Nat) (z : Value) (ht : P.underlying t = some (.slice e))
    (hinf : (P.info? e).map (fun i => (i.zero, i.size, i.bytes)) = some (some z, size, bytes)) (hzs : z.cells.size = size) (hsz : 0 < size) (hby : bytes ≤ 64)
    (v : Value) (k : Nat) (xs : List Value) (sv : Value) (n : Nat) (ys : List Value) (hown : w.ownsRow B e size v k xs) (hsrc : w.ownsRow B' e size sv n ys) (hs : a.eval s = v) (hx : a.eval x = sv) (h1 : ∀ u ∈ ys, u.oneCell' = true) (hk : k ≤ 1048576) (hn : n ≤ 1048576) (hB : B ≤ w.heap.size)
    (h : ∀ v' w', w'.ownsRow B e size v' (k + n) (xs ++ ys) → w.grownBy w' v.ownBlock → (∃ va vc, v' = .slice va (k + n) vc) → K (a.put o.dst v') w') :
    if Region.wanted o (yielded ops a.tmps) = true then Oper.wp P o a w K Q else E := by
  have hw : Region.wanted o (yielded ops a.tmps) = true := by simp [Region.wanted, hgd]
  rw [if_pos hw]
  exact wp_append_two s x t ho B B' e size bytes z ht hinf hzs hsz hby v k xs sv n ys hown hsrc hs hx h1 hk hn hB h
/-- A block of one element is an own row. -/
theorem row_single {w : World} {g B size : Nat} {e : TypeId} {cs : Array Value} (h : w.heap[g]? = some (.cells cs e (0, 0))) (hs : cs.size = size) (hB : B ≤ g) : w.ownsRow B e size (.slice (some ⟨g, 0, none⟩) 1 1) 1 cs.toList := by
  refine ⟨by simp [hs], .inr ⟨g, 1, cs, rfl, hB, h, Nat.le_refl _, by unfold maxLen; omega, by omega, ?_⟩⟩
  rw [List.take_of_length_le (by simp; omega)]
end Go.Proofs.Ytlnklpnldmcopaa
/-
  The document's own With: rows, and one more at its place; rows in a slice, as append reads them. Condition: at most 1000000 rows.
-/
namespace Go.Proofs.Ytlnklpnldmcopaa
set_option maxRecDepth 100000
open Go.RowKit
theorem info_row : (Try.prog.info? 38).map (fun i => (i.zero, i.size, i.bytes)) = some (some (.agg #[.string .empty, .int .u64 0, .int .i64 0, .string .empty]), 4, 48) := by kernel_rfl
theorem row_one (x : Rw) : ∀ u ∈ [Value.string x.key, .int .u64 (x.seq : Int), .int .i64 x.kind, .string x.val], u.oneCell' = true := by
  intro u hu
  simp only [List.mem_cons, List.not_mem_nil, or_false] at hu
  rcases hu with rfl | rfl | rfl | rfl <;> rfl
/-- A slice of just these rows is handed back. -/
def GaveR (l : List Rw) (w : World) (e : Ending) (w' : World) : Prop := ∃ v, e = .returned v ∧ w'.ownsRow w.heap.size 38 4 v l.length (rowR l) ∧ Below w.heap.size w w'
theorem size_row (w : World) : (Go.sizeOf (Try.prog.elem 22)).run Try.prog w = .ok 4 w := by
  obtain ⟨i0, hi, hz0, hz1, hz2⟩ := info_parts (show (Try.prog.info? (Try.prog.elem 22)).map (fun i => (i.zero, i.size, i.bytes)) = some (some (.agg #[.string .empty, .int .u64 0, .int .i64 0, .string .empty]), 4, 48) by kernel_rfl)
  simp [Go.sizeOf, typeInfo, hi, hz1]
theorem addr_plus (b o k : Nat) : (⟨b, o, none⟩ : Addr).add k = ⟨b, o + k, none⟩ := by
  unfold Addr.add
  split
  · rename_i h0; rw [h0]; rfl
  · rfl
/-- What is handed back, as a slice of rows. -/
theorem rs_of_gave {l : List Rw} {w : World} {e : Ending} {w' : World} (h : GaveR l w e w') : ∃ p c b, e = .returned (.slice p l.length c) ∧ Rs p l.length c b 0 l w' ∧ Below w.heap.size w w' := by
  obtain ⟨v, rfl, hrow, hb⟩ := h
  obtain ⟨p, c, b, rfl, hr, _⟩ := rs_of_row hrow
  exact ⟨p, c, b, rfl, hr, hb⟩
theorem own_below {w w' : World} {base size n : Nat} {e : TypeId} {v : Value} {xs : List Value} (h : w.ownsRow base e size v n xs) (hb : Below w.heap.size w w') : w'.ownsRow base e size v n xs := h.kept (grown_of_below hb) (by cases v.ownBlock <;> simp)
/-- An empty slice of an own block. -/
theorem row_zero {w : World} {g B size : Nat} {e : TypeId} (h : w.heap[g]? = some (.cells #[] e (0, 0))) (hB : B ≤ g) : w.ownsRow B e size (.slice (some ⟨g, 0, none⟩) 0 0) 0 [] :=
  ⟨by simp, .inr ⟨g, 0, #[], rfl, hB, h, Nat.le_refl _, by unfold maxLen; omega, by simp, by simp⟩⟩
theorem one_cells (l : List Rw) : ∀ u ∈ rowR l, u.oneCell' = true := by
  intro u hu
  unfold rowR at hu
  obtain ⟨x, _, hx⟩ := List.mem_flatMap.1 hu
  exact row_one x u hx
/-- Rows in a slice, whose block is one of rows. -/
structure Rt (a : Option Addr) (n c b o : Nat) (l : List Rw) (w : World) : Prop where
  rs : Rs a n c b o l w
  nil : a = none → c = 0
  typ : 0 < n → ∃ cs, w.heap[b]? = some (.cells cs 38 (0, 0))
theorem Rt.below {a : Option Addr} {n c b o : Nat} {l : List Rw} {w w' : World} (h : Rt a n c b o l w) (hb : Below w.heap.size w w') : Rt a n c b o l w' :=
  ⟨h.rs.below hb (Nat.le_refl _), h.nil, fun h0 => by
    obtain ⟨cs, hc⟩ := h.typ h0
    exact ⟨cs, (hb.block _ (Array.getElem?_eq_some_iff.1 hc).1).trans hc⟩⟩
theorem Rt.none (w : World) : Rt none 0 0 0 0 [] w := ⟨⟨rfl, Nat.le_refl _, by omega, fun h => absurd h (by omega), RwsAt.nil _ _ _⟩, fun _ => rfl, fun h => absurd h (by omega)⟩
theorem rt_of_row {w : World} {B : Nat} {v : Value} {l : List Rw} (h : w.ownsRow B 38 4 v l.length (rowR l)) : ∃ a c b, v = .slice a l.length c ∧ Rt a l.length c b 0 l w := by
  rcases h.2 with ⟨rfl, hz⟩ | ⟨g, cap, cur, rfl, hg, hb, hn, hm, hs, ht⟩
  · have : l = [] := List.length_eq_zero_iff.1 hz
    subst this
    exact ⟨none, 0, 0, rfl, Rt.none w⟩
  · obtain ⟨a, c, b, hv, hr, _⟩ := rs_of_row h
    simp only [Value.slice.injEq] at hv
    obtain ⟨rfl, _, rfl⟩ := hv
    refine ⟨_, _, b, rfl, hr, (fun e => by cases e), fun h0 => ?_⟩
    have := (hr.addr h0).1
    simp only [Option.some.injEq, Addr.mk.injEq] at this
    obtain ⟨rfl, _, _⟩ := this
    exact ⟨_, hb⟩
theorem add_off (b o j : Nat) : (⟨b, o, none⟩ : Addr).add j = ⟨b, o + j, none⟩ := by
  unfold Addr.add
  split
  · rename_i h0; rw [h0]; rfl
  · rfl
/-- The cells of rows in a slice, as append reads them. -/
theorem rs_src {a : Option Addr} {n c b o : Nat} {l : List Rw} {w : World} (h : Rs a n c b o l w) : ∀ p, a = some p → ∀ j u, (rowR l)[j]? = some u → w.cell? (p.add j) = some u := by
  intro p hp j u hu
  have hj := (List.getElem?_eq_some_iff.1 hu).1
  rw [rowR_len, h.len] at hj
  obtain ⟨rfl, _⟩ : p = ⟨b, o, none⟩ ∧ True := by
    have := (h.addr (by omega)).1
    rw [hp] at this
    exact ⟨by simpa using this, trivial⟩
  rw [add_off]
  obtain ⟨i, m, rfl, hm⟩ : ∃ i m, j = i * 4 + m ∧ m < 4 := ⟨j / 4, j % 4, by omega, Nat.mod_lt _ (by omega)⟩
  obtain ⟨x, hx⟩ : ∃ x, l[i]? = some x := ⟨_, List.getElem?_eq_getElem (by rw [h.len]; omega)⟩
  obtain ⟨e0, e1, e2, e3⟩ := rowR_at l i hx
  obtain ⟨f0, f1, f2, f3⟩ := h.at' i x hx
  obtain rfl | rfl | rfl | rfl : m = 0 ∨ m = 1 ∨ m = 2 ∨ m = 3 := by omega
  · rw [Nat.add_zero, e0] at hu; rw [Nat.add_zero, f0, hu]
  · rw [e1] at hu; rw [show o + (i * 4 + 1) = o + i * 4 + 1 by omega, f1, hu]
  · rw [e2] at hu; rw [show o + (i * 4 + 2) = o + i * 4 + 2 by omega, f2, hu]
  · rw [e3] at hu; rw [show o + (i * 4 + 3) = o + i * 4 + 3 by omega, f3, hu]
theorem rt_take {a : Option Addr} {n c b o : Nat} {l : List Rw} {w : World} (h : Rt a n c b o l w) {e : Nat} (he : e ≤ n) :
    (∀ u, (Instr.slice 22 (.slice a n c) none (some (.int .i64 (e : Int))) none).run Try.prog u = .ok (.slice a e c) u) ∧ Rs a e c b o (l.take e) w := by
  have hc := h.rs.cap
  have hm := h.rs.most
  refine ⟨fun u => ?_, ⟨by rw [List.length_take, h.rs.len]; omega, by omega, hm, fun h0 => h.rs.addr (by omega), fun j x hx => ?_⟩⟩
  · rw [run_slice_h u 22 a n c (by kernel_rfl) .i64 (e : Int) (by omega) (by omega), size_row]
    simp only [Result.andThen, sliced, Int.toNat_natCast]
    have ea : (if c = 0 then a else a.map (·.add (0 * 4))) = a := by
      split
      · rfl
      · cases a with
        | none => rfl
        | some p => simp [Addr.add]
    simp only [Nat.sub_zero] at *
    first | rw [ea] | simp [Addr.add] | skip
  · rw [List.getElem?_take] at hx
    split at hx
    · exact h.rs.at' j x hx
    · cases hx
theorem rt_drop {a : Option Addr} {n c b o : Nat} {l : List Rw} {w : World} (h : Rt a n c b o l w) {e : Nat} (he : e ≤ n) :
    ∃ p2, (∀ u, (Instr.slice 22 (.slice a n c) (some (.int .i64 (e : Int))) none none).run Try.prog u = .ok (.slice p2 (n - e) (c - e)) u) ∧ Rs p2 (n - e) (c - e) b (o + e * 4) (l.drop e) w ∧ (p2 = none → n - e = 0 ∧ c - e = 0) := by
  have hc := h.rs.cap
  have hm := h.rs.most
  refine ⟨if c = e then a else a.map (·.add (e * 4)), fun u => ?_, ⟨by rw [List.length_drop, h.rs.len], by omega, by omega, fun h0 => ?_, fun j x hx => ?_⟩, fun hp => ?_⟩
  · rw [run_slice_l u 22 a n c (by kernel_rfl) .i64 (e : Int) (by omega) (by omega), size_row]
    simp only [Result.andThen, sliced, Int.toNat_natCast]
  · obtain ⟨h1, h2⟩ := h.rs.addr (by omega)
    subst h1
    rw [if_neg (by omega)]
    exact ⟨by simp only [Option.map_some, addr_plus], h2⟩
  · rw [List.getElem?_drop] at hx
    have := h.rs.at' (e + j) x hx
    rw [show o + (e + j) * 4 = o + e * 4 + j * 4 by omega] at this
    exact this
  · split at hp
    · have := h.nil hp; omega
    · rw [Option.map_eq_none_iff] at hp
      have := h.nil hp; omega
end Go.Proofs.Ytlnklpnldmcopaa
