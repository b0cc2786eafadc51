/-
  The contract of the program's Whole. Condition: tables that came in.
-/
import Derived.Test.YtkkedofbnmjgeaaEditCopied
import Derived.Test.YtkkedofbnmjgeaaEditDecode
import Derived.Test.YtkkedofbnmjgeaaEditRight
namespace Go.Proofs.Ytkkedofbnmjgeaa
set_option maxRecDepth 100000
open Go Go.RowKit
/-- The tables of the levels below i, each with its level. -/
def plsTo (v : Vr) : Nat → List Pl
  | 0 => []
  | i + 1 => plsTo v i ++ (v.lv i).map (fun x => ⟨(i : Int), x⟩)
/-- The whole edit of a version. -/
def wholeE (v : Vr) : Ed := ⟨v.log, v.next, v.seq, [], plsTo v 4⟩
def wholeB (v : Vr) (i k : Nat) : List Pl := plsTo v i ++ ((v.lv i).take k).map (fun x => ⟨(i : Int), x⟩)
theorem wholeB_succ {v : Vr} {i k : Nat} {x : Mt} (h : (v.lv i)[k]? = some x) : wholeB v i (k + 1) = wholeB v i k ++ [⟨(i : Int), x⟩] := by
  unfold wholeB
  rw [List.take_add_one, h, List.map_append, List.append_assoc]
  rfl
theorem wholeB_all {v : Vr} {i n : Nat} (h : (v.lv i).length = n) : wholeB v i n = plsTo v (i + 1) := by
  unfold wholeB
  rw [← h, List.take_length]
  rfl
theorem wholeB_zero (v : Vr) (i : Nat) : wholeB v i 0 = plsTo v i := by unfold wholeB; simp
theorem plsTo_len {v : Vr} (h : ∀ i, i < 4 → (v.lv i).length ≤ 100) : ∀ i, i ≤ 4 → (plsTo v i).length ≤ 100 * i
  | 0, _ => Nat.zero_le _
  | i + 1, hi => by
    have h1 := plsTo_len h i (by omega)
    have h2 := h i (by omega)
    show (plsTo v i ++ _).length ≤ _
    rw [List.length_append, List.length_map]
    omega
theorem wholeB_len {v : Vr} (h : ∀ i, i < 4 → (v.lv i).length ≤ 100) {i k : Nat} (hi : i < 4) : (wholeB v i k).length ≤ 400 := by
  have h1 := plsTo_len h i (by omega)
  have h2 := h i hi
  unfold wholeB
  rw [List.length_append, List.length_map, List.length_take]
  omega
/-- Whole under way. -/
structure WhI (N p : Nat) (e : Ed) (vg va : Value) (w wr : World) : Prop where
  m : EdM (p + 1) p e vg va wr
  z : wr.heap[N]? = some zE
  f : Below w.heap.size w wr
  lo : N < p
  lw : w.heap.size ≤ N
theorem WhI.below {N p : Nat} {e : Ed} {vg va : Value} {w wr u : World} (h : WhI N p e vg va w wr) (hb : Below wr.heap.size wr u) : WhI N p e vg va w u :=
  ⟨h.m.below hb, (hb.block _ (by have := h.lo; have := h.m.big; omega)).trans h.z, below_of h.f hb, h.lo, h.lw⟩
theorem WhI.fr {N p : Nat} {e e' : Ed} {vg va vg' va' : Value} {w wr u : World} (h : WhI N p e vg va w wr) (hf : Fr (p + 1) p wr u) (hm : EdM (p + 1) p e' vg' va' u) : WhI N p e' vg' va' w u := by
  have lo := h.lo
  have lw := h.lw
  exact ⟨hm, (hf.block _ (by omega) (by omega)).trans h.z, h.f.trans (hf.below (by omega) (by omega)), lo, lw⟩
theorem WhI.addA {N p : Nat} {e : Ed} {vg va v' : Value} {w C w1 : World} {tmp : Obj} {x : Pl} (h : WhI N p e vg va w C) (hown : w1.ownsRow (p + 1) 52 8 v' (e.added.length + 1) (e.added.flatMap cellsP ++ cellsP x)) (hgrow : (C.alloc tmp).grownBy w1 va.ownBlock) :
    WhI N p ⟨e.log, e.next, e.seq, e.gone, e.added ++ [x]⟩ vg v' w (w1.setCell ⟨p, 4, none⟩ v') ∧ w1.cell? ⟨p, 4, none⟩ = some va ∧ w1.frozen? ⟨p, 4, none⟩ = false := by
  obtain ⟨a1, a2, a3, a4⟩ := h.m.addA hown hgrow
  exact ⟨h.fr a2 a1, a3, a4⟩
theorem WhI.new (N a b c : Nat) {w u : World} (hz : u.heap[N]? = some zE) (hf : Below w.heap.size w u) (hN : w.heap.size ≤ N) : WhI N u.heap.size ⟨a, b, c, [], []⟩ (.slice none 0 0) (.slice none 0 0) w (u.alloc (edC a b c (.slice none 0 0) (.slice none 0 0))) := by
  have hlt := (Array.getElem?_eq_some_iff.1 hz).1
  exact ⟨EdM.new a b c u, (Below.heap_alloc u _ _ hlt).trans hz, hf.alloc hf.size _, hlt, hN⟩
/-- A block of another type stands when a row grows. -/
theorem block_apart {C w1 : World} {B n k : Nat} {e t : TypeId} {v : Value} {xs : List Value} {size : Nat} {tmp : Obj} {cs : Array Value} {m : Nat × Nat} (h : C.ownsRow B e size v n xs) (hg : (C.alloc tmp).grownBy w1 v.ownBlock) (hk : C.heap[k]? = some (.cells cs t m)) (hne : t ≠ e) : w1.heap[k]? = some (.cells cs t m) := by
  have lt := (Array.getElem?_eq_some_iff.1 hk).1
  refine (hg.block k (by rw [World.size_alloc]; omega) fun e => ?_).trans ((Below.heap_alloc C tmp k lt).trans hk)
  obtain ⟨_, _, c2, q2⟩ := row_of h k e.symm
  rw [hk] at q2
  injection q2 with q2
  injection q2 with _ q3
  exact hne q3
def WhD (v : Vr) (r : Ending) (w' : World) : Prop :=
  (RightP v ∧ ∃ hg ha, r = .returned (edV (wholeE v) hg ha) ∧ EdAt (wholeE v) hg ha w') ∨ (¬ RightP v ∧ r = .returned zEV)
set_option maxRecDepth 100000 in
set_option maxHeartbeats 16000000 in
theorem whole_any {v : Vr} {H : Nat → Hd} {w : World} (hM : VrAt v H w) (hI : VrIn v) : Calls Try.prog 18 #[verV v H] w fun r w' => WhD v r w' ∧ Below w.heap.size w w' := by
  have RC : Hid (∀ u, Below w.heap.size w u → Calls Try.prog 22 #[verV v H] u fun e w' => e = .returned (.bool (tf (RightP v))) ∧ Below u.heap.size u w') := Lib.hid (fun u hu => right_any (hM.below hu) (fun i hi x hx => (hI.2.2.2 i hi x hx).1))
  have MC : Hid (∀ i, i < 4 → ∀ x ∈ v.lv i, ∀ u, Calls Try.prog 36 #[.agg #[.int .u64 (x.num : Int), .int .i64 x.size, .int .i64 x.rows, .string x.fst, .string x.lst, .int .u64 (x.least : Int), .int .u64 (x.gr : Int)]] u fun e w' => e = .returned (.agg #[.int .u64 (x.num : Int), .int .i64 x.size, .int .i64 x.rows, .string x.fst, .string x.lst, .int .u64 (x.least : Int), .int .u64 (x.gr : Int)]) ∧ Below u.heap.size u w') := Lib.hid (fun i hi x hx u => mcopied_any x (hI.2.2.2 i hi x hx).2.1 (hI.2.2.2 i hi x hx).2.2.1 u)
  have W0 : Hid (Below w.heap.size w ((w.alloc (verO v H)).alloc zE)) := Lib.hid ((below_alloc w _).alloc (by simp) _)
  have V0 : Hid (VerB w.heap.size v H ((w.alloc (verO v H)).alloc zE)) := Lib.hid ((VerB.new v H w).below (below_alloc _ _))
  have Z0 : Hid (((w.alloc (verO v H)).alloc zE).heap[w.heap.size + 1]? = some zE) := Lib.hid (by
    have := heap_alloc_new (w.alloc (verO v H)) zE
    rwa [World.size_alloc] at this)
  have lenH : Hid (∀ i, i < 4 → (v.lv i).length = (H i).n) := Lib.hid (fun i hi => (hM i hi).len)
  have VM : Hid (∀ u, Below w.heap.size w u → ∀ i, i < 4 → Ms (H i) (v.lv i) u) := Lib.hid (fun u hu i hi => (hM i hi).below hu)
  clear hM hI
  by_cases hr : RightP v
  rotate_left 1
  · rw [tf_false hr] at RC
    replace hr := Lib.hid hr
    go_enter Try.func18, Try.ntmps18
    go_wp2_with (go_at_call 22; ((with_reducible refine (RC.out _ W0.out).mono ?_); rintro r w1 ⟨rfl, hb1⟩; have B1 := Lib.hid (below_of W0.out hb1); have Z1 : Hid (w1.heap[w.heap.size + 1]? = some zE) := Lib.hid ((hb1.block _ (by rw [World.size_alloc, World.size_alloc]; omega)).trans Z0.out); obtain ⟨z0, z1, z2, z3, z4⟩ := five_cells Z1.out; have zf := five_frozen Z1.out; clear hb1))
    obtain ⟨y0, y1, y2, y3, y4⟩ := five_cells (five_put Z1.out (.int .u64 0) (.int .u64 0) (.int .u64 0) (.slice none 0 0) (.slice none 0 0))
    refine bodyPost_ret (v := zEV) (by simp [results, Try.results18, go_sem, y0, y1, y2, y3, y4]) rfl ⟨.inr ⟨hr.out, rfl⟩, ?_⟩
    have g := Nat.le_succ w.heap.size
    exact ((((B1.out.setCell (p := ⟨w.heap.size + 1, 0, none⟩) g _).setCell (p := ⟨w.heap.size + 1, 1, none⟩) g _).setCell (p := ⟨w.heap.size + 1, 2, none⟩) g _).setCell (p := ⟨w.heap.size + 1, 3, none⟩) g _).setCell (p := ⟨w.heap.size + 1, 4, none⟩) g _
  rw [tf_true hr] at RC
  have h100 : Hid (∀ i, i < 4 → (v.lv i).length ≤ 100) := Lib.hid (fun i hi => Nat.le_trans (hr.2 i hi).1 (by omega))
  replace hr := Lib.hid hr
  obtain ⟨tj, hj, hj0, hj1, hj2⟩ := info_parts infoP
  go_enter Try.func18, Try.ntmps18
  go_upto_region 4 with (go_at_call 22; ((with_reducible refine (RC.out _ W0.out).mono ?_); rintro r w1 ⟨rfl, hb1⟩; have B1 := Lib.hid (below_of W0.out hb1); have Z1 : Hid (w1.heap[w.heap.size + 1]? = some zE) := Lib.hid ((hb1.block _ (by rw [World.size_alloc, World.size_alloc]; omega)).trans Z0.out); obtain ⟨x0, x1, x2, x3, x4, x5, x6⟩ := (V0.out.below hb1).cells; have I1 := Lib.hid (WhI.new (w.heap.size + 1) v.log v.next v.seq Z1.out B1.out (Nat.le_succ _)); have X1 : Hid (VerB w.heap.size v H (w1.alloc (edC v.log v.next v.seq (.slice none 0 0) (.slice none 0 0)))) := Lib.hid ((V0.out.below hb1).below (below_alloc _ _)); clear hb1))
  obtain ⟨e0, e1, e2, e3, e4, e5, e6⟩ := X1.out.cells
  have I10 : Hid (WhI (w.heap.size + 1) w1.heap.size ⟨v.log, v.next, v.seq, [], plsTo v 0⟩ (.slice none 0 0) (.slice none 0 0) w (w1.alloc (edC v.log v.next v.seq (.slice none 0 0) (.slice none 0 0)))) := I1
  clear I1 X1 x0 x1 x2 x3 x4 x5 x6
  obtain ⟨p, hp⟩ := named w1.heap.size
  go_wp2_with fail
  rw [← hp.out] at I10
  rw [← hp.out]
  replace hp := Lib.hid trivial
  clear e0 e1 e2 e3 e4 e5 e6 RC W0 V0 Z0 Z1 B1
  go_loopw [21] (fun i wr => ∃ j : Nat, j ≤ 4 ∧ i = .int .i64 (j : Int) ∧ ∃ va, Hid (WhI (w.heap.size + 1) p ⟨v.log, v.next, v.seq, [], plsTo v j⟩ (.slice none 0 0) va w wr)) (fun i _ => 4 - (intOf i).toNat)
  case atStart => exact ⟨0, Nat.zero_le _, rfl, _, I10⟩
  case round =>
    obtain ⟨j, hjn, rfl, va, hI⟩ := hrel
    by_cases hlt : j < 4
    · have i0 : (j : Int) < 4 := by omega
      have IX : ∀ u : World, (Instr.index 24 (.agg #[.slice (H 0).a (H 0).n (H 0).c, .slice (H 1).a (H 1).n (H 1).c, .slice (H 2).a (H 2).n (H 2).c, .slice (H 3).a (H 3).n (H 3).c]) (.int .i64 (j : Int))).run Try.prog u = .ok (.slice (H j).a (H j).n (H j).c) u := fun u => ix_lev H hlt u
      have hlen := Lib.hid (lenH.out j hlt)
      have MCj := Lib.hid (MC.out j hlt)
      have VMj := Lib.hid (fun u hu => VM.out u hu j hlt)
      have hall := Lib.hid (wholeB_all (v := v) (i := j) hlen.out)
      obtain ⟨⟨ha, hn, hc, hb, ho⟩, hh⟩ := named (H j)
      rw [← hh.out] at IX hlen VMj hall
      simp only at IX hlen VMj hall
      replace hh := Lib.hid trivial
      have h9 : hn ≤ 64 ∨ True := .inr trivial
      have hW : Hid (∀ k, (wholeB v j k).length ≤ 400) := Lib.hid (fun k => wholeB_len h100.out hlt)
      have hcm : hn ≤ hc ∧ hc ≤ 9223372036854775807 := by
        have := VMj.out wr hI.out.f
        exact ⟨this.sl.cap, this.sl.most⟩
      obtain ⟨hcm1, hcm2⟩ := hcm
      go_wp2_with fail
      clear IX
      have hI0 : Hid (WhI (w.heap.size + 1) p ⟨v.log, v.next, v.seq, [], wholeB v j 0⟩ (.slice none 0 0) va w wr) := Lib.hid (by rw [wholeB_zero]; exact hI.out)
      clear hI
      go_loopw [27] (fun i wr => ∃ k : Nat, k ≤ hn ∧ i = .int .i64 (k : Int) ∧ ∃ va, Hid (WhI (w.heap.size + 1) p ⟨v.log, v.next, v.seq, [], wholeB v j k⟩ (.slice none 0 0) va w wr)) (fun i _ => hn - (intOf i).toNat)
      case atStart => exact ⟨0, Nat.zero_le _, rfl, _, hI0⟩
      case round =>
        clear hI0
        obtain ⟨k, hkn, rfl, va, hI⟩ := hrel
        by_cases hltk : k < hn
        · have k0 : (k : Int) < (hn : Int) := by omega
          obtain ⟨x, hx, rfl, hbl, m0, m1, m2, m3, m4, m5, m6⟩ := (VMj.out _ hI.out.f).at7x hltk
          have CP := Lib.hid (MCj.out x (List.mem_of_getElem? hx))
          have hnext := Lib.hid (wholeB_succ hx)
          have hbd : Hid ((wholeB v j k).length + 1 ≤ maxLen ∧ ((wholeB v j k).length + 1) * 80 ≤ 140737488355328 ∧ ((wholeB v j k).length + 1) * 16 ≤ 140737488355328) := Lib.hid (bound_app (by have := hW.out k; omega))
          obtain ⟨P, hP⟩ := named (wholeB v j k)
          rw [← hP.out] at hI hnext hbd
          replace hP := Lib.hid trivial
          obtain ⟨t1, t2, t3, rfl⟩ := own_shape hI.out.m.oa
          obtain ⟨xn, xs, xr, xf, xl, xm, xg⟩ := x
          simp only at m0 m1 m2 m3 m4 m5 m6 CP
          have D5 : Hid (WhI (w.heap.size + 1) p ⟨v.log, v.next, v.seq, [], P⟩ (.slice none 0 0) (.slice t1 t2 t3) w (wr.alloc (rmO ⟨xn, xs, xr, xf, xl, xm, xg⟩)).drew) := Lib.hid (hI.out.below (below_alloc wr (rmO ⟨xn, xs, xr, xf, xl, xm, xg⟩)).drew)
          have M5 : Hid ((wr.alloc (rmO ⟨xn, xs, xr, xf, xl, xm, xg⟩)).drew.heap[wr.heap.size]? = some (rmO ⟨xn, xs, xr, xf, xl, xm, xg⟩)) := Lib.hid (heap_alloc_new wr (rmO ⟨xn, xs, xr, xf, xl, xm, xg⟩))
          have SS : Hid (∀ u : World, u.cell? ⟨p, 4, none⟩ = some (.slice t1 t2 t3) → u.heap[wr.heap.size]? = some (rmO ⟨xn, xs, xr, xf, xl, xm, xg⟩) → (u.cell? ⟨p, 4, none⟩ = some (.slice t1 t2 t3) ∧ u.cell? ⟨wr.heap.size, 0, none⟩ = some (.int .u64 (xn : Int)) ∧ u.cell? ⟨wr.heap.size, 1, none⟩ = some (.int .i64 xs) ∧ u.cell? ⟨wr.heap.size, 2, none⟩ = some (.int .i64 xr) ∧ u.cell? ⟨wr.heap.size, 3, none⟩ = some (.string xf) ∧ u.cell? ⟨wr.heap.size, 4, none⟩ = some (.string xl) ∧ u.cell? ⟨wr.heap.size, 5, none⟩ = some (.int .u64 (xm : Int)) ∧ u.cell? ⟨wr.heap.size, 6, none⟩ = some (.int .u64 (xg : Int)))) := Lib.hid (fun u h1 h2 => ⟨h1, rm_cells h2⟩)
          have S0 := Lib.hid (SS.out _ D5.out.m.cells.2.2.2.2 M5.out)
          go_upto_region 10 with fail
          clear m0 m1 m2 m3 m4 m5 m6 MC MCj VM VMj lenH hall hW
          refine wp_region_E 9 (S := (fun u => u.cell? ⟨p, 4, none⟩ = some (.slice t1 t2 t3) ∧ u.cell? ⟨wr.heap.size, 0, none⟩ = some (.int .u64 (xn : Int)) ∧ u.cell? ⟨wr.heap.size, 1, none⟩ = some (.int .i64 xs) ∧ u.cell? ⟨wr.heap.size, 2, none⟩ = some (.int .i64 xr) ∧ u.cell? ⟨wr.heap.size, 3, none⟩ = some (.string xf) ∧ u.cell? ⟨wr.heap.size, 4, none⟩ = some (.string xl) ∧ u.cell? ⟨wr.heap.size, 5, none⟩ = some (.int .u64 (xm : Int)) ∧ u.cell? ⟨wr.heap.size, 6, none⟩ = some (.int .u64 (xg : Int)))) (by kernel_rfl) (S0.out) (fun hHeld => ?_)
          refine heldE_take (i := 0) (v := ?_) rfl (by kernel_rfl) (by kernel_rfl) (by kernel_rfl) (fun _ _ _ h => h) (by rfl) (fun w hSw => ?_) (by assumption) ?_; rotate_left 1; focus (((try dsimp only at hSw); first | (go_simp; done) | (go_simp; with_reducible rfl)))
          try simp only [Act.put, List.setIfInBounds_toArray, List.set_cons_zero, List.set_cons_succ]
          refine heldE_take (i := 1) (v := ?_) rfl (by kernel_rfl) (by kernel_rfl) (by kernel_rfl) (fun _ _ _ h => h) (by rfl) (fun w hSw => ?_) (by assumption) ?_; rotate_left 1; focus (((try dsimp only at hSw); first | (go_simp; done) | (go_simp; with_reducible rfl)))
          try simp only [Act.put, List.setIfInBounds_toArray, List.set_cons_zero, List.set_cons_succ]
          refine heldE_take (i := 2) (v := ?_) rfl (by kernel_rfl) (by kernel_rfl) (by kernel_rfl) (fun _ _ _ h => h) (by rfl) (fun w hSw => ?_) (by assumption) ?_; rotate_left 1; focus (((try dsimp only at hSw); first | (go_simp; done) | (go_simp; with_reducible rfl)))
          try simp only [Act.put, List.setIfInBounds_toArray, List.set_cons_zero, List.set_cons_succ]
          refine heldE_take (i := 3) (v := ?_) rfl (by kernel_rfl) (by kernel_rfl) (by kernel_rfl) (fun _ _ _ h => h) (by rfl) (fun w hSw => ?_) (by assumption) ?_; rotate_left 1; focus (((try dsimp only at hSw); first | (go_simp; done) | (go_simp; with_reducible rfl)))
          try simp only [Act.put, List.setIfInBounds_toArray, List.set_cons_zero, List.set_cons_succ]
          refine heldE_call (i := 4) (by kernel_rfl) rfl (by rfl) (fun K hK => ?_)
          go_simp
          refine (CP.out _).mono ?_
          rintro r w6 ⟨rfl, hb6⟩
          have D6 := Lib.hid (D5.out.below hb6)
          have M6 := Lib.hid ((hb6.block wr.heap.size (Array.getElem?_eq_some_iff.1 M5.out).1).trans M5.out)
          clear hb6
          refine hK.out _ _ (SS.out _ D6.out.m.cells.2.2.2.2 M6.out) (fun hHeld => ?_)
          try simp only [Act.put, List.setIfInBounds_toArray, List.set_cons_zero, List.set_cons_succ]
          refine heldE_take (i := 5) (v := ?_) rfl (by kernel_rfl) (by kernel_rfl) (by kernel_rfl) (fun _ _ _ h => h) (by rfl) (fun w hSw => ?_) (by assumption) ?_; rotate_left 1; focus (((try dsimp only at hSw); first | (go_simp; done) | (go_simp; with_reducible rfl)))
          try simp only [Act.put, List.setIfInBounds_toArray, List.set_cons_zero, List.set_cons_succ]
          refine heldE_call (i := 6) (by kernel_rfl) rfl (by rfl) (fun K hK => ?_)
          go_simp
          refine hK.out _ _ (SS.out _ (D6.out.m.below (below_alloc _ _)).cells.2.2.2.2 ((Below.heap_alloc _ _ _ (Array.getElem?_eq_some_iff.1 M6.out).1).trans M6.out)) (fun hHeld => ?_)
          try simp only [Act.put, List.setIfInBounds_toArray, List.set_cons_zero, List.set_cons_succ]
          refine heldE_call (i := 7) (by kernel_rfl) rfl (by rfl) (fun K hK => ?_)
          refine wp_append_lies _ (.tmp 32) (.tmp 37) 28 rfl (p + 1) 52 tj (.agg #[.int .i64 0, .int .u64 0, .int .i64 0, .int .i64 0, .string .empty, .string .empty, .int .u64 0, .int .u64 0]) 8 80 Try.underlying28 hj hj0 hj1 hj2 rfl (by decide) (.slice t1 t2 t3) P.length (P.flatMap cellsP) (by rfl) (D6.out.m.oa.alloc _) ⟨w6.heap.size, 0, none⟩ 1 1 [.int .i64 (j : Int), .int .u64 (xn : Int), .int .i64 xs, .int .i64 xr, .string xf, .string xl, .int .u64 (xm : Int), .int .u64 (xg : Int)] (by rfl) rfl (World.news_of_block (heap_alloc_new _ _)) (one_p ⟨(j : Int), ⟨xn, xs, xr, xf, xl, xm, xg⟩⟩) (by decide) hbd.out.1 hbd.out.2.1 (by rw [World.size_alloc]; have := D6.out.m.big; omega) _ rfl ?_
          intro g9 cap9 w8 hown8 hgrow8 hat8 _
          have M8 := Lib.hid (block_apart D6.out.m.oa hgrow8 M6.out (by decide))
          have F8 := D6.out.addA (x := ⟨(j : Int), ⟨xn, xs, xr, xf, xl, xm, xg⟩⟩) hown8 hgrow8
          have D8 := Lib.hid F8.1
          have K8 := Lib.hid F8.2
          clear F8 hown8 hgrow8 hat8
          refine hK.out _ _ (SS.out _ K8.out.1 M8.out) (fun hHeld => ?_)
          try simp only [Act.put, List.setIfInBounds_toArray, List.set_cons_zero, List.set_cons_succ]
          refine heldE_take (i := 8) (v := ?_) rfl (by kernel_rfl) (by kernel_rfl) (by kernel_rfl) (fun _ _ _ h => h) (by rfl) (fun w hSw => ?_) (by assumption) ?_; rotate_left 1; focus (((try dsimp only at hSw); first | (go_simp; done) | (go_simp; with_reducible rfl)))
          try simp only [Act.put, List.setIfInBounds_toArray, List.set_cons_zero, List.set_cons_succ]
          refine heldE_last (by kernel_rfl) rfl (by rfl) (fun K hK => ?_)
          obtain ⟨k8, f8⟩ := K8.out
          go_simp
          refine hK.out _ _ ?_
          try simp only [Act.put, List.setIfInBounds_toArray, List.set_cons_zero, List.set_cons_succ]
          refine wpE_done (by kernel_rfl) ?_ _
          go_wp2_with fail
          go_roundw
          case rel => exact ⟨k + 1, by omega, by go_num, _, by rw [hnext.out]; exact D8⟩
          case measure => simp [intOf]; omega
        · obtain rfl : k = hn := by omega
          have k0 : ¬ (k : Int) < (k : Int) := by omega
          go_wp2_with fail
          go_roundw
          case rel => exact ⟨j + 1, by omega, by go_num, _, by rw [← hall.out]; exact hI⟩
          case measure => simp [intOf]; omega
    · obtain rfl : j = 4 := by omega
      have i0 : ¬ ((4 : Nat) : Int) < 4 := by omega
      obtain ⟨t1, t2, t3, rfl⟩ := own_shape hI.out.m.oa
      obtain ⟨c0, c1, c2, c3, c4⟩ := hI.out.m.cells
      obtain ⟨z0, z1, z2, z3, z4⟩ := five_cells hI.out.z
      have zf := five_frozen hI.out.z
      simp only at c0 c1 c2 c3 c4
      go_wp2_with fail
      obtain ⟨y0, y1, y2, y3, y4⟩ := five_cells (five_put hI.out.z (.int .u64 (v.log : Int)) (.int .u64 (v.next : Int)) (.int .u64 (v.seq : Int)) (.slice none 0 0) (.slice t1 t2 t3))
      obtain ⟨hg', ha', v1', v2', E'⟩ := hI.out.m.put (N := w.heap.size + 1) (by have := hI.out.lo; omega) (.int .u64 (v.log : Int)) (.int .u64 (v.next : Int)) (.int .u64 (v.seq : Int)) (.slice none 0 0) (.slice t1 t2 t3)
      refine bodyPost_ret (v := .agg #[.int .u64 (v.log : Int), .int .u64 (v.next : Int), .int .u64 (v.seq : Int), .slice none 0 0, .slice t1 t2 t3]) (by simp [results, Try.results18, go_sem, y0, y1, y2, y3, y4]) rfl ⟨.inl ⟨hr.out, hg', ha', ?_, E'⟩, ?_⟩
      · simp only [hdV] at v1' v2'
        simp only [edV, wholeE]
        rw [← v1', ← v2']
      · have g := Nat.le_succ w.heap.size
        exact ((((hI.out.f.setCell (p := ⟨w.heap.size + 1, 0, none⟩) g _).setCell (p := ⟨w.heap.size + 1, 1, none⟩) g _).setCell (p := ⟨w.heap.size + 1, 2, none⟩) g _).setCell (p := ⟨w.heap.size + 1, 3, none⟩) g _).setCell (p := ⟨w.heap.size + 1, 4, none⟩) g _
end Go.Proofs.Ytkkedofbnmjgeaa
