/-
  The contract of Rows. No condition.
-/
import Derived.Test.YtaanclnppfpocaaBatchNext
import Derived.Test.YtaanclnppfpocaaBatchMath2
import Derived.Test.YtaanclnppfpocaaCodeField
import Derived.Deep.Cut
import Derived.Deep.DeepCutAuto
namespace Go.Proofs.Ytaanclnppfpocaa
open Go.RowKit
/-- The first j rows lie in block g, which has room for n. -/
def RState (g n seq j : Nat) (l : List Wr) (w : World) : Prop :=
  ∃ cur : Array Value, w.heap[g]? = some (.cells cur 40 (0, 0)) ∧ cur.size = n * 4 ∧ ∀ i x, i < j → l[i]? = some x → cur[i * 4]? = some (.string x.key) ∧ cur[i * 4 + 1]? = some (.int .u64 ((seq + i : Nat) : Int)) ∧ cur[i * 4 + 2]? = some (.int .i64 x.kind) ∧ cur[i * 4 + 3]? = some (.string x.val)
theorem RState.below {g n seq j : Nat} {l : List Wr} {w w' : World} (h : RState g n seq j l w) (hb : Below w.heap.size w w') : RState g n seq j l w' := by
  obtain ⟨cur, h1, h2, h3⟩ := h
  exact ⟨cur, (hb.block g (Array.getElem?_eq_some_iff.1 h1).1).trans h1, h2, h3⟩
theorem RState.cells {g n seq j : Nat} {l : List Wr} {w : World} (h : RState g n seq j l w) (hj : j < n) : (∃ v, w.cell? ⟨g, j * 4, none⟩ = some v) ∧ (∃ v, w.cell? ⟨g, j * 4 + 1, none⟩ = some v) ∧ (∃ v, w.cell? ⟨g, j * 4 + 2, none⟩ = some v) ∧ (∃ v, w.cell? ⟨g, j * 4 + 3, none⟩ = some v) ∧ ∀ k, w.frozen? ⟨g, k, none⟩ = false := by
  obtain ⟨cur, h1, h2, _⟩ := h
  have e : ∀ k, k < n * 4 → ∃ v, w.cell? ⟨g, k, none⟩ = some v := fun k hk => ⟨cur[k]'(by omega), by simp [World.cell?, h1]⟩
  exact ⟨e _ (by omega), e _ (by omega), e _ (by omega), e _ (by omega), fun k => by simp [World.frozen?, h1]⟩
theorem RState.put {g n seq j : Nat} {l : List Wr} {w : World} {x : Wr} (h : RState g n seq j l w) (hj : j < n) (hx : l[j]? = some x) :
    RState g n seq (j + 1) l ((((w.setCell ⟨g, j * 4, none⟩ (.string x.key)).setCell ⟨g, j * 4 + 1, none⟩ (.int .u64 ((seq + j : Nat) : Int))).setCell ⟨g, j * 4 + 2, none⟩ (.int .i64 x.kind)).setCell ⟨g, j * 4 + 3, none⟩ (.string x.val)) := by
  obtain ⟨cur, h1, h2, h3⟩ := h
  have k1 := heap_setCell_same w g (j * 4) _ _ (.string x.key) h1
  have k2 := heap_setCell_same _ g (j * 4 + 1) _ _ (.int .u64 ((seq + j : Nat) : Int)) k1
  have k3 := heap_setCell_same _ g (j * 4 + 2) _ _ (.int .i64 x.kind) k2
  have k4 := heap_setCell_same _ g (j * 4 + 3) _ _ (.string x.val) k3
  refine ⟨_, k4, by simpa using h2, fun i y hi hy => ?_⟩
  by_cases e : i = j
  · subst e
    rw [hx] at hy
    cases hy
    refine ⟨?_, ?_, ?_, ?_⟩
    all_goals
      simp only [Array.getElem?_setIfInBounds, Array.size_setIfInBounds]
      simp
      try omega
  · have hij : i < j := by omega
    obtain ⟨a1, a2, a3, a4⟩ := h3 i y hij hy
    refine ⟨?_, ?_, ?_, ?_⟩
    · rw [Array.getElem?_setIfInBounds_ne (by omega), Array.getElem?_setIfInBounds_ne (by omega), Array.getElem?_setIfInBounds_ne (by omega), Array.getElem?_setIfInBounds_ne (by omega)]; exact a1
    · rw [Array.getElem?_setIfInBounds_ne (by omega), Array.getElem?_setIfInBounds_ne (by omega), Array.getElem?_setIfInBounds_ne (by omega), Array.getElem?_setIfInBounds_ne (by omega)]; exact a2
    · rw [Array.getElem?_setIfInBounds_ne (by omega), Array.getElem?_setIfInBounds_ne (by omega), Array.getElem?_setIfInBounds_ne (by omega), Array.getElem?_setIfInBounds_ne (by omega)]; exact a3
    · rw [Array.getElem?_setIfInBounds_ne (by omega), Array.getElem?_setIfInBounds_ne (by omega), Array.getElem?_setIfInBounds_ne (by omega), Array.getElem?_setIfInBounds_ne (by omega)]; exact a4
/-- A round of Rows: the write in a block of its own, the rows so far. -/
structure REnc (wb g n seq j : Nat) (l : List Wr) (row : Array Value) (w1 V : World) : Prop where
  blk : V.heap[wb]? = some (.cells row 44 (0, 0))
  rs : RState g n seq j l V
  bel : Below w1.heap.size w1 V
theorem REnc.below {wb g n seq j : Nat} {l : List Wr} {row : Array Value} {w1 V V' : World} (h : REnc wb g n seq j l row w1 V) (hb : Below V.heap.size V V') : REnc wb g n seq j l row w1 V' :=
  ⟨(hb.block wb (Array.getElem?_eq_some_iff.1 h.blk).1).trans h.blk, h.rs.below hb, h.bel.trans (hb.mono h.bel.size)⟩
theorem REnc.cell {wb g n seq j : Nat} {l : List Wr} {row : Array Value} {w1 V : World} (h : REnc wb g n seq j l row w1 V) (k : Nat) : V.cell? ⟨wb, k, none⟩ = row[k]? := by simp [World.cell?, h.blk]
/-- What Rows returns. -/
def RowsB (seq : Nat) (l : List Wr) (w : World) (e : Ending) (w' : World) : Prop :=
  (if chkB seq l = 0 then ∃ g, e = .returned (.slice (some ⟨g, 0, none⟩) l.length l.length) ∧ w.heap.size ≤ g ∧ RState g l.length seq l.length l w' else e = .returned (.slice none 0 0)) ∧ Below w.heap.size w w'
set_option maxRecDepth 100000 in
set_option maxHeartbeats 4000000 in
theorem rows_good {seq : Nat} {a : Option Addr} {n c b o : Nat} {l : List Wr} {w : World} (h : Ws a n c b o l w) (hc : chkB seq l = 0) :
    Calls Try.prog 18 #[batchV seq a n c] w fun e w' => (∃ g, e = .returned (.slice (some ⟨g, 0, none⟩) n n) ∧ w.heap.size ≤ g ∧ RState g n seq n l w') ∧ Below w.heap.size w w' := by
  obtain ⟨k0, k1, k2, k3, k4⟩ := chkB_ok hc
  rw [h.len] at k0 k3
  obtain ⟨c0, c1⟩ := box_batch w seq (.slice a n c)
  have K := Lib.hid (below_alloc w (.cells #[.int .u64 (seq : Int), .slice a n c] 25))
  have C := Lib.hid (check_any (seq := seq) (h.below K.out (Nat.le_refl _)))
  rw [hc] at C
  have k4 := Lib.hid k4
  have h := Lib.hid h
  have hW : (w.alloc (.cells #[.int .u64 (seq : Int), .slice a n c] 25)).heap.size = w.heap.size + 1 := by simp
  go_enter Try.func18, Try.ntmps18
  go_wp2_with fail
  refine C.out.mono ?_
  rintro e w1 ⟨rfl, hb1⟩
  generalize w.alloc (.cells #[.int .u64 (seq : Int), .slice a n c] 25) = W at *
  have hw1 : w.heap.size < w1.heap.size := by have := hb1.size; omega
  have hb2 := Lib.hid (K.out.trans (hb1.mono K.out.size))
  have cs : Hid (∀ V, Below w1.heap.size w1 V → V.cell? ⟨w.heap.size, 0, none⟩ = some (.int .u64 (seq : Int)) ∧ V.cell? ⟨w.heap.size, 1, none⟩ = some (.slice a n c) ∧ Ws a n c b o l V ∧ w1.heap.size ≤ V.heap.size) := Lib.hid fun V hV =>
    ⟨(hV.cell (p := ⟨w.heap.size, 0, none⟩) hw1).trans ((hb1.cell (p := ⟨w.heap.size, 0, none⟩) (by simp only; omega)).trans c0), (hV.cell (p := ⟨w.heap.size, 1, none⟩) hw1).trans ((hb1.cell (p := ⟨w.heap.size, 1, none⟩) (by simp only; omega)).trans c1), (h.out.below hb2.out (Nat.le_refl _)).below hV (Nat.le_refl _), hV.size⟩
  clear C c0 c1 hb1 K hW
  obtain ⟨y0, y1, _, _⟩ := cs.out _ (Below.refl _ w1)
  obtain ⟨i0, hi, hz0, hz1, hz2⟩ := info_parts (show (Try.prog.info? 40).map (fun i => (i.zero, i.size, i.bytes)) = some (some (.agg #[.string .empty, .int .u64 0, .int .i64 0, .string .empty]), 4, 48) by kernel_rfl)
  have hmk : (Instr.makeSlice 37 (.int .i64 (n : Int)) (.int .i64 (n : Int))).run Try.prog w1 = .ok (.slice (some ⟨w1.heap.size, 0, none⟩) n n) (w1.alloc (.cells (madeCells #[.string .empty, .int .u64 0, .int .i64 0, .string .empty] (n * 4)) 40)) := by
    have := run_makeSlice w1 37 40 i0 _ Try.underlying37 hi hz0 .i64 .i64 (n : Int) (n : Int) (by omega) (by omega) (by rw [hz1]; omega) (by rw [hz2]; omega) (by omega)
    rw [hz1, Int.toNat_natCast] at this
    exact this
  have hg0 := heap_alloc_new w1 (.cells (madeCells #[.string .empty, .int .u64 0, .int .i64 0, .string .empty] (n * 4)) 40)
  have start : Hid (RState w1.heap.size n seq 0 l (w1.alloc (.cells (madeCells #[.string .empty, .int .u64 0, .int .i64 0, .string .empty] (n * 4)) 40)) ∧ Below w1.heap.size w1 (w1.alloc (.cells (madeCells #[.string .empty, .int .u64 0, .int .i64 0, .string .empty] (n * 4)) 40))) :=
    Lib.hid ⟨⟨_, hg0, size_madeCells _ _, fun i x h => absurd h (by omega)⟩, below_alloc _ _⟩
  clear hi hz0 hz1 hz2 hg0
  generalize hM : w1.alloc (.cells (madeCells #[.string .empty, .int .u64 0, .int .i64 0, .string .empty] (n * 4)) 40) = M at *
  clear hM
  obtain ⟨x0, x1, _, _⟩ := cs.out _ start.out.2
  go_wp2_with fail
  go_loopw [16] (fun i wr => ∃ j : Nat, j ≤ n ∧ i = .int .i64 (j : Int) ∧ RState w1.heap.size n seq j l wr ∧ Below w1.heap.size w1 wr) (fun i _ => n - (intOf i).toNat)
  case atStart => exact ⟨0, Nat.zero_le _, rfl, start.out.1, start.out.2⟩
  case round =>
    clear start x0 x1 y0 y1 hmk
    obtain ⟨j, hj, rfl, hR, hb⟩ := hrel
    by_cases hlt : j < n
    · obtain ⟨x0, x1, hws, _⟩ := cs.out _ hb
      obtain ⟨x, hx, rfl, e0, e1, e2⟩ := hws.at3 hlt
      obtain ⟨xk, xs, xv⟩ := x
      obtain ⟨h520, h2048⟩ := Wr.long_false (k4.out _ (List.mem_of_getElem? hx)).2
      simp only at e0 e1 e2 h520 h2048
      have hR := Lib.hid hR
      have hb := Lib.hid hb
      have hx := Lib.hid hx
      clear hws
      have CL := Lib.hid fun t (ht : t.size ≤ 281474976710656) u => clone_any t ht u
      have E0 : Hid (REnc wr.heap.size w1.heap.size n seq j l #[.int .i64 xk, .string xs, .string xv] w1 (wr.alloc (.cells #[.int .i64 xk, .string xs, .string xv] 44))) := Lib.hid ⟨heap_alloc_new _ _, hR.out.below (below_alloc _ _), hb.out.trans ((below_alloc _ _).mono hb.out.size)⟩
      have sw : IntKind.u64.wrap ((seq : Int) + (j : Int)) = ((seq + j : Nat) : Int) := by have := wrap_u64_nat (n := seq + j) (by omega); rw [← this]; congr 1
      have jw : IntKind.u64.wrap (j : Int) = (j : Int) := wrap_u64_nat (by omega)
      have hxl : xs.size ≤ 281474976710656 := by omega
      have hvl : xv.size ≤ 281474976710656 := by omega
      go_upto_region 7 with fail
      generalize wr.alloc (.cells #[.int .i64 xk, .string xs, .string xv] 44) = V0 at *
      have hRb : Hid (w1.heap.size < wr.heap.size) := Lib.hid (by obtain ⟨cur, h1, _⟩ := hR.out; exact (Array.getElem?_eq_some_iff.1 h1).1)
      generalize wr.heap.size = wb at *
      clear e0 e1 e2 x0 x1
      have f0 : V0.cell? ⟨wb, 0, none⟩ = some (.int .i64 xk) := E0.out.cell 0
      have f1 : V0.cell? ⟨wb, 1, none⟩ = some (.string xs) := E0.out.cell 1
      have f2 : V0.cell? ⟨wb, 2, none⟩ = some (.string xv) := E0.out.cell 2
      obtain ⟨p0, p1, _, _⟩ := cs.out _ E0.out.bel
      have hwb : w1.heap.size < wb := hRb.out
      have s0 : Hid (V0.cell? ⟨wb, 0, none⟩ = some (.int .i64 xk) ∧ V0.cell? ⟨wb, 1, none⟩ = some (.string xs) ∧ V0.cell? ⟨wb, 2, none⟩ = some (.string xv) ∧ V0.cell? ⟨w.heap.size, 0, none⟩ = some (.int .u64 (seq : Int))) := Lib.hid ⟨f0, f1, f2, p0⟩
      have keepS : Hid (∀ (u : World) (k : Nat) (y : Value), (u.cell? ⟨wb, 0, none⟩ = some (.int .i64 xk) ∧ u.cell? ⟨wb, 1, none⟩ = some (.string xs) ∧ u.cell? ⟨wb, 2, none⟩ = some (.string xv) ∧ u.cell? ⟨w.heap.size, 0, none⟩ = some (.int .u64 (seq : Int))) →
          ((u.setCell ⟨w1.heap.size, k, none⟩ y).cell? ⟨wb, 0, none⟩ = some (.int .i64 xk) ∧ (u.setCell ⟨w1.heap.size, k, none⟩ y).cell? ⟨wb, 1, none⟩ = some (.string xs) ∧ (u.setCell ⟨w1.heap.size, k, none⟩ y).cell? ⟨wb, 2, none⟩ = some (.string xv) ∧ (u.setCell ⟨w1.heap.size, k, none⟩ y).cell? ⟨w.heap.size, 0, none⟩ = some (.int .u64 (seq : Int)))) := Lib.hid fun u k y ⟨h0, h1, h2, h3⟩ =>
        ⟨(World.cell?_setCell_other _ _ _ _ (by first | (simp; done) | (simp; omega))).trans h0, (World.cell?_setCell_other _ _ _ _ (by first | (simp; done) | (simp; omega))).trans h1, (World.cell?_setCell_other _ _ _ _ (by first | (simp; done) | (simp; omega))).trans h2, (World.cell?_setCell_other _ _ _ _ (by first | (simp; done) | (simp; omega))).trans h3⟩
      go_region_held (fun v => v.cell? ⟨wb, 0, none⟩ = some (.int .i64 xk) ∧ v.cell? ⟨wb, 1, none⟩ = some (.string xs) ∧ v.cell? ⟨wb, 2, none⟩ = some (.string xv) ∧ v.cell? ⟨w.heap.size, 0, none⟩ = some (.int .u64 (seq : Int)))
        (first
          | with_reducible exact s2.out
          | with_reducible exact s1.out
          | exact s0.out
          | exact keepS.out _ _ _ (keepS.out _ _ _ (keepS.out _ _ _ (keepS.out _ _ _ s2.out))))
        (first
          | (go_at_call 36
             ((with_reducible refine (CL.out xs hxl _).mono ?_); rintro e u1 ⟨rfl, q1⟩)
             have E1 : Hid (REnc wb w1.heap.size n seq j l #[.int .i64 xk, .string xs, .string xv] w1 u1) := Lib.hid (E0.out.below ⟨q1.os, q1.tape, q1.output, q1.size, q1.block⟩)
             have s1 : Hid (u1.cell? ⟨wb, 0, none⟩ = some (.int .i64 xk) ∧ u1.cell? ⟨wb, 1, none⟩ = some (.string xs) ∧ u1.cell? ⟨wb, 2, none⟩ = some (.string xv) ∧ u1.cell? ⟨w.heap.size, 0, none⟩ = some (.int .u64 (seq : Int))) := Lib.hid ⟨E1.out.cell 0, E1.out.cell 1, E1.out.cell 2, (cs.out _ E1.out.bel).1⟩
             have q1 := Lib.hid q1)
          | (go_at_call 36
             ((with_reducible refine (CL.out xv hvl _).mono ?_); rintro e u2 ⟨rfl, q2⟩)
             have E2 : Hid (REnc wb w1.heap.size n seq j l #[.int .i64 xk, .string xs, .string xv] w1 u2) := Lib.hid (E1.out.below q2)
             have s2 : Hid (u2.cell? ⟨wb, 0, none⟩ = some (.int .i64 xk) ∧ u2.cell? ⟨wb, 1, none⟩ = some (.string xs) ∧ u2.cell? ⟨wb, 2, none⟩ = some (.string xv) ∧ u2.cell? ⟨w.heap.size, 0, none⟩ = some (.int .u64 (seq : Int))) := Lib.hid ⟨E2.out.cell 0, E2.out.cell 1, E2.out.cell 2, (cs.out _ E2.out.bel).1⟩
             have q2 := Lib.hid q2
             obtain ⟨⟨g0, hg0⟩, ⟨g1, hg1⟩, ⟨g2, hg2⟩, ⟨g3, hg3⟩, gf⟩ := E2.out.rs.cells hlt
             have gf0 := gf (j * 4)
             have gf1 := gf (j * 4 + 1)
             have gf2 := gf (j * 4 + 2)
             have gf3 := gf (j * 4 + 3)
             clear gf))
      all_goals (
        have R9 := Lib.hid (E2.out.rs.put (x := ⟨xk, xs, xv⟩) hlt hx.out)
        have B9 := Lib.hid ((((E2.out.bel.setCell (p := ⟨w1.heap.size, j * 4, none⟩) (Nat.le_refl _) (.string xs)).setCell (p := ⟨w1.heap.size, j * 4 + 1, none⟩) (Nat.le_refl _) (.int .u64 ((seq + j : Nat) : Int))).setCell (p := ⟨w1.heap.size, j * 4 + 2, none⟩) (Nat.le_refl _) (.int .i64 xk)).setCell (p := ⟨w1.heap.size, j * 4 + 3, none⟩) (Nat.le_refl _) (.string xv))
        clear E0 E1 E2 s0 s1 s2 keepS f0 f1 f2 p0 p1 hg0 hg1 hg2 hg3 gf0 gf1 gf2 gf3 hR hb hx q1 q2 CL
        go_wp2_with fail
        go_roundw
        case rel => exact ⟨j + 1, by omega, by go_num, R9.out, B9.out⟩
        case measure => simp [intOf]; omega)
    · have hjn : j = n := by omega
      subst hjn
      go_wp2_with fail
      go_returns
      exact ⟨⟨w1.heap.size, rfl, by omega, hR⟩, hb2.out.trans (hb.mono hb2.out.size)⟩
set_option maxRecDepth 100000 in
set_option maxHeartbeats 1000000 in
theorem rows_bad {seq : Nat} {a : Option Addr} {n c b o : Nat} {l : List Wr} {w : World} (h : Ws a n c b o l w) (hc : chkB seq l ≠ 0) :
    Calls Try.prog 18 #[batchV seq a n c] w fun e w' => e = .returned (.slice none 0 0) ∧ Below w.heap.size w w' := by
  obtain ⟨c0, c1⟩ := box_batch w seq (.slice a n c)
  have K := Lib.hid (below_alloc w (.cells #[.int .u64 (seq : Int), .slice a n c] 25))
  have C := Lib.hid (check_any (seq := seq) (h.below K.out (Nat.le_refl _)))
  obtain ⟨R, hR⟩ := named (chkB seq l)
  rw [← hR.out] at C hc
  have hcb : (R != 0) = true := by simpa using hc
  clear h hR
  go_enter Try.func18, Try.ntmps18
  go_wp2_with fail
  refine C.out.mono ?_
  rintro e w1 ⟨rfl, hb1⟩
  have hb := Lib.hid (K.out.trans (hb1.mono K.out.size))
  clear C hb1 K
  go_wp2_with fail
  go_returns
  exact ⟨rfl, hb.out⟩
theorem rows_any {seq : Nat} {a : Option Addr} {n c b o : Nat} {l : List Wr} {w : World} (h : Ws a n c b o l w) : Calls Try.prog 18 #[batchV seq a n c] w (RowsB seq l w) := by
  by_cases hc : chkB seq l = 0
  · refine (rows_good h hc).mono fun e w' hP => ?_
    unfold RowsB
    rw [if_pos hc, h.len]
    exact hP
  · refine (rows_bad h hc).mono fun e w' hP => ?_
    unfold RowsB
    rw [if_neg hc]
    exact hP
end Go.Proofs.Ytaanclnppfpocaa
