/-
  BatchCut: a batch that is cut into two, the second of which may be, has their rows together. No condition.
-/
import Derived.Test.YtaanclnppfpocaaBatchAwake
import Derived.Test.YtaanclnppfpocaaBatchOwn
import Derived.Test.YtaanclnppfpocaaBatchSameRef
import Derived.Test.YtaanclnppfpocaaBatchArg
import Derived.Deep.RegionHeld
import Derived.Deep.RegionHeldLaw
import Derived.Deep.DrawnRows
namespace Go.Proofs.Ytaanclnppfpocaa
open Go.RowKit
attribute [local go_sem ↓] Go.wp_at_zero Go.wp_at_succ
theorem rows_rs {s : Nat} {a : Option Addr} {n c b o : Nat} {l : List Wr} {u : World} (hu : Ws a n c b o l u) (hc : chkB s l = 0) :
    Calls Try.prog 18 #[batchV s a n c] u fun e w' => ∃ g, e = .returned (.slice (some ⟨g, 0, none⟩) n n) ∧ Rs (some ⟨g, 0, none⟩) n n g 0 (rowsFrom s l) w' ∧ Below u.heap.size u w' := (rows_any hu).mono fun e w' hh => by
  obtain ⟨k0, _⟩ := chkB_ok hc
  have hlen := hu.len
  obtain ⟨a', n', c', b', he, hr, _, hb⟩ := rs_of_rows hh
  unfold rowsB at hr
  rw [if_pos hc] at hr
  have h1' := hh.1
  rw [if_pos hc] at h1'
  obtain ⟨g, he2, _⟩ := h1'
  rw [he] at he2
  simp only [Ending.returned.injEq, Value.slice.injEq] at he2
  obtain ⟨rfl, rfl, rfl⟩ := he2
  rw [hlen] at he hr
  have hb2 := (hr.addr (by omega)).1
  simp only [Option.some.injEq, Addr.mk.injEq] at hb2
  obtain ⟨rfl, _⟩ := hb2
  exact ⟨g, he, hr, hb⟩
theorem own_below {w w' : World} {B : Nat} {e : TypeId} {size n : Nat} {v : Value} {xs : List Value} (h : w.ownsRow B e size v n xs) (hb : Below w.heap.size w w') : w'.ownsRow B e size v n xs := by
  refine ⟨h.1, ?_⟩
  rcases h.2 with e | ⟨g, cap, cur, e, a, b, c⟩
  · exact .inl e
  · exact .inr ⟨g, cap, cur, e, a, (hb.block g (Array.getElem?_eq_some_iff.1 b).1).trans b, c⟩
theorem row_of_rs {a : Option Addr} {n c b o : Nat} {l : List Rw} {w : World} (h : Rs a n c b o l w) : ∀ j u, (rowR l)[j]? = some u → w.cell? ((⟨b, o, none⟩ : Addr).add j) = some u := by
  intro j u hj
  rw [addr_at]
  have hlt : j < l.length * 4 := by have := (List.getElem?_eq_some_iff.1 hj).1; rwa [rowR_len] at this
  obtain ⟨q, r, hq, hr⟩ : ∃ q r, j = q * 4 + r ∧ r < 4 := ⟨j / 4, j % 4, by omega, Nat.mod_lt _ (by omega)⟩
  subst hq
  have hql : q < l.length := by omega
  obtain ⟨e0, e1, e2, e3⟩ := rowR_at l q (List.getElem?_eq_getElem hql)
  obtain ⟨c0, c1, c2, c3⟩ := h.at' q _ (List.getElem?_eq_getElem hql)
  match r, hr with
  | 0, _ => rw [← hj]; exact c0.trans e0.symm
  | 1, _ => rw [← hj]; exact c1.trans e1.symm
  | 2, _ => rw [← hj]; exact c2.trans e2.symm
  | 3, _ => rw [← hj]; exact c3.trans e3.symm
theorem rowR_one (l : List Rw) : ∀ u ∈ rowR l, u.oneCell' = true := by
  intro u hu
  unfold rowR at hu
  obtain ⟨x, _, hx⟩ := List.mem_flatMap.1 hu
  simp only [List.mem_cons, List.not_mem_nil, or_false] at hx
  rcases hx with rfl | rfl | rfl | rfl <;> rfl
/-- 'append(a, b...)' of rows at a step of a region: a the call's own, b a slice of rows that is not nil. -/
theorem step_append_rs {ops : Array Oper} {o : Oper} {a : Act} {w : World} {K : Act → World → Prop} {Q : Exit → Act → World → Prop} {E : Prop} (hgd : o.guard = none) (s x : Operand)
    (ho : o.op = .call { callee := .builtin .append, args := #[s, x], argTypes := #[37, 37] })
    (B : Nat) (v : Value) (k : Nat) (l0 : List Rw) (n c g : Nat) (l : List Rw) (hown : w.ownsRow B 40 4 v k (rowR l0)) (hsrc : Rs (some ⟨g, 0, none⟩) n c g 0 l w) (hs : a.eval s = v) (hx : a.eval x = .slice (some ⟨g, 0, none⟩) n c) (hk : k ≤ 1000000) (hn : n ≤ 1000000) (hB : B ≤ w.heap.size)
    (h : ∀ v' w', w'.ownsRow B 40 4 v' (k + n) (rowR (l0 ++ l)) → w.grownBy w' v.ownBlock → (∃ va vc, v' = .slice va (k + n) vc) → K (a.put o.dst v') w') :
    if Region.wanted o (yielded ops a.tmps) = true then Oper.wp Try.prog o a w K Q else E := by
  have hw : Region.wanted o (yielded ops a.tmps) = true := by simp [Region.wanted, hgd]
  rw [if_pos hw]
  obtain ⟨i0, hi, hz0, hz1, hz2⟩ := info_parts (show (Try.prog.info? 40).map (fun i => (i.zero, i.size, i.bytes)) = some (some (.agg #[.string .empty, .int .u64 0, .int .i64 0, .string .empty]), 4, 48) by kernel_rfl)
  have hl := hsrc.len
  refine wp_append_own w s x 37 ho B 40 i0 _ 4 48 Try.underlying37 hi hz0 hz1 hz2 rfl (by decide) v k (rowR l0) hs hown ⟨g, 0, none⟩ n c (rowR l) hx (by rw [rowR_len, hl]) (row_of_rs hsrc) (rowR_one l) (by unfold maxLen; omega) (by omega) hB fun v' w' h1 h2 h3 => ?_
  rw [← rowR_app] at h1
  refine h v' w' h1 h2 ?_
  rcases h1.2 with ⟨e, e0⟩ | ⟨g', cap, cur, e, _⟩
  · exact ⟨none, 0, by rw [e, e0]⟩
  · exact ⟨_, _, e⟩
set_option maxRecDepth 100000 in
set_option maxHeartbeats 4000000 in
/-- Where nothing is cut. -/
theorem cut_no (s : Nat) (p : Option Addr) (n c b o : Nat) (l : List Wr) (at' : Int) (h64 : -9223372036854775808 ≤ at' ∧ at' ≤ 9223372036854775807) (w : World) (hA : Ws p n c b o l w) (hno : ¬ n ≤ 300 ∨ chkB s l ≠ 0 ∨ at' < 1 ∨ (n : Int) ≤ at') :
    Calls Try.prog 7 #[batchV s p n c, .int .i64 at'] w fun e w' => e = .returned (.bool true) ∧ Below w.heap.size w w' := by
  have AW := Lib.hid fun u => awake_any u
  have hz1 := hA.most
  have hz2 := hA.cap
  have K := Lib.hid (below_alloc w (.cells #[.int .u64 (s : Int), .slice p n c] 25))
  have E0 := Lib.hid (heap_alloc_new w (.cells #[.int .u64 (s : Int), .slice p n c] 25))
  obtain ⟨x0, x1⟩ := pair_cells E0.out
  have CK := Lib.hid (check_any (seq := s) (hA.below K.out (Nat.le_refl _)))
  obtain ⟨R, hR⟩ := named (chkB s l)
  rw [← hR.out] at CK hno
  clear hA hR
  by_cases q0 : n ≤ 300
  · have d1 : decide ((300 : Int) < (n : Int)) = false := by rw [decide_eq_false_iff_not]; omega
    go_enter Try.func7, Try.ntmps7
    go_wp2_with fail
    generalize w.alloc (.cells #[.int .u64 (s : Int), .slice p n c] 25) = V0 at *
    refine CK.out.mono ?_
    rintro e V1 ⟨rfl, q1⟩
    have K1 := Lib.hid (K.out.trans (q1.mono K.out.size))
    obtain ⟨y0, y1⟩ := pair_cells ((q1.block w.heap.size (Array.getElem?_eq_some_iff.1 E0.out).1).trans E0.out)
    clear x0 x1 q1 K E0 CK
    have hall : (R != 0) = true ∨ ((R != 0) = false ∧ decide (at' < 1) = true) ∨ ((R != 0) = false ∧ decide (at' < 1) = false ∧ decide ((n : Int) ≤ at') = true) := by
      simp only [bne_iff_ne, bne_eq_false_iff_eq, decide_eq_true_eq, decide_eq_false_iff_not]
      omega
    clear hno
    rcases hall with r1 | ⟨r1, r2⟩ | ⟨r1, r2, r3⟩
    all_goals
      go_wp2_with fail
      refine (AW.out _).mono ?_
      rintro e w' ⟨rfl, hb⟩
      go_wp2_with fail
      go_returns
      exact ⟨rfl, K1.out.trans (hb.mono K1.out.size)⟩
  · have d1 : decide ((300 : Int) < (n : Int)) = true := by rw [decide_eq_true_eq]; omega
    clear CK hno
    go_enter Try.func7, Try.ntmps7
    go_wp2_with fail
    refine (AW.out _).mono ?_
    rintro e w' ⟨rfl, hb⟩
    go_wp2_with fail
    go_returns
    exact ⟨rfl, K.out.trans (hb.mono K.out.size)⟩
/-- What stands in the walk behind the cut. -/
structure CS (N5 N6 s k n c b o : Nat) (l : List Wr) (w V : World) : Prop where
  f0 : V.heap[w.heap.size]? = some (.cells #[.int .u64 (s : Int), .slice (some ⟨b, o, none⟩) n c] 25 (0, 0))
  f5 : V.heap[N5]? = some (.cells #[.int .u64 (s : Int), .slice (some ⟨b, o, none⟩) k c] 25 (0, 0))
  f6 : V.heap[N6]? = some (.cells #[.int .u64 ((s : Int) + (k : Int)), .slice (some ⟨b, o + k * 3, none⟩) (n - k) (c - k)] 25 (0, 0))
  wa : Ws (some ⟨b, o, none⟩) n c b o l V
  bel : Below w.heap.size w V
theorem CS.below {N5 N6 s k n c b o : Nat} {l : List Wr} {w V V' : World} (h : CS N5 N6 s k n c b o l w V) (hb : Below V.heap.size V V') : CS N5 N6 s k n c b o l w V' :=
  ⟨(hb.block _ (Array.getElem?_eq_some_iff.1 h.f0).1).trans h.f0, (hb.block _ (Array.getElem?_eq_some_iff.1 h.f5).1).trans h.f5, (hb.block _ (Array.getElem?_eq_some_iff.1 h.f6).1).trans h.f6, h.wa.below hb (Nat.le_refl _), h.bel.trans (hb.mono h.bel.size)⟩
theorem CS.cells {N5 N6 s k n c b o : Nat} {l : List Wr} {w V : World} (h : CS N5 N6 s k n c b o l w V) : V.cell? ⟨w.heap.size, 0, none⟩ = some (.int .u64 (s : Int)) ∧ V.cell? ⟨w.heap.size, 1, none⟩ = some (.slice (some ⟨b, o, none⟩) n c) ∧ V.cell? ⟨N5, 0, none⟩ = some (.int .u64 (s : Int)) ∧ V.cell? ⟨N5, 1, none⟩ = some (.slice (some ⟨b, o, none⟩) k c) ∧
    V.cell? ⟨N6, 0, none⟩ = some (.int .u64 ((s : Int) + (k : Int))) ∧ V.cell? ⟨N6, 1, none⟩ = some (.slice (some ⟨b, o + k * 3, none⟩) (n - k) (c - k)) :=
  ⟨(pair_cells h.f0).1, (pair_cells h.f0).2, (pair_cells h.f5).1, (pair_cells h.f5).2, (pair_cells h.f6).1, (pair_cells h.f6).2⟩
theorem CS.one {N5 N6 s k n c b o : Nat} {l : List Wr} {w V : World} (h : CS N5 N6 s k n c b o l w V) (hk : k ≤ n) : Ws (some ⟨b, o, none⟩) k c b o (l.take k) V := h.wa.take hk
theorem CS.two {N5 N6 s k n c b o : Nat} {l : List Wr} {w V : World} (h : CS N5 N6 s k n c b o l w V) (hk : k < n) : Ws (some ⟨b, o + k * 3, none⟩) (n - k) (c - k) b (o + k * 3) (l.drop k) V := h.wa.drop hk
set_option maxRecDepth 100000 in
set_option maxHeartbeats 8000000 in
theorem cut_main (s : Nat) (p : Option Addr) (n c b o : Nat) (l : List Wr) (k : Nat) (w : World) (hA : Ws p n c b o l w) (h300 : n ≤ 300) (hc : chkB s l = 0) (hk1 : 1 ≤ k) (hk2 : k < n) :
    Calls Try.prog 7 #[batchV s p n c, .int .i64 (k : Int)] w fun e w' => e = .returned (.bool true) ∧ Below w.heap.size w w' := by
  have AW := Lib.hid fun u => awake_any u
  obtain ⟨k0, k1, k2, k3, k4⟩ := chkB_ok hc
  have hz1 := hA.most
  have hz2 := hA.cap
  have hlen := hA.len
  rw [hlen] at k3
  obtain ⟨rfl, _⟩ := hA.addr (by omega)
  have K := Lib.hid (below_alloc w (.cells #[.int .u64 (s : Int), .slice (some ⟨b, o, none⟩) n c] 25))
  have E0 := Lib.hid (heap_alloc_new w (.cells #[.int .u64 (s : Int), .slice (some ⟨b, o, none⟩) n c] 25))
  obtain ⟨x0, x1⟩ := pair_cells E0.out
  have CK := Lib.hid (check_any (seq := s) (hA.below K.out (Nat.le_refl _)))
  rw [hc] at CK
  have d1 : decide ((300 : Int) < (n : Int)) = false := by rw [decide_eq_false_iff_not]; omega
  have d2 : decide ((k : Int) < 1) = false := by rw [decide_eq_false_iff_not]; omega
  have d3 : decide ((n : Int) ≤ (k : Int)) = false := by rw [decide_eq_false_iff_not]; omega
  have c1 : Hid (chkB s (l.take k) = 0) := Lib.hid (chkB_made (by rw [List.length_take]; omega) k1 k2 (by rw [List.length_take]; omega) fun x hx => k4 x (List.mem_of_mem_take hx))
  have c2 : Hid (chkB (s + k) (l.drop k) = if s + k ≤ 72057594037927872 then 0 else 2) := Lib.hid (by
    split
    · exact chkB_made (by rw [List.length_drop]; omega) (by omega) (by omega) (by rw [List.length_drop]; omega) fun x hx => k4 x (List.mem_of_mem_drop hx)
    · exact chkB_arg (by omega))
  have hn1 : Hid (nextB s (l.take k) = s + k) := Lib.hid (by unfold nextB; rw [if_pos c1.out, List.length_take]; omega)
  have NX := Lib.hid fun u (hu : Ws (some ⟨b, o, none⟩) k c b o (l.take k) u) => next_batch (seq := s) hu
  rw [hn1.out] at NX
  have SU := slice_upto b o n c k (by omega)
  have SF := slice_from b o n c k hk2 hz2
  have hA := Lib.hid hA
  clear k4
  go_enter Try.func7, Try.ntmps7
  go_wp2_with fail
  generalize w.alloc (.cells #[.int .u64 (s : Int), .slice (some ⟨b, o, none⟩) n c] 25) = V0 at *
  refine CK.out.mono ?_
  rintro e V1 ⟨rfl, q1⟩
  have K1 := Lib.hid (K.out.trans (q1.mono K.out.size))
  have E1 := Lib.hid ((q1.block w.heap.size (Array.getElem?_eq_some_iff.1 E0.out).1).trans E0.out)
  clear x0 x1
  obtain ⟨x0, x1⟩ := pair_cells E1.out
  have hlt1 : w.heap.size < V1.heap.size := (Array.getElem?_eq_some_iff.1 E1.out).1
  have hne1 : ¬ w.heap.size = V1.heap.size := by omega
  clear q1 K E0 CK
  go_wp2_with fail
  go_region_held (fun v => v.cell? ⟨w.heap.size, 0, none⟩ = some (.int .u64 (s : Int)) ∧ v.cell? ⟨w.heap.size, 1, none⟩ = some (.slice (some ⟨b, o, none⟩) n c))
    (go_keep)
    (fail)
  go_upto_region 4 with fail
  have K2 : Hid (Below w.heap.size w (V1.alloc (.cells #[.int .u64 (s : Int), .slice (some ⟨b, o, none⟩) k c] 25)).drew) := Lib.hid (K1.out.alloc K1.out.size _).drew
  have E2 : Hid ((V1.alloc (.cells #[.int .u64 (s : Int), .slice (some ⟨b, o, none⟩) k c] 25)).drew.heap[w.heap.size]? = some (.cells #[.int .u64 (s : Int), .slice (some ⟨b, o, none⟩) n c] 25 (0, 0))) := Lib.hid ((Lib.alloc_old V1 (.cells #[.int .u64 (s : Int), .slice (some ⟨b, o, none⟩) k c] 25) _ hlt1).trans E1.out)
  have G2 : Hid ((V1.alloc (.cells #[.int .u64 (s : Int), .slice (some ⟨b, o, none⟩) k c] 25)).drew.heap[V1.heap.size]? = some (.cells #[.int .u64 (s : Int), .slice (some ⟨b, o, none⟩) k c] 25 (0, 0))) := Lib.hid (heap_alloc_new V1 _)
  clear x0 x1 hne1 K1 E1
  generalize (V1.alloc (.cells #[.int .u64 (s : Int), .slice (some ⟨b, o, none⟩) k c] 25)).drew = V2 at *
  generalize V1.heap.size = N5 at *
  obtain ⟨x0, x1⟩ := pair_cells E2.out
  obtain ⟨y0, y1⟩ := pair_cells G2.out
  have hlt2 : w.heap.size < V2.heap.size := (Array.getElem?_eq_some_iff.1 E2.out).1
  have hlt3 : N5 < V2.heap.size := (Array.getElem?_eq_some_iff.1 G2.out).1
  have kc : ∀ u, Below V2.heap.size V2 u → u.cell? ⟨w.heap.size, 0, none⟩ = some (.int .u64 (s : Int)) ∧ u.cell? ⟨w.heap.size, 1, none⟩ = some (.slice (some ⟨b, o, none⟩) n c) ∧ u.cell? ⟨N5, 0, none⟩ = some (.int .u64 (s : Int)) ∧ u.cell? ⟨N5, 1, none⟩ = some (.slice (some ⟨b, o, none⟩) k c) := fun u hu =>
    ⟨(hu.cell (p := ⟨w.heap.size, 0, none⟩) hlt2).trans x0, (hu.cell (p := ⟨w.heap.size, 1, none⟩) hlt2).trans x1, (hu.cell (p := ⟨N5, 0, none⟩) hlt3).trans y0, (hu.cell (p := ⟨N5, 1, none⟩) hlt3).trans y1⟩
  have kc := Lib.hid kc
  have W1 : Hid (Ws (some ⟨b, o, none⟩) k c b o (l.take k) V2.drew) := Lib.hid (((hA.out.below K2.out (Nat.le_refl _)).take (by omega)).keep (fun _ => rfl) (Nat.le_refl _))
  have W1b : Hid (Ws (some ⟨b, o, none⟩) k c b o (l.take k) (V2.alloc (.cells #[.int .u64 0, .slice none 0 0] 25)).drew) := Lib.hid ((((hA.out.below K2.out (Nat.le_refl _)).take (by omega)).below (below_alloc V2 (.cells #[.int .u64 0, .slice none 0 0] 25)) (Nat.le_refl _)).keep (fun _ => rfl) (Nat.le_refl _))
  have made : Hid (∀ V N6, Below V2.heap.size V2 V → V.heap[N6]? = some (.cells #[.int .u64 ((s : Int) + (k : Int)), .slice (some ⟨b, o + k * 3, none⟩) (n - k) (c - k)] 25 (0, 0)) → CS N5 N6 s k n c b o l w V) := Lib.hid fun V N6 hb h6 =>
    ⟨(hb.block _ hlt2).trans E2.out, (hb.block _ hlt3).trans G2.out, h6, (hA.out.below K2.out (Nat.le_refl _)).below hb (Nat.le_refl _), K2.out.trans (hb.mono K2.out.size)⟩
  have hn6 : ¬ w.heap.size = V2.heap.size := by omega
  have hn7 : ¬ N5 = V2.heap.size := by omega
  have hn8 : ¬ V2.heap.size = w.heap.size := by omega
  have hn9 : ¬ V2.heap.size = N5 := by omega
  go_cut [6] from 35 to 41 (fun p wc => ∃ N6, p = .pointer (some ⟨N6, 0, none⟩) ∧ CS N5 N6 s k n c b o l w wc)
  case first =>
    go_region_held (fun v => v.cell? ⟨w.heap.size, 0, none⟩ = some (.int .u64 (s : Int)) ∧ v.cell? ⟨w.heap.size, 1, none⟩ = some (.slice (some ⟨b, o, none⟩) n c) ∧ v.cell? ⟨N5, 0, none⟩ = some (.int .u64 (s : Int)) ∧ v.cell? ⟨N5, 1, none⟩ = some (.slice (some ⟨b, o, none⟩) k c))
      (first
        | go_keep
        | (refine ⟨(World.cell?_setCell_other _ _ _ _ ?_).trans ((World.cell?_setCell_other _ _ _ _ ?_).trans t0), (World.cell?_setCell_other _ _ _ _ ?_).trans ((World.cell?_setCell_other _ _ _ _ ?_).trans t1), (World.cell?_setCell_other _ _ _ _ ?_).trans ((World.cell?_setCell_other _ _ _ _ ?_).trans t2), (World.cell?_setCell_other _ _ _ _ ?_).trans ((World.cell?_setCell_other _ _ _ _ ?_).trans t3)⟩ <;> (simp; omega)))
      (first
        | (go_at_call 21
           ((with_reducible refine (NX.out _ ?_).mono ?_); first | with_reducible exact W1.out | with_reducible exact W1b.out | exact W1.out | exact W1b.out | skip)
           rintro e V3 ⟨rfl, q3⟩
           have b3 : Hid (Below V2.heap.size V2 V3) := Lib.hid (by first | exact ⟨q3.os, q3.tape, q3.output, q3.size, q3.block⟩ | exact (below_alloc V2 (.cells #[.int .u64 0, .slice none 0 0] 25)).trans ((⟨q3.os, q3.tape, q3.output, q3.size, q3.block⟩ : Below (V2.alloc (.cells #[.int .u64 0, .slice none 0 0] 25)).heap.size (V2.alloc (.cells #[.int .u64 0, .slice none 0 0] 25)) V3).mono (by simp)))
           obtain ⟨t0, t1, t2, t3⟩ := kc.out V3 b3.out
           have lt0 : w.heap.size < V3.heap.size := World.block_lt_of_cell? _ _ t0
           have lt1 : N5 < V3.heap.size := World.block_lt_of_cell? _ _ t2
           have ln0 : ¬ w.heap.size = V3.heap.size := by omega
           have ln1 : ¬ N5 = V3.heap.size := by omega
           first | (have m : V3.heap[V2.heap.size]? = some (.cells #[.int .u64 0, .slice none 0 0] 25 (0, 0)) := (q3.block _ (by show V2.heap.size < (V2.alloc (.cells #[.int .u64 0, .slice none 0 0] 25)).heap.size; simp)).trans (heap_alloc_new V2 (.cells #[.int .u64 0, .slice none 0 0] 25)); obtain ⟨m0, m1, mf0, mf1⟩ := cell2 m; have m := Lib.hid m) | skip
           have q3 := Lib.hid q3))
    · go_wp2_with fail
      go_meet
      exact ⟨V3.heap.size, rfl, made.out _ _ ((b3.out.alloc b3.out.size _)) (heap_alloc_new V3 _)⟩
    · go_wp2_with fail
      go_meet
      refine ⟨V2.heap.size, rfl, made.out _ _ ?_ (res2 m.out _ _)⟩
      exact (b3.out.setCell (p := ⟨V2.heap.size, 0, none⟩) (Nat.le_refl _) _).setCell (p := ⟨V2.heap.size, 1, none⟩) (Nat.le_refl _) _
  case rest =>
    obtain ⟨N6, rfl, hC⟩ := hcut
    have eb : ∀ a' c', batchV (s + k) a' (n - k) c' = .agg #[.int .u64 ((s : Int) + (k : Int)), .slice a' (n - k) c'] := fun a' c' => by unfold batchV; rw [Int.natCast_add]
    have CKT := Lib.hid (check_any (seq := s + k) (hC.two hk2))
    rw [c2.out, eb] at CKT
    clear x0 x1 y0 y1 kc W1 W1b made hn6 hn7 hn8 hn9 hlt1 hlt2 hlt3 E2 G2 K2 SU SF
    obtain ⟨_, _, _, _, x4, x5⟩ := hC.cells
    have hC := Lib.hid hC
    by_cases hf : s + k ≤ 72057594037927872
    · rw [if_pos hf] at CKT
      go_wp2_with fail
      refine CKT.out.mono ?_
      rintro e V5 ⟨rfl, q5⟩
      have C5 := Lib.hid (hC.out.below q5)
      rw [if_pos hf] at c2
      clear x4 x5 CKT q5 hC
      have R1 : Hid (∀ u, Ws (some ⟨b, o, none⟩) k c b o (l.take k) u → Calls Try.prog 18 #[batchV s (some ⟨b, o, none⟩) k c] u fun e w' => ∃ g, e = .returned (.slice (some ⟨g, 0, none⟩) k k) ∧ Rs (some ⟨g, 0, none⟩) k k g 0 (rowsFrom s (l.take k)) w' ∧ Below u.heap.size u w') := Lib.hid fun u hu => rows_rs hu c1.out
      have R2 : Hid (∀ u, Ws (some ⟨b, o + k * 3, none⟩) (n - k) (c - k) b (o + k * 3) (l.drop k) u → Calls Try.prog 18 #[.agg #[.int .u64 ((s : Int) + (k : Int)), .slice (some ⟨b, o + k * 3, none⟩) (n - k) (c - k)]] u fun e w' => ∃ g, e = .returned (.slice (some ⟨g, 0, none⟩) (n - k) (n - k)) ∧ Rs (some ⟨g, 0, none⟩) (n - k) (n - k) g 0 (rowsFrom (s + k) (l.drop k)) w' ∧ Below u.heap.size u w') := Lib.hid fun u hu => by have := rows_rs hu c2.out; rw [eb] at this; exact this
      have R3 : Hid (∀ u, Ws (some ⟨b, o, none⟩) n c b o l u → Calls Try.prog 18 #[batchV s (some ⟨b, o, none⟩) n c] u fun e w' => ∃ g, e = .returned (.slice (some ⟨g, 0, none⟩) n n) ∧ Rs (some ⟨g, 0, none⟩) n n g 0 (rowsFrom s l) w' ∧ Below u.heap.size u w') := Lib.hid fun u hu => rows_rs hu hc
      have SR : Hid (∀ u a1 n1 c1 g1 a2 n2 c2 g2, Rs a1 n1 c1 g1 0 (rowsFrom s l) u → Rs a2 n2 c2 g2 0 (rowsFrom s l) u → Calls Try.prog 19 #[.slice a1 n1 c1, .slice a2 n2 c2] u fun e w' => e = .returned (.bool true) ∧ Below u.heap.size u w') := Lib.hid fun u a1 n1 c1 g1 a2 n2 c2 g2 h1' h2' => by
        have := samerows_any h1' h2'
        simpa using this
      have n2v : nextB (s + k) (l.drop k) = s + n := by unfold nextB; rw [if_pos c2.out, List.length_drop]; omega
      have n3v : nextB s l = s + n := by unfold nextB; rw [if_pos hc, hlen]
      have N2 : Hid (∀ u, Ws (some ⟨b, o + k * 3, none⟩) (n - k) (c - k) b (o + k * 3) (l.drop k) u → Calls Try.prog 21 #[.agg #[.int .u64 ((s : Int) + (k : Int)), .slice (some ⟨b, o + k * 3, none⟩) (n - k) (c - k)]] u fun e w' => e = .returned (.int .u64 ((s : Int) + (n : Int))) ∧ Below u.heap.size u w') := Lib.hid fun u hu => by have := next_batch (seq := s + k) hu; rw [eb, n2v, Int.natCast_add] at this; exact this
      have N3 : Hid (∀ u, Ws (some ⟨b, o, none⟩) n c b o l u → Calls Try.prog 21 #[batchV s (some ⟨b, o, none⟩) n c] u fun e w' => e = .returned (.int .u64 ((s : Int) + (n : Int))) ∧ Below u.heap.size u w') := Lib.hid fun u hu => by have := next_batch (seq := s) hu; rw [n3v, Int.natCast_add] at this; exact this
      have ee : (((s : Int) + (n : Int)) == ((s : Int) + (n : Int))) = true := by simp
      have hcat : Hid (rowsFrom s (l.take k) ++ rowsFrom (s + k) (l.drop k) = rowsFrom s l) := Lib.hid (by
        have := rowsFrom_cut s (l.take k) (l.drop k)
        rw [List.take_append_drop, List.length_take, Nat.min_eq_left (by omega)] at this
        exact this.symm)
      have hkn : Hid (k + (n - k) = n) := Lib.hid (by omega)
      have D1 : Hid (Ws (some ⟨b, o, none⟩) k c b o (l.take k) V5.drew) := Lib.hid ((C5.out.one (by omega)).keep (fun _ => rfl) (Nat.le_refl _))
      have D2 : Hid (Ws (some ⟨b, o, none⟩) k c b o (l.take k) (V5.alloc (.cells #[] 40)).drew) := Lib.hid (((C5.out.one (by omega)).below (below_alloc V5 (.cells #[] 40)) (Nat.le_refl _)).keep (fun _ => rfl) (Nat.le_refl _))
      clear n2v n3v eb NX
      have s5 : Hid (V5.cell? ⟨w.heap.size, 0, none⟩ = some (.int .u64 (s : Int)) ∧ V5.cell? ⟨w.heap.size, 1, none⟩ = some (.slice (some ⟨b, o, none⟩) n c) ∧ V5.cell? ⟨N5, 0, none⟩ = some (.int .u64 (s : Int)) ∧ V5.cell? ⟨N5, 1, none⟩ = some (.slice (some ⟨b, o, none⟩) k c) ∧ V5.cell? ⟨N6, 0, none⟩ = some (.int .u64 ((s : Int) + (k : Int))) ∧ V5.cell? ⟨N6, 1, none⟩ = some (.slice (some ⟨b, o + k * 3, none⟩) (n - k) (c - k))) := Lib.hid (C5.out).cells
      have s5b : Hid ((V5.alloc (.cells #[] 40)).cell? ⟨w.heap.size, 0, none⟩ = some (.int .u64 (s : Int)) ∧ (V5.alloc (.cells #[] 40)).cell? ⟨w.heap.size, 1, none⟩ = some (.slice (some ⟨b, o, none⟩) n c) ∧ (V5.alloc (.cells #[] 40)).cell? ⟨N5, 0, none⟩ = some (.int .u64 (s : Int)) ∧ (V5.alloc (.cells #[] 40)).cell? ⟨N5, 1, none⟩ = some (.slice (some ⟨b, o, none⟩) k c) ∧ (V5.alloc (.cells #[] 40)).cell? ⟨N6, 0, none⟩ = some (.int .u64 ((s : Int) + (k : Int))) ∧ (V5.alloc (.cells #[] 40)).cell? ⟨N6, 1, none⟩ = some (.slice (some ⟨b, o + k * 3, none⟩) (n - k) (c - k))) := Lib.hid (C5.out.below (below_alloc V5 (.cells #[] 40))).cells
      have hrl : l.length = n := hlen
      have l1 : Hid (k ≤ 1000000 ∧ n - k ≤ 1000000) := Lib.hid (by omega)
      go_wp2_with fail
      go_region_held_law (fun v => v.cell? ⟨w.heap.size, 0, none⟩ = some (.int .u64 (s : Int)) ∧ v.cell? ⟨w.heap.size, 1, none⟩ = some (.slice (some ⟨b, o, none⟩) n c) ∧ v.cell? ⟨N5, 0, none⟩ = some (.int .u64 (s : Int)) ∧ v.cell? ⟨N5, 1, none⟩ = some (.slice (some ⟨b, o, none⟩) k c) ∧ v.cell? ⟨N6, 0, none⟩ = some (.int .u64 ((s : Int) + (k : Int))) ∧ v.cell? ⟨N6, 1, none⟩ = some (.slice (some ⟨b, o + k * 3, none⟩) (n - k) (c - k)))
        (first
          | with_reducible exact s14.out
          | with_reducible exact s13.out
          | with_reducible exact s12.out
          | with_reducible exact s11.out
          | with_reducible exact s10.out
          | with_reducible exact s9.out
          | with_reducible exact s8.out
          | with_reducible exact s7.out
          | with_reducible exact s6.out
          | exact s5.out
          | exact s5b.out
          | exact s6b.out)
        (first
          | ((refine step_append_rs (by rfl) (.tmp 51) (.tmp 53) (by rfl) V5.heap.size _ 0 [] k k g1 (rowsFrom s (l.take k)) own0.out.1 own0.out.2.1 (by rfl) (by rfl) (Nat.zero_le _) l1.out.1 own0.out.2.2 ?_); intro v1 V7 o1 gr1 hv1; obtain ⟨va1, vc1, rfl⟩ := hv1; (have b7 : Hid (Below V5.heap.size V5 V7) := Lib.hid (below_grown bX.out.1 bX.out.2 gr1 (fun g' e' => (World.ownsRow.lt own0.out.1 g' e').1))); (have C7 := Lib.hid (C5.out.below b7.out)); (have s7 : Hid (V7.cell? ⟨w.heap.size, 0, none⟩ = some (.int .u64 (s : Int)) ∧ V7.cell? ⟨w.heap.size, 1, none⟩ = some (.slice (some ⟨b, o, none⟩) n c) ∧ V7.cell? ⟨N5, 0, none⟩ = some (.int .u64 (s : Int)) ∧ V7.cell? ⟨N5, 1, none⟩ = some (.slice (some ⟨b, o, none⟩) k c) ∧ V7.cell? ⟨N6, 0, none⟩ = some (.int .u64 ((s : Int) + (k : Int))) ∧ V7.cell? ⟨N6, 1, none⟩ = some (.slice (some ⟨b, o + k * 3, none⟩) (n - k) (c - k))) := Lib.hid (C7.out).cells); (have o1 := Lib.hid o1); (have gr1 := Lib.hid gr1))
          | ((refine step_append_rs (by rfl) (.tmp 54) (.tmp 56) (by rfl) V5.heap.size _ k ([] ++ rowsFrom s (l.take k)) (n - k) (n - k) g2 (rowsFrom (s + k) (l.drop k)) own1.out.1 own1.out.2.1 (by rfl) (by rfl) own1.out.2.2.1 l1.out.2 own1.out.2.2.2 ?_); intro v2 V9 o2 gr2 hv2; obtain ⟨va2, vc2, rfl⟩ := hv2; (have b9 : Hid (Below V5.heap.size V5 V9) := Lib.hid (below_grown b8.out b8.out.size gr2 (fun g' e' => (World.ownsRow.lt own1.out.1 g' e').1))); (have C9 := Lib.hid (C5.out.below b9.out)); (have s9 : Hid (V9.cell? ⟨w.heap.size, 0, none⟩ = some (.int .u64 (s : Int)) ∧ V9.cell? ⟨w.heap.size, 1, none⟩ = some (.slice (some ⟨b, o, none⟩) n c) ∧ V9.cell? ⟨N5, 0, none⟩ = some (.int .u64 (s : Int)) ∧ V9.cell? ⟨N5, 1, none⟩ = some (.slice (some ⟨b, o, none⟩) k c) ∧ V9.cell? ⟨N6, 0, none⟩ = some (.int .u64 ((s : Int) + (k : Int))) ∧ V9.cell? ⟨N6, 1, none⟩ = some (.slice (some ⟨b, o + k * 3, none⟩) (n - k) (c - k))) := Lib.hid (C9.out).cells); (have o2 := Lib.hid o2); (have gr2 := Lib.hid gr2))
          | (go_at_call 18
             ((with_reducible refine (R1.out _ ?_).mono ?_); first | with_reducible exact D1.out | with_reducible exact D2.out | exact D1.out | exact D2.out | skip)
             rintro e V6 ⟨g1, rfl, hr1, q6⟩
             have b6 : Hid (Below V5.heap.size V5 V6) := Lib.hid (by first | exact ⟨q6.os, q6.tape, q6.output, q6.size, q6.block⟩ | exact (below_alloc V5 (.cells #[] 40)).trans ((⟨q6.os, q6.tape, q6.output, q6.size, q6.block⟩ : Below (V5.alloc (.cells #[] 40)).heap.size (V5.alloc (.cells #[] 40)) V6).mono (by simp)))
             have C6 := Lib.hid (C5.out.below b6.out)
             have s6 : Hid (V6.cell? ⟨w.heap.size, 0, none⟩ = some (.int .u64 (s : Int)) ∧ V6.cell? ⟨w.heap.size, 1, none⟩ = some (.slice (some ⟨b, o, none⟩) n c) ∧ V6.cell? ⟨N5, 0, none⟩ = some (.int .u64 (s : Int)) ∧ V6.cell? ⟨N5, 1, none⟩ = some (.slice (some ⟨b, o, none⟩) k c) ∧ V6.cell? ⟨N6, 0, none⟩ = some (.int .u64 ((s : Int) + (k : Int))) ∧ V6.cell? ⟨N6, 1, none⟩ = some (.slice (some ⟨b, o + k * 3, none⟩) (n - k) (c - k))) := Lib.hid (C6.out).cells
             have s6b : Hid ((V6.alloc (.cells #[] 40)).cell? ⟨w.heap.size, 0, none⟩ = some (.int .u64 (s : Int)) ∧ (V6.alloc (.cells #[] 40)).cell? ⟨w.heap.size, 1, none⟩ = some (.slice (some ⟨b, o, none⟩) n c) ∧ (V6.alloc (.cells #[] 40)).cell? ⟨N5, 0, none⟩ = some (.int .u64 (s : Int)) ∧ (V6.alloc (.cells #[] 40)).cell? ⟨N5, 1, none⟩ = some (.slice (some ⟨b, o, none⟩) k c) ∧ (V6.alloc (.cells #[] 40)).cell? ⟨N6, 0, none⟩ = some (.int .u64 ((s : Int) + (k : Int))) ∧ (V6.alloc (.cells #[] 40)).cell? ⟨N6, 1, none⟩ = some (.slice (some ⟨b, o + k * 3, none⟩) (n - k) (c - k))) := Lib.hid (C6.out.below (below_alloc V6 (.cells #[] 40))).cells
             first
               | have own0 : Hid (V6.ownsRow V5.heap.size 40 4 (.slice (some ⟨V5.heap.size, 0, none⟩) 0 0) 0 (rowR []) ∧ Rs (some ⟨g1, 0, none⟩) k k g1 0 (rowsFrom s (l.take k)) V6 ∧ V5.heap.size ≤ V6.heap.size) := Lib.hid ⟨own_below (World.ownsRow_made V5 #[] 0 (Nat.le_refl _) (by unfold maxLen; omega) (by simp)) (⟨q6.os, q6.tape, q6.output, q6.size, q6.block⟩ : Below (V5.alloc (.cells #[] 40)).heap.size (V5.alloc (.cells #[] 40)) V6), hr1, b6.out.size⟩
                 have bX : Hid (Below V5.heap.size V5 V6 ∧ V5.heap.size ≤ V6.heap.size) := Lib.hid ⟨b6.out, b6.out.size⟩
               | have own0 : Hid ((V6.alloc (.cells #[] 40)).ownsRow V5.heap.size 40 4 (.slice (some ⟨V6.heap.size, 0, none⟩) 0 0) 0 (rowR []) ∧ Rs (some ⟨g1, 0, none⟩) k k g1 0 (rowsFrom s (l.take k)) (V6.alloc (.cells #[] 40)) ∧ V5.heap.size ≤ (V6.alloc (.cells #[] 40)).heap.size) := Lib.hid ⟨World.ownsRow_made V6 #[] 0 b6.out.size (by unfold maxLen; omega) (by simp), hr1.below (below_alloc V6 (.cells #[] 40)) (Nat.le_refl _), by have := b6.out.size; simp; omega⟩
                 have bX : Hid (Below V5.heap.size V5 (V6.alloc (.cells #[] 40)) ∧ V5.heap.size ≤ (V6.alloc (.cells #[] 40)).heap.size) := Lib.hid ⟨b6.out.alloc b6.out.size _, by have := b6.out.size; simp; omega⟩
             have hr1 := Lib.hid hr1
             have q6 := Lib.hid q6)
          | (go_at_call 18
             ((with_reducible refine (R2.out _ (C7.out.two hk2)).mono ?_); rintro e V8 ⟨g2, rfl, hr2, q8⟩)
             have b8 : Hid (Below V5.heap.size V5 V8) := Lib.hid (b7.out.trans ((⟨q8.os, q8.tape, q8.output, q8.size, q8.block⟩ : Below V7.heap.size V7 V8).mono b7.out.size))
             have C8 := Lib.hid (C5.out.below b8.out)
             have s8 : Hid (V8.cell? ⟨w.heap.size, 0, none⟩ = some (.int .u64 (s : Int)) ∧ V8.cell? ⟨w.heap.size, 1, none⟩ = some (.slice (some ⟨b, o, none⟩) n c) ∧ V8.cell? ⟨N5, 0, none⟩ = some (.int .u64 (s : Int)) ∧ V8.cell? ⟨N5, 1, none⟩ = some (.slice (some ⟨b, o, none⟩) k c) ∧ V8.cell? ⟨N6, 0, none⟩ = some (.int .u64 ((s : Int) + (k : Int))) ∧ V8.cell? ⟨N6, 1, none⟩ = some (.slice (some ⟨b, o + k * 3, none⟩) (n - k) (c - k))) := Lib.hid (C8.out).cells
             have own1 : Hid (V8.ownsRow V5.heap.size 40 4 (.slice va1 k vc1) k (rowR ([] ++ rowsFrom s (l.take k))) ∧ Rs (some ⟨g2, 0, none⟩) (n - k) (n - k) g2 0 (rowsFrom (s + k) (l.drop k)) V8 ∧ k ≤ 1000000 ∧ V5.heap.size ≤ V8.heap.size) := Lib.hid ⟨by have hz := own_below o1.out (⟨q8.os, q8.tape, q8.output, q8.size, q8.block⟩ : Below V7.heap.size V7 V8); rw [Nat.zero_add] at hz; exact hz, hr2, l1.out.1, b8.out.size⟩
             have hr2 := Lib.hid hr2
             have q8 := Lib.hid q8)
          | (go_at_call 18
             ((with_reducible refine (R3.out _ C9.out.wa).mono ?_); rintro e V10 ⟨g3, rfl, hr3, q10⟩)
             have b10 : Hid (Below V5.heap.size V5 V10) := Lib.hid (b9.out.trans ((⟨q10.os, q10.tape, q10.output, q10.size, q10.block⟩ : Below V9.heap.size V9 V10).mono b9.out.size))
             have C10 := Lib.hid (C5.out.below b10.out)
             have s10 : Hid (V10.cell? ⟨w.heap.size, 0, none⟩ = some (.int .u64 (s : Int)) ∧ V10.cell? ⟨w.heap.size, 1, none⟩ = some (.slice (some ⟨b, o, none⟩) n c) ∧ V10.cell? ⟨N5, 0, none⟩ = some (.int .u64 (s : Int)) ∧ V10.cell? ⟨N5, 1, none⟩ = some (.slice (some ⟨b, o, none⟩) k c) ∧ V10.cell? ⟨N6, 0, none⟩ = some (.int .u64 ((s : Int) + (k : Int))) ∧ V10.cell? ⟨N6, 1, none⟩ = some (.slice (some ⟨b, o + k * 3, none⟩) (n - k) (c - k))) := Lib.hid (C10.out).cells
             have rs2 : Hid (∃ g4, Rs va2 (k + (n - k)) vc2 g4 0 (rowsFrom s l) V10) := Lib.hid (by
               have hz := own_below o2.out (⟨q10.os, q10.tape, q10.output, q10.size, q10.block⟩ : Below V9.heap.size V9 V10)
               rw [List.nil_append, hcat.out] at hz
               have hl0 : k + (n - k) = (rowsFrom s l).length := by rw [rowsFrom_len, hrl, hkn.out]
               rw [hl0] at hz ⊢
               obtain ⟨a', c', b', hv, hR, _⟩ := rs_of_row hz
               simp only [Value.slice.injEq] at hv
               obtain ⟨rfl, _, rfl⟩ := hv
               exact ⟨b', hR⟩)
             have hr3 := Lib.hid hr3
             have q10 := Lib.hid q10)
          | (go_at_call 19
             (obtain ⟨g4, rs4⟩ := rs2.out)
             ((with_reducible refine (SR.out _ _ _ _ _ _ _ _ _ rs4 hr3.out).mono ?_); rintro e V11 ⟨rfl, q11⟩)
             have b11 : Hid (Below V5.heap.size V5 V11) := Lib.hid (b10.out.trans ((⟨q11.os, q11.tape, q11.output, q11.size, q11.block⟩ : Below V10.heap.size V10 V11).mono b10.out.size))
             have C11 := Lib.hid (C5.out.below b11.out)
             have s11 : Hid (V11.cell? ⟨w.heap.size, 0, none⟩ = some (.int .u64 (s : Int)) ∧ V11.cell? ⟨w.heap.size, 1, none⟩ = some (.slice (some ⟨b, o, none⟩) n c) ∧ V11.cell? ⟨N5, 0, none⟩ = some (.int .u64 (s : Int)) ∧ V11.cell? ⟨N5, 1, none⟩ = some (.slice (some ⟨b, o, none⟩) k c) ∧ V11.cell? ⟨N6, 0, none⟩ = some (.int .u64 ((s : Int) + (k : Int))) ∧ V11.cell? ⟨N6, 1, none⟩ = some (.slice (some ⟨b, o + k * 3, none⟩) (n - k) (c - k))) := Lib.hid (C11.out).cells
             have rs4 := Lib.hid rs4
             have q11 := Lib.hid q11)
          | (go_at_call 21
             ((with_reducible refine (N2.out _ (C11.out.two hk2)).mono ?_); rintro e V12 ⟨rfl, q12⟩)
             have b12 : Hid (Below V5.heap.size V5 V12) := Lib.hid (b11.out.trans ((⟨q12.os, q12.tape, q12.output, q12.size, q12.block⟩ : Below V11.heap.size V11 V12).mono b11.out.size))
             have C12 := Lib.hid (C5.out.below b12.out)
             have s12 : Hid (V12.cell? ⟨w.heap.size, 0, none⟩ = some (.int .u64 (s : Int)) ∧ V12.cell? ⟨w.heap.size, 1, none⟩ = some (.slice (some ⟨b, o, none⟩) n c) ∧ V12.cell? ⟨N5, 0, none⟩ = some (.int .u64 (s : Int)) ∧ V12.cell? ⟨N5, 1, none⟩ = some (.slice (some ⟨b, o, none⟩) k c) ∧ V12.cell? ⟨N6, 0, none⟩ = some (.int .u64 ((s : Int) + (k : Int))) ∧ V12.cell? ⟨N6, 1, none⟩ = some (.slice (some ⟨b, o + k * 3, none⟩) (n - k) (c - k))) := Lib.hid (C12.out).cells
             have q12 := Lib.hid q12)
          | (go_at_call 21
             ((with_reducible refine (N3.out _ C12.out.wa).mono ?_); rintro e V13 ⟨rfl, q13⟩)
             have b13 : Hid (Below V5.heap.size V5 V13) := Lib.hid (b12.out.trans ((⟨q13.os, q13.tape, q13.output, q13.size, q13.block⟩ : Below V12.heap.size V12 V13).mono b12.out.size))
             have C13 := Lib.hid (C5.out.below b13.out)
             have s13 : Hid (V13.cell? ⟨w.heap.size, 0, none⟩ = some (.int .u64 (s : Int)) ∧ V13.cell? ⟨w.heap.size, 1, none⟩ = some (.slice (some ⟨b, o, none⟩) n c) ∧ V13.cell? ⟨N5, 0, none⟩ = some (.int .u64 (s : Int)) ∧ V13.cell? ⟨N5, 1, none⟩ = some (.slice (some ⟨b, o, none⟩) k c) ∧ V13.cell? ⟨N6, 0, none⟩ = some (.int .u64 ((s : Int) + (k : Int))) ∧ V13.cell? ⟨N6, 1, none⟩ = some (.slice (some ⟨b, o + k * 3, none⟩) (n - k) (c - k))) := Lib.hid (C13.out).cells
             have q13 := Lib.hid q13)
          | (go_at_call 8
             ((with_reducible refine (AW.out _).mono ?_); rintro e V14 ⟨rfl, q14⟩)
             have b14 : Hid (Below V5.heap.size V5 V14) := Lib.hid (b13.out.trans ((⟨q14.os, q14.tape, q14.output, q14.size, q14.block⟩ : Below V13.heap.size V13 V14).mono b13.out.size))
             have C14 := Lib.hid (C5.out.below b14.out)
             have s14 : Hid (V14.cell? ⟨w.heap.size, 0, none⟩ = some (.int .u64 (s : Int)) ∧ V14.cell? ⟨w.heap.size, 1, none⟩ = some (.slice (some ⟨b, o, none⟩) n c) ∧ V14.cell? ⟨N5, 0, none⟩ = some (.int .u64 (s : Int)) ∧ V14.cell? ⟨N5, 1, none⟩ = some (.slice (some ⟨b, o, none⟩) k c) ∧ V14.cell? ⟨N6, 0, none⟩ = some (.int .u64 ((s : Int) + (k : Int))) ∧ V14.cell? ⟨N6, 1, none⟩ = some (.slice (some ⟨b, o + k * 3, none⟩) (n - k) (c - k))) := Lib.hid (C14.out).cells
             have q14 := Lib.hid q14))
      all_goals (
        go_wp2_with fail
        go_returns
        exact ⟨rfl, ⟨C14.out.bel.os, C14.out.bel.tape, C14.out.bel.output, C14.out.bel.size, C14.out.bel.block⟩⟩)
    · rw [if_neg hf] at CKT
      go_wp2_with fail
      refine CKT.out.mono ?_
      rintro e V5 ⟨rfl, q5⟩
      have C5 := Lib.hid (hC.out.below q5)
      have d6 : decide ((72057594037927872 : Int) < (s : Int) + (k : Int)) = true := by rw [decide_eq_true_eq]; omega
      clear x4 x5
      obtain ⟨_, _, _, _, x4, x5⟩ := C5.out.cells
      clear CKT q5 hC
      go_wp2_with fail
      refine (AW.out _).mono ?_
      rintro e w' ⟨rfl, hb⟩
      go_wp2_with fail
      go_returns
      exact ⟨rfl, C5.out.bel.trans (hb.mono C5.out.bel.size)⟩
theorem cut_walk (s : Nat) (p : Option Addr) (n c b o : Nat) (l : List Wr) (_m : s < 2 ^ 64) (at' : Int) (hat : (Lit.int .i64 at').wf = true) (w : World) (hA : Ws p n c b o l w) :
    Calls Try.prog 7 #[batchV s p n c, .int .i64 at'] w fun e w' => e = .returned (.bool true) ∧ Below w.heap.size w w' := by
  by_cases h : ¬ n ≤ 300 ∨ chkB s l ≠ 0 ∨ at' < 1 ∨ (n : Int) ≤ at'
  · exact cut_no s p n c b o l at' (i64_range hat) w hA h
  · obtain ⟨k, rfl⟩ : ∃ k : Nat, at' = (k : Int) := ⟨at'.toNat, by omega⟩
    exact cut_main s p n c b o l k w hA (by omega) (by omega) (by omega) (by omega)
--LAW freshetlaw06.BatchCut cut_walk batch:la int:k
--BEGIN
namespace BatchCutProof
open Go.ChangeShapes Go.WideShapes Go.ChangeAt Go.RowKit
open Go.ChangeMaps (open_string shut_string)
theorem own : ownKnob Try.prog.godebug = none := by kernel_rfl
set_option maxRecDepth 100000 in
theorem lifted (os : Os) (started : os.Started) (H : Type) (enc : TypeId × Value → H) :
    ReturnsInHanded {} Try.checked os 7 .any (Rows.batchCutSpec.pre6 enc Try.prog Try.f7 Rows.batchCutRow.domain false) (Rows.batchCutSpec.post enc Try.prog Try.f7 false true false false) := by
  refine returnsInHanded_of_change_sized (C := Try.checked) own started (by kernel_rfl) Try.func7
    (ChangeSpec.witness6 (enc := enc) (C := Try.checked) false ⟨#[], #[.agg #[.int .u64 0, .slice none 0 0], .int .i64 0], []⟩ 8 (by kernel_rfl) (by kernel_rfl) (by kernel_rfl) (by kernel_rfl)) ?_
  intro W base args ds gs before hval0 hW _ hsz _
  have hval : ∀ (j : Nat) t v, Try.f7.params[j]? = some t → args[j]? = some v → Value.okWide Try.prog W .any base t v := hval0
  have hW' := hW
  obtain ⟨p, q, hA0, hV, rfl, hfz, hnd⟩ := hW
  have hA : DataW.TrodAll enc Try.prog W 0 (fun _ => true) true Try.f7.params.toList args.toList ds p := hA0
  rw [Try.params7] at hA hval hsz
  obtain ⟨v0, vs0, d0, ds0, p0, q0, hargs, rfl, rfl, h0, r0⟩ := trodAll_cons hA
  obtain ⟨v1, vs1, d1, ds1, p1, q1, rfl, rfl, rfl, h1, r1⟩ := trodAll_cons r0
  obtain ⟨rfl, rfl, rfl⟩ := trodAll_nil r1
  obtain rfl : args = #[v0, v1] := by cases args; simp_all
  obtain ⟨rfl, rfl⟩ := trodVars_none hV
  have k0 := h0
  obtain ⟨sq0, a0, n0, c0, b0, o0, la, rfl, m0, ia0⟩ := open_batch (hval 0 25 v0 rfl rfl) h0 hsz (j := 0) rfl rfl
  have lt0 : ∀ x ∈ p0, x.block < W.heap.size := fun x hx => hW'.lt x (by simp only [List.mem_append]; simp [hx])
  obtain ⟨k, rfl, rfl, rfl, m1⟩ := open_int Try.underlying3 (hval 1 3 v1 rfl rfl) h1
  clear hA0 hval0
  simp only [List.append_nil] at hW'
  refine (cut_walk sq0 a0 n0 c0 b0 o0 la m0 k m1 W ia0).mono fun e W' ⟨he, hg⟩ => ?_
  subst he
  exact ⟨_, rfl, _, _, _, [], _, [], hW', (trodAll_cons_mk (shut_bool Try.underlying4 _) trodAll_mk0), (trodAll_cons_mk (Below.trod laid_out (by kernel_rfl) (of_decide_eq_true (by kernel_rfl)) k0 hg lt0) (trodAll_cons_mk (shut_int Try.underlying3 m1) trodAll_mk0)), rfl, hg.frame _, fun h => by cases h⟩
theorem holds : Rows.BatchCutSaid :=
  OpenClaim.holds_of_wide 7 Try.f7 rfl rfl rfl rfl rfl rfl rfl ⟨rfl, rfl, rfl, rfl, rfl⟩ rfl rfl rfl rfl rfl (by kernel_rfl) Try.func7 (by kernel_rfl)
    (of_decide_eq_true (by kernel_rfl)) (by unfold Func.isWrapper; first | (rw [if_pos (by decide +kernel)]; kernel_rfl) | (rw [if_neg (by decide +kernel)]; exact ⟨rfl, rfl⟩))
    (fun os started H enc _ => lifted os started H enc)
end BatchCutProof
--END
end Go.Proofs.Ytaanclnppfpocaa
