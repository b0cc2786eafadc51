/-
  BatchNumbers: a batch's rows have its numbers, one behind the other, the writes' keys and values; what is next is one more. No condition.
-/
import Derived.Test.YtaanclnppfpocaaBatchAwake
import Derived.Test.YtaanclnppfpocaaBatchSameRef
import Derived.Test.YtaanclnppfpocaaBatchArg
import Derived.Deep.RegionHeld
import Derived.Deep.DrawnRows
import Derived.StillTailTactics
import Derived.Test.YtaanclnppfpocaaHeld
namespace Go.Proofs.Ytaanclnppfpocaa
open Go.RowKit
attribute [local go_sem ↓] Go.wp_at_zero Go.wp_at_succ
set_option maxRecDepth 100000 in
set_option maxHeartbeats 2000000 in
theorem numbers_big (s : Nat) (p : Option Addr) (n c b o : Nat) (l : List Wr) (w : World) (hA : Ws p n c b o l w) (h1 : ¬ n ≤ 300) :
    Calls Try.prog 6 #[batchV s p n c] w fun e w' => e = .returned (.bool true) ∧ Below w.heap.size w w' := by
  have AW := Lib.hid fun u => awake_any u
  have hz1 := hA.most
  have K := Lib.hid (below_alloc w (.cells #[.int .u64 (s : Int), .slice p n c] 25))
  have E0 := Lib.hid (heap_alloc_new w (.cells #[.int .u64 (s : Int), .slice p n c] 25))
  have d1 : decide ((300 : Int) < (n : Int)) = true := by rw [decide_eq_true_eq]; omega
  obtain ⟨x0, x1⟩ := pair_cells E0.out
  clear hA
  go_enter Try.func6, Try.ntmps6
  go_wp2_with fail
  refine (AW.out _).mono ?_
  rintro e w' ⟨rfl, hb⟩
  go_wp2_with fail
  go_returns
  exact ⟨rfl, K.out.trans (hb.mono K.out.size)⟩
set_option maxRecDepth 100000 in
set_option maxHeartbeats 4000000 in
theorem numbers_bad (s : Nat) (p : Option Addr) (n c b o : Nat) (l : List Wr) (w : World) (hA : Ws p n c b o l w) (h1 : n ≤ 300) (hc : chkB s l ≠ 0) :
    Calls Try.prog 6 #[batchV s p n c] w fun e w' => e = .returned (.bool true) ∧ Below w.heap.size w w' := by
  have AW := Lib.hid fun u => awake_any u
  have hz1 := hA.most
  have K := Lib.hid (below_alloc w (.cells #[.int .u64 (s : Int), .slice p n c] 25))
  have E0 := Lib.hid (heap_alloc_new w (.cells #[.int .u64 (s : Int), .slice p n c] 25))
  have d1 : decide ((300 : Int) < (n : Int)) = false := by rw [decide_eq_false_iff_not]; omega
  obtain ⟨x0, x1⟩ := pair_cells E0.out
  have RO := Lib.hid fun u (hu : Ws p n c b o l u) => rows_bad (seq := s) hu hc
  have CK := Lib.hid fun u (hu : Ws p n c b o l u) => check_any (seq := s) hu
  have NX := Lib.hid fun u (hu : Ws p n c b o l u) => next_batch (seq := s) hu
  have hn0 : nextB s l = 0 := if_neg hc
  rw [hn0] at NX
  obtain ⟨R, hR⟩ := named (chkB s l)
  rw [← hR.out] at CK hc
  have hcb : (R != 0) = true := by simpa using hc
  have hA := Lib.hid hA
  clear hR hc hn0
  go_enter Try.func6, Try.ntmps6
  go_wp2_with fail
  generalize w.alloc (.cells #[.int .u64 (s : Int), .slice p n c] 25) = V0 at *
  refine (RO.out V0 (hA.out.below K.out (Nat.le_refl _))).mono ?_
  rintro e V1 ⟨rfl, q1⟩
  have K1 := Lib.hid (K.out.trans (q1.mono K.out.size))
  have E1 := Lib.hid ((q1.block w.heap.size (Array.getElem?_eq_some_iff.1 E0.out).1).trans E0.out)
  obtain ⟨y0, y1⟩ := pair_cells E1.out
  clear x0 x1 q1 K E0 RO
  go_wp2_with fail
  refine (CK.out V1 (hA.out.below K1.out (Nat.le_refl _))).mono ?_
  rintro e V2 ⟨rfl, q2⟩
  have K2 := Lib.hid (K1.out.trans (q2.mono K1.out.size))
  have E2 := Lib.hid ((q2.block w.heap.size (Array.getElem?_eq_some_iff.1 E1.out).1).trans E1.out)
  obtain ⟨x0, x1⟩ := pair_cells E2.out
  clear y0 y1 q2 K1 E1 CK
  go_wp2_with fail
  refine (NX.out V2 (hA.out.below K2.out (Nat.le_refl _))).mono ?_
  rintro e V3 ⟨rfl, q3⟩
  have K3 := Lib.hid (K2.out.trans (q3.mono K2.out.size))
  clear x0 x1 q3 K2 E2 NX
  go_wp2_with fail
  refine (AW.out _).mono ?_
  rintro e w' ⟨rfl, hb⟩
  go_wp2_with fail
  go_returns
  exact ⟨rfl, K3.out.trans (hb.mono K3.out.size)⟩
theorem rows_last {s n : Nat} {l : List Wr} (hn : l.length = n) (h0 : n ≠ 0) : ∃ x, (rowsFrom s l)[n - 1]? = some x ∧ x.seq = s + n - 1 := by
  have hl : n - 1 < l.length := by omega
  refine ⟨⟨l[n - 1].key, s + (n - 1), l[n - 1].kind, l[n - 1].val⟩, ?_, by simp only; omega⟩
  rw [rowsFrom_at, List.getElem?_eq_getElem hl]
  rfl
set_option maxRecDepth 100000 in
set_option maxHeartbeats 8000000 in
theorem numbers_good (s : Nat) (p : Option Addr) (n c b o : Nat) (l : List Wr) (w : World) (hA : Ws p n c b o l w) (h1 : n ≤ 300) (hc : chkB s l = 0) :
    Calls Try.prog 6 #[batchV s p n c] w fun e w' => e = .returned (.bool true) ∧ Below w.heap.size w w' := by
  have AW := Lib.hid fun u => awake_any u
  obtain ⟨k0, k1, k2, k3, _⟩ := chkB_ok hc
  have hz1 := hA.most
  have hz2 := hA.cap
  rw [hA.len] at k0 k3
  have hlen := Lib.hid hA.len
  have K := Lib.hid (below_alloc w (.cells #[.int .u64 (s : Int), .slice p n c] 25))
  have E0 := Lib.hid (heap_alloc_new w (.cells #[.int .u64 (s : Int), .slice p n c] 25))
  have d1 : decide ((300 : Int) < (n : Int)) = false := by rw [decide_eq_false_iff_not]; omega
  obtain ⟨x0, x1⟩ := pair_cells E0.out
  have RO : Hid (∀ u, Ws p n c b o l u → Calls Try.prog 18 #[batchV s p n c] u fun e w' => ∃ g, e = .returned (.slice (some ⟨g, 0, none⟩) n n) ∧ Rs (some ⟨g, 0, none⟩) n n g 0 (rowsFrom s l) w' ∧ Below u.heap.size u w') := Lib.hid fun u hu => (rows_any hu).mono fun e w' hh => by
    obtain ⟨a', n', c', b', he, hr, _, hb⟩ := rs_of_rows hh
    unfold rowsB at hr
    rw [if_pos hc] at hr
    obtain ⟨⟨h1', _⟩, _⟩ := And.intro (hh) trivial
    rw [if_pos hc] at h1'
    obtain ⟨g, he2, _⟩ := h1'
    rw [he] at he2
    simp only [Ending.returned.injEq, Value.slice.injEq] at he2
    obtain ⟨rfl, rfl, rfl⟩ := he2
    rw [hlen.out] at he hr
    have hb2 := (hr.addr (by omega)).1
    simp only [Option.some.injEq, Addr.mk.injEq] at hb2
    obtain ⟨rfl, _⟩ := hb2
    exact ⟨g, he, hr, hb⟩
  have CK := Lib.hid fun u (hu : Ws p n c b o l u) => check_any (seq := s) hu
  have NX := Lib.hid fun u (hu : Ws p n c b o l u) => next_batch (seq := s) hu
  have hn0 : nextB s l = s + n := by unfold nextB; rw [if_pos hc, hlen.out]
  rw [hn0] at NX
  rw [hc] at CK
  have hA := Lib.hid hA
  clear hn0
  go_enter Try.func6, Try.ntmps6
  go_wp2_with fail
  generalize w.alloc (.cells #[.int .u64 (s : Int), .slice p n c] 25) = V0 at *
  refine (RO.out V0 (hA.out.below K.out (Nat.le_refl _))).mono ?_
  rintro e V1 ⟨g, rfl, hR, q1⟩
  have K1 := Lib.hid (K.out.trans (q1.mono K.out.size))
  have E1 := Lib.hid ((q1.block w.heap.size (Array.getElem?_eq_some_iff.1 E0.out).1).trans E0.out)
  obtain ⟨y0, y1⟩ := pair_cells E1.out
  have hR := Lib.hid hR
  clear x0 x1 q1 K E0 RO
  go_wp2_with fail
  refine (CK.out V1 (hA.out.below K1.out (Nat.le_refl _))).mono ?_
  rintro e V2 ⟨rfl, q2⟩
  have K2 := Lib.hid (K1.out.trans (q2.mono K1.out.size))
  have E2 := Lib.hid ((q2.block w.heap.size (Array.getElem?_eq_some_iff.1 E1.out).1).trans E1.out)
  have R2 := Lib.hid (hR.out.below q2 (Nat.le_refl _))
  obtain ⟨x0, x1⟩ := pair_cells E2.out
  clear y0 y1 q2 K1 E1 CK hR
  obtain ⟨m, hm⟩ : ∃ m, Hid (n = m + 1) := ⟨n - 1, Lib.hid (by omega)⟩
  have RC : Hid (∀ u, Rs (some ⟨g, 0, none⟩) n n g 0 (rowsFrom s l) u → u.cell? ⟨g, m * 4 + 1, none⟩ = some (.int .u64 ((s : Int) + (m : Int))) ∧ u.cell? ⟨g, 1, none⟩ = some (.int .u64 (s : Int)) ∧ g < u.heap.size) := Lib.hid fun u hu => by
    obtain ⟨x, hx, hxs⟩ := rows_last (s := s) hlen.out k0
    rw [hm.out, Nat.add_sub_cancel] at hx
    have e1 := (hu.at' m x hx).2.1
    have hx0 : (rowsFrom s l)[0]? = some ⟨(l[0]'(by rw [hlen.out]; omega)).key, s + 0, (l[0]'(by rw [hlen.out]; omega)).kind, (l[0]'(by rw [hlen.out]; omega)).val⟩ := by
      rw [rowsFrom_at, List.getElem?_eq_getElem (by rw [hlen.out]; omega)]; rfl
    have e2 := (hu.at' 0 _ hx0).2.1
    rw [hxs, hm.out, show s + (m + 1) - 1 = s + m by omega] at e1
    rw [Nat.zero_add] at e1 e2
    rw [Int.natCast_add] at e1
    exact ⟨e1, e2, (hu.addr (by omega)).2⟩
  obtain ⟨r0, r1, r2⟩ := RC.out V2 R2.out
  have s0 : Hid (V2.cell? ⟨w.heap.size, 0, none⟩ = some (.int .u64 (s : Int)) ∧ V2.cell? ⟨w.heap.size, 1, none⟩ = some (.slice p n c) ∧ V2.cell? ⟨g, m * 4 + 1, none⟩ = some (.int .u64 ((s : Int) + (m : Int))) ∧ V2.cell? ⟨g, 1, none⟩ = some (.int .u64 (s : Int)) ∧ g < V2.heap.size) := Lib.hid ⟨x0, x1, r0, r1, r2⟩
  have g1 : (((n : Nat) : Int) != ((n : Nat) : Int)) = false := by rw [bne_eq_false_iff_eq]
  have w1' : IntKind.i64.wrap ((n : Int) - 1) = (m : Int) := by have := hm.out; rw [IntWalk.i64_in _ ⟨by omega, by omega⟩]; omega
  have w2' : IntKind.u64.wrap ((s : Int) + (m : Int) + 1) = (s : Int) + (n : Int) := by have := wrap_u64_nat (n := s + n) (by omega); have h2 := hm.out; rw [show (s : Int) + (m : Int) + 1 = ((s + n : Nat) : Int) by omega, this]; omega
  have g2 : (((s : Int) + (n : Int)) != ((s : Int) + (n : Int))) = false := by rw [bne_eq_false_iff_eq]
  have g3 : (((s : Nat) : Int) != ((s : Nat) : Int)) = false := by rw [bne_eq_false_iff_eq]
  have hn1 : m < n := by have := hm.out; omega
  go_wp2_with fail
  go_region_held (fun v => v.cell? ⟨w.heap.size, 0, none⟩ = some (.int .u64 (s : Int)) ∧ v.cell? ⟨w.heap.size, 1, none⟩ = some (.slice p n c) ∧ v.cell? ⟨g, m * 4 + 1, none⟩ = some (.int .u64 ((s : Int) + (m : Int))) ∧ v.cell? ⟨g, 1, none⟩ = some (.int .u64 (s : Int)) ∧ g < v.heap.size)
    (first
      | with_reducible exact s3.out
      | exact s0.out)
    (first
      | (go_at_call 21
         ((with_reducible refine (NX.out _ ?_).mono ?_); first | exact (hA.out.below K2.out (Nat.le_refl _)).keep (fun _ => rfl) (Nat.le_refl _) | skip)
         rintro e V3 ⟨rfl, q3⟩
         have K3 := Lib.hid (K2.out.trans ((⟨q3.os, q3.tape, q3.output, q3.size, q3.block⟩ : Below V2.heap.size V2 V3).mono K2.out.size))
         have E3 := Lib.hid ((q3.block w.heap.size (Array.getElem?_eq_some_iff.1 E2.out).1).trans E2.out)
         have R3 := Lib.hid (R2.out.below (⟨q3.os, q3.tape, q3.output, q3.size, q3.block⟩ : Below V2.heap.size V2 V3) (Nat.le_refl _))
         have s3 : Hid (V3.cell? ⟨w.heap.size, 0, none⟩ = some (.int .u64 (s : Int)) ∧ V3.cell? ⟨w.heap.size, 1, none⟩ = some (.slice p n c) ∧ V3.cell? ⟨g, m * 4 + 1, none⟩ = some (.int .u64 ((s : Int) + (m : Int))) ∧ V3.cell? ⟨g, 1, none⟩ = some (.int .u64 (s : Int)) ∧ g < V3.heap.size) := Lib.hid ⟨(pair_cells E3.out).1, (pair_cells E3.out).2, RC.out V3 R3.out⟩
         have q3 := Lib.hid q3))
  have B3 : Hid (Below w.heap.size w V3.drew) := Lib.hid K3.out.drew
  clear s0 s3 r0 r1 r2 R2 E2 K2 q3 x0 x1 g1 g2 g3 w1' w2' hn1 RC NX
  go_wp2_with fail
  go_loopw [4] (fun i wr => ∃ j : Nat, j ≤ n ∧ i = .int .i64 (j : Int) ∧ Below w.heap.size w wr ∧ wr.heap[w.heap.size]? = some (.cells #[.int .u64 (s : Int), .slice p n c] 25 (0, 0)) ∧ Rs (some ⟨g, 0, none⟩) n n g 0 (rowsFrom s l) wr) (fun i _ => n - (intOf i).toNat)
  case atStart => exact ⟨0, Nat.zero_le _, rfl, ⟨K3.out.os, K3.out.tape, K3.out.output, K3.out.size, K3.out.block⟩, E3.out, R3.out.keep (fun _ => rfl) (Nat.le_refl _)⟩
  case round =>
    clear K3 E3 R3 B3
    obtain ⟨j, hj, rfl, hb, hE, hRs⟩ := hrel
    by_cases hlt : j < n
    · obtain ⟨x, hx, rfl, a0, a1, a2⟩ := (hA.out.below hb (Nat.le_refl _)).at3 hlt
      obtain ⟨xk, xs, xv⟩ := x
      simp only at a0 a1 a2
      have hrow : (rowsFrom s l)[j]? = some ⟨xs, s + j, xk, xv⟩ := by rw [rowsFrom_at, hx]; rfl
      obtain ⟨d0, d1, d2, d3⟩ := hRs.at' j _ hrow
      rw [Nat.zero_add] at d0 d1 d2 d3
      simp only at d0 d1 d2 d3
      rw [Int.natCast_add] at d1
      have hE := Lib.hid hE
      have hRs := Lib.hid hRs
      have hb := Lib.hid hb
      have hx := Lib.hid hx
      have s0 : Hid (wr.cell? ⟨g, j * 4, none⟩ = some (.string xs) ∧ wr.cell? ⟨g, j * 4 + 2, none⟩ = some (.int .i64 xk) ∧ wr.cell? ⟨g, j * 4 + 3, none⟩ = some (.string xv)) := Lib.hid ⟨d0, d2, d3⟩
      go_upto_region 11 with fail
      have gl : g < wr.heap.size := (hRs.out.addr (by omega)).2
      have gn : ¬ g = wr.heap.size := by omega
      have gn2 : ¬ wr.heap.size = g := by omega
      go_region_held (fun v => v.cell? ⟨g, j * 4, none⟩ = some (.string xs) ∧ v.cell? ⟨g, j * 4 + 2, none⟩ = some (.int .i64 xk) ∧ v.cell? ⟨g, j * 4 + 3, none⟩ = some (.string xv))
        (go_keep)
        (fail)
      go_upto_region 12 with fail
      have F0 : Hid (Below w.heap.size w (wr.alloc (.cells #[.int .i64 xk, .string xs, .string xv] 44)).drew) := Lib.hid (hb.out.alloc hb.out.size _).drew
      have F1 : Hid ((wr.alloc (.cells #[.int .i64 xk, .string xs, .string xv] 44)).drew.heap[w.heap.size]? = some (.cells #[.int .u64 (s : Int), .slice (some ⟨b, o, none⟩) n c] 25 (0, 0))) := Lib.hid ((Lib.alloc_old wr (.cells #[.int .i64 xk, .string xs, .string xv] 44) _ (Array.getElem?_eq_some_iff.1 hE.out).1).trans hE.out)
      have F2 : Hid ((wr.alloc (.cells #[.int .i64 xk, .string xs, .string xv] 44)).drew.heap[wr.heap.size]? = some (.cells #[.int .i64 xk, .string xs, .string xv] 44 (0, 0))) := Lib.hid (heap_alloc_new wr _)
      have F3 : Hid (Rs (some ⟨g, 0, none⟩) n n g 0 (rowsFrom s l) (wr.alloc (.cells #[.int .i64 xk, .string xs, .string xv] 44)).drew) := Lib.hid ((hRs.out.below (below_alloc wr (.cells #[.int .i64 xk, .string xs, .string xv] 44)) (Nat.le_refl _)).keep (fun _ => rfl) (Nat.le_refl _))
      have F4 : Hid (Ws (some ⟨b, o, none⟩) n c b o l (wr.alloc (.cells #[.int .i64 xk, .string xs, .string xv] 44)).drew) := Lib.hid ((hA.out.below hb.out (Nat.le_refl _)).below ((below_alloc wr (.cells #[.int .i64 xk, .string xs, .string xv] 44)).drew) (Nat.le_refl _))
      clear s0 d0 d1 d2 d3 a0 a1 a2 gl gn gn2 hE hRs hb
      generalize (wr.alloc (.cells #[.int .i64 xk, .string xs, .string xv] 44)).drew = V at *
      generalize wr.heap.size = N5 at *
      obtain ⟨y0, y1⟩ := pair_cells F1.out
      obtain ⟨t0, t1, t2⟩ : V.cell? ⟨N5, 0, none⟩ = some (.int .i64 xk) ∧ V.cell? ⟨N5, 1, none⟩ = some (.string xs) ∧ V.cell? ⟨N5, 2, none⟩ = some (.string xv) := by
        refine ⟨?_, ?_, ?_⟩ <;> simp [World.cell?, F2.out]
      obtain ⟨a0, a1, a2⟩ := F4.out.at' j _ hx.out
      have r1 := (F3.out.at' j _ hrow).2.1
      rw [Nat.zero_add] at r1
      simp only at a0 a1 a2 r1
      rw [Int.natCast_add] at r1
      have NEQ : ∀ u : World, (binOp .neq 44 (.agg #[.int .i64 xk, .string xs, .string xv]) (.agg #[.int .i64 xk, .string xs, .string xv])).run Try.prog u = .ok (.bool false) u := fun u => neq_wr _ _ _ _ _ _ _ (by simp) u
      rcases Nat.eq_zero_or_pos j with hj0 | hj0
      · have dg : decide ((0 : Int) < (j : Int)) = false := by rw [decide_eq_false_iff_not]; omega
        have dg2 : decide (0 < j) = false := by rw [decide_eq_false_iff_not]; omega
        have dg3 : (0 < j) = False := eq_false (by omega)
        clear hj0
        refine wp_region_held_drew (S := (fun v => v.cell? ⟨N5, 0, none⟩ = some (.int .i64 xk) ∧ v.cell? ⟨N5, 1, none⟩ = some (.string xs) ∧ v.cell? ⟨N5, 2, none⟩ = some (.string xv) ∧ v.cell? ⟨w.heap.size, 1, none⟩ = some (.slice (some ⟨b, o, none⟩) n c) ∧ v.cell? ⟨b, o + j * 3, none⟩ = some (.int .i64 xk) ∧ v.cell? ⟨b, o + j * 3 + 1, none⟩ = some (.string xs) ∧ v.cell? ⟨b, o + j * 3 + 2, none⟩ = some (.string xv))) (by kernel_rfl) (by exact ⟨t0, t1, t2, y1, a0, a1, a2⟩) (fun hHeld => ?_)
        refine held_take (i := 0) (v := ?_) rfl (by kernel_rfl) (by kernel_rfl) (by kernel_rfl) (fun _ _ _ h => h) (by rfl) (fun w hSw => ?_) (by assumption) ?_; rotate_left 1; focus (((try dsimp only at hSw); first | (go_simp; done) | (go_simp; with_reducible rfl)))
        try simp only [Act.put, List.setIfInBounds_toArray, List.set_cons_zero, List.set_cons_succ]
        refine held_take (i := 1) (v := ?_) rfl (by kernel_rfl) (by kernel_rfl) (by kernel_rfl) (fun _ _ _ h => h) (by rfl) (fun w hSw => ?_) (by assumption) ?_; rotate_left 1; focus (((try dsimp only at hSw); first | (go_simp; done) | (go_simp; with_reducible rfl)))
        try simp only [Act.put, List.setIfInBounds_toArray, List.set_cons_zero, List.set_cons_succ]
        refine held_take (i := 2) (v := ?_) rfl (by kernel_rfl) (by kernel_rfl) (by kernel_rfl) (fun _ _ _ h => h) (by rfl) (fun w hSw => ?_) (by assumption) ?_; rotate_left 1; focus (((try dsimp only at hSw); first | (go_simp; done) | (go_simp; with_reducible rfl)))
        try simp only [Act.put, List.setIfInBounds_toArray, List.set_cons_zero, List.set_cons_succ]
        refine held_take (i := 3) (v := ?_) rfl (by kernel_rfl) (by kernel_rfl) (by kernel_rfl) (fun _ _ _ h => h) (by rfl) (fun w hSw => ?_) (by assumption) ?_; rotate_left 1; focus (((try dsimp only at hSw); first | (go_simp; done) | (go_simp; with_reducible rfl)))
        try simp only [Act.put, List.setIfInBounds_toArray, List.set_cons_zero, List.set_cons_succ]
        refine held_take (i := 4) (v := ?_) rfl (by kernel_rfl) (by kernel_rfl) (by kernel_rfl) (fun _ _ _ h => h) (by rfl) (fun w hSw => ?_) (by assumption) ?_; rotate_left 1; focus (((try dsimp only at hSw); first | (go_simp; done) | (go_simp; with_reducible rfl)))
        try simp only [Act.put, List.setIfInBounds_toArray, List.set_cons_zero, List.set_cons_succ]
        refine held_take (i := 5) (v := ?_) rfl (by kernel_rfl) (by kernel_rfl) (by kernel_rfl) (fun _ _ _ h => h) (by rfl) (fun w hSw => ?_) (by assumption) ?_; rotate_left 1; focus (((try dsimp only at hSw); first | (go_simp; done) | (go_simp; with_reducible rfl)))
        try simp only [Act.put, List.setIfInBounds_toArray, List.set_cons_zero, List.set_cons_succ]
        refine held_take (i := 6) (v := ?_) rfl (by kernel_rfl) (by kernel_rfl) (by kernel_rfl) (fun _ _ _ h => h) (by rfl) (fun w hSw => ?_) (by assumption) ?_; rotate_left 1; focus (((try dsimp only at hSw); first | (go_simp; done) | (go_simp; with_reducible rfl)))
        try simp only [Act.put, List.setIfInBounds_toArray, List.set_cons_zero, List.set_cons_succ]
        refine held_take (i := 7) (v := ?_) rfl (by kernel_rfl) (by kernel_rfl) (by kernel_rfl) (fun _ _ _ h => h) (by rfl) (fun w hSw => ?_) (by assumption) ?_; rotate_left 1; focus (((try dsimp only at hSw); first | (go_simp; done) | (go_simp; with_reducible rfl)))
        try simp only [Act.put, List.setIfInBounds_toArray, List.set_cons_zero, List.set_cons_succ]
        refine held_take (i := 8) (v := ?_) rfl (by kernel_rfl) (by kernel_rfl) (by kernel_rfl) (fun _ _ _ h => h) (by rfl) (fun w hSw => ?_) (by assumption) ?_; rotate_left 1; focus (((try dsimp only at hSw); first | (go_simp; done) | (go_simp; with_reducible rfl)))
        try simp only [Act.put, List.setIfInBounds_toArray, List.set_cons_zero, List.set_cons_succ]
        refine held_take (i := 9) (v := ?_) rfl (by kernel_rfl) (by kernel_rfl) (by kernel_rfl) (fun _ _ _ h => h) (by rfl) (fun w hSw => ?_) (by assumption) ?_; rotate_left 1; focus (((try dsimp only at hSw); first | (go_simp; done) | (go_simp; with_reducible rfl)))
        try simp only [Act.put, List.setIfInBounds_toArray, List.set_cons_zero, List.set_cons_succ]
        refine held_take (i := 10) (v := ?_) rfl (by kernel_rfl) (by kernel_rfl) (by kernel_rfl) (fun _ _ _ h => h) (by rfl) (fun w hSw => ?_) (by assumption) ?_; rotate_left 1; focus (((try dsimp only at hSw); first | (go_simp; done) | (go_simp; with_reducible rfl)))
        try simp only [Act.put, List.setIfInBounds_toArray, List.set_cons_zero, List.set_cons_succ]
        refine held_skip (i := 11) rfl (by kernel_rfl) (by kernel_rfl) (by kernel_rfl) (fun _ _ _ h => h) (by rfl) (by assumption) ?_
        try simp only [Act.put, List.setIfInBounds_toArray, List.set_cons_zero, List.set_cons_succ]
        refine held_skip (i := 12) rfl (by kernel_rfl) (by kernel_rfl) (by kernel_rfl) (fun _ _ _ h => h) (by rfl) (by assumption) ?_
        try simp only [Act.put, List.setIfInBounds_toArray, List.set_cons_zero, List.set_cons_succ]
        refine held_skip (i := 13) rfl (by kernel_rfl) (by kernel_rfl) (by kernel_rfl) (fun _ _ _ h => h) (by rfl) (by assumption) ?_
        try simp only [Act.put, List.setIfInBounds_toArray, List.set_cons_zero, List.set_cons_succ]
        refine held_skip (i := 14) rfl (by kernel_rfl) (by kernel_rfl) (by kernel_rfl) (fun _ _ _ h => h) (by rfl) (by assumption) ?_
        try simp only [Act.put, List.setIfInBounds_toArray, List.set_cons_zero, List.set_cons_succ]
        refine held_skip (i := 15) rfl (by kernel_rfl) (by kernel_rfl) (by kernel_rfl) (fun _ _ _ h => h) (by rfl) (by assumption) ?_
        try simp only [Act.put, List.setIfInBounds_toArray, List.set_cons_zero, List.set_cons_succ]
        refine held_skip (i := 16) rfl (by kernel_rfl) (by kernel_rfl) (by kernel_rfl) (fun _ _ _ h => h) (by rfl) (by assumption) ?_
        try simp only [Act.put, List.setIfInBounds_toArray, List.set_cons_zero, List.set_cons_succ]
        refine held_skip (i := 17) rfl (by kernel_rfl) (by kernel_rfl) (by kernel_rfl) (fun _ _ _ h => h) (by rfl) (by assumption) ?_
        try simp only [Act.put, List.setIfInBounds_toArray, List.set_cons_zero, List.set_cons_succ]
        refine held_skip (i := 18) rfl (by kernel_rfl) (by kernel_rfl) (by kernel_rfl) (fun _ _ _ h => h) (by rfl) (by assumption) ?_
        try simp only [Act.put, List.setIfInBounds_toArray, List.set_cons_zero, List.set_cons_succ]
        refine held_skip (i := 19) rfl (by kernel_rfl) (by kernel_rfl) (by kernel_rfl) (fun _ _ _ h => h) (by rfl) (by assumption) ?_
        try simp only [Act.put, List.setIfInBounds_toArray, List.set_cons_zero, List.set_cons_succ]
        refine held_skip (i := 20) rfl (by kernel_rfl) (by kernel_rfl) (by kernel_rfl) (fun _ _ _ h => h) (by rfl) (by assumption) ?_
        try simp only [Act.put, List.setIfInBounds_toArray, List.set_cons_zero, List.set_cons_succ]
        refine held_skip (i := 21) rfl (by kernel_rfl) (by kernel_rfl) (by kernel_rfl) (fun _ _ _ h => h) (by rfl) (by assumption) ?_
        try simp only [Act.put, List.setIfInBounds_toArray, List.set_cons_zero, List.set_cons_succ]
        refine held_skip (i := 22) rfl (by kernel_rfl) (by kernel_rfl) (by kernel_rfl) (fun _ _ _ h => h) (by rfl) (by assumption) ?_
        try simp only [Act.put, List.setIfInBounds_toArray, List.set_cons_zero, List.set_cons_succ]
        refine held_skip (i := 23) rfl (by kernel_rfl) (by kernel_rfl) (by kernel_rfl) (fun _ _ _ h => h) (by rfl) (by assumption) ?_
        try simp only [Act.put, List.setIfInBounds_toArray, List.set_cons_zero, List.set_cons_succ]
        refine held_take (i := 24) (v := ?_) rfl (by kernel_rfl) (by kernel_rfl) (by kernel_rfl) (fun _ _ _ h => h) (by rfl) (fun w hSw => ?_) (by assumption) ?_; rotate_left 1; focus (((try dsimp only at hSw); first | (go_simp; done) | (go_simp; with_reducible rfl)))
        try simp only [Act.put, List.setIfInBounds_toArray, List.set_cons_zero, List.set_cons_succ]
        refine held_take (i := 25) (v := ?_) rfl (by kernel_rfl) (by kernel_rfl) (by kernel_rfl) (fun _ _ _ h => h) (by rfl) (fun w hSw => ?_) (by assumption) ?_; rotate_left 1; focus (((try dsimp only at hSw); first | (go_simp; done) | (go_simp; with_reducible rfl)))
        try simp only [Act.put, List.setIfInBounds_toArray, List.set_cons_zero, List.set_cons_succ]
        refine wpAnyH_done (by kernel_rfl) ?_ _
        all_goals (
          clear y0 y1 t0 t1 t2 a0 a1 a2 r1
          go_wp2_with fail
          go_roundw
          case rel => exact ⟨j + 1, by omega, by go_num, ⟨F0.out.os, F0.out.tape, F0.out.output, F0.out.size, F0.out.block⟩, F1.out, F3.out.keep (fun _ => rfl) (Nat.le_refl _)⟩
          case measure => simp [intOf]; omega)
      · obtain ⟨q, hq⟩ : ∃ q, Hid (j = q + 1) := ⟨j - 1, Lib.hid (by omega)⟩
        have dg : decide ((0 : Int) < (j : Int)) = true := by rw [decide_eq_true_eq]; omega
        have hqn : q < n := by have := hq.out; omega
        obtain ⟨z, hz⟩ : ∃ z, l[q]? = some z := ⟨_, List.getElem?_eq_getElem (by rw [hlen.out]; exact hqn)⟩
        have hrow2 : (rowsFrom s l)[q]? = some ⟨z.key, s + q, z.kind, z.val⟩ := by rw [rowsFrom_at, hz]; rfl
        have r2 := (F3.out.at' q _ hrow2).2.1
        rw [Nat.zero_add] at r2
        simp only at r2
        rw [Int.natCast_add] at r2
        have v1 : IntKind.i64.wrap ((j : Int) - 1) = (q : Int) := by have := hq.out; rw [IntWalk.i64_in _ ⟨by omega, by omega⟩]; omega
        have v2 : IntKind.u64.wrap ((s : Int) + (q : Int) + 1) = (s : Int) + (j : Int) := by have := wrap_u64_nat (n := s + j) (by omega); have h2 := hq.out; rw [show (s : Int) + (q : Int) + 1 = ((s + j : Nat) : Int) by omega, this]; omega
        have v3 : (((s : Int) + (j : Int)) != ((s : Int) + (j : Int))) = false := by rw [bne_eq_false_iff_eq]
        clear hrow hrow2 hz
        go_region_held (fun v => v.cell? ⟨N5, 0, none⟩ = some (.int .i64 xk) ∧ v.cell? ⟨N5, 1, none⟩ = some (.string xs) ∧ v.cell? ⟨N5, 2, none⟩ = some (.string xv) ∧ v.cell? ⟨w.heap.size, 1, none⟩ = some (.slice (some ⟨b, o, none⟩) n c) ∧ v.cell? ⟨b, o + j * 3, none⟩ = some (.int .i64 xk) ∧ v.cell? ⟨b, o + j * 3 + 1, none⟩ = some (.string xs) ∧ v.cell? ⟨b, o + j * 3 + 2, none⟩ = some (.string xv) ∧ v.cell? ⟨g, j * 4 + 1, none⟩ = some (.int .u64 ((s : Int) + (j : Int))) ∧ v.cell? ⟨g, q * 4 + 1, none⟩ = some (.int .u64 ((s : Int) + (q : Int))))
          (go_keep)
          (fail)
        all_goals (
          clear y0 y1 t0 t1 t2 a0 a1 a2 r1 r2
          go_wp2_with fail
          go_roundw
          case rel => exact ⟨j + 1, by omega, by go_num, ⟨F0.out.os, F0.out.tape, F0.out.output, F0.out.size, F0.out.block⟩, F1.out, F3.out.keep (fun _ => rfl) (Nat.le_refl _)⟩
          case measure => simp [intOf]; omega)
    · have hjn : j = n := by omega
      subst hjn
      have hb := Lib.hid hb
      go_wp2_with fail
      refine (AW.out _).mono ?_
      rintro e w' ⟨rfl, hb2⟩
      go_wp2_with fail
      go_returns
      exact ⟨rfl, hb.out.trans (hb2.mono hb.out.size)⟩
theorem numbers_walk (s : Nat) (p : Option Addr) (n c b o : Nat) (l : List Wr) (_m : s < 2 ^ 64) (w : World) (hA : Ws p n c b o l w) :
    Calls Try.prog 6 #[batchV s p n c] w fun e w' => e = .returned (.bool true) ∧ Below w.heap.size w w' := by
  by_cases h : n ≤ 300
  · by_cases hc : chkB s l = 0
    · exact numbers_good s p n c b o l w hA h hc
    · exact numbers_bad s p n c b o l w hA h hc
  · exact numbers_big s p n c b o l w hA h
--LAW freshetlaw06.BatchNumbers numbers_walk batch:la
--BEGIN
namespace BatchNumbersProof
open Go.ChangeShapes Go.WideShapes Go.ChangeAt Go.RowKit
open Go.ChangeMaps (open_string shut_string)
theorem own : ownKnob Try.prog.godebug = none := by kernel_rfl
set_option maxRecDepth 100000 in
theorem lifted (os : Os) (started : os.Started) (H : Type) (enc : TypeId × Value → H) :
    ReturnsInHanded {} Try.checked os 6 .any (Rows.batchNumbersSpec.pre6 enc Try.prog Try.f6 Rows.batchNumbersRow.domain false) (Rows.batchNumbersSpec.post enc Try.prog Try.f6 false true false false) := by
  refine returnsInHanded_of_change_sized (C := Try.checked) own started (by kernel_rfl) Try.func6
    (ChangeSpec.witness6 (enc := enc) (C := Try.checked) false ⟨#[], #[.agg #[.int .u64 0, .slice none 0 0]], []⟩ 8 (by kernel_rfl) (by kernel_rfl) (by kernel_rfl) (by kernel_rfl)) ?_
  intro W base args ds gs before hval0 hW _ hsz _
  have hval : ∀ (j : Nat) t v, Try.f6.params[j]? = some t → args[j]? = some v → Value.okWide Try.prog W .any base t v := hval0
  have hW' := hW
  obtain ⟨p, q, hA0, hV, rfl, hfz, hnd⟩ := hW
  have hA : DataW.TrodAll enc Try.prog W 0 (fun _ => true) true Try.f6.params.toList args.toList ds p := hA0
  rw [Try.params6] at hA hval hsz
  obtain ⟨v0, vs0, d0, ds0, p0, q0, hargs, rfl, rfl, h0, r0⟩ := trodAll_cons hA
  obtain ⟨rfl, rfl, rfl⟩ := trodAll_nil r0
  obtain rfl : args = #[v0] := by cases args; simp_all
  obtain ⟨rfl, rfl⟩ := trodVars_none hV
  have k0 := h0
  obtain ⟨sq0, a0, n0, c0, b0, o0, la, rfl, m0, ia0⟩ := open_batch (hval 0 25 v0 rfl rfl) h0 hsz (j := 0) rfl rfl
  have lt0 : ∀ x ∈ p0, x.block < W.heap.size := fun x hx => hW'.lt x (by simp only [List.mem_append]; simp [hx])
  clear hA0 hval0
  simp only [List.append_nil] at hW'
  refine (numbers_walk sq0 a0 n0 c0 b0 o0 la m0 W ia0).mono fun e W' ⟨he, hg⟩ => ?_
  subst he
  exact ⟨_, rfl, _, _, _, [], _, [], hW', (trodAll_cons_mk (shut_bool Try.underlying4 _) trodAll_mk0), (trodAll_cons_mk (Below.trod laid_out (by kernel_rfl) (of_decide_eq_true (by kernel_rfl)) k0 hg lt0) trodAll_mk0), rfl, hg.frame _, fun h => by cases h⟩
theorem holds : Rows.BatchNumbersSaid :=
  OpenClaim.holds_of_wide 6 Try.f6 rfl rfl rfl rfl rfl rfl rfl ⟨rfl, rfl, rfl, rfl, rfl⟩ rfl rfl rfl rfl rfl (by kernel_rfl) Try.func6 (by kernel_rfl)
    (of_decide_eq_true (by kernel_rfl)) (by unfold Func.isWrapper; first | (rw [if_pos (by decide +kernel)]; kernel_rfl) | (rw [if_neg (by decide +kernel)]; exact ⟨rfl, rfl⟩))
    (fun os started H enc _ => lifted os started H enc)
end BatchNumbersProof
--END
end Go.Proofs.Ytaanclnppfpocaa
