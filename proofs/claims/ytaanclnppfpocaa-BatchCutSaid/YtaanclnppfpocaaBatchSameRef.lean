/-
  The contracts of the document's Same, SameRows and Next. No condition.
-/
import Derived.Test.YtaanclnppfpocaaBatchSame
import Derived.Test.YtaanclnppfpocaaBatchRs
import Derived.Test.YtaanclnppfpocaaBatchNext
import Derived.Test.YtaanclnppfpocaaBatchCheckRef
namespace Go.Proofs.Ytaanclnppfpocaa
open Go.RowKit
/-- Two boxed arguments. -/
theorem box_two (w : World) (s1 s2 : Nat) (v1 v2 : Value) :
    Below w.heap.size w ((w.alloc (.cells #[.int .u64 (s1 : Int), v1] 25)).alloc (.cells #[.int .u64 (s2 : Int), v2] 25)) ∧
    ((w.alloc (.cells #[.int .u64 (s1 : Int), v1] 25)).alloc (.cells #[.int .u64 (s2 : Int), v2] 25)).heap[w.heap.size]? = some (.cells #[.int .u64 (s1 : Int), v1] 25 (0, 0)) ∧
    ((w.alloc (.cells #[.int .u64 (s1 : Int), v1] 25)).alloc (.cells #[.int .u64 (s2 : Int), v2] 25)).heap[w.heap.size + 1]? = some (.cells #[.int .u64 (s2 : Int), v2] 25 (0, 0)) := by
  refine ⟨(below_alloc _ _).alloc (by simp) _, (Lib.alloc_old _ _ _ (by simp)).trans (heap_alloc_new _ _), ?_⟩
  have := heap_alloc_new (w.alloc (.cells #[.int .u64 (s1 : Int), v1] 25)) (.cells #[.int .u64 (s2 : Int), v2] 25)
  simpa using this
theorem pair_cells {v : World} {N : Nat} {x0 x1 : Value} {T : TypeId} (h : v.heap[N]? = some (.cells #[x0, x1] T (0, 0))) : v.cell? ⟨N, 0, none⟩ = some x0 ∧ v.cell? ⟨N, 1, none⟩ = some x1 :=
  ⟨by simp [World.cell?, h], by simp [World.cell?, h]⟩
open Classical in
set_option maxRecDepth 100000 in
set_option maxHeartbeats 4000000 in
theorem refsame_any {s1 s2 : Nat} {p1 p2 : Option Addr} {n1 c1 b1 o1 n2 c2 b2 o2 : Nat} {l1 l2 : List Wr} {w : World} (h1 : Ws p1 n1 c1 b1 o1 l1 w) (h2 : Ws p2 n2 c2 b2 o2 l2 w) :
    Calls Try.prog 17 #[batchV s1 p1 n1 c1, batchV s2 p2 n2 c2] w fun e w' => e = .returned (.bool (decide (s1 = s2 ∧ l1 = l2))) ∧ Below w.heap.size w w' := by
  obtain ⟨K, E0, E1⟩ := box_two w s1 s2 (.slice p1 n1 c1) (.slice p2 n2 c2)
  have m1 := h1.most
  have m2 := h2.most
  have q1 := h1.cap
  have q2 := h2.cap
  obtain ⟨x0, x1⟩ := pair_cells E0
  obtain ⟨y0, y1⟩ := pair_cells E1
  have K := Lib.hid K
  by_cases hs : s1 = s2
  · subst hs
    have g1 : (((s1 : Nat) : Int) != ((s1 : Nat) : Int)) = false := by rw [bne_eq_false_iff_eq]
    have hd : decide (s1 = s1 ∧ l1 = l2) = decide (l1 = l2) := by congr 1; simp
    rw [hd]
    by_cases hn : n1 = n2
    · subst hn
      have g2 : (((n1 : Nat) : Int) != ((n1 : Nat) : Int)) = false := by rw [bne_eq_false_iff_eq]
      obtain ⟨R, hR⟩ := named (decide (l1 = l2))
      rw [← hR.out]
      have e1 := Lib.hid h1.len
      have e2 := Lib.hid h2.len
      have h1 := Lib.hid h1
      have h2 := Lib.hid h2
      have E0 := Lib.hid E0
      have E1 := Lib.hid E1
      go_enter Try.func17, Try.ntmps17
      go_wp2_with fail
      generalize (w.alloc (.cells #[.int .u64 (s1 : Int), .slice p1 n1 c1] 25)).alloc (.cells #[.int .u64 (s1 : Int), .slice p2 n1 c2] 25) = V0 at *
      clear x0 x1 y0 y1
      go_loopw [5] (fun i wr => ∃ j : Nat, j ≤ n1 ∧ i = .int .i64 (j : Int) ∧ l1.take j = l2.take j ∧ Below w.heap.size w wr ∧ wr.heap[w.heap.size]? = some (.cells #[.int .u64 (s1 : Int), .slice p1 n1 c1] 25 (0, 0)) ∧ wr.heap[w.heap.size + 1]? = some (.cells #[.int .u64 (s1 : Int), .slice p2 n1 c2] 25 (0, 0))) (fun i _ => n1 - (intOf i).toNat)
      case atStart => exact ⟨0, Nat.zero_le _, rfl, rfl, K.out, E0.out, E1.out⟩
      case round =>
        clear K E0 E1
        obtain ⟨j, hj, rfl, ht, hb, E0, E1⟩ := hrel
        obtain ⟨x0, x1⟩ := pair_cells E0
        obtain ⟨y0, y1⟩ := pair_cells E1
        have E0 := Lib.hid E0
        have E1 := Lib.hid E1
        by_cases hlt : j < n1
        · obtain ⟨x, hx, rfl, a0, a1, a2⟩ := (h1.out.below hb (Nat.le_refl _)).at3 hlt
          obtain ⟨y, hy, rfl, d0, d1, d2⟩ := (h2.out.below hb (Nat.le_refl _)).at3 hlt
          obtain ⟨xk, xs, xv⟩ := x
          obtain ⟨yk, ys, yv⟩ := y
          simp only at a0 a1 a2 d0 d1 d2
          have hx := Lib.hid hx
          have hy := Lib.hid hy
          have ht := Lib.hid ht
          have hb := Lib.hid hb
          by_cases hxy : (⟨xk, xs, xv⟩ : Wr) = ⟨yk, ys, yv⟩
          · have NEQ : ∀ u : World, (binOp .neq 44 (.agg #[.int .i64 xk, .string xs, .string xv]) (.agg #[.int .i64 yk, .string ys, .string yv])).run Try.prog u = .ok (.bool false) u := fun u => neq_wr _ _ _ _ _ _ _ (by simp [hxy]) u
            have ht2 : Hid (l1.take (j + 1) = l2.take (j + 1)) := Lib.hid (by rw [List.take_add_one, List.take_add_one, ht.out, hx.out, hy.out, hxy])
            clear hxy ht
            go_upto_region 6 with fail
            go_quiet (fail)
            go_wp2_with fail
            go_roundw
            case rel => exact ⟨j + 1, by omega, by go_num, ht2.out, below_drewN hb.out, E0.out, E1.out⟩
            case measure => simp [intOf]; omega
          · have NEQ : ∀ u : World, (binOp .neq 44 (.agg #[.int .i64 xk, .string xs, .string xv]) (.agg #[.int .i64 yk, .string ys, .string yv])).run Try.prog u = .ok (.bool true) u := fun u => neq_wr _ _ _ _ _ _ _ (by simpa using hxy) u
            have hR0 : R = false := by
              rw [hR.out, decide_eq_false_iff_not]
              intro e
              have h1 := hx.out
              rw [e, hy.out] at h1
              exact hxy (Option.some.inj h1).symm
            subst hR0
            clear hxy ht
            go_upto_region 6 with fail
            go_quiet (fail)
            go_wp2_with fail
            go_returns
            exact ⟨rfl, below_drewN hb.out⟩
        · have hjn : j = n1 := by omega
          subst hjn
          have hR1 : R = true := by
            rw [hR.out, decide_eq_true_eq]
            rw [← e1.out, List.take_length] at ht
            rw [ht, e1.out, ← e2.out, List.take_length]
          subst hR1
          go_wp2_with fail
          go_returns
          exact ⟨rfl, hb⟩
    · have hR : decide (l1 = l2) = false := by
        rw [decide_eq_false_iff_not]
        intro e
        rw [e] at h1
        exact hn (h1.len.symm.trans h2.len)
      rw [hR]
      have g2 : (((n1 : Nat) : Int) != ((n2 : Nat) : Int)) = true := by rw [bne_iff_ne]; omega
      clear h1 h2 E0 E1 hR hd
      go_enter Try.func17, Try.ntmps17
      go_wp2_with fail
      go_returns
      exact ⟨rfl, K.out⟩
  · have hd : decide (s1 = s2 ∧ l1 = l2) = false := by rw [decide_eq_false_iff_not]; exact fun h => hs h.1
    rw [hd]
    have g1 : (((s1 : Nat) : Int) != ((s2 : Nat) : Int)) = true := by rw [bne_iff_ne]; omega
    clear h1 h2 hd E0 E1
    go_enter Try.func17, Try.ntmps17
    go_wp2_with fail
    go_returns
    exact ⟨rfl, K.out⟩
open Classical in
set_option maxRecDepth 100000 in
set_option maxHeartbeats 4000000 in
theorem samerows_any {p1 p2 : Option Addr} {n1 c1 b1 o1 n2 c2 b2 o2 : Nat} {l1 l2 : List Rw} {w : World} (h1 : Rs p1 n1 c1 b1 o1 l1 w) (h2 : Rs p2 n2 c2 b2 o2 l2 w) :
    Calls Try.prog 19 #[.slice p1 n1 c1, .slice p2 n2 c2] w fun e w' => e = .returned (.bool (decide (l1 = l2))) ∧ Below w.heap.size w w' := by
  have m1 := h1.most
  have m2 := h2.most
  have q1 := h1.cap
  have q2 := h2.cap
  by_cases hn : n1 = n2
  · subst hn
    have g2 : (((n1 : Nat) : Int) != ((n1 : Nat) : Int)) = false := by rw [bne_eq_false_iff_eq]
    obtain ⟨R, hR⟩ := named (decide (l1 = l2))
    rw [← hR.out]
    have e1 := Lib.hid h1.len
    have e2 := Lib.hid h2.len
    have h1 := Lib.hid h1
    have h2 := Lib.hid h2
    go_enter Try.func19, Try.ntmps19
    go_wp2_with fail
    go_loopw [5] (fun i wr => ∃ j : Nat, j ≤ n1 ∧ i = .int .i64 (j : Int) ∧ l1.take j = l2.take j ∧ Below w.heap.size w wr) (fun i _ => n1 - (intOf i).toNat)
    case atStart => exact ⟨0, Nat.zero_le _, rfl, rfl, Below.refl _ _⟩
    case round =>
      obtain ⟨j, hj, rfl, ht, hb⟩ := hrel
      by_cases hlt : j < n1
      · obtain ⟨x, hx, rfl, a0, a1, a2, a3⟩ := (h1.out.below hb (Nat.le_refl _)).at4 hlt
        obtain ⟨y, hy, rfl, d0, d1, d2, d3⟩ := (h2.out.below hb (Nat.le_refl _)).at4 hlt
        obtain ⟨xs, xn, xk, xv⟩ := x
        obtain ⟨ys, yn, yk, yv⟩ := y
        simp only at a0 a1 a2 a3 d0 d1 d2 d3
        have hx := Lib.hid hx
        have hy := Lib.hid hy
        have ht := Lib.hid ht
        have hb := Lib.hid hb
        by_cases hxy : (⟨xs, xn, xk, xv⟩ : Rw) = ⟨ys, yn, yk, yv⟩
        · have NEQ : ∀ u : World, (binOp .neq 40 (.agg #[.string xs, .int .u64 (xn : Int), .int .i64 xk, .string xv]) (.agg #[.string ys, .int .u64 (yn : Int), .int .i64 yk, .string yv])).run Try.prog u = .ok (.bool false) u := fun u => neq_rw _ _ _ _ _ _ _ _ _ (by simp [hxy]) u
          have ht2 : Hid (l1.take (j + 1) = l2.take (j + 1)) := Lib.hid (by rw [List.take_add_one, List.take_add_one, ht.out, hx.out, hy.out, hxy])
          clear hxy ht
          go_upto_region 6 with fail
          go_quiet (fail)
          go_wp2_with fail
          go_roundw
          case rel => exact ⟨j + 1, by omega, by go_num, ht2.out, below_drewN hb.out⟩
          case measure => simp [intOf]; omega
        · have NEQ : ∀ u : World, (binOp .neq 40 (.agg #[.string xs, .int .u64 (xn : Int), .int .i64 xk, .string xv]) (.agg #[.string ys, .int .u64 (yn : Int), .int .i64 yk, .string yv])).run Try.prog u = .ok (.bool true) u := fun u => neq_rw _ _ _ _ _ _ _ _ _ (by simpa using hxy) u
          have hR0 : R = false := by
            rw [hR.out, decide_eq_false_iff_not]
            intro e
            have h1 := hx.out
            rw [e, hy.out] at h1
            exact hxy (Option.some.inj h1).symm
          subst hR0
          clear hxy ht
          go_upto_region 6 with fail
          go_quiet (fail)
          go_wp2_with fail
          go_returns
          exact ⟨rfl, below_drewN hb.out⟩
      · have hjn : j = n1 := by omega
        subst hjn
        have hR1 : R = true := by
          rw [hR.out, decide_eq_true_eq]
          rw [← e1.out, List.take_length] at ht
          rw [ht, e1.out, ← e2.out, List.take_length]
        subst hR1
        go_wp2_with fail
        go_returns
        exact ⟨rfl, hb⟩
  · have hR : decide (l1 = l2) = false := by
      rw [decide_eq_false_iff_not]
      intro e
      rw [e] at h1
      exact hn (h1.len.symm.trans h2.len)
    rw [hR]
    have g2 : (((n1 : Nat) : Int) != ((n2 : Nat) : Int)) = true := by rw [bne_iff_ne]; omega
    clear h1 h2 hR
    go_enter Try.func19, Try.ntmps19
    go_wp2_with fail
    go_returns
    exact ⟨rfl, Below.refl _ _⟩
set_option maxRecDepth 100000 in
set_option maxHeartbeats 2000000 in
theorem refnext_any {seq : Nat} {a : Option Addr} {n c b o : Nat} {l : List Wr} {w : World} (h : Ws a n c b o l w) :
    Calls Try.prog 22 #[batchV seq a n c] w fun e w' => e = .returned (.int .u64 (nextB seq l : Int)) ∧ Below w.heap.size w w' := by
  obtain ⟨c0, c1⟩ := box_batch w seq (.slice a n c)
  have K := Lib.hid (below_alloc w (.cells #[.int .u64 (seq : Int), .slice a n c] 25))
  have C := Lib.hid (refcheck_any (seq := seq) (h.below K.out (Nat.le_refl _)))
  have hlen := h.len
  obtain ⟨R, hR⟩ := named (chkB seq l)
  by_cases q : R = 0
  · have hc : chkB seq l = 0 := by rw [← hR.out]; exact q
    obtain ⟨_, k1, k2, k3, _⟩ := chkB_ok hc
    have hn : nextB seq l = seq + n := by unfold nextB; rw [if_pos hc, hlen]
    rw [hc] at C
    rw [hn]
    have w1' : IntKind.u64.wrap (n : Int) = (n : Int) := wrap_u64_nat (by omega)
    have w2' : IntKind.u64.wrap ((seq : Int) + (n : Int)) = ((seq + n : Nat) : Int) := by have := wrap_u64_nat (n := seq + n) (by omega); rw [← this]; congr 1
    have hW : (w.alloc (.cells #[.int .u64 (seq : Int), .slice a n c] 25)).heap.size = w.heap.size + 1 := by simp
    clear h hlen hR hc hn q
    go_enter Try.func22, Try.ntmps22
    go_wp2_with fail
    refine C.out.mono ?_
    rintro e w1 ⟨rfl, hb1⟩
    have y0 := (hb1.cell (p := ⟨w.heap.size, 0, none⟩) (by simp)).trans c0
    have y1 := (hb1.cell (p := ⟨w.heap.size, 1, none⟩) (by simp)).trans c1
    have hb := Lib.hid (K.out.trans (hb1.mono K.out.size))
    clear C hb1 K c0 c1 hW
    go_wp2_with fail
    go_returns
    exact ⟨rfl, hb.out⟩
  · have hn : nextB seq l = 0 := by unfold nextB; rw [if_neg (by rw [← hR.out]; exact q)]
    rw [← hR.out] at C
    rw [hn]
    have hcb : (R != 0) = true := by simpa using q
    clear h hlen hR hn q
    go_enter Try.func22, Try.ntmps22
    go_wp2_with fail
    refine C.out.mono ?_
    rintro e w1 ⟨rfl, hb1⟩
    have hb := Lib.hid (K.out.trans (hb1.mono K.out.size))
    clear C hb1 K
    go_wp2_with fail
    go_returns
    exact ⟨rfl, hb.out⟩
end Go.Proofs.Ytaanclnppfpocaa
