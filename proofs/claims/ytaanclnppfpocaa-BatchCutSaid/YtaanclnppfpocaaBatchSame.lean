/-
  The contracts of slices.Equal over writes, and of Same. No condition.
-/
import Derived.Test.YtaanclnppfpocaaBatchCheck
import Derived.Test.YtaanclnppfpocaaBut
import Derived.Deep.QuietTactic
import Derived.BigQuiet
import Derived.Deep.Cut
import Derived.Deep.DeepCutAuto
namespace Go.Proofs.Ytaanclnppfpocaa
open Go.RowKit
theorem bytes_inj {s t : ByteArray} (h : s.toList = t.toList) : s = t := by
  rw [ByteArray.toList_eq, ByteArray.toList_eq] at h
  exact ByteArray.ext (Array.toList_inj.1 h)
theorem wr_eq {k1 k2 : Int} {a1 a2 v1 v2 : ByteArray} : (⟨k1, a1, v1⟩ : Wr) = ⟨k2, a2, v2⟩ ↔ k1 = k2 ∧ a1.toList = a2.toList ∧ v1.toList = v2.toList := by
  simp only [Wr.mk.injEq]
  exact ⟨fun ⟨h1, h2, h3⟩ => ⟨h1, by rw [h2], by rw [h3]⟩, fun ⟨h1, h2, h3⟩ => ⟨h1, bytes_inj h2, bytes_inj h3⟩⟩
theorem neq_wr (xk yk : Int) (xs ys xv yv : ByteArray) (B : Bool) (hB : B = true ↔ ¬ (⟨xk, xs, xv⟩ : Wr) = ⟨yk, ys, yv⟩) (u : World) : (binOp .neq 44 (.agg #[.int .i64 xk, .string xs, .string xv]) (.agg #[.int .i64 yk, .string ys, .string yv])).run Try.prog u = .ok (.bool B) u := by
  rw [wr_eq] at hB
  go_simp
  by_cases h1 : xk = yk
  · by_cases h2 : xs.toList = ys.toList
    · by_cases h3 : xv.toList = yv.toList
      · have : B = false := by cases B <;> simp_all
        simp [h1, h2, h3, this]
      · have : B = true := hB.2 (fun h => h3 h.2.2)
        simp [h1, h2, h3, this]
    · have : B = true := hB.2 (fun h => h2 h.2.1)
      simp [h1, h2, this]
  · have : B = true := hB.2 (fun h => h1 h.1)
    simp [h1, this]
open Classical in
set_option maxRecDepth 100000 in
set_option maxHeartbeats 4000000 in
theorem equal_any {p1 p2 : Option Addr} {n1 c1 b1 o1 n2 c2 b2 o2 : Nat} {l1 l2 : List Wr} {w : World} (h1 : Ws p1 n1 c1 b1 o1 l1 w) (h2 : Ws p2 n2 c2 b2 o2 l2 w) :
    Calls Try.prog 37 #[.slice p1 n1 c1, .slice p2 n2 c2] w fun e w' => e = .returned (.bool (decide (l1 = l2))) ∧ Below w.heap.size w w' := by
  have m1 := h1.most
  have m2 := h2.most
  have q1 := h1.cap
  have q2 := h2.cap
  by_cases hn : n1 = n2
  · subst hn
    obtain ⟨R, hR⟩ := named (decide (l1 = l2))
    rw [← hR.out]
    have e1 := Lib.hid h1.len
    have e2 := Lib.hid h2.len
    have h1 := Lib.hid h1
    have h2 := Lib.hid h2
    go_enter Try.func37, Try.ntmps37
    go_wp2_with fail
    go_loopw [13] (fun i wr => ∃ j : Nat, j ≤ n1 ∧ i = .int .i64 (j : Int) ∧ l1.take j = l2.take j ∧ Below w.heap.size w wr) (fun i _ => n1 - (intOf i).toNat)
    case atStart => exact ⟨0, Nat.zero_le _, rfl, rfl, Below.refl _ _⟩
    case round =>
      obtain ⟨j, hj, rfl, ht, hb⟩ := hrel
      by_cases hlt : j < n1
      · obtain ⟨x, hx, rfl, a0, a1, a2⟩ := (h1.out.below hb (Nat.le_refl _)).at3 hlt
        obtain ⟨y, hy, rfl, d0, d1, d2⟩ := (h2.out.below hb (Nat.le_refl _)).at3 hlt
        obtain ⟨xk, xs, xv⟩ := x
        obtain ⟨yk, ys, yv⟩ := y
        simp only at a0 a1 a2 d0 d1 d2
        have hx := Lib.hid hx
        have hy := Lib.hid hy
        have ht := Lib.hid ht
        have hb := Lib.hid hb
        by_cases hxy : (⟨xk, xs, xv⟩ : Wr) = ⟨yk, ys, yv⟩
        · have NEQ : ∀ u : World, (binOp .neq 44 (.agg #[.int .i64 xk, .string xs, .string xv]) (.agg #[.int .i64 yk, .string ys, .string yv])).run Try.prog u = .ok (.bool false) u := fun u => neq_wr _ _ _ _ _ _ _ (by simp [hxy]) u
          have ht2 : Hid (l1.take (j + 1) = l2.take (j + 1)) := Lib.hid (by rw [List.take_add_one, List.take_add_one, ht.out, hx.out, hy.out, hxy])
          clear hxy ht
          go_upto_region 6 with fail
          go_quiet (fail)
          go_wp2_with fail
          go_roundw
          case rel => exact ⟨j + 1, by omega, by go_num, ht2.out, below_drewN hb.out⟩
          case measure => simp [intOf]; omega
        · have NEQ : ∀ u : World, (binOp .neq 44 (.agg #[.int .i64 xk, .string xs, .string xv]) (.agg #[.int .i64 yk, .string ys, .string yv])).run Try.prog u = .ok (.bool true) u := fun u => neq_wr _ _ _ _ _ _ _ (by simpa using hxy) u
          have hR0 : R = false := by
            rw [hR.out, decide_eq_false_iff_not]
            intro e
            have h1 := hx.out
            rw [e, hy.out] at h1
            exact hxy (Option.some.inj h1).symm
          subst hR0
          clear hxy ht
          go_upto_region 6 with fail
          go_quiet (fail)
          go_wp2_with fail
          go_returns
          exact ⟨rfl, below_drewN hb.out⟩
      · have hjn : j = n1 := by omega
        subst hjn
        have hR1 : R = true := by
          rw [hR.out, decide_eq_true_eq]
          rw [← e1.out, List.take_length] at ht
          rw [ht, e1.out, ← e2.out, List.take_length]
        subst hR1
        go_wp2_with fail
        go_returns
        exact ⟨rfl, hb⟩
  · have hR : decide (l1 = l2) = false := by
      rw [decide_eq_false_iff_not]
      intro e
      rw [e] at h1
      exact hn (h1.len.symm.trans h2.len)
    rw [hR]
    have d : (((n1 : Nat) : Int) != ((n2 : Nat) : Int)) = true := by rw [bne_iff_ne]; omega
    clear h1 h2
    go_enter Try.func37, Try.ntmps37
    go_wp2_with fail
    all_goals go_returns
    all_goals exact ⟨rfl, Below.refl _ _⟩
open Classical in
set_option maxRecDepth 100000 in
set_option maxHeartbeats 2000000 in
theorem same_batch {s1 s2 : Nat} {p1 p2 : Option Addr} {n1 c1 b1 o1 n2 c2 b2 o2 : Nat} {l1 l2 : List Wr} {w : World} (h1 : Ws p1 n1 c1 b1 o1 l1 w) (h2 : Ws p2 n2 c2 b2 o2 l2 w) :
    Calls Try.prog 23 #[batchV s1 p1 n1 c1, batchV s2 p2 n2 c2] w fun e w' => e = .returned (.bool (decide (s1 = s2 ∧ l1 = l2))) ∧ Below w.heap.size w w' := by
  have K : Hid (∀ x y : Nat, Below w.heap.size w ((w.alloc (.cells #[.int .u64 (x : Int), .slice p1 n1 c1] 25)).alloc (.cells #[.int .u64 (y : Int), .slice p2 n2 c2] 25))) := Lib.hid fun _ _ => ((below_alloc _ _).alloc (by simp) _)
  have K := Lib.hid (K.out s1 s2)
  by_cases hs : s1 = s2
  · subst hs
    have hd : decide (s1 = s1 ∧ l1 = l2) = decide (l1 = l2) := by congr 1; simp
    rw [hd]
    have C := Lib.hid (equal_any (h1.below K.out (Nat.le_refl _)) (h2.below K.out (Nat.le_refl _)))
    obtain ⟨R, hR⟩ := named (decide (l1 = l2))
    rw [← hR.out] at C ⊢
    have q : (((s1 : Nat) : Int) == ((s1 : Nat) : Int)) = true := by rw [beq_iff_eq]
    clear h1 h2 hd hR
    go_enter Try.func23, Try.ntmps23
    go_wp2_with fail
    refine C.out.mono ?_
    rintro e w' ⟨rfl, hb⟩
    go_wp2_with fail
    go_returns
    exact ⟨rfl, K.out.trans (hb.mono K.out.size)⟩
  · have hd : decide (s1 = s2 ∧ l1 = l2) = false := by rw [decide_eq_false_iff_not]; exact fun h => hs h.1
    rw [hd]
    have q : (((s1 : Nat) : Int) == ((s2 : Nat) : Int)) = false := by rw [beq_eq_false_iff_ne]; omega
    clear h1 h2 hd
    go_enter Try.func23, Try.ntmps23
    go_wp2_with fail
    go_returns
    exact ⟨rfl, K.out⟩
end Go.Proofs.Ytaanclnppfpocaa
