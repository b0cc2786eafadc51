/-
  The contract of the document's Check. No condition.
-/
import Derived.Test.YtaanclnppfpocaaBatchCheck
namespace Go.Proofs.Ytaanclnppfpocaa
open Go.RowKit
theorem Wr.long_no {x : Wr} (h : x.long = false) : x.key.size ≤ 520 ∧ x.val.size ≤ 2048 := by
  unfold Wr.long at h
  simp only [Bool.or_eq_false_iff, decide_eq_false_iff_not] at h
  omega
theorem empty_iff (s : ByteArray) : s = ByteArray.empty ↔ s.size = 0 := by
  constructor
  · intro h; rw [h]; rfl
  · intro h
    apply ByteArray.ext
    exact Array.eq_empty_of_size_eq_zero h
set_option maxRecDepth 100000 in
set_option maxHeartbeats 2000000 in
theorem refcheck_arg {seq : Nat} {a : Option Addr} {n c : Nat} (w : World) (hE : n = 0 ∨ seq < 1 ∨ 72057594037927872 < seq) :
    Calls Try.prog 13 #[batchV seq a n c] w fun e w' => e = .returned (.int .i64 2) ∧ Below w.heap.size w w' := by
  obtain ⟨c0, c1⟩ := box_batch w seq (.slice a n c)
  go_enter Try.func13, Try.ntmps13
  go_wp2
  all_goals first
    | (exfalso; omega)
    | (go_returns; exact ⟨rfl, below_alloc _ _⟩)
set_option maxRecDepth 100000 in
set_option maxHeartbeats 4000000 in
theorem refcheck_main {seq : Nat} {a : Option Addr} {n c b o : Nat} {l : List Wr} {w : World} (h : Ws a n c b o l w) (h0 : n ≠ 0) (h1 : 1 ≤ seq) (h2 : seq ≤ 72057594037927872) :
    Calls Try.prog 13 #[batchV seq a n c] w fun e w' => e = .returned (.int .i64 (chkB seq l)) ∧ Below w.heap.size w w' := by
  obtain ⟨c0, c1⟩ := box_batch w seq (.slice a n c)
  have K := Lib.hid (below_alloc w (.cells #[.int .u64 (seq : Int), .slice a n c] 25))
  have E0 := Lib.hid (heap_alloc_new w (.cells #[.int .u64 (seq : Int), .slice a n c] 25))
  have hcap := h.cap
  have hmost := h.most
  have hE := Lib.hid (chkB_end (seq := seq) (l := l) (by rw [h.len]; omega))
  have hbad := Lib.hid (fun hb : l.any Wr.bad = true => chkB_bad (seq := seq) hb)
  have hlen := Lib.hid h.len
  obtain ⟨R, hR⟩ := named (chkB seq l)
  rw [← hR.out] at hE hbad ⊢
  rw [hlen.out] at hE
  have h := Lib.hid h
  clear hR
  have q0 : ((n : Int) == 0) = false := by simp; omega
  have q1 : decide ((seq : Int) < 1) = false := by rw [decide_eq_false_iff_not]; omega
  have q2 : decide ((72057594037927872 : Int) < (seq : Int)) = false := by rw [decide_eq_false_iff_not]; omega
  go_enter Try.func13, Try.ntmps13
  go_wp2_with fail
  generalize w.alloc (.cells #[.int .u64 (seq : Int), .slice a n c] 25) = W at *
  go_loopw [3] (fun i wr => ∃ j : Nat, j ≤ n ∧ i = .int .i64 (j : Int) ∧ (l.take j).any Wr.bad = false ∧ Below w.heap.size w wr ∧ wr.heap[w.heap.size]? = some (.cells #[.int .u64 (seq : Int), .slice a n c] 25 (0, 0))) (fun i _ => n - (intOf i).toNat)
  case atStart => exact ⟨0, Nat.zero_le _, rfl, by simp, K.out, E0.out⟩
  case round =>
    clear c0 c1 K E0
    obtain ⟨j, hj, rfl, hany, hb, hblk⟩ := hrel
    have c0 : wr.cell? ⟨w.heap.size, 0, none⟩ = some (.int .u64 (seq : Int)) := by simp [World.cell?, hblk]
    have c1 : wr.cell? ⟨w.heap.size, 1, none⟩ = some (.slice a n c) := by simp [World.cell?, hblk]
    have hlt0 := (Array.getElem?_eq_some_iff.1 hblk).1
    have hblk := Lib.hid hblk
    have hb := Lib.hid hb
    have hany := Lib.hid hany
    by_cases hlt : j < n
    · obtain ⟨x, hx, rfl, e0, e1, e2⟩ := (h.out.keep (w' := wr) (fun h0 => hb.out.block b (h.out.addr h0).2) hb.out.size).at3 hlt
      have hx := Lib.hid hx
      obtain ⟨xk, xs, xv⟩ := x
      simp only at e0 e1 e2
      have hlb := World.block_lt_of_cell? _ _ e0
      have hB : Wr.bad ⟨xk, xs, xv⟩ = true ↔ ((xk ≠ 1 ∧ xk ≠ 2) ∨ xs.size = 0 ∨ (xk = 2 ∧ xv.size ≠ 0)) := by
        unfold Wr.bad
        simp only [Bool.or_eq_true, Bool.and_eq_true, bne_iff_ne, beq_iff_eq]
      have take1 : Hid (l.take (j + 1) = l.take j ++ [⟨xk, xs, xv⟩]) := Lib.hid (by rw [List.take_add_one, hx.out]; rfl)
      have BD : Hid (Wr.bad ⟨xk, xs, xv⟩ = true → R = 2) := Lib.hid fun hq => hbad.out (List.any_eq_true.2 ⟨_, List.mem_of_getElem? hx.out, hq⟩)
      have GD : Hid (¬ Wr.bad ⟨xk, xs, xv⟩ = true → (l.take (j + 1)).any Wr.bad = false) := Lib.hid fun hq => by rw [take1.out, List.any_append, hany.out]; simp [Bool.not_eq_true _ ▸ hq]
      have hB := Lib.hid hB
      have KB : Hid (∀ cs, Below w.heap.size w (wr.alloc (.cells cs 44)) ∧ (wr.alloc (.cells cs 44)).heap[w.heap.size]? = some (.cells #[.int .u64 (seq : Int), .slice (some ⟨b, o, none⟩) n c] 25 (0, 0))) := Lib.hid fun cs => ⟨hb.out.alloc hb.out.size _, (show (wr.alloc (.cells cs 44)).heap[w.heap.size]? = wr.heap[w.heap.size]? from by first | exact heap_alloc_old wr _ hlt0 | exact heap_alloc_old wr _ _ hlt0 | exact heap_alloc_old _ hlt0).trans hblk.out⟩
      go_wp2_with fail
      all_goals first
        | (go_returns
           have hB := hB.out
           simp only [empty_iff, beq_iff_eq, beq_eq_false_iff_ne, ne_eq] at *
           have hR2 := BD.out (hB.2 (by omega))
           exact ⟨by rw [hR2]; rfl, (KB.out _).1⟩)
        | (refine ⟨⟨j + 1, by omega, by go_num, GD.out (fun hq => ?_), (KB.out _).1, (KB.out _).2⟩, ?_⟩
           · have hB := hB.out.1 hq
             simp only [empty_iff, beq_eq_false_iff_ne, ne_eq] at *
             omega
           · simp [intOf]; omega)
    · have hjn : j = n := by omega
      subst hjn
      have ht : l.take j = l := by rw [← hlen.out, List.take_length]
      have hR0 := hE.out (by have := hany.out; rwa [ht] at this)
      have hR0 := Lib.hid hR0
      have R3 : Hid (64 < j ∨ l.any Wr.long = true → R = 3) := Lib.hid fun hq => by
        rw [hR0.out]; unfold sofar; rw [if_pos]; rcases hq with hq | hq
        · exact .inl (by simpa using hq)
        · exact .inr hq
      have RZ : Hid (¬ 64 < j → l.any Wr.long = false → R = 0) := Lib.hid fun hq hq2 => by
        rw [hR0.out]; unfold sofar; rw [if_neg]; simp [hq, hq2]
      clear hany hE hbad
      by_cases h64 : 64 < j
      · have d64 : decide ((64 : Int) < (j : Int)) = true := by rw [decide_eq_true_eq]; omega
        have hR3 := R3.out (.inl h64)
        subst hR3
        go_wp2_with fail
        go_returns
        exact ⟨rfl, hb.out⟩
      · have d64 : decide ((64 : Int) < (j : Int)) = false := by rw [decide_eq_false_iff_not]; omega
        go_wp2_with fail
        go_loopw [5] (fun i wq => ∃ k : Nat, k ≤ j ∧ i = .int .i64 (k : Int) ∧ (l.take k).any Wr.long = false ∧ Below w.heap.size w wq ∧ wq.heap[w.heap.size]? = some (.cells #[.int .u64 (seq : Int), .slice a j c] 25 (0, 0))) (fun i _ => j - (intOf i).toNat)
        case atStart => exact ⟨0, Nat.zero_le _, rfl, by simp, hb.out, hblk.out⟩
        case round =>
          clear c0 c1 hb hblk hlt0
          obtain ⟨k, hk, rfl, hlong, hb, hblk⟩ := hrel
          have c1 : wr.cell? ⟨w.heap.size, 1, none⟩ = some (.slice a j c) := by simp [World.cell?, hblk]
          have hblk := Lib.hid hblk
          have hb := Lib.hid hb
          have hlong := Lib.hid hlong
          by_cases hlt : k < j
          · obtain ⟨x, hx, rfl, e0, e1, e2⟩ := (h.out.keep (w' := wr) (fun h0 => hb.out.block b (h.out.addr h0).2) hb.out.size).at3 hlt
            have hx := Lib.hid hx
            obtain ⟨xk, xs, xv⟩ := x
            simp only at e0 e1 e2
            have take1 : Hid (l.take (k + 1) = l.take k ++ [⟨xk, xs, xv⟩]) := Lib.hid (by rw [List.take_add_one, hx.out]; rfl)
            by_cases hq : Wr.long ⟨xk, xs, xv⟩ = true
            · have hR3 := R3.out (.inr (List.any_eq_true.2 ⟨_, List.mem_of_getElem? hx.out, hq⟩))
              have hq2 : 520 < xs.size ∨ (xs.size ≤ 520 ∧ 2048 < xv.size) := by
                unfold Wr.long at hq
                simp only [Bool.or_eq_true, decide_eq_true_eq] at hq
                omega
              subst hR3
              clear hq
              rcases hq2 with g1 | ⟨g1, g2⟩
              · have d1 : decide ((520 : Int) < (xs.size : Int)) = true := by rw [decide_eq_true_eq]; omega
                go_wp2_with fail
                go_returns
                exact ⟨rfl, hb.out⟩
              · have d1 : decide ((520 : Int) < (xs.size : Int)) = false := by rw [decide_eq_false_iff_not]; omega
                have d2 : decide ((2048 : Int) < (xv.size : Int)) = true := by rw [decide_eq_true_eq]; omega
                go_wp2_with fail
                go_returns
                exact ⟨rfl, hb.out⟩
            · have hl := Wr.long_no (by simpa using hq : Wr.long ⟨xk, xs, xv⟩ = false)
              simp only at hl
              have d1 : decide ((520 : Int) < (xs.size : Int)) = false := by rw [decide_eq_false_iff_not]; omega
              have d2 : decide ((2048 : Int) < (xv.size : Int)) = false := by rw [decide_eq_false_iff_not]; omega
              have any1 : Hid ((l.take (k + 1)).any Wr.long = false) := Lib.hid (by rw [take1.out, List.any_append, hlong.out]; simpa using hq)
              clear hq
              go_wp2_with fail
              go_roundw
              case rel => exact ⟨k + 1, by omega, by go_num, any1.out, hb.out, hblk.out⟩
              case measure => simp [intOf]; omega
          · have hkj : k = j := by omega
            subst hkj
            have hRz := RZ.out h64 (by have := hlong.out; rwa [ht] at this)
            subst hRz
            go_wp2_with fail
            go_returns
            exact ⟨rfl, hb.out⟩
theorem refcheck_any {seq : Nat} {a : Option Addr} {n c b o : Nat} {l : List Wr} {w : World} (h : Ws a n c b o l w) :
    Calls Try.prog 13 #[batchV seq a n c] w fun e w' => e = .returned (.int .i64 (chkB seq l)) ∧ Below w.heap.size w w' := by
  by_cases hE : n = 0 ∨ seq < 1 ∨ 72057594037927872 < seq
  · rw [chkB_arg (by rw [h.len]; exact hE)]
    exact refcheck_arg w hE
  · exact refcheck_main h (by omega) (by omega) (by omega)
end Go.Proofs.Ytaanclnppfpocaa
