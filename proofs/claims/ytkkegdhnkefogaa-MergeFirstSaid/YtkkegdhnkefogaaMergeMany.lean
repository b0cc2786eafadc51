/-
  The contract of the law's many. No condition.
-/
import Derived.Test.YtkkegdhnkefogaaMergeRefMerge
namespace Go.Proofs.Ytkkegdhnkefogaa
set_option maxRecDepth 100000
open Go.RowKit
def manyB (L : List (List Rw)) : Bool := decide (20 < L.length) || L.any fun l => decide (60 < l.length)
theorem many_no {L : List (List Rw)} (h : manyB L = false) : L.length ≤ 20 ∧ ∀ l ∈ L, l.length ≤ 60 := by
  unfold manyB at h
  rw [Bool.or_eq_false_iff] at h
  refine ⟨by simpa using h.1, fun l hl => ?_⟩
  have := List.any_eq_false.1 h.2 l hl
  simpa using this
theorem sum_few : ∀ {L : List (List Rw)} {k : Nat}, (∀ l ∈ L, l.length ≤ k) → (L.map List.length).sum ≤ L.length * k
  | [], k, _ => by simp
  | l :: L, k, h => by
    have h1 := h l (List.mem_cons_self ..)
    have h2 := sum_few (L := L) (k := k) (fun x hx => h x (List.mem_cons_of_mem _ hx))
    simp only [List.map_cons, List.sum_cons, List.length_cons, Nat.add_mul, Nat.one_mul]; omega
set_option maxRecDepth 100000 in
set_option maxHeartbeats 4000000 in
theorem many_any {p : Option Addr} {n c : Nat} {L : List (List Rw)} {w : World} (h : RL w.heap.size p n c L w) :
    Calls Try.prog 10 #[.slice p n c] w fun e w' => e = .returned (.bool (manyB L)) ∧ Below w.heap.size w w' := by
  have hcap := h.cap
  have hmost := h.most
  have hfull : Hid (L.take n = L) := Lib.hid (by rw [← h.len, List.take_length])
  have hlen := Lib.hid h.len
  have h := Lib.hid h
  by_cases h20 : 20 < n
  · have i0 : (20 : Int) < (n : Int) := by omega
    go_enter Try.func10, Try.ntmps10
    go_wp2_with fail
    go_returns
    refine ⟨?_, Below.refl _ _⟩
    unfold manyB
    rw [hlen.out, decide_eq_true h20]; rfl
  · have i0 : ¬ (20 : Int) < (n : Int) := by omega
    have hL : Hid (manyB L = L.any fun l => decide (60 < l.length)) := Lib.hid (by unfold manyB; rw [hlen.out, decide_eq_false h20]; rfl)
    go_enter Try.func10, Try.ntmps10
    go_wp2_with fail
    go_loopw [3] (fun iv wr => ∃ (j : Nat), j ≤ n ∧ iv = .int .i64 (j : Int) ∧ Hid ((L.take j).any (fun l => decide (60 < l.length)) = false) ∧ Hid (Below w.heap.size w wr)) (fun iv _ => n - (intOf iv).toNat)
    case atStart => exact ⟨0, Nat.zero_le _, rfl, Lib.hid (by simp), Lib.hid (Below.refl _ _)⟩
    case round =>
      obtain ⟨j, hj, rfl, hA, hB⟩ := hrel
      by_cases hjn : j = n
      · subst hjn
        have i1 : ¬ (j : Int) < (j : Int) := by omega
        go_wp2_with fail
        go_returns
        have hA1 := hA.out
        rw [hfull.out] at hA1
        exact ⟨by rw [hL.out, hA1]; rfl, hB.out⟩
      · have i1 : (j : Int) < (n : Int) := by omega
        have hjl : j < n := by omega
        have jw : wrap64 ((j : Int) + 1) = ((j + 1 : Nat) : Int) := by unfold wrap64; omega
        obtain ⟨l, g, o, a, m, d, b, q, hl, rfl, hK⟩ := h.out.fix hjl
        obtain ⟨e1, e2⟩ := hK _ hB.out
        have hlm := e2.len
        have hlen2 : l.length = m := hlm
        have hsn : Hid ((L.take (j + 1)).any (fun l => decide (60 < l.length)) = ((L.take j).any (fun l => decide (60 < l.length)) || decide (60 < m))) := Lib.hid (by rw [List.take_add_one, hl, ← hlm]; simp)
        have hmem := Lib.hid (List.mem_of_getElem? hl)
        replace hlen2 := Lib.hid hlen2
        clear hK e2 hlm hl
        by_cases h60 : 60 < m
        · have i2 : (60 : Int) < (m : Int) := by omega
          go_wp2_with fail
          go_returns
          refine ⟨?_, hB.out⟩
          rw [hL.out]
          refine congrArg (fun b => Ending.returned (.bool b)) (Eq.symm ?_)
          rw [List.any_eq_true]
          exact ⟨l, hmem.out, by rw [hlen2.out]; simpa using h60⟩
        · have i2 : ¬ (60 : Int) < (m : Int) := by omega
          have hA2 : Hid ((L.take (j + 1)).any (fun l => decide (60 < l.length)) = false) := Lib.hid (by rw [hsn.out, hA.out, decide_eq_false h60]; rfl)
          go_wp2_with fail
          go_roundw
          case rel => exact ⟨j + 1, hjl, by first | rfl | rw [jw], hA2, hB⟩
          case measure => simp [intOf] <;> omega
end Go.Proofs.Ytkkegdhnkefogaa
