/-
  The contract of Next. No condition.
-/
import Derived.Test.YtaanclnppfpocaaBatchCheck
import Derived.Test.YtaanclnppfpocaaCodeSpell
namespace Go.Proofs.Ytaanclnppfpocaa
open Go.RowKit
def nextB (seq : Nat) (l : List Wr) : Nat := if chkB seq l = 0 then seq + l.length else 0
set_option maxRecDepth 100000 in
set_option maxHeartbeats 2000000 in
theorem next_batch {seq : Nat} {a : Option Addr} {n c b o : Nat} {l : List Wr} {w : World} (h : Ws a n c b o l w) :
    Calls Try.prog 21 #[batchV seq a n c] w fun e w' => e = .returned (.int .u64 (nextB seq l : Int)) ∧ Below w.heap.size w w' := by
  obtain ⟨c0, c1⟩ := box_batch w seq (.slice a n c)
  have K := Lib.hid (below_alloc w (.cells #[.int .u64 (seq : Int), .slice a n c] 25))
  have C := Lib.hid (check_any (seq := seq) (h.below K.out (Nat.le_refl _)))
  have hlen := h.len
  obtain ⟨R, hR⟩ := named (chkB seq l)
  by_cases q : R = 0
  · have hc : chkB seq l = 0 := by rw [← hR.out]; exact q
    obtain ⟨_, k1, k2, k3, _⟩ := chkB_ok hc
    have hn : nextB seq l = seq + n := by unfold nextB; rw [if_pos hc, hlen]
    rw [hc] at C
    rw [hn]
    have w1' : IntKind.u64.wrap (n : Int) = (n : Int) := wrap_u64_nat (by omega)
    have w2' : IntKind.u64.wrap ((seq : Int) + (n : Int)) = ((seq + n : Nat) : Int) := by have := wrap_u64_nat (n := seq + n) (by omega); rw [← this]; congr 1
    have hW : (w.alloc (.cells #[.int .u64 (seq : Int), .slice a n c] 25)).heap.size = w.heap.size + 1 := by simp
    clear h hlen hR hc hn q
    go_enter Try.func21, Try.ntmps21
    go_wp2_with fail
    refine C.out.mono ?_
    rintro e w1 ⟨rfl, hb1⟩
    have y0 := (hb1.cell (p := ⟨w.heap.size, 0, none⟩) (by simp)).trans c0
    have y1 := (hb1.cell (p := ⟨w.heap.size, 1, none⟩) (by simp)).trans c1
    have hb := Lib.hid (K.out.trans (hb1.mono K.out.size))
    clear C hb1 K c0 c1 hW
    go_wp2_with fail
    go_returns
    exact ⟨rfl, hb.out⟩
  · have hn : nextB seq l = 0 := by unfold nextB; rw [if_neg (by rw [← hR.out]; exact q)]
    rw [← hR.out] at C
    rw [hn]
    have hcb : (R != 0) = true := by simpa using q
    clear h hlen hR hn q
    go_enter Try.func21, Try.ntmps21
    go_wp2_with fail
    refine C.out.mono ?_
    rintro e w1 ⟨rfl, hb1⟩
    have hb := Lib.hid (K.out.trans (hb1.mono K.out.size))
    clear C hb1 K
    go_wp2_with fail
    go_returns
    exact ⟨rfl, hb.out⟩
end Go.Proofs.Ytaanclnppfpocaa
