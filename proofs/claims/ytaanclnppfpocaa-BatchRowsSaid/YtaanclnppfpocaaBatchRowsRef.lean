/-
  The contract of the document's Rows. No condition.
-/
import Derived.Test.YtaanclnppfpocaaBatchSameRef
import Derived.Deep.RegionHeldLaw
import Derived.Deep.DrawnRows
import Derived.Deep.AppendLies
namespace Go.Proofs.Ytaanclnppfpocaa
open Go.RowKit
attribute [local go_sem ↓] Go.wp_at_zero Go.wp_at_succ
theorem step_append_row {ops : Array Oper} {o : Oper} {a : Act} {w : World} {K : Act → World → Prop} {Q : Exit → Act → World → Prop} {E : Prop} (hgd : o.guard = none) (s x : Operand)
    (ho : o.op = .call { callee := .builtin .append, args := #[s, x], argTypes := #[37, 37] }) (v : Value) (n : Nat) (xs : List Value) (hs : a.eval s = v) (B : Nat) (hown : w.ownsRow B 40 4 v n xs) (hn : n ≤ 1048576) (hB : B ≤ w.heap.size)
    (G c : Nat) (x0 x1 x2 x3 : Value) (hx : a.eval x = .slice (some ⟨G, 0, none⟩) 1 c) (hb : w.heap[G]? = some (.cells #[x0, x1, x2, x3] 40 (0, 0))) (h1 : ∀ u ∈ [x0, x1, x2, x3], u.oneCell' = true)
    (h : ∀ g cap w', w'.ownsRow B 40 4 (.slice (some ⟨g, 0, none⟩) (n + 1) cap) (n + 1) (xs ++ [x0, x1, x2, x3]) → w.grownBy w' v.ownBlock → K (a.put o.dst (.slice (some ⟨g, 0, none⟩) (n + 1) cap)) w') :
    if Region.wanted o (yielded ops a.tmps) = true then Oper.wp Try.prog o a w K Q else E := by
  obtain ⟨i0, hi, hz0, hz1, hz2⟩ := info_parts (show (Try.prog.info? 40).map (fun i => (i.zero, i.size, i.bytes)) = some (some (.agg #[.string .empty, .int .u64 0, .int .i64 0, .string .empty]), 4, 48) by kernel_rfl)
  exact step_append_lies w hgd s x _ ho B 40 i0 _ 4 48 Try.underlying37 hi hz0 hz1 hz2 rfl (by decide) v n xs hs hown _ 1 c [x0, x1, x2, x3] hx rfl (World.news_of_block hb) h1 (by decide) (by unfold maxLen; omega) (by omega) hB _ rfl fun g cap w' a1 a2 _ _ => h g cap w' a1 a2
/-- Rows under way: the batch's box, the rows so far. -/
structure RSt (seq : Nat) (a : Option Addr) (n c : Nat) (xs : List Rw) (v : Value) (w wr : World) : Prop where
  box : wr.heap[w.heap.size]? = some (.cells #[.int .u64 (seq : Int), .slice a n c] 25 (0, 0))
  row : wr.ownsRow (w.heap.size + 1) 40 4 v xs.length (rowR xs)
  bel : Below w.heap.size w wr
theorem RSt.grow {seq : Nat} {a : Option Addr} {n c : Nat} {xs : List Rw} {v : Value} {w wr w2 : World} {o : Obj} {g cap : Nat} {y : Rw} (h : RSt seq a n c xs v w wr)
    (hr : w2.ownsRow (w.heap.size + 1) 40 4 (.slice (some ⟨g, 0, none⟩) (xs.length + 1) cap) (xs.length + 1) (rowR xs ++ [.string y.key, .int .u64 (y.seq : Int), .int .i64 y.kind, .string y.val])) (hg : (wr.alloc o).drew.grownBy w2 v.ownBlock) :
    RSt seq a n c (xs ++ [y]) (.slice (some ⟨g, 0, none⟩) (xs.length + 1) cap) w w2 := by
  have l0 := (Array.getElem?_eq_some_iff.1 h.box).1
  have hlo : ∀ g, v.ownBlock = some g → w.heap.size + 1 ≤ g := fun g e => (World.ownsRow.lt h.row g e).1
  have b0 : w2.heap[w.heap.size]? = wr.heap[w.heap.size]? := (hg.block w.heap.size (by show _ < (wr.alloc o).heap.size; simp; omega) (fun e => by have := hlo _ e.symm; omega)).trans (Lib.alloc_old wr _ _ l0)
  refine ⟨b0.trans h.box, ?_, ?_⟩
  · rw [rowR_snoc, List.length_append]; exact hr
  · have hz := h.bel.size
    exact (h.bel.alloc (by omega) o).trans ⟨hg.os, hg.tape, hg.output, hg.size, fun k hk => hg.block k (by show _ < (wr.alloc o).heap.size; simp; omega) (fun e => by have := hlo _ e.symm; omega)⟩
set_option maxRecDepth 100000 in
set_option maxHeartbeats 4000000 in
theorem refrows_good {seq : Nat} {a : Option Addr} {n c b o : Nat} {l : List Wr} {w : World} (h : Ws a n c b o l w) (hc : chkB seq l = 0) :
    Calls Try.prog 20 #[batchV seq a n c] w fun e w' => (∃ v, e = .returned v ∧ w'.ownsRow (w.heap.size + 1) 40 4 v n (rowR (rowsFrom seq l))) ∧ Below w.heap.size w w' := by
  obtain ⟨k0, k1, k2, k3, k4⟩ := chkB_ok hc
  rw [h.len] at k0 k3
  obtain ⟨c0, c1⟩ := box_batch w seq (.slice a n c)
  have K := Lib.hid (below_alloc w (.cells #[.int .u64 (seq : Int), .slice a n c] 25))
  have C := Lib.hid (refcheck_any (seq := seq) (h.below K.out (Nat.le_refl _)))
  rw [hc] at C
  have E0 := Lib.hid (heap_alloc_new w (.cells #[.int .u64 (seq : Int), .slice a n c] 25))
  have hcap := h.cap
  have hmost := h.most
  have hlen := Lib.hid h.len
  have h := Lib.hid h
  clear k4 hc
  go_enter Try.func20, Try.ntmps20
  go_wp2_with fail
  refine C.out.mono ?_
  rintro e w1 ⟨rfl, hb1⟩
  have S0 : Hid (RSt seq a n c [] (.slice none 0 0) w w1) := Lib.hid ⟨(hb1.block w.heap.size (Array.getElem?_eq_some_iff.1 E0.out).1).trans E0.out, World.ownsRow_nil _ _ _ _, K.out.trans (hb1.mono K.out.size)⟩
  clear C c0 c1 hb1 K E0
  go_wp2_with fail
  go_loopw [4, 3] (fun i v wr => ∃ (j : Nat) (sv : Value), j ≤ n ∧ i = .int .i64 (j : Int) ∧ v = sv ∧ RSt seq a n c ((rowsFrom seq l).take j) sv w wr) (fun i _ _ => n - (intOf i).toNat)
  case atStart => exact ⟨0, _, Nat.zero_le _, rfl, rfl, S0.out⟩
  case round =>
    clear S0
    obtain ⟨j, sv, hj, rfl, hv, hS⟩ := hrel
    have hl : (rowsFrom seq l).length = n := (rowsFrom_len _ _).trans hlen.out
    have htl : ((rowsFrom seq l).take j).length = j := by rw [List.length_take]; omega
    obtain ⟨x0, x1⟩ := pair_cells hS.box
    have hsh : ∃ p q, sv = .slice p j q := by
      rcases hS.row.2 with ⟨rfl, e⟩ | ⟨g, cap, cur, rfl, _⟩
      · exact ⟨none, 0, by rw [htl] at e; subst e; rfl⟩
      · exact ⟨_, _, by rw [htl]⟩
    by_cases hlt : j < n
    · obtain ⟨y, hy, rfl, a0, a1, a2⟩ := (h.out.below hS.bel (Nat.le_refl _)).at3 hlt
      obtain ⟨xk, xs, xv⟩ := y
      simp only at a0 a1 a2
      have htk : Hid ((rowsFrom seq l).take (j + 1) = (rowsFrom seq l).take j ++ [⟨xs, seq + j, xk, xv⟩]) := Lib.hid (by rw [List.take_add_one, rowsFrom_at, hy]; rfl)
      have hB0 : w.heap.size + 1 ≤ wr.heap.size := (Array.getElem?_eq_some_iff.1 hS.box).1
      have hrow := hS.row
      rw [htl] at hrow
      obtain ⟨p, q, rfl⟩ := hsh
      subst hv
      have sw : IntKind.u64.wrap ((seq : Int) + (j : Int)) = ((seq + j : Nat) : Int) := by have := wrap_u64_nat (n := seq + j) (by omega); rw [← this]; congr 1
      have jw : IntKind.u64.wrap (j : Int) = (j : Int) := wrap_u64_nat (by omega)
      have hS := Lib.hid hS
      have hy := Lib.hid hy
      have htl := Lib.hid htl
      have hl := Lib.hid hl
      have hjm := Lib.hid (show j ≤ 1048576 by omega)
      have hrow := Lib.hid hrow
      have hone := Lib.hid (show ∀ u ∈ [Value.string xs, .int .u64 ((seq + j : Nat) : Int), .int .i64 xk, .string xv], u.oneCell' = true by simp [Value.oneCell'])
      go_upto_region 7 with fail
      have s0 : Hid (wr.drew.cell? ⟨w.heap.size, 0, none⟩ = some (.int .u64 (seq : Int)) ∧ wr.drew.cell? ⟨w.heap.size, 1, none⟩ = some (.slice (some ⟨b, o, none⟩) n c) ∧ wr.drew.cell? ⟨b, o + j * 3, none⟩ = some (.int .i64 xk) ∧ wr.drew.cell? ⟨b, o + j * 3 + 1, none⟩ = some (.string xs) ∧ wr.drew.cell? ⟨b, o + j * 3 + 2, none⟩ = some (.string xv)) := Lib.hid ⟨x0, x1, a0, a1, a2⟩
      have l0 : Hid (w.heap.size < wr.heap.size ∧ b < wr.heap.size) := Lib.hid ⟨World.block_lt_of_cell? _ _ x0, World.block_lt_of_cell? _ _ a0⟩
      have s1 : Hid ((wr.alloc (.cells #[.string xs, .int .u64 ((seq + j : Nat) : Int), .int .i64 xk, .string xv] 40)).drew.cell? ⟨w.heap.size, 0, none⟩ = some (.int .u64 (seq : Int)) ∧ (wr.alloc (.cells #[.string xs, .int .u64 ((seq + j : Nat) : Int), .int .i64 xk, .string xv] 40)).drew.cell? ⟨w.heap.size, 1, none⟩ = some (.slice (some ⟨b, o, none⟩) n c) ∧ (wr.alloc (.cells #[.string xs, .int .u64 ((seq + j : Nat) : Int), .int .i64 xk, .string xv] 40)).drew.cell? ⟨b, o + j * 3, none⟩ = some (.int .i64 xk) ∧ (wr.alloc (.cells #[.string xs, .int .u64 ((seq + j : Nat) : Int), .int .i64 xk, .string xv] 40)).drew.cell? ⟨b, o + j * 3 + 1, none⟩ = some (.string xs) ∧ (wr.alloc (.cells #[.string xs, .int .u64 ((seq + j : Nat) : Int), .int .i64 xk, .string xv] 40)).drew.cell? ⟨b, o + j * 3 + 2, none⟩ = some (.string xv)) := Lib.hid ⟨(World.cell?_alloc_lt _ _ _ l0.out.1).trans x0, (World.cell?_alloc_lt _ _ _ l0.out.1).trans x1, (World.cell?_alloc_lt _ _ _ l0.out.2).trans a0, (World.cell?_alloc_lt _ _ _ l0.out.2).trans a1, (World.cell?_alloc_lt _ _ _ l0.out.2).trans a2⟩
      have hrow3 : Hid ((wr.alloc (.cells #[.string xs, .int .u64 ((seq + j : Nat) : Int), .int .i64 xk, .string xv] 40)).drew.ownsRow (w.heap.size + 1) 40 4 (.slice p j q) j (rowR ((rowsFrom seq l).take j))) := Lib.hid (hrow.out.alloc _)
      have hnew : Hid ((wr.alloc (.cells #[.string xs, .int .u64 ((seq + j : Nat) : Int), .int .i64 xk, .string xv] 40)).drew.heap[wr.heap.size]? = some (.cells #[.string xs, .int .u64 ((seq + j : Nat) : Int), .int .i64 xk, .string xv] 40 (0, 0))) := Lib.hid (heap_alloc_new wr _)
      have hbase2 : Hid (w.heap.size + 1 ≤ (wr.alloc (.cells #[.string xs, .int .u64 ((seq + j : Nat) : Int), .int .i64 xk, .string xv] 40)).drew.heap.size) := Lib.hid (by show _ ≤ (wr.alloc _).heap.size; simp; omega)
      have hbo : Hid (∀ g, (Value.slice p j q).ownBlock = some g → g ≠ w.heap.size ∧ g ≠ b) := Lib.hid fun g hg => by
        have h1 := (World.ownsRow.lt hrow.out g hg).1
        have h2 := (h.out.addr (by omega)).2
        omega
      go_region_held_law (fun v => v.cell? ⟨w.heap.size, 0, none⟩ = some (.int .u64 (seq : Int)) ∧ v.cell? ⟨w.heap.size, 1, none⟩ = some (.slice (some ⟨b, o, none⟩) n c) ∧ v.cell? ⟨b, o + j * 3, none⟩ = some (.int .i64 xk) ∧ v.cell? ⟨b, o + j * 3 + 1, none⟩ = some (.string xs) ∧ v.cell? ⟨b, o + j * 3 + 2, none⟩ = some (.string xv))
        (first
          | exact s0.out
          | exact s1.out
          | exact s2.out)
        ((refine step_append_row (by rfl) (.tmp 16) (.tmp 41) (by rfl) (.slice p j q) j _ (by rfl) (w.heap.size + 1) hrow3.out hjm.out hbase2.out wr.heap.size 1 (.string xs) (.int .u64 ((seq + j : Nat) : Int)) (.int .i64 xk) (.string xv) (by rfl) hnew.out hone.out ?_; intro g cap w2 hrow2 hgrow2; have s2 : Hid (w2.cell? ⟨w.heap.size, 0, none⟩ = some (.int .u64 (seq : Int)) ∧ w2.cell? ⟨w.heap.size, 1, none⟩ = some (.slice (some ⟨b, o, none⟩) n c) ∧ w2.cell? ⟨b, o + j * 3, none⟩ = some (.int .i64 xk) ∧ w2.cell? ⟨b, o + j * 3 + 1, none⟩ = some (.string xs) ∧ w2.cell? ⟨b, o + j * 3 + 2, none⟩ = some (.string xv)) := Lib.hid ⟨hgrow2.cell s1.out.1 (fun e => (hbo.out _ e.symm).1 rfl), hgrow2.cell s1.out.2.1 (fun e => (hbo.out _ e.symm).1 rfl), hgrow2.cell s1.out.2.2.1 (fun e => (hbo.out _ e.symm).2 rfl), hgrow2.cell s1.out.2.2.2.1 (fun e => (hbo.out _ e.symm).2 rfl), hgrow2.cell s1.out.2.2.2.2 (fun e => (hbo.out _ e.symm).2 rfl)⟩))
      all_goals (
        have G : Hid (RSt seq (some ⟨b, o, none⟩) n c ((rowsFrom seq l).take (j + 1)) (.slice (some ⟨g, 0, none⟩) (j + 1) cap) w w2) := Lib.hid (by
          have := hS.out.grow (y := ⟨xs, seq + j, xk, xv⟩) (by rw [htl.out]; exact hrow2) hgrow2
          rw [htl.out] at this
          rw [htk.out]; exact this)
        clear hrow2 hgrow2 hrow3 hnew hbase2 hS s0 s1 s2 l0 hbo hrow x0 x1 a0 a1 a2
        go_wp2_with fail
        go_roundw
        case rel => exact ⟨j + 1, _, by omega, by go_num, rfl, G.out⟩
        case measure => simp [intOf]; omega)
    · have hjn : j = n := by omega
      subst hjn
      obtain ⟨p, q, rfl⟩ := hsh
      subst hv
      have hS := Lib.hid hS
      go_wp2_with fail
      go_returns
      refine ⟨⟨_, rfl, ?_⟩, hS.out.bel⟩
      have := hS.out.row
      rwa [htl, show (rowsFrom seq l).take j = rowsFrom seq l from List.take_of_length_le (by omega)] at this
set_option maxRecDepth 100000 in
set_option maxHeartbeats 1000000 in
theorem refrows_bad {seq : Nat} {a : Option Addr} {n c b o : Nat} {l : List Wr} {w : World} (h : Ws a n c b o l w) (hc : chkB seq l ≠ 0) :
    Calls Try.prog 20 #[batchV seq a n c] w fun e w' => e = .returned (.slice none 0 0) ∧ Below w.heap.size w w' := by
  obtain ⟨c0, c1⟩ := box_batch w seq (.slice a n c)
  have K := Lib.hid (below_alloc w (.cells #[.int .u64 (seq : Int), .slice a n c] 25))
  have C := Lib.hid (refcheck_any (seq := seq) (h.below K.out (Nat.le_refl _)))
  obtain ⟨R, hR⟩ := named (chkB seq l)
  rw [← hR.out] at C hc
  have hcb : (R != 0) = true := by simpa using hc
  clear h hR
  go_enter Try.func20, Try.ntmps20
  go_wp2_with fail
  refine C.out.mono ?_
  rintro e w1 ⟨rfl, hb1⟩
  have hb := Lib.hid (K.out.trans (hb1.mono K.out.size))
  clear C hb1 K
  go_wp2_with fail
  go_returns
  exact ⟨rfl, hb.out⟩
theorem refrows_any {seq : Nat} {a : Option Addr} {n c b o : Nat} {l : List Wr} {w : World} (h : Ws a n c b o l w) :
    Calls Try.prog 20 #[batchV seq a n c] w fun e w' => ∃ a' n' c' b', e = .returned (.slice a' n' c') ∧ Rs a' n' c' b' 0 (rowsB seq l) w' ∧ Below w.heap.size w w' := by
  unfold rowsB
  by_cases hc : chkB seq l = 0
  · refine (refrows_good h hc).mono fun e w' ⟨⟨v, he, hr⟩, hb⟩ => ?_
    rw [if_pos hc]
    have hn : (rowsFrom seq l).length = n := (rowsFrom_len _ _).trans h.len
    rw [← hn] at hr
    obtain ⟨a', c', b', hv, hR, _⟩ := rs_of_row hr
    exact ⟨a', _, c', b', by rw [he, hv], hR, hb⟩
  · refine (refrows_bad h hc).mono fun e w' ⟨he, hb⟩ => ?_
    rw [if_neg hc]
    exact ⟨none, 0, 0, 0, he, ⟨rfl, Nat.le_refl _, by omega, fun h => absurd h (by omega), RwsAt.nil _ _ _⟩, hb⟩
end Go.Proofs.Ytaanclnppfpocaa
