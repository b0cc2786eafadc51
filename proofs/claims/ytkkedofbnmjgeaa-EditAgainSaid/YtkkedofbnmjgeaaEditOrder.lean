/-
  The order of a level is checked. No condition.
-/
import Derived.Test.YtkkedofbnmjgeaaEditLevel
namespace Go.Proofs.Ytkkedofbnmjgeaa
set_option maxRecDepth 100000
open Go.RowKit
theorem ordTo_succ {bn : Bool} {l : List Mt} {j : Nat} {x y : Mt} (h : ∀ i x y, i < j → l[i]? = some x → l[i + 1]? = some y → ordP bn x y) (hx : l[j]? = some x) (hy : l[j + 1]? = some y) (hp : ordP bn x y) : ∀ i x y, i < j + 1 → l[i]? = some x → l[i + 1]? = some y → ordP bn x y := fun i x' y' hi hx' hy' => by
  rcases Nat.lt_or_ge i j with h1 | h1
  · exact h i x' y' h1 hx' hy'
  · obtain rfl : i = j := by omega
    rw [hx] at hx'; rw [hy] at hy'; cases hx'; cases hy'; exact hp
theorem geq_str (a b : ByteArray) (B : Bool) (h : (!Op.bytesLess a.toList b.toList) = B) (u : World) : (binOp .geq 9 (.string a) (.string b)).run Try.prog u = .ok (.bool B) u := by
  have e : binOp .geq 9 (.string a) (.string b) = pure (.bool (!Op.bytesLess a.toList b.toList)) := by simp [binOp, Op.stringOp]
  rw [e, h]
  rfl
set_option maxRecDepth 100000 in
set_option maxHeartbeats 8000000 in
theorem inorder_any {h : Hd} {l : List Mt} {w : World} (hM : Ms h l w) (bn : Bool) (nx sq mb : Nat) : Calls Try.prog 48 #[lvV h bn nx sq mb] w fun e w' => e = .returned (.bool (tf (OrdP bn l))) ∧ Below w.heap.size w w' := by
  obtain ⟨a, n, c, b, o⟩ := h
  have hlen : Hid (l.length = n) := Lib.hid hM.len
  have m0 : c ≤ 9223372036854775807 := hM.sl.most
  have q0 : n ≤ c := hM.sl.cap
  have L1 := Lib.hid (LvAt.new ⟨a, n, c, b, o⟩ bn nx sq mb w)
  have W1 := Lib.hid (below_alloc w (lvO ⟨a, n, c, b, o⟩ bn nx sq mb))
  have hM := Lib.hid (hM.below W1.out)
  obtain ⟨T, hT⟩ := named (tf (OrdP bn l))
  rw [← hT.out]
  replace hT := Lib.hid hT.out
  go_enter Try.func48, Try.ntmps48
  go_wp2_with fail
  go_loopw [3] (fun i wr => ∃ j : Nat, (j + 1 ≤ n ∨ j = 0) ∧ i = .int .i64 ((j : Int) + 1) ∧ Hid (∀ i x y, i < j → l[i]? = some x → l[i + 1]? = some y → ordP bn x y) ∧ Hid (Below (w.alloc (lvO ⟨a, n, c, b, o⟩ bn nx sq mb)).heap.size (w.alloc (lvO ⟨a, n, c, b, o⟩ bn nx sq mb)) wr)) (fun i _ => n - (intOf i).toNat)
  case atStart => exact ⟨0, .inr rfl, rfl, Lib.hid (fun i x y hi => absurd hi (Nat.not_lt_zero i)), Lib.hid (Below.refl _ _)⟩
  case round =>
    obtain ⟨j, hj, rfl, hp, hb⟩ := hrel
    obtain ⟨l0, l1, l2, l3, l4⟩ := (L1.out.below hb.out).cells
    by_cases hlt : j + 1 < n
    · obtain ⟨x, hx, rfl, hbl, x0, x1, x2, x3, x4, x5, x6⟩ := (hM.out.below hb.out).at7x (show j < n by omega)
      obtain ⟨y, hy, _, _, y0, y1, y2, y3, y4, y5, y6⟩ := (hM.out.below hb.out).at7x hlt
      replace hx := Lib.hid hx
      replace hy := Lib.hid hy
      have i0 : (j : Int) + 1 < (n : Int) := by omega
      have i1 : (j : Int) < (n : Int) := by omega
      have i2 : (0 : Int) ≤ (j : Int) + 1 := by omega
      have i3 : j < n := by omega
      have wr1 : wrap64 ((j : Int) + 1 - 1) = (j : Int) := by unfold wrap64; omega
      have wr2 : (j : Int) + 1 - 1 = (j : Int) := by omega
      have wr3 : wrap64 (j : Int) = (j : Int) := by unfold wrap64; omega
      have wr4 : IntKind.i64.wrap (j : Int) = (j : Int) := by simp [IntKind.wrap_i64]; omega
      have wr5 : IntKind.i64.wrap ((j : Int) + 1 - 1) = (j : Int) := by rw [wr2, wr4]
      have zlt : w.heap.size < wr.heap.size := Nat.lt_of_lt_of_le (by rw [World.size_alloc]; omega) hb.out.size
      have d1 : ¬ b = wr.heap.size := by omega
      have d2 : ¬ b = wr.heap.size + 1 := by omega
      have d3 : ¬ w.heap.size = wr.heap.size := by omega
      have d4 : ¬ w.heap.size = wr.heap.size + 1 := by omega
      have LK : ∀ u, Below wr.heap.size wr u → u.cell? ⟨w.heap.size, 1, none⟩ = some (.bool bn) := fun u hu => ((L1.out.below hb.out).below hu).cells.2.1
      have m1 := LK _ ((below_alloc wr (mtO x)).alloc (by simp) (mtO y))
      have m2 := LK _ ((below_alloc wr (mtO y)).alloc (by simp) (mtO x))
      have B1 := Lib.hid (below_of hb.out ((below_alloc wr (mtO x)).alloc (by simp) (mtO y)).drew)
      have B2 := Lib.hid (below_of hb.out ((below_alloc wr (mtO y)).alloc (by simp) (mtO x)).drew)
      clear LK
      have hno : Hid (¬ ordP bn x y → T = false) := Lib.hid (fun h => by rw [hT.out]; exact tf_false (fun g => h (g j x y hx.out hy.out)))
      have hyes : Hid (ordP bn x y → ∀ i x y, i < j + 1 → l[i]? = some x → l[i + 1]? = some y → ordP bn x y) := Lib.hid (fun h => ordTo_succ hp.out hx.out hy.out h)
      cases bn with
      | true =>
        by_cases ho : x.num < y.num
        · have k1 : ¬ (y.num : Int) ≤ (x.num : Int) := by omega
          have P2 := Lib.hid (hyes.out ho)
          clear ho hp hno hyes
          go_upto_region 4 with fail
          go_region_held (fun v => v.cell? ⟨w.heap.size, 0, none⟩ = some (.slice (some ⟨b, o, none⟩) n c) ∧ (v.cell? ⟨b, o + j * 7, none⟩ = some (.int .u64 (x.num : Int)) ∧ v.cell? ⟨b, o + j * 7 + 1, none⟩ = some (.int .i64 x.size) ∧ v.cell? ⟨b, o + j * 7 + 2, none⟩ = some (.int .i64 x.rows) ∧ v.cell? ⟨b, o + j * 7 + 3, none⟩ = some (.string x.fst) ∧ v.cell? ⟨b, o + j * 7 + 4, none⟩ = some (.string x.lst) ∧ v.cell? ⟨b, o + j * 7 + 5, none⟩ = some (.int .u64 (x.least : Int)) ∧ v.cell? ⟨b, o + j * 7 + 6, none⟩ = some (.int .u64 (x.gr : Int))) ∧ (v.cell? ⟨b, o + (j + 1) * 7, none⟩ = some (.int .u64 (y.num : Int)) ∧ v.cell? ⟨b, o + (j + 1) * 7 + 1, none⟩ = some (.int .i64 y.size) ∧ v.cell? ⟨b, o + (j + 1) * 7 + 2, none⟩ = some (.int .i64 y.rows) ∧ v.cell? ⟨b, o + (j + 1) * 7 + 3, none⟩ = some (.string y.fst) ∧ v.cell? ⟨b, o + (j + 1) * 7 + 4, none⟩ = some (.string y.lst) ∧ v.cell? ⟨b, o + (j + 1) * 7 + 5, none⟩ = some (.int .u64 (y.least : Int)) ∧ v.cell? ⟨b, o + (j + 1) * 7 + 6, none⟩ = some (.int .u64 (y.gr : Int)))) (first | exact ⟨l0, ⟨x0, x1, x2, x3, x4, x5, x6⟩, ⟨y0, y1, y2, y3, y4, y5, y6⟩⟩ | go_keep) (fail)
          all_goals go_wp2_with fail
          all_goals go_roundw
          all_goals first
            | (case rel => exact ⟨j + 1, .inl (by omega), by first | rfl | (congr 1; omega) | go_num, P2, B1⟩)
            | (case rel => exact ⟨j + 1, .inl (by omega), by first | rfl | (congr 1; omega) | go_num, P2, B2⟩)
            | (simp [intOf]; omega)
        · have k1 : (y.num : Int) ≤ (x.num : Int) := by omega
          have hF := Lib.hid (hno.out ho)
          clear ho hp hno hyes
          go_upto_region 4 with fail
          go_region_held (fun v => v.cell? ⟨w.heap.size, 0, none⟩ = some (.slice (some ⟨b, o, none⟩) n c) ∧ (v.cell? ⟨b, o + j * 7, none⟩ = some (.int .u64 (x.num : Int)) ∧ v.cell? ⟨b, o + j * 7 + 1, none⟩ = some (.int .i64 x.size) ∧ v.cell? ⟨b, o + j * 7 + 2, none⟩ = some (.int .i64 x.rows) ∧ v.cell? ⟨b, o + j * 7 + 3, none⟩ = some (.string x.fst) ∧ v.cell? ⟨b, o + j * 7 + 4, none⟩ = some (.string x.lst) ∧ v.cell? ⟨b, o + j * 7 + 5, none⟩ = some (.int .u64 (x.least : Int)) ∧ v.cell? ⟨b, o + j * 7 + 6, none⟩ = some (.int .u64 (x.gr : Int))) ∧ (v.cell? ⟨b, o + (j + 1) * 7, none⟩ = some (.int .u64 (y.num : Int)) ∧ v.cell? ⟨b, o + (j + 1) * 7 + 1, none⟩ = some (.int .i64 y.size) ∧ v.cell? ⟨b, o + (j + 1) * 7 + 2, none⟩ = some (.int .i64 y.rows) ∧ v.cell? ⟨b, o + (j + 1) * 7 + 3, none⟩ = some (.string y.fst) ∧ v.cell? ⟨b, o + (j + 1) * 7 + 4, none⟩ = some (.string y.lst) ∧ v.cell? ⟨b, o + (j + 1) * 7 + 5, none⟩ = some (.int .u64 (y.least : Int)) ∧ v.cell? ⟨b, o + (j + 1) * 7 + 6, none⟩ = some (.int .u64 (y.gr : Int)))) (first | exact ⟨l0, ⟨x0, x1, x2, x3, x4, x5, x6⟩, ⟨y0, y1, y2, y3, y4, y5, y6⟩⟩ | go_keep) (fail)
          all_goals go_wp2_with fail
          all_goals go_returns
          · exact ⟨by rw [hF.out]; rfl, below_of W1.out B1.out⟩
          · exact ⟨by rw [hF.out]; rfl, below_of W1.out B2.out⟩
      | false =>
        by_cases ho : Op.bytesLess x.lst.toList y.fst.toList = true
        · have GE := geq_str x.lst y.fst false (by rw [ho]; rfl)
          have P2 := Lib.hid (hyes.out ho)
          clear ho hp hno hyes
          go_upto_region 4 with fail
          go_region_held (fun v => v.cell? ⟨w.heap.size, 0, none⟩ = some (.slice (some ⟨b, o, none⟩) n c) ∧ (v.cell? ⟨b, o + j * 7, none⟩ = some (.int .u64 (x.num : Int)) ∧ v.cell? ⟨b, o + j * 7 + 1, none⟩ = some (.int .i64 x.size) ∧ v.cell? ⟨b, o + j * 7 + 2, none⟩ = some (.int .i64 x.rows) ∧ v.cell? ⟨b, o + j * 7 + 3, none⟩ = some (.string x.fst) ∧ v.cell? ⟨b, o + j * 7 + 4, none⟩ = some (.string x.lst) ∧ v.cell? ⟨b, o + j * 7 + 5, none⟩ = some (.int .u64 (x.least : Int)) ∧ v.cell? ⟨b, o + j * 7 + 6, none⟩ = some (.int .u64 (x.gr : Int))) ∧ (v.cell? ⟨b, o + (j + 1) * 7, none⟩ = some (.int .u64 (y.num : Int)) ∧ v.cell? ⟨b, o + (j + 1) * 7 + 1, none⟩ = some (.int .i64 y.size) ∧ v.cell? ⟨b, o + (j + 1) * 7 + 2, none⟩ = some (.int .i64 y.rows) ∧ v.cell? ⟨b, o + (j + 1) * 7 + 3, none⟩ = some (.string y.fst) ∧ v.cell? ⟨b, o + (j + 1) * 7 + 4, none⟩ = some (.string y.lst) ∧ v.cell? ⟨b, o + (j + 1) * 7 + 5, none⟩ = some (.int .u64 (y.least : Int)) ∧ v.cell? ⟨b, o + (j + 1) * 7 + 6, none⟩ = some (.int .u64 (y.gr : Int)))) (first | exact ⟨l0, ⟨x0, x1, x2, x3, x4, x5, x6⟩, ⟨y0, y1, y2, y3, y4, y5, y6⟩⟩ | go_keep) (fail)
          all_goals go_wp2_with fail
          all_goals go_roundw
          all_goals first
            | (case rel => exact ⟨j + 1, .inl (by omega), by first | rfl | (congr 1; omega) | go_num, P2, B1⟩)
            | (case rel => exact ⟨j + 1, .inl (by omega), by first | rfl | (congr 1; omega) | go_num, P2, B2⟩)
            | (simp [intOf]; omega)
        · have GE := geq_str x.lst y.fst true (by rw [Bool.not_eq_true] at ho; rw [ho]; rfl)
          have hF := Lib.hid (hno.out ho)
          clear ho hp hno hyes
          go_upto_region 4 with fail
          go_region_held (fun v => v.cell? ⟨w.heap.size, 0, none⟩ = some (.slice (some ⟨b, o, none⟩) n c) ∧ (v.cell? ⟨b, o + j * 7, none⟩ = some (.int .u64 (x.num : Int)) ∧ v.cell? ⟨b, o + j * 7 + 1, none⟩ = some (.int .i64 x.size) ∧ v.cell? ⟨b, o + j * 7 + 2, none⟩ = some (.int .i64 x.rows) ∧ v.cell? ⟨b, o + j * 7 + 3, none⟩ = some (.string x.fst) ∧ v.cell? ⟨b, o + j * 7 + 4, none⟩ = some (.string x.lst) ∧ v.cell? ⟨b, o + j * 7 + 5, none⟩ = some (.int .u64 (x.least : Int)) ∧ v.cell? ⟨b, o + j * 7 + 6, none⟩ = some (.int .u64 (x.gr : Int))) ∧ (v.cell? ⟨b, o + (j + 1) * 7, none⟩ = some (.int .u64 (y.num : Int)) ∧ v.cell? ⟨b, o + (j + 1) * 7 + 1, none⟩ = some (.int .i64 y.size) ∧ v.cell? ⟨b, o + (j + 1) * 7 + 2, none⟩ = some (.int .i64 y.rows) ∧ v.cell? ⟨b, o + (j + 1) * 7 + 3, none⟩ = some (.string y.fst) ∧ v.cell? ⟨b, o + (j + 1) * 7 + 4, none⟩ = some (.string y.lst) ∧ v.cell? ⟨b, o + (j + 1) * 7 + 5, none⟩ = some (.int .u64 (y.least : Int)) ∧ v.cell? ⟨b, o + (j + 1) * 7 + 6, none⟩ = some (.int .u64 (y.gr : Int)))) (first | exact ⟨l0, ⟨x0, x1, x2, x3, x4, x5, x6⟩, ⟨y0, y1, y2, y3, y4, y5, y6⟩⟩ | go_keep) (fail)
          all_goals go_wp2_with fail
          all_goals go_returns
          · exact ⟨by rw [hF.out]; rfl, below_of W1.out B1.out⟩
          · exact ⟨by rw [hF.out]; rfl, below_of W1.out B2.out⟩
    · have i0 : ¬ (j : Int) + 1 < (n : Int) := by omega
      have hF : Hid (T = true) := Lib.hid (by
        rw [hT.out]
        refine tf_true (fun i x y hx hy => hp.out i x y ?_ hx hy)
        have := (List.getElem?_eq_some_iff.1 hy).1
        rw [hlen.out] at this
        omega)
      go_wp2_with fail
      go_returns
      exact ⟨by rw [hF.out]; rfl, below_of W1.out hb.out⟩
end Go.Proofs.Ytkkedofbnmjgeaa
