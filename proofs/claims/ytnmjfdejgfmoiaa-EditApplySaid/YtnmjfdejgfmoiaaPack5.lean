/-
  Equality of lists of tables, of versions, of edits; sizes; the law's own bounds. No condition.
-/
import Derived.Test.YtnmjfdejgfmoiaaPack4
import Derived.DeepKeys4
import Derived.Test.YtnmjfdejgfmoiaaShelf
namespace Go.Proofs.Ytnmjfdejgfmoiaa
set_option maxRecDepth 100000
open Go.RowKit
theorem mt_eq {x y : Mt} : x = y ↔ (x.num : Int) = (y.num : Int) ∧ x.size = y.size ∧ x.rows = y.rows ∧ x.fst.toList = y.fst.toList ∧ x.lst.toList = y.lst.toList ∧ (x.least : Int) = (y.least : Int) ∧ (x.gr : Int) = (y.gr : Int) := by
  obtain ⟨a1, a2, a3, a4, a5, a6, a7⟩ := x
  obtain ⟨b1, b2, b3, b4, b5, b6, b7⟩ := y
  simp only [Mt.mk.injEq]
  exact ⟨fun ⟨h1, h2, h3, h4, h5, h6, h7⟩ => ⟨by omega, h2, h3, by rw [h4], by rw [h5], by omega, by omega⟩, fun ⟨h1, h2, h3, h4, h5, h6, h7⟩ => ⟨by omega, h2, h3, bytes_inj h4, bytes_inj h5, by omega, by omega⟩⟩
set_option maxRecDepth 100000 in
set_option maxHeartbeats 8000000 in
theorem neq_mt (x y : Mt) (B : Bool) (hB : B = true ↔ ¬ x = y) (u : World) : (binOp .neq 40 (.agg #[.int .u64 (x.num : Int), .int .i64 x.size, .int .i64 x.rows, .string x.fst, .string x.lst, .int .u64 (x.least : Int), .int .u64 (x.gr : Int)]) (.agg #[.int .u64 (y.num : Int), .int .i64 y.size, .int .i64 y.rows, .string y.fst, .string y.lst, .int .u64 (y.least : Int), .int .u64 (y.gr : Int)])).run Try.prog u = .ok (.bool B) u := by
  rw [mt_eq] at hB
  go_simp
  by_cases h0 : (x.num : Int) = (y.num : Int)
  rotate_left 1
  · have : B = true := hB.2 (fun h => h0 (h.1))
    simp [h0, this]
  by_cases h1 : x.size = y.size
  rotate_left 1
  · have : B = true := hB.2 (fun h => h1 (h.2.1))
    simp [h0, h1, this]
  by_cases h2 : x.rows = y.rows
  rotate_left 1
  · have : B = true := hB.2 (fun h => h2 (h.2.2.1))
    simp [h0, h1, h2, this]
  by_cases h3 : x.fst.toList = y.fst.toList
  rotate_left 1
  · have : B = true := hB.2 (fun h => h3 (h.2.2.2.1))
    simp [h0, h1, h2, h3, this]
  by_cases h4 : x.lst.toList = y.lst.toList
  rotate_left 1
  · have : B = true := hB.2 (fun h => h4 (h.2.2.2.2.1))
    simp [h0, h1, h2, h3, h4, this]
  by_cases h5 : (x.least : Int) = (y.least : Int)
  rotate_left 1
  · have : B = true := hB.2 (fun h => h5 (h.2.2.2.2.2.1))
    simp [h0, h1, h2, h3, h4, h5, this]
  by_cases h6 : (x.gr : Int) = (y.gr : Int)
  rotate_left 1
  · have : B = true := hB.2 (fun h => h6 (h.2.2.2.2.2.2))
    simp [h0, h1, h2, h3, h4, h5, h6, this]
  have : B = false := by cases B <;> simp_all
  simp [h0, h1, h2, h3, h4, h5, h6, this]
theorem gn_eq {x y : Gn} : x = y ↔ x.lev = y.lev ∧ (x.num : Int) = (y.num : Int) := by
  obtain ⟨a1, a2⟩ := x
  obtain ⟨b1, b2⟩ := y
  simp only [Gn.mk.injEq]
  exact ⟨fun ⟨h1, h2⟩ => ⟨h1, by omega⟩, fun ⟨h1, h2⟩ => ⟨h1, by omega⟩⟩
theorem pl_eq {x y : Pl} : x = y ↔ x.lev = y.lev ∧ (x.tb.num : Int) = (y.tb.num : Int) ∧ x.tb.size = y.tb.size ∧ x.tb.rows = y.tb.rows ∧ x.tb.fst.toList = y.tb.fst.toList ∧ x.tb.lst.toList = y.tb.lst.toList ∧ (x.tb.least : Int) = (y.tb.least : Int) ∧ (x.tb.gr : Int) = (y.tb.gr : Int) := by
  obtain ⟨a1, a2⟩ := x
  obtain ⟨b1, b2⟩ := y
  simp only [Pl.mk.injEq, mt_eq]
set_option maxRecDepth 100000 in
set_option maxHeartbeats 8000000 in
theorem neq_gn (x y : Gn) (B : Bool) (hB : B = true ↔ ¬ x = y) (u : World) : (binOp .neq 45 (.agg #[.int .i64 x.lev, .int .u64 (x.num : Int)]) (.agg #[.int .i64 y.lev, .int .u64 (y.num : Int)])).run Try.prog u = .ok (.bool B) u := by
  rw [gn_eq] at hB
  go_simp
  by_cases h0 : x.lev = y.lev
  rotate_left 1
  · have : B = true := hB.2 (fun h => h0 (h.1))
    simp [h0, this]
  by_cases h1 : (x.num : Int) = (y.num : Int)
  rotate_left 1
  · have : B = true := hB.2 (fun h => h1 (h.2))
    simp [h0, h1, this]
  have : B = false := by cases B <;> simp_all
  simp [h0, h1, this]
set_option maxRecDepth 100000 in
set_option maxHeartbeats 8000000 in
theorem neq_pl (x y : Pl) (B : Bool) (hB : B = true ↔ ¬ x = y) (u : World) : (binOp .neq 56 (.agg #[.int .i64 x.lev, .int .u64 (x.tb.num : Int), .int .i64 x.tb.size, .int .i64 x.tb.rows, .string x.tb.fst, .string x.tb.lst, .int .u64 (x.tb.least : Int), .int .u64 (x.tb.gr : Int)]) (.agg #[.int .i64 y.lev, .int .u64 (y.tb.num : Int), .int .i64 y.tb.size, .int .i64 y.tb.rows, .string y.tb.fst, .string y.tb.lst, .int .u64 (y.tb.least : Int), .int .u64 (y.tb.gr : Int)])).run Try.prog u = .ok (.bool B) u := by
  rw [pl_eq] at hB
  go_simp
  by_cases h0 : x.lev = y.lev
  rotate_left 1
  · have : B = true := hB.2 (fun h => h0 (h.1))
    simp [h0, this]
  by_cases h1 : (x.tb.num : Int) = (y.tb.num : Int)
  rotate_left 1
  · have : B = true := hB.2 (fun h => h1 (h.2.1))
    simp [h0, h1, this]
  by_cases h2 : x.tb.size = y.tb.size
  rotate_left 1
  · have : B = true := hB.2 (fun h => h2 (h.2.2.1))
    simp [h0, h1, h2, this]
  by_cases h3 : x.tb.rows = y.tb.rows
  rotate_left 1
  · have : B = true := hB.2 (fun h => h3 (h.2.2.2.1))
    simp [h0, h1, h2, h3, this]
  by_cases h4 : x.tb.fst.toList = y.tb.fst.toList
  rotate_left 1
  · have : B = true := hB.2 (fun h => h4 (h.2.2.2.2.1))
    simp [h0, h1, h2, h3, h4, this]
  by_cases h5 : x.tb.lst.toList = y.tb.lst.toList
  rotate_left 1
  · have : B = true := hB.2 (fun h => h5 (h.2.2.2.2.2.1))
    simp [h0, h1, h2, h3, h4, h5, this]
  by_cases h6 : (x.tb.least : Int) = (y.tb.least : Int)
  rotate_left 1
  · have : B = true := hB.2 (fun h => h6 (h.2.2.2.2.2.2.1))
    simp [h0, h1, h2, h3, h4, h5, h6, this]
  by_cases h7 : (x.tb.gr : Int) = (y.tb.gr : Int)
  rotate_left 1
  · have : B = true := hB.2 (fun h => h7 (h.2.2.2.2.2.2.2))
    simp [h0, h1, h2, h3, h4, h5, h6, h7, this]
  have : B = false := by cases B <;> simp_all
  simp [h0, h1, h2, h3, h4, h5, h6, h7, this]
set_option maxRecDepth 100000 in
set_option maxHeartbeats 8000000 in
theorem samemetas_any {h1 h2 : Hd} {l1 l2 : List Mt} {w : World} (k1 : Ms h1 l1 w) (k2 : Ms h2 l2 w) : Calls Try.prog 24 #[.slice h1.a h1.n h1.c, .slice h2.a h2.n h2.c] w fun e w' => e = .returned (.bool (tf (l1 = l2))) ∧ Below w.heap.size w w' := by
  obtain ⟨a1, n1, c1, b1, o1⟩ := h1
  obtain ⟨a2, n2, c2, b2, o2⟩ := h2
  have m1 : c1 ≤ 9223372036854775807 := k1.sl.most
  have m2 : c2 ≤ 9223372036854775807 := k2.sl.most
  have q1 : n1 ≤ c1 := k1.sl.cap
  have q2 : n2 ≤ c2 := k2.sl.cap
  have e1 : Hid (l1.length = n1) := Lib.hid k1.len
  have e2 : Hid (l2.length = n2) := Lib.hid k2.len
  obtain ⟨R, hR⟩ := named (tf (l1 = l2))
  rw [← hR.out]
  replace hR := Lib.hid hR.out
  replace k1 := Lib.hid k1
  replace k2 := Lib.hid k2
  by_cases hn : n1 = n2
  · subst hn
    have g2 : (((n1 : Nat) : Int) != ((n1 : Nat) : Int)) = false := by rw [bne_eq_false_iff_eq]
    go_enter Try.func24, Try.ntmps24
    go_wp2_with fail
    go_loopw [5] (fun i wr => ∃ j : Nat, j ≤ n1 ∧ i = .int .i64 (j : Int) ∧ Hid (l1.take j = l2.take j) ∧ Hid (Below w.heap.size w wr)) (fun i _ => n1 - (intOf i).toNat)
    case atStart => exact ⟨0, Nat.zero_le _, rfl, Lib.hid rfl, Lib.hid (Below.refl _ _)⟩
    case round =>
      obtain ⟨j, hj, rfl, ht, hb⟩ := hrel
      by_cases hlt : j < n1
      · obtain ⟨x, hx, rfl, hbl, x0, x1, x2, x3, x4, x5, x6⟩ := (k1.out.below hb.out).at7x hlt
        obtain ⟨y, hy, rfl, hbl2, y0, y1, y2, y3, y4, y5, y6⟩ := (k2.out.below hb.out).at7x hlt
        replace hx := Lib.hid hx
        replace hy := Lib.hid hy
        have i0 : (j : Int) < (n1 : Int) := by omega
        by_cases hxy : x = y
        · have NEQ := fun u => neq_mt x y false (by simp [hxy]) u
          have ht2 : Hid (l1.take (j + 1) = l2.take (j + 1)) := Lib.hid (by rw [List.take_add_one, List.take_add_one, ht.out, hx.out, hy.out, hxy])
          clear hxy ht
          go_upto_region 6 with fail
          go_quiet (fail)
          go_wp2_with fail
          go_roundw
          case rel => exact ⟨j + 1, by omega, by go_num, ht2, Lib.hid (below_drewN hb.out)⟩
          case measure => simp [intOf]; omega
        · have NEQ := fun u => neq_mt x y true (by simpa using hxy) u
          have hR0 : Hid (R = false) := Lib.hid (by
            rw [hR.out]
            exact tf_false (fun e => by
              have h1 := hx.out
              rw [e, hy.out] at h1
              exact hxy (Option.some.inj h1).symm))
          clear hxy ht
          go_upto_region 6 with fail
          go_quiet (fail)
          go_wp2_with fail
          go_returns
          exact ⟨by rw [hR0.out]; rfl, below_drewN hb.out⟩
      · obtain rfl : j = n1 := by omega
        have i0 : ¬ (j : Int) < (j : Int) := by omega
        have hR1 : Hid (R = true) := Lib.hid (by
          rw [hR.out]
          have := ht.out
          rw [List.take_of_length_le (by rw [e1.out]; exact Nat.le_refl _), List.take_of_length_le (by rw [e2.out]; exact Nat.le_refl _)] at this
          exact tf_true this)
        go_wp2_with fail
        go_returns
        exact ⟨by rw [hR1.out]; rfl, hb.out⟩
  · have hR0 : Hid (R = false) := Lib.hid (by rw [hR.out]; exact tf_false (fun e => hn (by rw [← e1.out, ← e2.out, e])))
    have g2 : ((n1 : Int) != (n2 : Int)) = true := by rw [bne_iff_ne]; omega
    go_enter Try.func24, Try.ntmps24
    go_wp2_with fail
    go_returns
    exact ⟨by rw [hR0.out]; rfl, Below.refl _ _⟩
/-- Two versions are the same. -/
def SameV (x y : Vr) : Prop := x.log = y.log ∧ x.next = y.next ∧ x.seq = y.seq ∧ ∀ i, i < 4 → x.lv i = y.lv i
set_option maxRecDepth 100000 in
set_option maxHeartbeats 8000000 in
theorem rsame_any {x y : Vr} {H K : Nat → Hd} {w : World} (hx : VrAt x H w) (hy : VrAt y K w) : Calls Try.prog 10 #[verV x H, verV y K] w fun e w' => e = .returned (.bool (tf (SameV x y))) ∧ Below w.heap.size w w' := by
  obtain ⟨R, hR⟩ := named (tf (SameV x y))
  rw [← hR.out]
  replace hR := Lib.hid hR.out
  have zs : Hid ((w.alloc (verO x H)).heap.size = w.heap.size + 1) := Lib.hid (World.size_alloc _ _)
  have V1 : Hid (VerB w.heap.size x H ((w.alloc (verO x H)).alloc (verO y K))) := Lib.hid ((VerB.new x H w).below (below_alloc _ _))
  have V2 : Hid (VerB (w.heap.size + 1) y K ((w.alloc (verO x H)).alloc (verO y K))) := Lib.hid (by have := VerB.new y K (w.alloc (verO x H)); rw [zs.out] at this; exact this)
  have B0 : Hid (Below w.heap.size w ((w.alloc (verO x H)).alloc (verO y K))) := Lib.hid ((below_alloc w _).alloc (by simp) _)
  replace hx := Lib.hid hx
  replace hy := Lib.hid hy
  by_cases h1 : x.log = y.log
  rotate_left 1
  · have f1 : ((x.log : Int) != (y.log : Int)) = true := by rw [bne_iff_ne]; omega
    have hR0 : Hid (R = false) := Lib.hid (by rw [hR.out]; exact tf_false (fun g => h1 g.1))
    clear h1
    go_enter Try.func10, Try.ntmps10
    go_wp2_with fail
    go_returns
    exact ⟨by rw [hR0.out]; rfl, B0.out⟩
  have f1 : ((x.log : Int) != (y.log : Int)) = false := by rw [bne_eq_false_iff_eq]; omega
  by_cases h2 : x.next = y.next
  rotate_left 1
  · have f2 : ((x.next : Int) != (y.next : Int)) = true := by rw [bne_iff_ne]; omega
    have hR0 : Hid (R = false) := Lib.hid (by rw [hR.out]; exact tf_false (fun g => h2 g.2.1))
    clear h1 h2
    go_enter Try.func10, Try.ntmps10
    go_wp2_with fail
    go_returns
    exact ⟨by rw [hR0.out]; rfl, B0.out⟩
  have f2 : ((x.next : Int) != (y.next : Int)) = false := by rw [bne_eq_false_iff_eq]; omega
  by_cases h3 : x.seq = y.seq
  rotate_left 1
  · have f3 : ((x.seq : Int) != (y.seq : Int)) = true := by rw [bne_iff_ne]; omega
    have hR0 : Hid (R = false) := Lib.hid (by rw [hR.out]; exact tf_false (fun g => h3 g.2.2.1))
    clear h1 h2 h3
    go_enter Try.func10, Try.ntmps10
    go_wp2_with fail
    go_returns
    exact ⟨by rw [hR0.out]; rfl, B0.out⟩
  have f3 : ((x.seq : Int) != (y.seq : Int)) = false := by rw [bne_eq_false_iff_eq]; omega
  have hh : Hid (x.log = y.log ∧ x.next = y.next ∧ x.seq = y.seq) := Lib.hid ⟨h1, h2, h3⟩
  clear h1 h2 h3
  go_enter Try.func10, Try.ntmps10
  go_wp2_with fail
  clear f1 f2 f3
  go_loopw [5] (fun i wr => ∃ j : Nat, j ≤ 4 ∧ i = .int .i64 (j : Int) ∧ Hid (∀ k, k < j → x.lv k = y.lv k) ∧ Hid (Below ((w.alloc (verO x H)).alloc (verO y K)).heap.size ((w.alloc (verO x H)).alloc (verO y K)) wr)) (fun i _ => 4 - (intOf i).toNat)
  case atStart => exact ⟨0, Nat.zero_le _, rfl, Lib.hid (fun k hk => absurd hk (Nat.not_lt_zero k)), Lib.hid (Below.refl _ _)⟩
  case round =>
    obtain ⟨j, hj, rfl, hs, hb⟩ := hrel
    have bw := Lib.hid (below_of B0.out hb.out)
    by_cases hlt : j < 4
    · have i0 : (j : Int) < 4 := by omega
      have i1 : (0 : Int) ≤ (j : Int) := by omega
      have i2 : j < 4 := hlt
      have c1 := (V1.out.below hb.out).lev hlt
      have c2 := (V2.out.below hb.out).lev hlt
      have EC := Lib.hid (fun u (hu : Below wr.heap.size wr u) => samemetas_any ((hx.out j hlt).below (below_of bw.out hu)) ((hy.out j hlt).below (below_of bw.out hu)))
      have mm : Hid (wr.drew.cell? ⟨w.heap.size, 3 + j, none⟩ = some (.slice (H j).a (H j).n (H j).c) ∧ wr.drew.cell? ⟨w.heap.size + 1, 3 + j, none⟩ = some (.slice (K j).a (K j).n (K j).c)) := Lib.hid ⟨c1, c2⟩
      have hkeep : Hid (∀ u, Below wr.drew.heap.size wr.drew u → u.cell? ⟨w.heap.size, 3 + j, none⟩ = some (.slice (H j).a (H j).n (H j).c) ∧ u.cell? ⟨w.heap.size + 1, 3 + j, none⟩ = some (.slice (K j).a (K j).n (K j).c)) := Lib.hid (fun u hu => ⟨cell_keep hu mm.out.1, cell_keep hu mm.out.2⟩)
      clear c1 c2
      by_cases he : x.lv j = y.lv j
      · rw [tf_true he] at EC
        have hs2 : Hid (∀ k, k < j + 1 → x.lv k = y.lv k) := Lib.hid (fun k hk => by
          rcases Nat.lt_or_ge k j with h | h
          · exact hs.out k h
          · obtain rfl : k = j := by omega
            exact he)
        clear he
        go_upto_region 6 with fail
        refine wp_region_held_drew (S := (fun u => u.cell? ⟨w.heap.size, 3 + j, none⟩ = some (.slice (H j).a (H j).n (H j).c) ∧ u.cell? ⟨w.heap.size + 1, 3 + j, none⟩ = some (.slice (K j).a (K j).n (K j).c))) (by kernel_rfl) (mm.out) (fun hHeld => ?_)
        refine held_take (i := 0) (v := ?_) rfl (by kernel_rfl) (by kernel_rfl) (by kernel_rfl) (fun _ _ _ h => h) (by rfl) (fun w hSw => ?_) (by assumption) ?_; rotate_left 1; focus (((try dsimp only at hSw); first | (go_simp; done) | (go_simp; with_reducible rfl)))
        try simp only [Act.put, List.setIfInBounds_toArray, List.set_cons_zero, List.set_cons_succ]
        refine held_take (i := 1) (v := ?_) rfl (by kernel_rfl) (by kernel_rfl) (by kernel_rfl) (fun _ _ _ h => h) (by rfl) (fun w hSw => ?_) (by assumption) ?_; rotate_left 1; focus (((try dsimp only at hSw); first | (go_simp; done) | (go_simp; with_reducible rfl)))
        try simp only [Act.put, List.setIfInBounds_toArray, List.set_cons_zero, List.set_cons_succ]
        refine held_take (i := 2) (v := ?_) rfl (by kernel_rfl) (by kernel_rfl) (by kernel_rfl) (fun _ _ _ h => h) (by rfl) (fun w hSw => ?_) (by assumption) ?_; rotate_left 1; focus (((try dsimp only at hSw); first | (go_simp; done) | (go_simp; with_reducible rfl)))
        try simp only [Act.put, List.setIfInBounds_toArray, List.set_cons_zero, List.set_cons_succ]
        refine held_take (i := 3) (v := ?_) rfl (by kernel_rfl) (by kernel_rfl) (by kernel_rfl) (fun _ _ _ h => h) (by rfl) (fun w hSw => ?_) (by assumption) ?_; rotate_left 1; focus (((try dsimp only at hSw); first | (go_simp; done) | (go_simp; with_reducible rfl)))
        try simp only [Act.put, List.setIfInBounds_toArray, List.set_cons_zero, List.set_cons_succ]
        refine held_take (i := 4) (v := ?_) rfl (by kernel_rfl) (by kernel_rfl) (by kernel_rfl) (fun _ _ _ h => h) (by rfl) (fun w hSw => ?_) (by assumption) ?_; rotate_left 1; focus (((try dsimp only at hSw); first | (go_simp; done) | (go_simp; with_reducible rfl)))
        try simp only [Act.put, List.setIfInBounds_toArray, List.set_cons_zero, List.set_cons_succ]
        refine held_take (i := 5) (v := ?_) rfl (by kernel_rfl) (by kernel_rfl) (by kernel_rfl) (fun _ _ _ h => h) (by rfl) (fun w hSw => ?_) (by assumption) ?_; rotate_left 1; focus (((try dsimp only at hSw); first | (go_simp; done) | (go_simp; with_reducible rfl)))
        try simp only [Act.put, List.setIfInBounds_toArray, List.set_cons_zero, List.set_cons_succ]
        refine held_take (i := 6) (v := ?_) rfl (by kernel_rfl) (by kernel_rfl) (by kernel_rfl) (fun _ _ _ h => h) (by rfl) (fun w hSw => ?_) (by assumption) ?_; rotate_left 1; focus (((try dsimp only at hSw); first | (go_simp; done) | (go_simp; with_reducible rfl)))
        try simp only [Act.put, List.setIfInBounds_toArray, List.set_cons_zero, List.set_cons_succ]
        refine held_take (i := 7) (v := ?_) rfl (by kernel_rfl) (by kernel_rfl) (by kernel_rfl) (fun _ _ _ h => h) (by rfl) (fun w hSw => ?_) (by assumption) ?_; rotate_left 1; focus (((try dsimp only at hSw); first | (go_simp; done) | (go_simp; with_reducible rfl)))
        try simp only [Act.put, List.setIfInBounds_toArray, List.set_cons_zero, List.set_cons_succ]
        refine held_call (i := 8) (by kernel_rfl) rfl (by rfl) (fun K hK => ?_)
        go_simp
        (go_at_call 24; ((with_reducible refine (EC.out _ (Below.refl _ _).drew).mono ?_); rintro e w3 ⟨rfl, hb3⟩))
        have m3 := Lib.hid (hkeep.out _ hb3)
        have B3 := Lib.hid (below_of ((hb.out).drew) hb3)
        clear hb3
        refine hK.out _ _ (m3.out) (fun hHeld => ?_)
        try simp only [Act.put, List.setIfInBounds_toArray, List.set_cons_zero, List.set_cons_succ]
        refine held_take (i := 9) (v := ?_) rfl (by kernel_rfl) (by kernel_rfl) (by kernel_rfl) (fun _ _ _ h => h) (by rfl) (fun w hSw => ?_) (by assumption) ?_; rotate_left 1; focus (((try dsimp only at hSw); first | (go_simp; done) | (go_simp; with_reducible rfl)))
        try simp only [Act.put, List.setIfInBounds_toArray, List.set_cons_zero, List.set_cons_succ]
        refine wpAnyH_done (by kernel_rfl) ?_ _
        go_wp2_with fail
        go_roundw
        case rel => exact ⟨j + 1, by omega, by go_num, hs2, B3⟩
        case measure => simp [intOf]; omega
      · rw [tf_false he] at EC
        have hR0 : Hid (R = false) := Lib.hid (by rw [hR.out]; exact tf_false (fun g => he (g.2.2.2 j hlt)))
        clear he
        go_upto_region 6 with fail
        refine wp_region_held_drew (S := (fun u => u.cell? ⟨w.heap.size, 3 + j, none⟩ = some (.slice (H j).a (H j).n (H j).c) ∧ u.cell? ⟨w.heap.size + 1, 3 + j, none⟩ = some (.slice (K j).a (K j).n (K j).c))) (by kernel_rfl) (mm.out) (fun hHeld => ?_)
        refine held_take (i := 0) (v := ?_) rfl (by kernel_rfl) (by kernel_rfl) (by kernel_rfl) (fun _ _ _ h => h) (by rfl) (fun w hSw => ?_) (by assumption) ?_; rotate_left 1; focus (((try dsimp only at hSw); first | (go_simp; done) | (go_simp; with_reducible rfl)))
        try simp only [Act.put, List.setIfInBounds_toArray, List.set_cons_zero, List.set_cons_succ]
        refine held_take (i := 1) (v := ?_) rfl (by kernel_rfl) (by kernel_rfl) (by kernel_rfl) (fun _ _ _ h => h) (by rfl) (fun w hSw => ?_) (by assumption) ?_; rotate_left 1; focus (((try dsimp only at hSw); first | (go_simp; done) | (go_simp; with_reducible rfl)))
        try simp only [Act.put, List.setIfInBounds_toArray, List.set_cons_zero, List.set_cons_succ]
        refine held_take (i := 2) (v := ?_) rfl (by kernel_rfl) (by kernel_rfl) (by kernel_rfl) (fun _ _ _ h => h) (by rfl) (fun w hSw => ?_) (by assumption) ?_; rotate_left 1; focus (((try dsimp only at hSw); first | (go_simp; done) | (go_simp; with_reducible rfl)))
        try simp only [Act.put, List.setIfInBounds_toArray, List.set_cons_zero, List.set_cons_succ]
        refine held_take (i := 3) (v := ?_) rfl (by kernel_rfl) (by kernel_rfl) (by kernel_rfl) (fun _ _ _ h => h) (by rfl) (fun w hSw => ?_) (by assumption) ?_; rotate_left 1; focus (((try dsimp only at hSw); first | (go_simp; done) | (go_simp; with_reducible rfl)))
        try simp only [Act.put, List.setIfInBounds_toArray, List.set_cons_zero, List.set_cons_succ]
        refine held_take (i := 4) (v := ?_) rfl (by kernel_rfl) (by kernel_rfl) (by kernel_rfl) (fun _ _ _ h => h) (by rfl) (fun w hSw => ?_) (by assumption) ?_; rotate_left 1; focus (((try dsimp only at hSw); first | (go_simp; done) | (go_simp; with_reducible rfl)))
        try simp only [Act.put, List.setIfInBounds_toArray, List.set_cons_zero, List.set_cons_succ]
        refine held_take (i := 5) (v := ?_) rfl (by kernel_rfl) (by kernel_rfl) (by kernel_rfl) (fun _ _ _ h => h) (by rfl) (fun w hSw => ?_) (by assumption) ?_; rotate_left 1; focus (((try dsimp only at hSw); first | (go_simp; done) | (go_simp; with_reducible rfl)))
        try simp only [Act.put, List.setIfInBounds_toArray, List.set_cons_zero, List.set_cons_succ]
        refine held_take (i := 6) (v := ?_) rfl (by kernel_rfl) (by kernel_rfl) (by kernel_rfl) (fun _ _ _ h => h) (by rfl) (fun w hSw => ?_) (by assumption) ?_; rotate_left 1; focus (((try dsimp only at hSw); first | (go_simp; done) | (go_simp; with_reducible rfl)))
        try simp only [Act.put, List.setIfInBounds_toArray, List.set_cons_zero, List.set_cons_succ]
        refine held_take (i := 7) (v := ?_) rfl (by kernel_rfl) (by kernel_rfl) (by kernel_rfl) (fun _ _ _ h => h) (by rfl) (fun w hSw => ?_) (by assumption) ?_; rotate_left 1; focus (((try dsimp only at hSw); first | (go_simp; done) | (go_simp; with_reducible rfl)))
        try simp only [Act.put, List.setIfInBounds_toArray, List.set_cons_zero, List.set_cons_succ]
        refine held_call (i := 8) (by kernel_rfl) rfl (by rfl) (fun K hK => ?_)
        go_simp
        (go_at_call 24; ((with_reducible refine (EC.out _ (Below.refl _ _).drew).mono ?_); rintro e w3 ⟨rfl, hb3⟩))
        have m3 := Lib.hid (hkeep.out _ hb3)
        have B3 := Lib.hid (below_of ((hb.out).drew) hb3)
        clear hb3
        refine hK.out _ _ (m3.out) (fun hHeld => ?_)
        try simp only [Act.put, List.setIfInBounds_toArray, List.set_cons_zero, List.set_cons_succ]
        refine held_take (i := 9) (v := ?_) rfl (by kernel_rfl) (by kernel_rfl) (by kernel_rfl) (fun _ _ _ h => h) (by rfl) (fun w hSw => ?_) (by assumption) ?_; rotate_left 1; focus (((try dsimp only at hSw); first | (go_simp; done) | (go_simp; with_reducible rfl)))
        try simp only [Act.put, List.setIfInBounds_toArray, List.set_cons_zero, List.set_cons_succ]
        refine wpAnyH_done (by kernel_rfl) ?_ _
        go_wp2_with fail
        go_returns
        exact ⟨by rw [hR0.out]; rfl, below_of B0.out B3.out⟩
    · have i0 : ¬ (j : Int) < 4 := by omega
      have hR1 : Hid (R = true) := Lib.hid (by rw [hR.out]; exact tf_true ⟨hh.out.1, hh.out.2.1, hh.out.2.2, fun k hk => hs.out k (by omega)⟩)
      go_wp2_with fail
      go_returns
      exact ⟨by rw [hR1.out]; rfl, bw.out⟩
end Go.Proofs.Ytnmjfdejgfmoiaa
/-
  Do an edit's lists stand? Both ways of asking. Sizes; the first version; the law's own bounds. No condition.
-/
namespace Go.Proofs.Ytnmjfdejgfmoiaa
set_option maxRecDepth 100000
open Go.RowKit
def ListedP (e : Ed) : Prop := (∀ g ∈ e.gone, LevP g.lev) ∧ ∀ p ∈ e.added, LevP p.lev ∧ MayP p.tb
abbrev edO (e : Ed) (hg ha : Hd) : Obj := .cells #[.int .u64 (e.log : Int), .int .u64 (e.next : Int), .int .u64 (e.seq : Int), .slice hg.a hg.n hg.c, .slice ha.a ha.n ha.c] 30 (0, 0)
/-- An edit in a block of its own. -/
def EdB (p : Nat) (e : Ed) (hg ha : Hd) (w : World) : Prop := w.heap[p]? = some (edO e hg ha)
theorem EdB.lt {p : Nat} {e : Ed} {hg ha : Hd} {w : World} (k : EdB p e hg ha w) : p < w.heap.size := (Array.getElem?_eq_some_iff.1 k).1
theorem EdB.new (e : Ed) (hg ha : Hd) (w : World) : EdB w.heap.size e hg ha (w.alloc (edO e hg ha)) := heap_alloc_new _ _
theorem EdB.below {p : Nat} {e : Ed} {hg ha : Hd} {w w' : World} (k : EdB p e hg ha w) (hb : Below w.heap.size w w') : EdB p e hg ha w' := (hb.block p k.lt).trans k
theorem EdB.cells {p : Nat} {e : Ed} {hg ha : Hd} {w : World} (k : EdB p e hg ha w) : w.cell? ⟨p, 0, none⟩ = some (.int .u64 (e.log : Int)) ∧ w.cell? ⟨p, 1, none⟩ = some (.int .u64 (e.next : Int)) ∧ w.cell? ⟨p, 2, none⟩ = some (.int .u64 (e.seq : Int)) ∧ w.cell? ⟨p, 3, none⟩ = some (.slice hg.a hg.n hg.c) ∧ w.cell? ⟨p, 4, none⟩ = some (.slice ha.a ha.n ha.c) := by
  unfold EdB at k
  simp [World.cell?, k]
abbrev gnO (x : Gn) : Obj := .cells #[.int .i64 x.lev, .int .u64 (x.num : Int)] 45 (0, 0)
abbrev plO (x : Pl) : Obj := .cells #[.int .i64 x.lev, .int .u64 (x.tb.num : Int), .int .i64 x.tb.size, .int .i64 x.tb.rows, .string x.tb.fst, .string x.tb.lst, .int .u64 (x.tb.least : Int), .int .u64 (x.tb.gr : Int)] 56 (0, 0)
set_option maxRecDepth 100000 in
set_option maxHeartbeats 8000000 in
theorem islisted_any {e : Ed} {hg ha : Hd} {w : World} (h : EdAt e hg ha w) : Calls Try.prog 16 #[edV e hg ha] w fun r w' => r = .returned (.bool (tf (ListedP e))) ∧ Below w.heap.size w w' := by
  obtain ⟨T, hT⟩ := named (tf (ListedP e))
  rw [← hT.out]
  replace hT := Lib.hid hT.out
  obtain ⟨ga, gn, gc, gb, go⟩ := hg
  obtain ⟨aa, an, ac, ab, ao⟩ := ha
  have m1 : gc ≤ 9223372036854775807 := h.gone.sl.most
  have m2 : ac ≤ 9223372036854775807 := h.added.sl.most
  have q1 : gn ≤ gc := h.gone.sl.cap
  have q2 : an ≤ ac := h.added.sl.cap
  have e1 : Hid (e.gone.length = gn) := Lib.hid h.gone.len
  have e2 : Hid (e.added.length = an) := Lib.hid h.added.len
  have E0 := Lib.hid (EdB.new e ⟨ga, gn, gc, gb, go⟩ ⟨aa, an, ac, ab, ao⟩ w)
  have B0 := Lib.hid (below_alloc w (edO e ⟨ga, gn, gc, gb, go⟩ ⟨aa, an, ac, ab, ao⟩))
  replace h := Lib.hid h
  go_enter Try.func16, Try.ntmps16
  go_wp2_with fail
  go_loopw [10] (fun i wr => ∃ j : Nat, j ≤ gn ∧ i = .int .i64 (j : Int) ∧ Hid (AllTo (fun g : Gn => LevP g.lev) e.gone j) ∧ Hid (Below (w.alloc (edO e ⟨ga, gn, gc, gb, go⟩ ⟨aa, an, ac, ab, ao⟩)).heap.size (w.alloc (edO e ⟨ga, gn, gc, gb, go⟩ ⟨aa, an, ac, ab, ao⟩)) wr)) (fun i _ => gn - (intOf i).toNat)
  case atStart => exact ⟨0, Nat.zero_le _, rfl, Lib.hid AllTo.zero, Lib.hid (Below.refl _ _)⟩
  case round =>
    obtain ⟨j, hj, rfl, hp, hb⟩ := hrel
    have bw := Lib.hid (below_of B0.out hb.out)
    by_cases hlt : j < gn
    · obtain ⟨x, hx, rfl, hbl, x0, x1⟩ := (h.out.gone.below bw.out).at2x hlt
      replace hx := Lib.hid hx
      have i0 : (j : Int) < (gn : Int) := by omega
      have LC := Lib.hid (fun u => islev_any x.lev u)
      have W2 := Lib.hid (below_of hb.out (below_alloc wr (gnO x)))
      by_cases hv : LevP x.lev
      · rw [decide_eq_true hv] at LC
        have P2 := Lib.hid (hp.out.succ hx.out hv)
        clear hv hp
        go_wp2_with (go_at_call 36; ((with_reducible refine (LC.out _).mono ?_); rintro r w3 ⟨rfl, rfl⟩))
        go_roundw
        case rel => exact ⟨j + 1, by omega, by go_num, P2, W2⟩
        case measure => simp [intOf]; omega
      · rw [decide_eq_false hv] at LC
        have hF : Hid (T = false) := Lib.hid (by rw [hT.out]; exact tf_false (fun k => hv (k.1 x (List.mem_of_getElem? hx.out))))
        clear hv
        go_wp2_with (go_at_call 36; ((with_reducible refine (LC.out _).mono ?_); rintro r w3 ⟨rfl, rfl⟩))
        go_returns
        exact ⟨by rw [hF.out]; rfl, below_of B0.out W2.out⟩
    · have i0 : ¬ (j : Int) < (gn : Int) := by omega
      have hgd : Hid (∀ g ∈ e.gone, LevP g.lev) := Lib.hid (by obtain rfl : j = gn := by omega
                                                               exact hp.out.all e1.out)
      obtain ⟨c0, c1, c2, c3, c4⟩ := (E0.out.below hb.out).cells
      go_wp2_with fail
      go_loopw [22] (fun i wz => ∃ j : Nat, j ≤ an ∧ i = .int .i64 (j : Int) ∧ Hid (AllTo (fun p : Pl => LevP p.lev ∧ MayP p.tb) e.added j) ∧ Hid (Below wr.heap.size wr wz)) (fun i _ => an - (intOf i).toNat)
      case atStart => exact ⟨0, Nat.zero_le _, rfl, Lib.hid AllTo.zero, Lib.hid (Below.refl _ _)⟩
      case round =>
        obtain ⟨k, hk, rfl, hp2, hz⟩ := hrel
        have bz := Lib.hid (below_of bw.out hz.out)
        by_cases hlt2 : k < an
        · obtain ⟨x, hx, rfl, hbl, x0, x1, x2, x3, x4, x5, x6, x7⟩ := (h.out.added.below bz.out).at8x hlt2
          replace hx := Lib.hid hx
          have i1 : (k : Int) < (an : Int) := by omega
          have LC := Lib.hid (fun u => islev_any x.lev u)
          have VC := Lib.hid (fun u => valid_any x.tb u)
          have W2 := Lib.hid (below_of hz.out (below_alloc wr (plO x)))
          by_cases hv : LevP x.lev
          · rw [decide_eq_true hv] at LC
            by_cases hm : MayP x.tb
            · rw [decide_eq_true hm] at VC
              have P2 := Lib.hid (hp2.out.succ hx.out ⟨hv, hm⟩)
              clear hv hm hp2
              go_wp2_with (first
                | (go_at_call 36; ((with_reducible refine (LC.out _).mono ?_); rintro r w3 ⟨rfl, rfl⟩))
                | (go_at_call 37; ((with_reducible refine (VC.out _).mono ?_); rintro r w4 ⟨rfl, hb4⟩; have W4 := Lib.hid (below_of W2.out hb4); clear hb4)))
              go_roundw
              case rel => exact ⟨k + 1, by omega, by go_num, P2, W4⟩
              case measure => simp [intOf]; omega
            · rw [decide_eq_false hm] at VC
              have hF : Hid (T = false) := Lib.hid (by rw [hT.out]; exact tf_false (fun g => hm (g.2 x (List.mem_of_getElem? hx.out)).2))
              clear hv hm
              go_wp2_with (first
                | (go_at_call 36; ((with_reducible refine (LC.out _).mono ?_); rintro r w3 ⟨rfl, rfl⟩))
                | (go_at_call 37; ((with_reducible refine (VC.out _).mono ?_); rintro r w4 ⟨rfl, hb4⟩; have W4 := Lib.hid (below_of W2.out hb4); clear hb4)))
              go_returns
              exact ⟨by rw [hF.out]; rfl, below_of bw.out W4.out⟩
          · rw [decide_eq_false hv] at LC
            have hF : Hid (T = false) := Lib.hid (by rw [hT.out]; exact tf_false (fun g => hv (g.2 x (List.mem_of_getElem? hx.out)).1))
            clear hv
            go_wp2_with (go_at_call 36; ((with_reducible refine (LC.out _).mono ?_); rintro r w3 ⟨rfl, rfl⟩))
            go_returns
            exact ⟨by rw [hF.out]; rfl, below_of bw.out W2.out⟩
        · have i1 : ¬ (k : Int) < (an : Int) := by omega
          have hF : Hid (T = true) := Lib.hid (by
            rw [hT.out]
            obtain rfl : k = an := by omega
            exact tf_true ⟨hgd.out, hp2.out.all e2.out⟩)
          go_wp2_with fail
          go_returns
          exact ⟨by rw [hF.out]; rfl, bz.out⟩
set_option maxRecDepth 100000 in
set_option maxHeartbeats 8000000 in
theorem rlisted_any {e : Ed} {hg ha : Hd} {w : World} (h : EdAt e hg ha w) : Calls Try.prog 21 #[edV e hg ha] w fun r w' => r = .returned (.bool (tf (ListedP e))) ∧ Below w.heap.size w w' := by
  obtain ⟨T, hT⟩ := named (tf (ListedP e))
  rw [← hT.out]
  replace hT := Lib.hid hT.out
  obtain ⟨ga, gn, gc, gb, go⟩ := hg
  obtain ⟨aa, an, ac, ab, ao⟩ := ha
  have m1 : gc ≤ 9223372036854775807 := h.gone.sl.most
  have m2 : ac ≤ 9223372036854775807 := h.added.sl.most
  have q1 : gn ≤ gc := h.gone.sl.cap
  have q2 : an ≤ ac := h.added.sl.cap
  have e1 : Hid (e.gone.length = gn) := Lib.hid h.gone.len
  have e2 : Hid (e.added.length = an) := Lib.hid h.added.len
  have E0 := Lib.hid (EdB.new e ⟨ga, gn, gc, gb, go⟩ ⟨aa, an, ac, ab, ao⟩ w)
  have B0 := Lib.hid (below_alloc w (edO e ⟨ga, gn, gc, gb, go⟩ ⟨aa, an, ac, ab, ao⟩))
  replace h := Lib.hid h
  go_enter Try.func21, Try.ntmps21
  go_wp2_with fail
  go_loopw [3] (fun i wr => ∃ j : Nat, j ≤ gn ∧ i = .int .i64 (j : Int) ∧ Hid (AllTo (fun g : Gn => LevP g.lev) e.gone j) ∧ Hid (Below (w.alloc (edO e ⟨ga, gn, gc, gb, go⟩ ⟨aa, an, ac, ab, ao⟩)).heap.size (w.alloc (edO e ⟨ga, gn, gc, gb, go⟩ ⟨aa, an, ac, ab, ao⟩)) wr)) (fun i _ => gn - (intOf i).toNat)
  case atStart => exact ⟨0, Nat.zero_le _, rfl, Lib.hid AllTo.zero, Lib.hid (Below.refl _ _)⟩
  case round =>
    obtain ⟨j, hj, rfl, hp, hb⟩ := hrel
    have bw := Lib.hid (below_of B0.out hb.out)
    obtain ⟨c0, c1, c2, c3, c4⟩ := (E0.out.below hb.out).cells
    by_cases hlt : j < gn
    · obtain ⟨x, hx, rfl, hbl, x0, x1⟩ := (h.out.gone.below bw.out).at2x hlt
      replace hx := Lib.hid hx
      have i0 : (j : Int) < (gn : Int) := by omega
      by_cases hv : LevP x.lev
      · have f1 : ¬ x.lev < 0 := by have := hv.1; omega
        have f2 : ¬ (3 : Int) < x.lev := by have := hv.2; omega
        have P2 := Lib.hid (hp.out.succ hx.out hv)
        clear hv hp
        go_wp2_with fail
        go_roundw
        case rel => exact ⟨j + 1, by omega, by go_num, P2, hb⟩
        case measure => simp [intOf]; omega
      · have hF : Hid (T = false) := Lib.hid (by rw [hT.out]; exact tf_false (fun k => hv (k.1 x (List.mem_of_getElem? hx.out))))
        by_cases f1 : x.lev < 0
        · clear hv
          go_wp2_with fail
          go_returns
          exact ⟨by rw [hF.out]; rfl, bw.out⟩
        · have f2 : (3 : Int) < x.lev := by unfold LevP at hv; omega
          clear hv
          go_wp2_with fail
          go_returns
          exact ⟨by rw [hF.out]; rfl, bw.out⟩
    · have i0 : ¬ (j : Int) < (gn : Int) := by omega
      have hgd : Hid (∀ g ∈ e.gone, LevP g.lev) := Lib.hid (by obtain rfl : j = gn := by omega
                                                               exact hp.out.all e1.out)
      go_wp2_with fail
      go_loopw [4] (fun i wz => ∃ j : Nat, j ≤ an ∧ i = .int .i64 (j : Int) ∧ Hid (AllTo (fun p : Pl => LevP p.lev ∧ MayP p.tb) e.added j) ∧ Hid (Below wr.heap.size wr wz)) (fun i _ => an - (intOf i).toNat)
      case atStart => exact ⟨0, Nat.zero_le _, rfl, Lib.hid AllTo.zero, Lib.hid (Below.refl _ _)⟩
      case round =>
        obtain ⟨k, hk, rfl, hp2, hz⟩ := hrel
        have bz := Lib.hid (below_of bw.out hz.out)
        obtain ⟨d0, d1, d2, d3, d4⟩ := ((E0.out.below hb.out).below hz.out).cells
        by_cases hlt2 : k < an
        · obtain ⟨x, hx, rfl, hbl, x0, x1, x2, x3, x4, x5, x6, x7⟩ := (h.out.added.below bz.out).at8x hlt2
          replace hx := Lib.hid hx
          have i1 : (k : Int) < (an : Int) := by omega
          have VC := Lib.hid (fun u => rmay_any x.tb u)
          by_cases hv : LevP x.lev
          · have f1 : ¬ x.lev < 0 := by have := hv.1; omega
            have f2 : ¬ (3 : Int) < x.lev := by have := hv.2; omega
            by_cases hm : MayP x.tb
            · rw [decide_eq_true hm] at VC
              have P2 := Lib.hid (hp2.out.succ hx.out ⟨hv, hm⟩)
              clear hv hm hp2
              go_wp2_with (go_at_call 44; ((with_reducible refine (VC.out _).mono ?_); rintro r w4 ⟨rfl, hb4⟩; have W4 := Lib.hid (below_of hz.out hb4); clear hb4))
              go_roundw
              case rel => exact ⟨k + 1, by omega, by go_num, P2, W4⟩
              case measure => simp [intOf]; omega
            · rw [decide_eq_false hm] at VC
              have hF : Hid (T = false) := Lib.hid (by rw [hT.out]; exact tf_false (fun g => hm (g.2 x (List.mem_of_getElem? hx.out)).2))
              clear hv hm
              go_wp2_with (go_at_call 44; ((with_reducible refine (VC.out _).mono ?_); rintro r w4 ⟨rfl, hb4⟩; have W4 := Lib.hid (below_of hz.out hb4); clear hb4))
              go_returns
              exact ⟨by rw [hF.out]; rfl, below_of bw.out W4.out⟩
          · have hF : Hid (T = false) := Lib.hid (by rw [hT.out]; exact tf_false (fun g => hv (g.2 x (List.mem_of_getElem? hx.out)).1))
            by_cases f1 : x.lev < 0
            · clear hv
              go_wp2_with fail
              go_returns
              exact ⟨by rw [hF.out]; rfl, bz.out⟩
            · have f2 : (3 : Int) < x.lev := by unfold LevP at hv; omega
              clear hv
              go_wp2_with fail
              go_returns
              exact ⟨by rw [hF.out]; rfl, bz.out⟩
        · have i1 : ¬ (k : Int) < (an : Int) := by omega
          have hF : Hid (T = true) := Lib.hid (by
            rw [hT.out]
            obtain rfl : k = an := by omega
            exact tf_true ⟨hgd.out, hp2.out.all e2.out⟩)
          go_wp2_with fail
          go_returns
          exact ⟨by rw [hF.out]; rfl, bz.out⟩
/-- The sum of a level's sizes, as the program counts. -/
def sumZ (l : List Mt) : Int := l.foldl (fun s x => wrap64 (s + x.size)) 0
theorem sumZ_succ {l : List Mt} {j : Nat} {x : Mt} (hx : l[j]? = some x) : sumZ (l.take (j + 1)) = wrap64 (sumZ (l.take j) + x.size) := by
  rw [List.take_add_one, hx]
  unfold sumZ
  rw [List.foldl_append]
  rfl
def sizeR (v : Vr) (i : Int) : Int := if LevP i then sumZ (v.lv i.toNat) else 0
/-- The first version. -/
def firstV : Vr := ⟨1, 1, 0, fun _ => []⟩
def noHd : Nat → Hd := fun _ => ⟨none, 0, 0, 0, 0⟩
theorem first_at (w : World) : VrAt firstV noHd w := fun i hi => Ms.nil w
set_option maxRecDepth 100000 in
set_option maxHeartbeats 4000000 in
theorem first_any (w : World) : Calls Try.prog 13 #[] w fun r w' => r = .returned (verV firstV noHd) ∧ Below w.heap.size w w' := by
  have B0 := Lib.hid (below_alloc w (verO firstV noHd))
  go_enter Try.func13, Try.ntmps13
  go_wp2_with fail
  go_returns
  exact ⟨rfl, B0.out⟩
/-- Few tables a level. -/
def FewP (H : Nat → Hd) : Prop := ∀ i, i < 4 → (H i).n ≤ 80
set_option maxRecDepth 100000 in
set_option maxHeartbeats 4000000 in
theorem many_any (v : Vr) (H : Nat → Hd) (w : World) : Calls Try.prog 4 #[verV v H] w fun r w' => r = .returned (.bool (tf (¬ FewP H))) ∧ Below w.heap.size w w' := by
  have B0 := Lib.hid (below_alloc w (verO v H))
  have V0 := Lib.hid (VerB.new v H w)
  obtain ⟨T, hT⟩ := named (tf (¬ FewP H))
  rw [← hT.out]
  replace hT := Lib.hid hT.out
  go_enter Try.func4, Try.ntmps4
  go_wp2_with fail
  go_loopw [3] (fun i wr => ∃ j : Nat, j ≤ 4 ∧ i = .int .i64 (j : Int) ∧ Hid (∀ k, k < j → (H k).n ≤ 80) ∧ Hid (Below (w.alloc (verO v H)).heap.size (w.alloc (verO v H)) wr)) (fun i _ => 4 - (intOf i).toNat)
  case atStart => exact ⟨0, Nat.zero_le _, rfl, Lib.hid (fun k hk => absurd hk (Nat.not_lt_zero k)), Lib.hid (Below.refl _ _)⟩
  case round =>
    obtain ⟨j, hj, rfl, hs, hb⟩ := hrel
    by_cases hlt : j < 4
    · have i0 : (j : Int) < 4 := by omega
      have cl := (V0.out.below hb.out).lev hlt
      by_cases h8 : (80 : Int) < ((H j).n : Int)
      · have hF : Hid (T = true) := Lib.hid (by rw [hT.out]; exact tf_true (fun k => by have := k j hlt; omega))
        go_wp2_with fail
        go_returns
        exact ⟨by rw [hF.out]; rfl, below_of B0.out hb.out⟩
      · have hs2 : Hid (∀ k, k < j + 1 → (H k).n ≤ 80) := Lib.hid (fun k hk => by
          rcases Nat.lt_or_ge k j with h | h
          · exact hs.out k h
          · obtain rfl : k = j := by omega
            omega)
        go_wp2_with fail
        go_roundw
        case rel => exact ⟨j + 1, by omega, by go_num, hs2, hb⟩
        case measure => simp [intOf]; omega
    · have i0 : ¬ (j : Int) < 4 := by omega
      have hF : Hid (T = false) := Lib.hid (by rw [hT.out]; exact tf_false (fun k => k (fun i hi => hs.out i (by omega))))
      go_wp2_with fail
      go_returns
      exact ⟨by rw [hF.out]; rfl, below_of B0.out hb.out⟩
set_option maxRecDepth 100000 in
set_option maxHeartbeats 4000000 in
theorem long_any (e : Ed) (hg ha : Hd) (w : World) : Calls Try.prog 5 #[edV e hg ha] w fun r w' => r = .returned (.bool (tf (¬ (hg.n ≤ 300 ∧ ha.n ≤ 300)))) ∧ Below w.heap.size w w' := by
  have B0 := Lib.hid (below_alloc w (edO e hg ha))
  by_cases h1 : (300 : Int) < (hg.n : Int)
  · rw [tf_true (show ¬ (hg.n ≤ 300 ∧ ha.n ≤ 300) by omega)]
    go_enter Try.func5, Try.ntmps5
    go_wp2_with fail
    go_returns
    exact ⟨rfl, B0.out⟩
  · by_cases h2 : (300 : Int) < (ha.n : Int)
    · rw [tf_true (show ¬ (hg.n ≤ 300 ∧ ha.n ≤ 300) by omega)]
      go_enter Try.func5, Try.ntmps5
      go_wp2_with fail
      go_returns
      exact ⟨rfl, B0.out⟩
    · rw [tf_false (show ¬ ¬ (hg.n ≤ 300 ∧ ha.n ≤ 300) by omega)]
      go_enter Try.func5, Try.ntmps5
      go_wp2_with fail
      go_returns
      exact ⟨rfl, B0.out⟩
end Go.Proofs.Ytnmjfdejgfmoiaa
/-
  What goes and what is added where no level has a table: without and insert at empty levels. No condition.
-/
namespace Go.Proofs.Ytnmjfdejgfmoiaa
set_option maxRecDepth 100000
open Go Go.RowKit
/-- A table that goes, as a key. -/
def kG (x : Gn) : Lit := .string (keyBytes [.int .i64 x.lev, .int .u64 (x.num : Int)])
theorem lawG : Maps.Keyed Try.prog 45 := Maps.Keyed.of_law (deep_law_laid laid_out (m := 2) (by omega) (of_decide_eq_true (by kernel_rfl)) (by kernel_rfl) (by rw [Try.underlying45]))
theorem keyG {x : Gn} (h : GnIn x) : keyOf Try.prog 45 (.agg #[.int .i64 x.lev, .int .u64 (x.num : Int)]) = some (kG x) := by
  have kt : Try.prog.keyType 45 = true := by kernel_rfl
  have c1 : Try.prog.cellsOf 45 = 2 := by kernel_rfl
  have c2 : Try.prog.cellsOf 3 = 1 := by kernel_rfl
  have c3 : Try.prog.cellsOf 22 = 1 := by kernel_rfl
  have fm : (Value.agg #[.int .i64 x.lev, .int .u64 (x.num : Int)]).formed Try.prog 45 = true := by simp [Value.formed, Try.underlying45, c1]
  have wn : (Lit.int .u64 (x.num : Int)).wf = true := by have := h.2; simp [Lit.wf, IntKind.min, IntKind.max, IntKind.signed, IntKind.bits]; omega
  obtain ⟨k, hk⟩ : ∃ k, Try.prog.types.size + 1 = k + 1 + 1 := by
    have h0 : 0 < Try.prog.types.size := of_decide_eq_true (by kernel_rfl)
    exact ⟨Try.prog.types.size - 1, by omega⟩
  have kl : Try.prog.keyLits (Try.prog.types.size + 1) 45 [.int .i64 x.lev, .int .u64 (x.num : Int)] = some [.int .i64 x.lev, .int .u64 (x.num : Int)] := by
    rw [hk]
    simp [Program.keyLits, Try.underlying45, Try.underlying3, Try.underlying22, c1, c2, c3, h.1, wn]
  unfold keyOf
  rw [Try.underlying45]
  simp only [kt, fm, Bool.and_self, if_true]
  show (Try.prog.keyLits (Try.prog.types.size + 1) 45 [.int .i64 x.lev, .int .u64 (x.num : Int)]).map _ = _
  rw [kl]
  rfl
abbrev noV : Value := .agg #[.slice none 0 0, .slice none 0 0, .slice none 0 0, .slice none 0 0]
abbrev noO : Obj := .cells #[.slice none 0 0, .slice none 0 0, .slice none 0 0, .slice none 0 0] 24 (0, 0)
abbrev noPut (p : Nat) (w : World) : World := (((w.setCell ⟨p, 0, none⟩ (.slice none 0 0)).setCell ⟨p, 1, none⟩ (.slice none 0 0)).setCell ⟨p, 2, none⟩ (.slice none 0 0)).setCell ⟨p, 3, none⟩ (.slice none 0 0)
theorem no_put {p : Nat} {w : World} (h : w.heap[p]? = some noO) : (noPut p w).heap[p]? = some noO :=
  (heap_setCell_same _ _ _ _ _ _ ((heap_setCell_same _ _ _ _ _ _ ((heap_setCell_same _ _ _ _ _ _ ((heap_setCell_same _ _ _ _ _ _ h).trans rfl)).trans rfl)).trans rfl)).trans rfl
set_option maxRecDepth 100000 in
set_option maxHeartbeats 8000000 in
theorem without_nil {hg : Hd} {gs : List Gn} {w : World} (h : Gs hg gs w) (hI : ∀ g ∈ gs, GnIn g) (hn : hg.n ≤ 1000) : Calls Try.prog 17 #[noV, .slice hg.a hg.n hg.c] w fun r w' => r = .returned (.tuple #[noV, .bool (decide (hg.n = 0))]) ∧ Below w.heap.size w w' := by
  obtain ⟨ga, gn, gc, gb, go⟩ := hg
  have m1 : gc ≤ 9223372036854775807 := h.sl.most
  have q1 : gn ≤ gc := h.sl.cap
  replace hn : gn ≤ 1000 := hn
  have e1 : Hid (gs.length = gn) := Lib.hid h.len
  have hmm := @run_makeMap Try.prog
  have B0 : Hid (Below w.heap.size w (((w.alloc noO).alloc noO).alloc (.map #[] 0))) := Lib.hid ((((below_alloc w noO).alloc (by simp) noO)).alloc (by simp; omega) _)
  have S0 : Hid (((((w.alloc noO).alloc noO).alloc (.map #[] 0))).ownsMap Try.prog 45 (unitElem (H := Unit)) (w.heap.size + 1 + 1) 0 (.map [])) := Lib.hid (by
    have := World.ownsMap_made ((w.alloc noO).alloc noO) Try.prog 45 (unitElem (H := Unit))
    rw [World.size_alloc, World.size_alloc] at this
    exact this)
  replace h := Lib.hid h
  replace hI := Lib.hid hI
  obtain ⟨T, hT⟩ := named (decide (gn = 0))
  show Calls _ _ _ _ fun r w' => r = .returned (.tuple #[noV, .bool (decide (gn = 0))]) ∧ Below w.heap.size w w'
  rw [← hT.out]
  replace hT := Lib.hid hT.out
  have N0 : Hid (But (w.heap.size + 1 + 1) (((w.alloc noO).alloc noO).alloc (.map #[] 0)) (((w.alloc noO).alloc noO).alloc (.map #[] 0))) := Lib.hid (But.refl _ _)
  go_enter Try.func17, Try.ntmps17
  go_wp2_with fail
  go_loopw [19] (fun i wr => ∃ j : Nat, j ≤ gn ∧ i = .int .i64 (j : Int) ∧ Hid (∃ D : DataW Unit, wr.ownsMap Try.prog 45 (unitElem (H := Unit)) (w.heap.size + 1 + 1) j D) ∧ Hid (But (w.heap.size + 1 + 1) (((w.alloc noO).alloc noO).alloc (.map #[] 0)) wr)) (fun i _ => gn - (intOf i).toNat)
  case atStart => exact ⟨0, Nat.zero_le _, rfl, Lib.hid ⟨_, S0.out⟩, N0⟩
  case round =>
    obtain ⟨j, hj, rfl, hs, hb⟩ := hrel
    have bw : Hid (Below w.heap.size w wr) := Lib.hid (B0.out.trans (hb.out.below (by omega) B0.out.size))
    obtain ⟨D, hown⟩ := hs.out
    by_cases hlt : j < gn
    · obtain ⟨x, hx, rfl, hbl, x0, x1⟩ := (h.out.below bw.out).at2x hlt
      have hkey := Lib.hid (keyG (hI.out x (List.mem_of_getElem? hx)))
      replace hown := Lib.hid (hown.alloc (gnO x))
      have i0 : (j : Int) < (gn : Int) := by omega
      clear hx hs
      go_wp2_with (at_mapUpdate; refine wpList_mapUpdate_own _ rfl _ _ _ 80 rfl 45 81 lawG Try.underlying80 _ (w.heap.size + 1 + 1) _ _ rfl hown.out (by unfold maxLen; omega) _ _ _ rfl rfl hkey.out _ [] unitElem_mk ?_; intro w4 hown4 hg4; have S4 : Hid (∃ D : DataW Unit, w4.ownsMap Try.prog 45 (unitElem (H := Unit)) (w.heap.size + 1 + 1) (j + 1) D) := Lib.hid ⟨_, hown4⟩; have N4 := Lib.hid ((hb.out.alloc (gnO x)).trans (But.of_grown hg4)); clear hg4 hown4)
      go_roundw
      case rel => exact ⟨j + 1, by omega, by go_num, S4, N4⟩
      case measure => simp [intOf]; omega
    · have i0 : ¬ (j : Int) < (gn : Int) := by omega
      have k1 : Hid (wr.heap[w.heap.size]? = some noO) := Lib.hid (by
        rw [hb.out.block w.heap.size (by simp; omega) (by omega)]
        rw [heap_alloc_old _ _ (by simp; omega), heap_alloc_old _ _ (by simp)]
        exact heap_alloc_new _ _)
      have k2 : Hid (wr.heap[w.heap.size + 1]? = some noO) := Lib.hid (by
        rw [hb.out.block (w.heap.size + 1) (by simp) (by omega)]
        rw [heap_alloc_old _ _ (by simp)]
        have := heap_alloc_new (w.alloc noO) noO
        rw [World.size_alloc] at this
        exact this)
      have CC : Hid (∀ (u : World) (p : Nat), u.heap[p]? = some noO → u.cell? ⟨p, 0, none⟩ = some (.slice none 0 0) ∧ u.cell? ⟨p, 1, none⟩ = some (.slice none 0 0) ∧ u.cell? ⟨p, 2, none⟩ = some (.slice none 0 0) ∧ u.cell? ⟨p, 3, none⟩ = some (.slice none 0 0)) := Lib.hid (fun u p hu => by simp [World.cell?, hu])
      obtain ⟨c0, c1, c2, c3⟩ := CC.out _ _ k1.out
      obtain ⟨d0, d1, d2, d3⟩ := CC.out _ _ k2.out
      have f2 : ∀ o, wr.frozen? ⟨w.heap.size + 1, o, none⟩ = false := fun o => by simp [World.frozen?, k2.out]
      clear hs hown
      go_wp2_with fail
      go_loopw [9, 28] (fun fd i wz => ∃ k : Nat, k ≤ 4 ∧ fd = .int .i64 0 ∧ i = .int .i64 (k : Int) ∧ wz = wr) (fun _ i _ => 4 - (intOf i).toNat)
      case atStart => exact ⟨0, Nat.zero_le _, rfl, rfl, by first | trivial | rfl⟩
      case round =>
        obtain ⟨k, hk, rfl, rfl, rfl⟩ := hrel
        by_cases hlt2 : k < 4
        · have j0 : (k : Int) < 4 := by omega
          have IX := fun u => ix_lev noHd hlt2 u
          simp only [noHd] at IX
          go_wp2_with fail
          refine wp_loop_rounds 1 ?_
          rw [rounds_succ]
          go_wp2_with fail
          go_roundw
          case rel => exact ⟨k + 1, by omega, rfl, by go_num, by first | trivial | rfl⟩
          case measure => simp [intOf]; omega
        · have j0 : ¬ (k : Int) < 4 := by omega
          have hz : ((0 : Int) == (gn : Int)) = T := by
            rw [hT.out]
            by_cases e : gn = 0
            · rw [e]; rfl
            · rw [decide_eq_false e, beq_eq_false_iff_ne]; omega
          have k3 := no_put k2.out
          obtain ⟨g0, g1, g2, g3⟩ := CC.out _ _ k3
          have b4 : Hid (Below w.heap.size w (noPut (w.heap.size + 1) wr)) := Lib.hid ((((bw.out.setCell (p := ⟨w.heap.size + 1, 0, none⟩) (by simp) _).setCell (p := ⟨w.heap.size + 1, 1, none⟩) (by simp) _).setCell (p := ⟨w.heap.size + 1, 2, none⟩) (by simp) _).setCell (p := ⟨w.heap.size + 1, 3, none⟩) (by simp) _)
          go_wp2_with fail
          refine bodyPost_ret (v := .tuple #[noV, .bool T]) (by simp [results, Try.results17, go_sem, g0, g1, g2, g3]) rfl ⟨rfl, b4.out⟩
set_option maxRecDepth 100000 in
set_option maxHeartbeats 4000000 in
theorem inscmp_none (p : Option Addr) (c : Nat) (fv : Value) (w : World) : Calls Try.prog 54 #[.slice p 0 c, .int .i64 0, .int .i64 0, fv] w fun e w' => e = .returned (.tuple #[]) ∧ w' = w := by
  go_enter Try.func54, Try.ntmps54
  go_wp2_with fail
  refine wp_loop_rounds 1 ?_
  rw [rounds_succ]
  go_wp2_with fail
  go_returns
  exact ⟨rfl, rfl⟩
set_option maxRecDepth 100000 in
set_option maxHeartbeats 4000000 in
theorem pdqcmp_none (p : Option Addr) (c : Nat) (lim : Int) (fv : Value) (w : World) : Calls Try.prog 48 #[.slice p 0 c, .int .i64 0, .int .i64 0, .int .i64 lim, fv] w fun e w' => e = .returned (.tuple #[]) ∧ w' = w := by
  have IC := Lib.hid (fun u => inscmp_none p c fv u)
  go_enter Try.func48, Try.ntmps48
  go_wp2_with fail
  refine wp_loop_rounds 1 ?_
  rw [rounds_succ]
  go_wp2_with (go_at_call 54; ((with_reducible refine (IC.out _).mono ?_); rintro e w1 ⟨rfl, rfl⟩))
  go_returns
  exact ⟨rfl, rfl⟩
set_option maxRecDepth 100000 in
set_option maxHeartbeats 4000000 in
theorem sortf_none (fv : Value) (w : World) : Calls Try.prog 39 #[.slice none 0 0, fv] w fun e w' => e = .returned (.tuple #[]) ∧ w' = w := by
  have LN := Lib.hid (fun w => Try.bits_Len 0 w (by omega) (by omega))
  have PC := Lib.hid (fun l w => pdqcmp_none none 0 l fv w)
  go_enter Try.func39, Try.ntmps39
  go_wp2_with (first
    | (go_at_call 49; ((with_reducible refine (LN.out _).mono ?_); rintro e w1 ⟨rfl, rfl⟩))
    | (go_at_call 48; ((with_reducible refine (PC.out _ _).mono ?_); rintro e w1 ⟨rfl, rfl⟩)))
  go_returns
  exact ⟨rfl, rfl⟩
set_option maxRecDepth 100000 in
set_option maxHeartbeats 8000000 in
/-- insert with nothing to add, at empty levels in block q. -/
theorem insert_nil {q : Nat} {w : World} (hq : w.heap[q]? = some noO) : Calls Try.prog 18 #[.pointer (some ⟨q, 0, none⟩), .slice none 0 0] w fun r w' => r = .returned (.bool true) ∧ Below w.heap.size w w' := by
  have hmm := @run_makeMap Try.prog
  have SC : Hid (∀ u fv, Calls Try.prog 39 #[.slice none 0 0, fv] u fun e w' => e = .returned (.tuple #[]) ∧ w' = u) := Lib.hid (fun u fv => sortf_none fv u)
  have hlt : q < w.heap.size := (Array.getElem?_eq_some_iff.1 hq).1
  have LC : Hid (∀ u, Below w.heap.size w u → ∀ i, i < 4 → u.cell? ⟨q, i, none⟩ = some (.slice none 0 0)) := Lib.hid (fun u hu i hi => by
    have h1 : u.heap[q]? = some noO := (hu.block q hlt).trans hq
    rcases (show i = 0 ∨ i = 1 ∨ i = 2 ∨ i = 3 by omega) with rfl | rfl | rfl | rfl <;> simp [World.cell?, h1])
  have B0 := Lib.hid (below_alloc w (.map #[] 0))
  clear hq hlt
  go_enter Try.func18, Try.ntmps18
  go_wp2_with fail
  go_loopw [19] (fun i wr => ∃ k : Nat, k ≤ 4 ∧ i = .int .i64 (k : Int) ∧ wr = w.alloc (.map #[] 0)) (fun i _ => 4 - (intOf i).toNat)
  case atStart => exact ⟨0, Nat.zero_le _, rfl, by first | trivial | rfl⟩
  case round =>
    obtain ⟨k, hk, rfl, rfl⟩ := hrel
    by_cases hlt2 : k < 4
    · have j0 : (k : Int) < 4 := by omega
      have cl := LC.out _ B0.out k hlt2
      go_wp2_with fail
      refine wp_loop_rounds 1 ?_
      rw [rounds_succ]
      go_wp2_with fail
      go_roundw
      case rel => exact ⟨k + 1, by omega, by go_num, by first | trivial | rfl⟩
      case measure => simp [intOf]; omega
    · have j0 : ¬ (k : Int) < 4 := by omega
      go_wp2_with fail
      refine wp_loop_rounds 1 ?_
      rw [rounds_succ]
      go_wp2_with fail
      go_loopw [75] (fun i wr => ∃ k : Nat, k ≤ 4 ∧ i = .int .i64 (k : Int) ∧ Hid (Below w.heap.size w wr)) (fun i _ => 4 - (intOf i).toNat)
      case atStart => exact ⟨0, Nat.zero_le _, rfl, B0⟩
      case round =>
        obtain ⟨k, hk, rfl, hb⟩ := hrel
        by_cases hlt3 : k < 4
        · have j1 : (k : Int) < 4 := by omega
          have cl := LC.out _ hb.out k hlt3
          by_cases h0 : k = 0
          · have f1 : ((k : Int) == 0) = true := by rw [beq_iff_eq]; omega
            have B2 := Lib.hid (fun q => below_drewN (n := q) hb.out)
            clear h0
            go_upto_region 22 with fail
            go_quiet (fail)
            go_wp2_with (go_at_call 39; ((with_reducible refine (SC.out _ _).mono ?_); rintro r w4 ⟨rfl, rfl⟩))
            go_roundw
            case rel => exact ⟨k + 1, by omega, by go_num, Lib.hid (B2.out _)⟩
            case measure => simp [intOf]; omega
          · have f1 : ((k : Int) == 0) = false := by rw [beq_eq_false_iff_ne]; omega
            have B2 := Lib.hid (fun q => below_drewN (n := q) hb.out)
            clear h0
            go_upto_region 22 with fail
            go_quiet (fail)
            go_wp2_with (go_at_call 39; ((with_reducible refine (SC.out _ _).mono ?_); rintro r w4 ⟨rfl, rfl⟩))
            go_roundw
            case rel => exact ⟨k + 1, by omega, by go_num, Lib.hid (B2.out _)⟩
            case measure => simp [intOf]; omega
        · have j1 : ¬ (k : Int) < 4 := by omega
          go_wp2_with fail
          go_returns
          exact ⟨rfl, hb.out⟩
/-- The first of two that is not zero. -/
def orN (a b : Nat) : Nat := if a = 0 then b else a
set_option maxRecDepth 100000 in
set_option maxHeartbeats 8000000 in
theorem or_any (a b g : Nat) (w : World) (c0 : w.cell? ⟨g, 0, none⟩ = some (.int .u64 (a : Int))) (c1 : w.cell? ⟨g, 1, none⟩ = some (.int .u64 (b : Int))) : Calls Try.prog 19 #[.slice (some ⟨g, 0, none⟩) 2 2] w fun r w' => r = .returned (.int .u64 (orN a b : Int)) ∧ w' = w := by
  unfold orN
  by_cases h0 : a = 0
  · have f0 : ((a : Int) != 0) = false := by rw [bne_eq_false_iff_eq]; omega
    rw [if_pos h0]
    by_cases h1 : b = 0
    · have f1 : ((b : Int) != 0) = false := by rw [bne_eq_false_iff_eq]; omega
      rw [h1]
      clear h0 h1
      go_enter Try.func19, Try.ntmps19
      go_wp2_with fail
      refine wp_loop_rounds 3 ?_
      rw [rounds_succ]
      go_wp2_with fail
      rw [rounds_succ]
      go_wp2_with fail
      rw [rounds_succ]
      go_wp2_with fail
      go_returns
      exact ⟨rfl, rfl⟩
    · have f1 : ((b : Int) != 0) = true := by rw [bne_iff_ne]; omega
      clear h0 h1
      go_enter Try.func19, Try.ntmps19
      go_wp2_with fail
      refine wp_loop_rounds 3 ?_
      rw [rounds_succ]
      go_wp2_with fail
      rw [rounds_succ]
      go_wp2_with fail
      go_returns
      exact ⟨rfl, rfl⟩
  · have f0 : ((a : Int) != 0) = true := by rw [bne_iff_ne]; omega
    rw [if_neg h0]
    clear h0
    go_enter Try.func19, Try.ntmps19
    go_wp2_with fail
    refine wp_loop_rounds 3 ?_
    rw [rounds_succ]
    go_wp2_with fail
    go_returns
    exact ⟨rfl, rfl⟩
end Go.Proofs.Ytnmjfdejgfmoiaa
