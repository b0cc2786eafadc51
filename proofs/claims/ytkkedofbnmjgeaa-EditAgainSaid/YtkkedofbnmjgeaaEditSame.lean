/-
  Equality of lists of tables, of versions, of edits; sizes; the law's own bounds. No condition.
-/
import Derived.Test.YtkkedofbnmjgeaaEditRight
namespace Go.Proofs.Ytkkedofbnmjgeaa
set_option maxRecDepth 100000
open Go.RowKit
theorem mt_eq {x y : Mt} : x = y ↔ (x.num : Int) = (y.num : Int) ∧ x.size = y.size ∧ x.rows = y.rows ∧ x.fst.toList = y.fst.toList ∧ x.lst.toList = y.lst.toList ∧ (x.least : Int) = (y.least : Int) ∧ (x.gr : Int) = (y.gr : Int) := by
  obtain ⟨a1, a2, a3, a4, a5, a6, a7⟩ := x
  obtain ⟨b1, b2, b3, b4, b5, b6, b7⟩ := y
  simp only [Mt.mk.injEq]
  exact ⟨fun ⟨h1, h2, h3, h4, h5, h6, h7⟩ => ⟨by omega, h2, h3, by rw [h4], by rw [h5], by omega, by omega⟩, fun ⟨h1, h2, h3, h4, h5, h6, h7⟩ => ⟨by omega, h2, h3, bytes_inj h4, bytes_inj h5, by omega, by omega⟩⟩
set_option maxRecDepth 100000 in
set_option maxHeartbeats 8000000 in
theorem neq_mt (x y : Mt) (B : Bool) (hB : B = true ↔ ¬ x = y) (u : World) : (binOp .neq 40 (.agg #[.int .u64 (x.num : Int), .int .i64 x.size, .int .i64 x.rows, .string x.fst, .string x.lst, .int .u64 (x.least : Int), .int .u64 (x.gr : Int)]) (.agg #[.int .u64 (y.num : Int), .int .i64 y.size, .int .i64 y.rows, .string y.fst, .string y.lst, .int .u64 (y.least : Int), .int .u64 (y.gr : Int)])).run Try.prog u = .ok (.bool B) u := by
  rw [mt_eq] at hB
  go_simp
  by_cases h0 : (x.num : Int) = (y.num : Int)
  rotate_left 1
  · have : B = true := hB.2 (fun h => h0 (h.1))
    simp [h0, this]
  by_cases h1 : x.size = y.size
  rotate_left 1
  · have : B = true := hB.2 (fun h => h1 (h.2.1))
    simp [h0, h1, this]
  by_cases h2 : x.rows = y.rows
  rotate_left 1
  · have : B = true := hB.2 (fun h => h2 (h.2.2.1))
    simp [h0, h1, h2, this]
  by_cases h3 : x.fst.toList = y.fst.toList
  rotate_left 1
  · have : B = true := hB.2 (fun h => h3 (h.2.2.2.1))
    simp [h0, h1, h2, h3, this]
  by_cases h4 : x.lst.toList = y.lst.toList
  rotate_left 1
  · have : B = true := hB.2 (fun h => h4 (h.2.2.2.2.1))
    simp [h0, h1, h2, h3, h4, this]
  by_cases h5 : (x.least : Int) = (y.least : Int)
  rotate_left 1
  · have : B = true := hB.2 (fun h => h5 (h.2.2.2.2.2.1))
    simp [h0, h1, h2, h3, h4, h5, this]
  by_cases h6 : (x.gr : Int) = (y.gr : Int)
  rotate_left 1
  · have : B = true := hB.2 (fun h => h6 (h.2.2.2.2.2.2))
    simp [h0, h1, h2, h3, h4, h5, h6, this]
  have : B = false := by cases B <;> simp_all
  simp [h0, h1, h2, h3, h4, h5, h6, this]
theorem gn_eq {x y : Gn} : x = y ↔ x.lev = y.lev ∧ (x.num : Int) = (y.num : Int) := by
  obtain ⟨a1, a2⟩ := x
  obtain ⟨b1, b2⟩ := y
  simp only [Gn.mk.injEq]
  exact ⟨fun ⟨h1, h2⟩ => ⟨h1, by omega⟩, fun ⟨h1, h2⟩ => ⟨h1, by omega⟩⟩
theorem pl_eq {x y : Pl} : x = y ↔ x.lev = y.lev ∧ (x.tb.num : Int) = (y.tb.num : Int) ∧ x.tb.size = y.tb.size ∧ x.tb.rows = y.tb.rows ∧ x.tb.fst.toList = y.tb.fst.toList ∧ x.tb.lst.toList = y.tb.lst.toList ∧ (x.tb.least : Int) = (y.tb.least : Int) ∧ (x.tb.gr : Int) = (y.tb.gr : Int) := by
  obtain ⟨a1, a2⟩ := x
  obtain ⟨b1, b2⟩ := y
  simp only [Pl.mk.injEq, mt_eq]
set_option maxRecDepth 100000 in
set_option maxHeartbeats 8000000 in
theorem neq_gn (x y : Gn) (B : Bool) (hB : B = true ↔ ¬ x = y) (u : World) : (binOp .neq 54 (.agg #[.int .i64 x.lev, .int .u64 (x.num : Int)]) (.agg #[.int .i64 y.lev, .int .u64 (y.num : Int)])).run Try.prog u = .ok (.bool B) u := by
  rw [gn_eq] at hB
  go_simp
  by_cases h0 : x.lev = y.lev
  rotate_left 1
  · have : B = true := hB.2 (fun h => h0 (h.1))
    simp [h0, this]
  by_cases h1 : (x.num : Int) = (y.num : Int)
  rotate_left 1
  · have : B = true := hB.2 (fun h => h1 (h.2))
    simp [h0, h1, this]
  have : B = false := by cases B <;> simp_all
  simp [h0, h1, this]
set_option maxRecDepth 100000 in
set_option maxHeartbeats 8000000 in
theorem neq_pl (x y : Pl) (B : Bool) (hB : B = true ↔ ¬ x = y) (u : World) : (binOp .neq 52 (.agg #[.int .i64 x.lev, .int .u64 (x.tb.num : Int), .int .i64 x.tb.size, .int .i64 x.tb.rows, .string x.tb.fst, .string x.tb.lst, .int .u64 (x.tb.least : Int), .int .u64 (x.tb.gr : Int)]) (.agg #[.int .i64 y.lev, .int .u64 (y.tb.num : Int), .int .i64 y.tb.size, .int .i64 y.tb.rows, .string y.tb.fst, .string y.tb.lst, .int .u64 (y.tb.least : Int), .int .u64 (y.tb.gr : Int)])).run Try.prog u = .ok (.bool B) u := by
  rw [pl_eq] at hB
  go_simp
  by_cases h0 : x.lev = y.lev
  rotate_left 1
  · have : B = true := hB.2 (fun h => h0 (h.1))
    simp [h0, this]
  by_cases h1 : (x.tb.num : Int) = (y.tb.num : Int)
  rotate_left 1
  · have : B = true := hB.2 (fun h => h1 (h.2.1))
    simp [h0, h1, this]
  by_cases h2 : x.tb.size = y.tb.size
  rotate_left 1
  · have : B = true := hB.2 (fun h => h2 (h.2.2.1))
    simp [h0, h1, h2, this]
  by_cases h3 : x.tb.rows = y.tb.rows
  rotate_left 1
  · have : B = true := hB.2 (fun h => h3 (h.2.2.2.1))
    simp [h0, h1, h2, h3, this]
  by_cases h4 : x.tb.fst.toList = y.tb.fst.toList
  rotate_left 1
  · have : B = true := hB.2 (fun h => h4 (h.2.2.2.2.1))
    simp [h0, h1, h2, h3, h4, this]
  by_cases h5 : x.tb.lst.toList = y.tb.lst.toList
  rotate_left 1
  · have : B = true := hB.2 (fun h => h5 (h.2.2.2.2.2.1))
    simp [h0, h1, h2, h3, h4, h5, this]
  by_cases h6 : (x.tb.least : Int) = (y.tb.least : Int)
  rotate_left 1
  · have : B = true := hB.2 (fun h => h6 (h.2.2.2.2.2.2.1))
    simp [h0, h1, h2, h3, h4, h5, h6, this]
  by_cases h7 : (x.tb.gr : Int) = (y.tb.gr : Int)
  rotate_left 1
  · have : B = true := hB.2 (fun h => h7 (h.2.2.2.2.2.2.2))
    simp [h0, h1, h2, h3, h4, h5, h6, h7, this]
  have : B = false := by cases B <;> simp_all
  simp [h0, h1, h2, h3, h4, h5, h6, h7, this]
set_option maxRecDepth 100000 in
set_option maxHeartbeats 8000000 in
theorem equal_any {h1 h2 : Hd} {l1 l2 : List Mt} {w : World} (k1 : Ms h1 l1 w) (k2 : Ms h2 l2 w) : Calls Try.prog 49 #[.slice h1.a h1.n h1.c, .slice h2.a h2.n h2.c] w fun e w' => e = .returned (.bool (tf (l1 = l2))) ∧ Below w.heap.size w w' := by
  obtain ⟨a1, n1, c1, b1, o1⟩ := h1
  obtain ⟨a2, n2, c2, b2, o2⟩ := h2
  have m1 : c1 ≤ 9223372036854775807 := k1.sl.most
  have m2 : c2 ≤ 9223372036854775807 := k2.sl.most
  have q1 : n1 ≤ c1 := k1.sl.cap
  have q2 : n2 ≤ c2 := k2.sl.cap
  have e1 : Hid (l1.length = n1) := Lib.hid k1.len
  have e2 : Hid (l2.length = n2) := Lib.hid k2.len
  obtain ⟨R, hR⟩ := named (tf (l1 = l2))
  rw [← hR.out]
  replace hR := Lib.hid hR.out
  replace k1 := Lib.hid k1
  replace k2 := Lib.hid k2
  by_cases hn : n1 = n2
  · subst hn
    have g2 : (((n1 : Nat) : Int) != ((n1 : Nat) : Int)) = false := by rw [bne_eq_false_iff_eq]
    go_enter Try.func49, Try.ntmps49
    go_wp2_with fail
    go_loopw [13] (fun i wr => ∃ j : Nat, j ≤ n1 ∧ i = .int .i64 (j : Int) ∧ Hid (l1.take j = l2.take j) ∧ Hid (Below w.heap.size w wr)) (fun i _ => n1 - (intOf i).toNat)
    case atStart => exact ⟨0, Nat.zero_le _, rfl, Lib.hid rfl, Lib.hid (Below.refl _ _)⟩
    case round =>
      obtain ⟨j, hj, rfl, ht, hb⟩ := hrel
      by_cases hlt : j < n1
      · obtain ⟨x, hx, rfl, hbl, x0, x1, x2, x3, x4, x5, x6⟩ := (k1.out.below hb.out).at7x hlt
        obtain ⟨y, hy, rfl, hbl2, y0, y1, y2, y3, y4, y5, y6⟩ := (k2.out.below hb.out).at7x hlt
        replace hx := Lib.hid hx
        replace hy := Lib.hid hy
        have i0 : (j : Int) < (n1 : Int) := by omega
        by_cases hxy : x = y
        · have NEQ := fun u => neq_mt x y false (by simp [hxy]) u
          have ht2 : Hid (l1.take (j + 1) = l2.take (j + 1)) := Lib.hid (by rw [List.take_add_one, List.take_add_one, ht.out, hx.out, hy.out, hxy])
          clear hxy ht
          go_upto_region 6 with fail
          go_quiet (fail)
          go_wp2_with fail
          go_roundw
          case rel => exact ⟨j + 1, by omega, by go_num, ht2, Lib.hid (below_drewN hb.out)⟩
          case measure => simp [intOf]; omega
        · have NEQ := fun u => neq_mt x y true (by simpa using hxy) u
          have hR0 : Hid (R = false) := Lib.hid (by
            rw [hR.out]
            exact tf_false (fun e => by
              have h1 := hx.out
              rw [e, hy.out] at h1
              exact hxy (Option.some.inj h1).symm))
          clear hxy ht
          go_upto_region 6 with fail
          go_quiet (fail)
          go_wp2_with fail
          go_returns
          exact ⟨by rw [hR0.out]; rfl, below_drewN hb.out⟩
      · obtain rfl : j = n1 := by omega
        have i0 : ¬ (j : Int) < (j : Int) := by omega
        have hR1 : Hid (R = true) := Lib.hid (by
          rw [hR.out]
          have := ht.out
          rw [List.take_of_length_le (by rw [e1.out]; exact Nat.le_refl _), List.take_of_length_le (by rw [e2.out]; exact Nat.le_refl _)] at this
          exact tf_true this)
        go_wp2_with fail
        go_returns
        exact ⟨by rw [hR1.out]; rfl, hb.out⟩
  · have hR0 : Hid (R = false) := Lib.hid (by rw [hR.out]; exact tf_false (fun e => hn (by rw [← e1.out, ← e2.out, e])))
    have g2 : ((n1 : Int) != (n2 : Int)) = true := by rw [bne_iff_ne]; omega
    go_enter Try.func49, Try.ntmps49
    go_wp2_with fail
    go_returns
    exact ⟨by rw [hR0.out]; rfl, Below.refl _ _⟩
set_option maxRecDepth 100000 in
set_option maxHeartbeats 8000000 in
theorem samemetas_any {h1 h2 : Hd} {l1 l2 : List Mt} {w : World} (k1 : Ms h1 l1 w) (k2 : Ms h2 l2 w) : Calls Try.prog 35 #[.slice h1.a h1.n h1.c, .slice h2.a h2.n h2.c] w fun e w' => e = .returned (.bool (tf (l1 = l2))) ∧ Below w.heap.size w w' := by
  obtain ⟨a1, n1, c1, b1, o1⟩ := h1
  obtain ⟨a2, n2, c2, b2, o2⟩ := h2
  have m1 : c1 ≤ 9223372036854775807 := k1.sl.most
  have m2 : c2 ≤ 9223372036854775807 := k2.sl.most
  have q1 : n1 ≤ c1 := k1.sl.cap
  have q2 : n2 ≤ c2 := k2.sl.cap
  have e1 : Hid (l1.length = n1) := Lib.hid k1.len
  have e2 : Hid (l2.length = n2) := Lib.hid k2.len
  obtain ⟨R, hR⟩ := named (tf (l1 = l2))
  rw [← hR.out]
  replace hR := Lib.hid hR.out
  replace k1 := Lib.hid k1
  replace k2 := Lib.hid k2
  by_cases hn : n1 = n2
  · subst hn
    have g2 : (((n1 : Nat) : Int) != ((n1 : Nat) : Int)) = false := by rw [bne_eq_false_iff_eq]
    go_enter Try.func35, Try.ntmps35
    go_wp2_with fail
    go_loopw [5] (fun i wr => ∃ j : Nat, j ≤ n1 ∧ i = .int .i64 (j : Int) ∧ Hid (l1.take j = l2.take j) ∧ Hid (Below w.heap.size w wr)) (fun i _ => n1 - (intOf i).toNat)
    case atStart => exact ⟨0, Nat.zero_le _, rfl, Lib.hid rfl, Lib.hid (Below.refl _ _)⟩
    case round =>
      obtain ⟨j, hj, rfl, ht, hb⟩ := hrel
      by_cases hlt : j < n1
      · obtain ⟨x, hx, rfl, hbl, x0, x1, x2, x3, x4, x5, x6⟩ := (k1.out.below hb.out).at7x hlt
        obtain ⟨y, hy, rfl, hbl2, y0, y1, y2, y3, y4, y5, y6⟩ := (k2.out.below hb.out).at7x hlt
        replace hx := Lib.hid hx
        replace hy := Lib.hid hy
        have i0 : (j : Int) < (n1 : Int) := by omega
        by_cases hxy : x = y
        · have NEQ := fun u => neq_mt x y false (by simp [hxy]) u
          have ht2 : Hid (l1.take (j + 1) = l2.take (j + 1)) := Lib.hid (by rw [List.take_add_one, List.take_add_one, ht.out, hx.out, hy.out, hxy])
          clear hxy ht
          go_upto_region 6 with fail
          go_quiet (fail)
          go_wp2_with fail
          go_roundw
          case rel => exact ⟨j + 1, by omega, by go_num, ht2, Lib.hid (below_drewN hb.out)⟩
          case measure => simp [intOf]; omega
        · have NEQ := fun u => neq_mt x y true (by simpa using hxy) u
          have hR0 : Hid (R = false) := Lib.hid (by
            rw [hR.out]
            exact tf_false (fun e => by
              have h1 := hx.out
              rw [e, hy.out] at h1
              exact hxy (Option.some.inj h1).symm))
          clear hxy ht
          go_upto_region 6 with fail
          go_quiet (fail)
          go_wp2_with fail
          go_returns
          exact ⟨by rw [hR0.out]; rfl, below_drewN hb.out⟩
      · obtain rfl : j = n1 := by omega
        have i0 : ¬ (j : Int) < (j : Int) := by omega
        have hR1 : Hid (R = true) := Lib.hid (by
          rw [hR.out]
          have := ht.out
          rw [List.take_of_length_le (by rw [e1.out]; exact Nat.le_refl _), List.take_of_length_le (by rw [e2.out]; exact Nat.le_refl _)] at this
          exact tf_true this)
        go_wp2_with fail
        go_returns
        exact ⟨by rw [hR1.out]; rfl, hb.out⟩
  · have hR0 : Hid (R = false) := Lib.hid (by rw [hR.out]; exact tf_false (fun e => hn (by rw [← e1.out, ← e2.out, e])))
    have g2 : ((n1 : Int) != (n2 : Int)) = true := by rw [bne_iff_ne]; omega
    go_enter Try.func35, Try.ntmps35
    go_wp2_with fail
    go_returns
    exact ⟨by rw [hR0.out]; rfl, Below.refl _ _⟩
/-- Two versions are the same. -/
def SameV (x y : Vr) : Prop := x.log = y.log ∧ x.next = y.next ∧ x.seq = y.seq ∧ ∀ i, i < 4 → x.lv i = y.lv i
set_option maxRecDepth 100000 in
set_option maxHeartbeats 8000000 in
theorem same_any {x y : Vr} {H K : Nat → Hd} {w : World} (hx : VrAt x H w) (hy : VrAt y K w) : Calls Try.prog 23 #[verV x H, verV y K] w fun e w' => e = .returned (.bool (tf (SameV x y))) ∧ Below w.heap.size w w' := by
  obtain ⟨R, hR⟩ := named (tf (SameV x y))
  rw [← hR.out]
  replace hR := Lib.hid hR.out
  have zs : Hid ((w.alloc (verO x H)).heap.size = w.heap.size + 1) := Lib.hid (World.size_alloc _ _)
  have V1 : Hid (VerB w.heap.size x H ((w.alloc (verO x H)).alloc (verO y K))) := Lib.hid ((VerB.new x H w).below (below_alloc _ _))
  have V2 : Hid (VerB (w.heap.size + 1) y K ((w.alloc (verO x H)).alloc (verO y K))) := Lib.hid (by have := VerB.new y K (w.alloc (verO x H)); rw [zs.out] at this; exact this)
  have B0 : Hid (Below w.heap.size w ((w.alloc (verO x H)).alloc (verO y K))) := Lib.hid ((below_alloc w _).alloc (by simp) _)
  replace hx := Lib.hid hx
  replace hy := Lib.hid hy
  go_enter Try.func23, Try.ntmps23
  go_wp2_with fail
  go_loopw [6] (fun i wr => ∃ j : Nat, j ≤ 4 ∧ i = .int .i64 (j : Int) ∧ Hid (∀ k, k < j → x.lv k = y.lv k) ∧ Hid (Below ((w.alloc (verO x H)).alloc (verO y K)).heap.size ((w.alloc (verO x H)).alloc (verO y K)) wr)) (fun i _ => 4 - (intOf i).toNat)
  case atStart => exact ⟨0, Nat.zero_le _, rfl, Lib.hid (fun k hk => absurd hk (Nat.not_lt_zero k)), Lib.hid (Below.refl _ _)⟩
  case round =>
    obtain ⟨j, hj, rfl, hs, hb⟩ := hrel
    have bw := Lib.hid (below_of B0.out hb.out)
    by_cases hlt : j < 4
    · have i0 : (j : Int) < 4 := by omega
      have i1 : (0 : Int) ≤ (j : Int) := by omega
      have i2 : j < 4 := hlt
      have c1 := (V1.out.below hb.out).lev hlt
      have c2 := (V2.out.below hb.out).lev hlt
      have EC := Lib.hid (fun u (hu : Below wr.heap.size wr u) => equal_any ((hx.out j hlt).below (below_of bw.out hu)) ((hy.out j hlt).below (below_of bw.out hu)))
      have mm : Hid (wr.drew.cell? ⟨w.heap.size, 3 + j, none⟩ = some (.slice (H j).a (H j).n (H j).c) ∧ wr.drew.cell? ⟨w.heap.size + 1, 3 + j, none⟩ = some (.slice (K j).a (K j).n (K j).c)) := Lib.hid ⟨c1, c2⟩
      have hkeep : Hid (∀ u, Below wr.drew.heap.size wr.drew u → u.cell? ⟨w.heap.size, 3 + j, none⟩ = some (.slice (H j).a (H j).n (H j).c) ∧ u.cell? ⟨w.heap.size + 1, 3 + j, none⟩ = some (.slice (K j).a (K j).n (K j).c)) := Lib.hid (fun u hu => ⟨cell_keep hu mm.out.1, cell_keep hu mm.out.2⟩)
      clear c1 c2
      by_cases he : x.lv j = y.lv j
      · rw [tf_true he] at EC
        have hs2 : Hid (∀ k, k < j + 1 → x.lv k = y.lv k) := Lib.hid (fun k hk => by
          rcases Nat.lt_or_ge k j with h | h
          · exact hs.out k h
          · obtain rfl : k = j := by omega
            exact he)
        clear he
        go_upto_region 4 with fail
        refine wp_region_held_drew (S := (fun u => u.cell? ⟨w.heap.size, 3 + j, none⟩ = some (.slice (H j).a (H j).n (H j).c) ∧ u.cell? ⟨w.heap.size + 1, 3 + j, none⟩ = some (.slice (K j).a (K j).n (K j).c))) (by kernel_rfl) (mm.out) (fun hHeld => ?_)
        refine held_take (i := 0) (v := ?_) rfl (by kernel_rfl) (by kernel_rfl) (by kernel_rfl) (fun _ _ _ h => h) (by rfl) (fun w hSw => ?_) (by assumption) ?_; rotate_left 1; focus (((try dsimp only at hSw); first | (go_simp; done) | (go_simp; with_reducible rfl)))
        try simp only [Act.put, List.setIfInBounds_toArray, List.set_cons_zero, List.set_cons_succ]
        refine held_take (i := 1) (v := ?_) rfl (by kernel_rfl) (by kernel_rfl) (by kernel_rfl) (fun _ _ _ h => h) (by rfl) (fun w hSw => ?_) (by assumption) ?_; rotate_left 1; focus (((try dsimp only at hSw); first | (go_simp; done) | (go_simp; with_reducible rfl)))
        try simp only [Act.put, List.setIfInBounds_toArray, List.set_cons_zero, List.set_cons_succ]
        refine held_take (i := 2) (v := ?_) rfl (by kernel_rfl) (by kernel_rfl) (by kernel_rfl) (fun _ _ _ h => h) (by rfl) (fun w hSw => ?_) (by assumption) ?_; rotate_left 1; focus (((try dsimp only at hSw); first | (go_simp; done) | (go_simp; with_reducible rfl)))
        try simp only [Act.put, List.setIfInBounds_toArray, List.set_cons_zero, List.set_cons_succ]
        refine held_take (i := 3) (v := ?_) rfl (by kernel_rfl) (by kernel_rfl) (by kernel_rfl) (fun _ _ _ h => h) (by rfl) (fun w hSw => ?_) (by assumption) ?_; rotate_left 1; focus (((try dsimp only at hSw); first | (go_simp; done) | (go_simp; with_reducible rfl)))
        try simp only [Act.put, List.setIfInBounds_toArray, List.set_cons_zero, List.set_cons_succ]
        refine held_take (i := 4) (v := ?_) rfl (by kernel_rfl) (by kernel_rfl) (by kernel_rfl) (fun _ _ _ h => h) (by rfl) (fun w hSw => ?_) (by assumption) ?_; rotate_left 1; focus (((try dsimp only at hSw); first | (go_simp; done) | (go_simp; with_reducible rfl)))
        try simp only [Act.put, List.setIfInBounds_toArray, List.set_cons_zero, List.set_cons_succ]
        refine held_take (i := 5) (v := ?_) rfl (by kernel_rfl) (by kernel_rfl) (by kernel_rfl) (fun _ _ _ h => h) (by rfl) (fun w hSw => ?_) (by assumption) ?_; rotate_left 1; focus (((try dsimp only at hSw); first | (go_simp; done) | (go_simp; with_reducible rfl)))
        try simp only [Act.put, List.setIfInBounds_toArray, List.set_cons_zero, List.set_cons_succ]
        refine held_take (i := 6) (v := ?_) rfl (by kernel_rfl) (by kernel_rfl) (by kernel_rfl) (fun _ _ _ h => h) (by rfl) (fun w hSw => ?_) (by assumption) ?_; rotate_left 1; focus (((try dsimp only at hSw); first | (go_simp; done) | (go_simp; with_reducible rfl)))
        try simp only [Act.put, List.setIfInBounds_toArray, List.set_cons_zero, List.set_cons_succ]
        refine held_take (i := 7) (v := ?_) rfl (by kernel_rfl) (by kernel_rfl) (by kernel_rfl) (fun _ _ _ h => h) (by rfl) (fun w hSw => ?_) (by assumption) ?_; rotate_left 1; focus (((try dsimp only at hSw); first | (go_simp; done) | (go_simp; with_reducible rfl)))
        try simp only [Act.put, List.setIfInBounds_toArray, List.set_cons_zero, List.set_cons_succ]
        refine held_call (i := 8) (by kernel_rfl) rfl (by rfl) (fun K hK => ?_)
        go_simp
        (go_at_call 49; ((with_reducible refine (EC.out _ (Below.refl _ _).drew).mono ?_); rintro e w3 ⟨rfl, hb3⟩))
        have m3 := Lib.hid (hkeep.out _ hb3)
        have B3 := Lib.hid (below_of ((hb.out).drew) hb3)
        clear hb3
        refine hK.out _ _ (m3.out) (fun hHeld => ?_)
        try simp only [Act.put, List.setIfInBounds_toArray, List.set_cons_zero, List.set_cons_succ]
        refine held_take (i := 9) (v := ?_) rfl (by kernel_rfl) (by kernel_rfl) (by kernel_rfl) (fun _ _ _ h => h) (by rfl) (fun w hSw => ?_) (by assumption) ?_; rotate_left 1; focus (((try dsimp only at hSw); first | (go_simp; done) | (go_simp; with_reducible rfl)))
        try simp only [Act.put, List.setIfInBounds_toArray, List.set_cons_zero, List.set_cons_succ]
        refine wpAnyH_done (by kernel_rfl) ?_ _
        go_wp2_with fail
        go_roundw
        case rel => exact ⟨j + 1, by omega, by go_num, hs2, B3⟩
        case measure => simp [intOf]; omega
      · rw [tf_false he] at EC
        have hR0 : Hid (R = false) := Lib.hid (by rw [hR.out]; exact tf_false (fun g => he (g.2.2.2 j hlt)))
        clear he
        go_upto_region 4 with fail
        refine wp_region_held_drew (S := (fun u => u.cell? ⟨w.heap.size, 3 + j, none⟩ = some (.slice (H j).a (H j).n (H j).c) ∧ u.cell? ⟨w.heap.size + 1, 3 + j, none⟩ = some (.slice (K j).a (K j).n (K j).c))) (by kernel_rfl) (mm.out) (fun hHeld => ?_)
        refine held_take (i := 0) (v := ?_) rfl (by kernel_rfl) (by kernel_rfl) (by kernel_rfl) (fun _ _ _ h => h) (by rfl) (fun w hSw => ?_) (by assumption) ?_; rotate_left 1; focus (((try dsimp only at hSw); first | (go_simp; done) | (go_simp; with_reducible rfl)))
        try simp only [Act.put, List.setIfInBounds_toArray, List.set_cons_zero, List.set_cons_succ]
        refine held_take (i := 1) (v := ?_) rfl (by kernel_rfl) (by kernel_rfl) (by kernel_rfl) (fun _ _ _ h => h) (by rfl) (fun w hSw => ?_) (by assumption) ?_; rotate_left 1; focus (((try dsimp only at hSw); first | (go_simp; done) | (go_simp; with_reducible rfl)))
        try simp only [Act.put, List.setIfInBounds_toArray, List.set_cons_zero, List.set_cons_succ]
        refine held_take (i := 2) (v := ?_) rfl (by kernel_rfl) (by kernel_rfl) (by kernel_rfl) (fun _ _ _ h => h) (by rfl) (fun w hSw => ?_) (by assumption) ?_; rotate_left 1; focus (((try dsimp only at hSw); first | (go_simp; done) | (go_simp; with_reducible rfl)))
        try simp only [Act.put, List.setIfInBounds_toArray, List.set_cons_zero, List.set_cons_succ]
        refine held_take (i := 3) (v := ?_) rfl (by kernel_rfl) (by kernel_rfl) (by kernel_rfl) (fun _ _ _ h => h) (by rfl) (fun w hSw => ?_) (by assumption) ?_; rotate_left 1; focus (((try dsimp only at hSw); first | (go_simp; done) | (go_simp; with_reducible rfl)))
        try simp only [Act.put, List.setIfInBounds_toArray, List.set_cons_zero, List.set_cons_succ]
        refine held_take (i := 4) (v := ?_) rfl (by kernel_rfl) (by kernel_rfl) (by kernel_rfl) (fun _ _ _ h => h) (by rfl) (fun w hSw => ?_) (by assumption) ?_; rotate_left 1; focus (((try dsimp only at hSw); first | (go_simp; done) | (go_simp; with_reducible rfl)))
        try simp only [Act.put, List.setIfInBounds_toArray, List.set_cons_zero, List.set_cons_succ]
        refine held_take (i := 5) (v := ?_) rfl (by kernel_rfl) (by kernel_rfl) (by kernel_rfl) (fun _ _ _ h => h) (by rfl) (fun w hSw => ?_) (by assumption) ?_; rotate_left 1; focus (((try dsimp only at hSw); first | (go_simp; done) | (go_simp; with_reducible rfl)))
        try simp only [Act.put, List.setIfInBounds_toArray, List.set_cons_zero, List.set_cons_succ]
        refine held_take (i := 6) (v := ?_) rfl (by kernel_rfl) (by kernel_rfl) (by kernel_rfl) (fun _ _ _ h => h) (by rfl) (fun w hSw => ?_) (by assumption) ?_; rotate_left 1; focus (((try dsimp only at hSw); first | (go_simp; done) | (go_simp; with_reducible rfl)))
        try simp only [Act.put, List.setIfInBounds_toArray, List.set_cons_zero, List.set_cons_succ]
        refine held_take (i := 7) (v := ?_) rfl (by kernel_rfl) (by kernel_rfl) (by kernel_rfl) (fun _ _ _ h => h) (by rfl) (fun w hSw => ?_) (by assumption) ?_; rotate_left 1; focus (((try dsimp only at hSw); first | (go_simp; done) | (go_simp; with_reducible rfl)))
        try simp only [Act.put, List.setIfInBounds_toArray, List.set_cons_zero, List.set_cons_succ]
        refine held_call (i := 8) (by kernel_rfl) rfl (by rfl) (fun K hK => ?_)
        go_simp
        (go_at_call 49; ((with_reducible refine (EC.out _ (Below.refl _ _).drew).mono ?_); rintro e w3 ⟨rfl, hb3⟩))
        have m3 := Lib.hid (hkeep.out _ hb3)
        have B3 := Lib.hid (below_of ((hb.out).drew) hb3)
        clear hb3
        refine hK.out _ _ (m3.out) (fun hHeld => ?_)
        try simp only [Act.put, List.setIfInBounds_toArray, List.set_cons_zero, List.set_cons_succ]
        refine held_take (i := 9) (v := ?_) rfl (by kernel_rfl) (by kernel_rfl) (by kernel_rfl) (fun _ _ _ h => h) (by rfl) (fun w hSw => ?_) (by assumption) ?_; rotate_left 1; focus (((try dsimp only at hSw); first | (go_simp; done) | (go_simp; with_reducible rfl)))
        try simp only [Act.put, List.setIfInBounds_toArray, List.set_cons_zero, List.set_cons_succ]
        refine wpAnyH_done (by kernel_rfl) ?_ _
        go_wp2_with fail
        go_returns
        exact ⟨by rw [hR0.out]; rfl, below_of B0.out B3.out⟩
    · have i0 : ¬ (j : Int) < 4 := by omega
      have hs4 : Hid (∀ k, k < 4 → x.lv k = y.lv k) := Lib.hid (fun k hk => hs.out k (by omega))
      obtain ⟨v0, v1, v2, _, _, _, _⟩ := (V1.out.below hb.out).cells
      obtain ⟨z0, z1, z2, _, _, _, _⟩ := (V2.out.below hb.out).cells
      by_cases h1 : x.log = y.log
      · have f1 : ((x.log : Int) == (y.log : Int)) = true := by rw [beq_iff_eq]; omega
        by_cases h2 : x.next = y.next
        · have f2 : ((x.next : Int) == (y.next : Int)) = true := by rw [beq_iff_eq]; omega
          by_cases h3 : x.seq = y.seq
          · have f3 : ((x.seq : Int) == (y.seq : Int)) = true := by rw [beq_iff_eq]; omega
            have hR1 : Hid (R = true) := Lib.hid (by rw [hR.out]; exact tf_true ⟨h1, h2, h3, hs4.out⟩)
            clear h1 h2 h3
            go_wp2_with fail
            go_returns
            exact ⟨by rw [hR1.out]; rfl, bw.out⟩
          · have f3 : ((x.seq : Int) == (y.seq : Int)) = false := by rw [beq_eq_false_iff_ne]; omega
            have hR0 : Hid (R = false) := Lib.hid (by rw [hR.out]; exact tf_false (fun g => h3 g.2.2.1))
            clear h1 h2 h3
            go_wp2_with fail
            go_returns
            exact ⟨by rw [hR0.out]; rfl, bw.out⟩
        · have f2 : ((x.next : Int) == (y.next : Int)) = false := by rw [beq_eq_false_iff_ne]; omega
          have hR0 : Hid (R = false) := Lib.hid (by rw [hR.out]; exact tf_false (fun g => h2 g.2.1))
          clear h1 h2
          go_wp2_with fail
          go_returns
          exact ⟨by rw [hR0.out]; rfl, bw.out⟩
      · have f1 : ((x.log : Int) == (y.log : Int)) = false := by rw [beq_eq_false_iff_ne]; omega
        have hR0 : Hid (R = false) := Lib.hid (by rw [hR.out]; exact tf_false (fun g => h1 g.1))
        clear h1
        go_wp2_with fail
        go_returns
        exact ⟨by rw [hR0.out]; rfl, bw.out⟩
set_option maxRecDepth 100000 in
set_option maxHeartbeats 8000000 in
theorem rsame_any {x y : Vr} {H K : Nat → Hd} {w : World} (hx : VrAt x H w) (hy : VrAt y K w) : Calls Try.prog 15 #[verV x H, verV y K] w fun e w' => e = .returned (.bool (tf (SameV x y))) ∧ Below w.heap.size w w' := by
  obtain ⟨R, hR⟩ := named (tf (SameV x y))
  rw [← hR.out]
  replace hR := Lib.hid hR.out
  have zs : Hid ((w.alloc (verO x H)).heap.size = w.heap.size + 1) := Lib.hid (World.size_alloc _ _)
  have V1 : Hid (VerB w.heap.size x H ((w.alloc (verO x H)).alloc (verO y K))) := Lib.hid ((VerB.new x H w).below (below_alloc _ _))
  have V2 : Hid (VerB (w.heap.size + 1) y K ((w.alloc (verO x H)).alloc (verO y K))) := Lib.hid (by have := VerB.new y K (w.alloc (verO x H)); rw [zs.out] at this; exact this)
  have B0 : Hid (Below w.heap.size w ((w.alloc (verO x H)).alloc (verO y K))) := Lib.hid ((below_alloc w _).alloc (by simp) _)
  replace hx := Lib.hid hx
  replace hy := Lib.hid hy
  by_cases h1 : x.log = y.log
  rotate_left 1
  · have f1 : ((x.log : Int) != (y.log : Int)) = true := by rw [bne_iff_ne]; omega
    have hR0 : Hid (R = false) := Lib.hid (by rw [hR.out]; exact tf_false (fun g => h1 g.1))
    clear h1
    go_enter Try.func15, Try.ntmps15
    go_wp2_with fail
    go_returns
    exact ⟨by rw [hR0.out]; rfl, B0.out⟩
  have f1 : ((x.log : Int) != (y.log : Int)) = false := by rw [bne_eq_false_iff_eq]; omega
  by_cases h2 : x.next = y.next
  rotate_left 1
  · have f2 : ((x.next : Int) != (y.next : Int)) = true := by rw [bne_iff_ne]; omega
    have hR0 : Hid (R = false) := Lib.hid (by rw [hR.out]; exact tf_false (fun g => h2 g.2.1))
    clear h1 h2
    go_enter Try.func15, Try.ntmps15
    go_wp2_with fail
    go_returns
    exact ⟨by rw [hR0.out]; rfl, B0.out⟩
  have f2 : ((x.next : Int) != (y.next : Int)) = false := by rw [bne_eq_false_iff_eq]; omega
  by_cases h3 : x.seq = y.seq
  rotate_left 1
  · have f3 : ((x.seq : Int) != (y.seq : Int)) = true := by rw [bne_iff_ne]; omega
    have hR0 : Hid (R = false) := Lib.hid (by rw [hR.out]; exact tf_false (fun g => h3 g.2.2.1))
    clear h1 h2 h3
    go_enter Try.func15, Try.ntmps15
    go_wp2_with fail
    go_returns
    exact ⟨by rw [hR0.out]; rfl, B0.out⟩
  have f3 : ((x.seq : Int) != (y.seq : Int)) = false := by rw [bne_eq_false_iff_eq]; omega
  have hh : Hid (x.log = y.log ∧ x.next = y.next ∧ x.seq = y.seq) := Lib.hid ⟨h1, h2, h3⟩
  clear h1 h2 h3
  go_enter Try.func15, Try.ntmps15
  go_wp2_with fail
  clear f1 f2 f3
  go_loopw [5] (fun i wr => ∃ j : Nat, j ≤ 4 ∧ i = .int .i64 (j : Int) ∧ Hid (∀ k, k < j → x.lv k = y.lv k) ∧ Hid (Below ((w.alloc (verO x H)).alloc (verO y K)).heap.size ((w.alloc (verO x H)).alloc (verO y K)) wr)) (fun i _ => 4 - (intOf i).toNat)
  case atStart => exact ⟨0, Nat.zero_le _, rfl, Lib.hid (fun k hk => absurd hk (Nat.not_lt_zero k)), Lib.hid (Below.refl _ _)⟩
  case round =>
    obtain ⟨j, hj, rfl, hs, hb⟩ := hrel
    have bw := Lib.hid (below_of B0.out hb.out)
    by_cases hlt : j < 4
    · have i0 : (j : Int) < 4 := by omega
      have i1 : (0 : Int) ≤ (j : Int) := by omega
      have i2 : j < 4 := hlt
      have c1 := (V1.out.below hb.out).lev hlt
      have c2 := (V2.out.below hb.out).lev hlt
      have EC := Lib.hid (fun u (hu : Below wr.heap.size wr u) => samemetas_any ((hx.out j hlt).below (below_of bw.out hu)) ((hy.out j hlt).below (below_of bw.out hu)))
      have mm : Hid (wr.drew.cell? ⟨w.heap.size, 3 + j, none⟩ = some (.slice (H j).a (H j).n (H j).c) ∧ wr.drew.cell? ⟨w.heap.size + 1, 3 + j, none⟩ = some (.slice (K j).a (K j).n (K j).c)) := Lib.hid ⟨c1, c2⟩
      have hkeep : Hid (∀ u, Below wr.drew.heap.size wr.drew u → u.cell? ⟨w.heap.size, 3 + j, none⟩ = some (.slice (H j).a (H j).n (H j).c) ∧ u.cell? ⟨w.heap.size + 1, 3 + j, none⟩ = some (.slice (K j).a (K j).n (K j).c)) := Lib.hid (fun u hu => ⟨cell_keep hu mm.out.1, cell_keep hu mm.out.2⟩)
      clear c1 c2
      by_cases he : x.lv j = y.lv j
      · rw [tf_true he] at EC
        have hs2 : Hid (∀ k, k < j + 1 → x.lv k = y.lv k) := Lib.hid (fun k hk => by
          rcases Nat.lt_or_ge k j with h | h
          · exact hs.out k h
          · obtain rfl : k = j := by omega
            exact he)
        clear he
        go_upto_region 6 with fail
        refine wp_region_held_drew (S := (fun u => u.cell? ⟨w.heap.size, 3 + j, none⟩ = some (.slice (H j).a (H j).n (H j).c) ∧ u.cell? ⟨w.heap.size + 1, 3 + j, none⟩ = some (.slice (K j).a (K j).n (K j).c))) (by kernel_rfl) (mm.out) (fun hHeld => ?_)
        refine held_take (i := 0) (v := ?_) rfl (by kernel_rfl) (by kernel_rfl) (by kernel_rfl) (fun _ _ _ h => h) (by rfl) (fun w hSw => ?_) (by assumption) ?_; rotate_left 1; focus (((try dsimp only at hSw); first | (go_simp; done) | (go_simp; with_reducible rfl)))
        try simp only [Act.put, List.setIfInBounds_toArray, List.set_cons_zero, List.set_cons_succ]
        refine held_take (i := 1) (v := ?_) rfl (by kernel_rfl) (by kernel_rfl) (by kernel_rfl) (fun _ _ _ h => h) (by rfl) (fun w hSw => ?_) (by assumption) ?_; rotate_left 1; focus (((try dsimp only at hSw); first | (go_simp; done) | (go_simp; with_reducible rfl)))
        try simp only [Act.put, List.setIfInBounds_toArray, List.set_cons_zero, List.set_cons_succ]
        refine held_take (i := 2) (v := ?_) rfl (by kernel_rfl) (by kernel_rfl) (by kernel_rfl) (fun _ _ _ h => h) (by rfl) (fun w hSw => ?_) (by assumption) ?_; rotate_left 1; focus (((try dsimp only at hSw); first | (go_simp; done) | (go_simp; with_reducible rfl)))
        try simp only [Act.put, List.setIfInBounds_toArray, List.set_cons_zero, List.set_cons_succ]
        refine held_take (i := 3) (v := ?_) rfl (by kernel_rfl) (by kernel_rfl) (by kernel_rfl) (fun _ _ _ h => h) (by rfl) (fun w hSw => ?_) (by assumption) ?_; rotate_left 1; focus (((try dsimp only at hSw); first | (go_simp; done) | (go_simp; with_reducible rfl)))
        try simp only [Act.put, List.setIfInBounds_toArray, List.set_cons_zero, List.set_cons_succ]
        refine held_take (i := 4) (v := ?_) rfl (by kernel_rfl) (by kernel_rfl) (by kernel_rfl) (fun _ _ _ h => h) (by rfl) (fun w hSw => ?_) (by assumption) ?_; rotate_left 1; focus (((try dsimp only at hSw); first | (go_simp; done) | (go_simp; with_reducible rfl)))
        try simp only [Act.put, List.setIfInBounds_toArray, List.set_cons_zero, List.set_cons_succ]
        refine held_take (i := 5) (v := ?_) rfl (by kernel_rfl) (by kernel_rfl) (by kernel_rfl) (fun _ _ _ h => h) (by rfl) (fun w hSw => ?_) (by assumption) ?_; rotate_left 1; focus (((try dsimp only at hSw); first | (go_simp; done) | (go_simp; with_reducible rfl)))
        try simp only [Act.put, List.setIfInBounds_toArray, List.set_cons_zero, List.set_cons_succ]
        refine held_take (i := 6) (v := ?_) rfl (by kernel_rfl) (by kernel_rfl) (by kernel_rfl) (fun _ _ _ h => h) (by rfl) (fun w hSw => ?_) (by assumption) ?_; rotate_left 1; focus (((try dsimp only at hSw); first | (go_simp; done) | (go_simp; with_reducible rfl)))
        try simp only [Act.put, List.setIfInBounds_toArray, List.set_cons_zero, List.set_cons_succ]
        refine held_take (i := 7) (v := ?_) rfl (by kernel_rfl) (by kernel_rfl) (by kernel_rfl) (fun _ _ _ h => h) (by rfl) (fun w hSw => ?_) (by assumption) ?_; rotate_left 1; focus (((try dsimp only at hSw); first | (go_simp; done) | (go_simp; with_reducible rfl)))
        try simp only [Act.put, List.setIfInBounds_toArray, List.set_cons_zero, List.set_cons_succ]
        refine held_call (i := 8) (by kernel_rfl) rfl (by rfl) (fun K hK => ?_)
        go_simp
        (go_at_call 35; ((with_reducible refine (EC.out _ (Below.refl _ _).drew).mono ?_); rintro e w3 ⟨rfl, hb3⟩))
        have m3 := Lib.hid (hkeep.out _ hb3)
        have B3 := Lib.hid (below_of ((hb.out).drew) hb3)
        clear hb3
        refine hK.out _ _ (m3.out) (fun hHeld => ?_)
        try simp only [Act.put, List.setIfInBounds_toArray, List.set_cons_zero, List.set_cons_succ]
        refine held_take (i := 9) (v := ?_) rfl (by kernel_rfl) (by kernel_rfl) (by kernel_rfl) (fun _ _ _ h => h) (by rfl) (fun w hSw => ?_) (by assumption) ?_; rotate_left 1; focus (((try dsimp only at hSw); first | (go_simp; done) | (go_simp; with_reducible rfl)))
        try simp only [Act.put, List.setIfInBounds_toArray, List.set_cons_zero, List.set_cons_succ]
        refine wpAnyH_done (by kernel_rfl) ?_ _
        go_wp2_with fail
        go_roundw
        case rel => exact ⟨j + 1, by omega, by go_num, hs2, B3⟩
        case measure => simp [intOf]; omega
      · rw [tf_false he] at EC
        have hR0 : Hid (R = false) := Lib.hid (by rw [hR.out]; exact tf_false (fun g => he (g.2.2.2 j hlt)))
        clear he
        go_upto_region 6 with fail
        refine wp_region_held_drew (S := (fun u => u.cell? ⟨w.heap.size, 3 + j, none⟩ = some (.slice (H j).a (H j).n (H j).c) ∧ u.cell? ⟨w.heap.size + 1, 3 + j, none⟩ = some (.slice (K j).a (K j).n (K j).c))) (by kernel_rfl) (mm.out) (fun hHeld => ?_)
        refine held_take (i := 0) (v := ?_) rfl (by kernel_rfl) (by kernel_rfl) (by kernel_rfl) (fun _ _ _ h => h) (by rfl) (fun w hSw => ?_) (by assumption) ?_; rotate_left 1; focus (((try dsimp only at hSw); first | (go_simp; done) | (go_simp; with_reducible rfl)))
        try simp only [Act.put, List.setIfInBounds_toArray, List.set_cons_zero, List.set_cons_succ]
        refine held_take (i := 1) (v := ?_) rfl (by kernel_rfl) (by kernel_rfl) (by kernel_rfl) (fun _ _ _ h => h) (by rfl) (fun w hSw => ?_) (by assumption) ?_; rotate_left 1; focus (((try dsimp only at hSw); first | (go_simp; done) | (go_simp; with_reducible rfl)))
        try simp only [Act.put, List.setIfInBounds_toArray, List.set_cons_zero, List.set_cons_succ]
        refine held_take (i := 2) (v := ?_) rfl (by kernel_rfl) (by kernel_rfl) (by kernel_rfl) (fun _ _ _ h => h) (by rfl) (fun w hSw => ?_) (by assumption) ?_; rotate_left 1; focus (((try dsimp only at hSw); first | (go_simp; done) | (go_simp; with_reducible rfl)))
        try simp only [Act.put, List.setIfInBounds_toArray, List.set_cons_zero, List.set_cons_succ]
        refine held_take (i := 3) (v := ?_) rfl (by kernel_rfl) (by kernel_rfl) (by kernel_rfl) (fun _ _ _ h => h) (by rfl) (fun w hSw => ?_) (by assumption) ?_; rotate_left 1; focus (((try dsimp only at hSw); first | (go_simp; done) | (go_simp; with_reducible rfl)))
        try simp only [Act.put, List.setIfInBounds_toArray, List.set_cons_zero, List.set_cons_succ]
        refine held_take (i := 4) (v := ?_) rfl (by kernel_rfl) (by kernel_rfl) (by kernel_rfl) (fun _ _ _ h => h) (by rfl) (fun w hSw => ?_) (by assumption) ?_; rotate_left 1; focus (((try dsimp only at hSw); first | (go_simp; done) | (go_simp; with_reducible rfl)))
        try simp only [Act.put, List.setIfInBounds_toArray, List.set_cons_zero, List.set_cons_succ]
        refine held_take (i := 5) (v := ?_) rfl (by kernel_rfl) (by kernel_rfl) (by kernel_rfl) (fun _ _ _ h => h) (by rfl) (fun w hSw => ?_) (by assumption) ?_; rotate_left 1; focus (((try dsimp only at hSw); first | (go_simp; done) | (go_simp; with_reducible rfl)))
        try simp only [Act.put, List.setIfInBounds_toArray, List.set_cons_zero, List.set_cons_succ]
        refine held_take (i := 6) (v := ?_) rfl (by kernel_rfl) (by kernel_rfl) (by kernel_rfl) (fun _ _ _ h => h) (by rfl) (fun w hSw => ?_) (by assumption) ?_; rotate_left 1; focus (((try dsimp only at hSw); first | (go_simp; done) | (go_simp; with_reducible rfl)))
        try simp only [Act.put, List.setIfInBounds_toArray, List.set_cons_zero, List.set_cons_succ]
        refine held_take (i := 7) (v := ?_) rfl (by kernel_rfl) (by kernel_rfl) (by kernel_rfl) (fun _ _ _ h => h) (by rfl) (fun w hSw => ?_) (by assumption) ?_; rotate_left 1; focus (((try dsimp only at hSw); first | (go_simp; done) | (go_simp; with_reducible rfl)))
        try simp only [Act.put, List.setIfInBounds_toArray, List.set_cons_zero, List.set_cons_succ]
        refine held_call (i := 8) (by kernel_rfl) rfl (by rfl) (fun K hK => ?_)
        go_simp
        (go_at_call 35; ((with_reducible refine (EC.out _ (Below.refl _ _).drew).mono ?_); rintro e w3 ⟨rfl, hb3⟩))
        have m3 := Lib.hid (hkeep.out _ hb3)
        have B3 := Lib.hid (below_of ((hb.out).drew) hb3)
        clear hb3
        refine hK.out _ _ (m3.out) (fun hHeld => ?_)
        try simp only [Act.put, List.setIfInBounds_toArray, List.set_cons_zero, List.set_cons_succ]
        refine held_take (i := 9) (v := ?_) rfl (by kernel_rfl) (by kernel_rfl) (by kernel_rfl) (fun _ _ _ h => h) (by rfl) (fun w hSw => ?_) (by assumption) ?_; rotate_left 1; focus (((try dsimp only at hSw); first | (go_simp; done) | (go_simp; with_reducible rfl)))
        try simp only [Act.put, List.setIfInBounds_toArray, List.set_cons_zero, List.set_cons_succ]
        refine wpAnyH_done (by kernel_rfl) ?_ _
        go_wp2_with fail
        go_returns
        exact ⟨by rw [hR0.out]; rfl, below_of B0.out B3.out⟩
    · have i0 : ¬ (j : Int) < 4 := by omega
      have hR1 : Hid (R = true) := Lib.hid (by rw [hR.out]; exact tf_true ⟨hh.out.1, hh.out.2.1, hh.out.2.2, fun k hk => hs.out k (by omega)⟩)
      go_wp2_with fail
      go_returns
      exact ⟨by rw [hR1.out]; rfl, bw.out⟩
end Go.Proofs.Ytkkedofbnmjgeaa
