/-
  The contract of the document's with: a table at its place. Condition: at most 1999 tables.
-/
import Derived.Test.YtnmjfdejgfmoiaaPack14
namespace Go.Proofs.Ytnmjfdejgfmoiaa
set_option maxRecDepth 100000
open Go Go.RowKit
theorem size_mt (w : World) : (Go.sizeOf (Try.prog.elem 23)).run Try.prog w = .ok 7 w := by
  obtain ⟨i0, hi, hz0, hz1, hz2⟩ := info_parts (show (Try.prog.info? (Try.prog.elem 23)).map (fun i => (i.zero, i.size, i.bytes)) = some (some (.agg #[.int .u64 0, .int .i64 0, .int .i64 0, .string .empty, .string .empty, .int .u64 0, .int .u64 0]), 7, 72) by kernel_rfl)
  simp [Go.sizeOf, typeInfo, hi, hz1]
theorem slm_upto (p : Option Addr) (n c k : Nat) (hk : k ≤ c) (u : World) : (Instr.slice 23 (.slice p n c) none (some (.int .i64 (k : Int))) none).run Try.prog u = .ok (.slice p k c) u := by
  rw [run_slice_h u 23 p n c (by kernel_rfl) .i64 (k : Int) (by omega) (by omega), size_mt]
  cases p <;> simp [Result.andThen, sliced, Addr.add]
/-- Where the tables from the k-th on lie. -/
def fromM (p : Option Addr) (c k : Nat) : Option Addr := if c = k then p else p.map (·.add (k * 7))
theorem slm_from (p : Option Addr) (n c k : Nat) (hk : k ≤ n) (u : World) : (Instr.slice 23 (.slice p n c) (some (.int .i64 (k : Int))) none none).run Try.prog u = .ok (.slice (fromM p c k) (n - k) (c - k)) u := by
  rw [run_slice_l u 23 p n c (by kernel_rfl) .i64 (k : Int) (by omega) (by omega), size_mt]
  simp only [Result.andThen, sliced, Int.toNat_natCast, fromM]
theorem add_lit (b o k : Nat) : (⟨b, o, none⟩ : Addr).add k = ⟨b, o + k, none⟩ := by
  unfold Addr.add
  split
  · rename_i h; rw [h]; rfl
  · rfl
theorem Ms.upto {a : Option Addr} {n c b o : Nat} {l : List Mt} {w : World} (h : Ms ⟨a, n, c, b, o⟩ l w) {k : Nat} (hk : k ≤ n) (ha : a = none → k = 0) : Ms ⟨a, k, c, b, o⟩ (l.take k) w :=
  ⟨⟨by rw [List.length_take, h.len]; show min k n = k; omega, by have := h.sl.cap; exact Nat.le_trans hk this, h.sl.most, fun h0 => h.sl.addr (Nat.lt_of_lt_of_le h0 hk), fun j x hx m u hu => by
    rw [List.getElem?_take] at hx
    split at hx
    · exact h.sl.at' j x hx m u hu
    · cases hx⟩, fun h0 => ⟨ha h0, (h.none' h0).2⟩⟩
theorem Ms.from {a : Option Addr} {n c b o : Nat} {l : List Mt} {w : World} (h : Ms ⟨a, n, c, b, o⟩ l w) {k : Nat} (hk : k ≤ n) : Ms ⟨fromM a c k, n - k, c - k, b, o + k * 7⟩ (l.drop k) w := by
  have hc : n ≤ c := h.sl.cap
  refine ⟨⟨by rw [List.length_drop, h.len], (by show n - k ≤ c - k; omega), (by have := h.sl.most; show c - k ≤ _; have : c ≤ 9223372036854775807 := this; omega), fun h0 => ?_, fun j x hx m u hu => ?_⟩, fun h0 => ?_⟩
  · have h0' : 0 < n - k := h0
    obtain ⟨ha, hb⟩ := h.sl.addr (show 0 < n by omega)
    have ha : a = some ⟨b, o, none⟩ := ha
    refine ⟨?_, hb⟩
    show fromM a c k = some ⟨b, o + k * 7, none⟩
    unfold fromM
    rw [if_neg (by omega), ha]
    simp [add_lit]
  · rw [List.getElem?_drop] at hx
    have := h.sl.at' (k + j) x hx m u hu
    rw [show o + (k + j) * 7 + m = o + k * 7 + j * 7 + m by omega] at this
    exact this
  · have h0' : fromM a c k = none := h0
    unfold fromM at h0'
    split at h0'
    · obtain ⟨q1, q2⟩ := h.none' h0'
      have q1 : n = 0 := q1
      have q2 : c = 0 := q2
      exact ⟨by show n - k = 0; omega, by show c - k = 0; omega⟩
    · cases a with
      | none =>
        obtain ⟨q1, q2⟩ := h.none' rfl
        have q1 : n = 0 := q1
        have q2 : c = 0 := q2
        exact ⟨by show n - k = 0; omega, by show c - k = 0; omega⟩
      | some ad => simp at h0'
theorem app_bound {n : Nat} (h : n ≤ 1999) : n ≤ 1048576 ∧ n + 1 ≤ maxLen ∧ (n + 1) * 72 ≤ 140737488355328 ∧ n + 1 ≤ 1048576 := by unfold maxLen; omega
theorem less_irrE (a : List UInt8) : Op.bytesLess a a = false := by
  have h := (swoKey).irrefl ⟨0, 0, 0, ⟨a.toArray⟩, ⟨a.toArray⟩, 0, 0⟩
  rw [ltKey] at h
  simpa [Lib.toList_data] using h
theorem less_asymE (a b : List UInt8) (h : Op.bytesLess a b = true) : Op.bytesLess b a = false := by
  cases hx : Op.bytesLess b a with
  | false => rfl
  | true =>
    rw [less_before] at h hx
    have := WideShapes.bytes_trans _ _ _ h hx
    rw [← less_before] at this
    rw [less_irrE] at this; cases this
theorem leq_notE (x y : ByteArray) : (Op.bytesLess x.toList y.toList || x.toList == y.toList) = !(Op.bytesLess y.toList x.toList) := by
  rcases Classical.em (x.toList = y.toList) with e | e
  · rw [e]
    have h := less_irrE y.toList
    rw [h]; simp
  · have hn : (x.toList == y.toList) = false := beq_eq_false_iff_ne.2 e
    rw [hn]
    rcases WideAt.bytes_total _ _ e with t | t
    · rw [← less_before] at t
      rw [t, less_asymE _ _ t]; rfl
    · rw [← less_before] at t
      rw [t, less_asymE _ _ t]; rfl
/-- What a grown row leaves. -/
theorem grow_keep {w u w1 : World} {v : Value} {T : Obj} (hA : u.heap[w.heap.size]? = some T) (hB : Below w.heap.size w u) (hg : u.grownBy w1 v.ownBlock) (hv : ∀ r, v.ownBlock = some r → w.heap.size < r) : Below w.heap.size w w1 ∧ w1.heap[w.heap.size]? = some T :=
  ⟨hB.grown hg hB.size (fun r hr => Nat.le_of_lt (hv r hr)), (hg.block _ (Array.getElem?_eq_some_iff.1 hA).1 (fun e => Nat.lt_irrefl _ (hv _ e.symm))).trans hA⟩
theorem alloc_keep {w u : World} {T O : Obj} (hA : u.heap[w.heap.size]? = some T) (hB : Below w.heap.size w u) : (u.alloc O).heap[w.heap.size]? = some T ∧ Below w.heap.size w (u.alloc O) :=
  ⟨(Below.heap_alloc _ _ _ (Array.getElem?_eq_some_iff.1 hA).1).trans hA, hB.alloc hB.size _⟩
set_option maxRecDepth 100000 in
set_option maxHeartbeats 16000000 in
theorem rwith_any {h : Hd} {l : List Mt} {w : World} (hM : Ms h l w) (hn : h.n ≤ 1999) (x : Mt) (i : Nat) : Calls Try.prog 23 #[.slice h.a h.n h.c, .agg #[.int .u64 (x.num : Int), .int .i64 x.size, .int .i64 x.rows, .string x.fst, .string x.lst, .int .u64 (x.least : Int), .int .u64 (x.gr : Int)], .int .i64 (i : Int)] w fun r w' => (∃ (k : Hd) (l' : List Mt), r = .returned (.slice k.a k.n k.c) ∧ WithD i l x l' ∧ Ms k l' w') ∧ Below w.heap.size w w' := by
  have hlen := Lib.hid hM.len
  have MA : Hid (∀ u, Below w.heap.size w u → Ms h l u) := Lib.hid (fun u hu => hM.below hu)
  have m0 : h.c ≤ 9223372036854775807 := hM.sl.most
  have q0 : h.n ≤ h.c := hM.sl.cap
  have hnil := Lib.hid hM.none'
  clear hM
  obtain ⟨a, n, c, b, o⟩ := h
  simp only at hn hlen MA m0 q0 hnil ⊢
  obtain ⟨ti, hi0, hy0, hy1, hy2⟩ := info_parts infoM
  have B0 := Lib.hid (below_alloc w (rmO x))
  have A0 := Lib.hid (heap_alloc_new w (rmO x))
  go_enter Try.func23, Try.ntmps23
  go_wp2_with fail
  go_loopw [7] (fun iv wr => ∃ k : Nat, k ≤ n ∧ iv = .int .i64 (k : Int) ∧ Hid (∀ j y, j < k → l[j]? = some y → preP i y x) ∧ Hid (Below w.heap.size w wr) ∧ Hid (wr.heap[w.heap.size]? = some (rmO x))) (fun iv _ => n - (intOf iv).toNat)
  case atStart => exact ⟨0, Nat.zero_le _, rfl, Lib.hid (fun j y hj => absurd hj (Nat.not_lt_zero j)), B0, A0⟩
  case round =>
    clear B0 A0
    obtain ⟨k, hk, rfl, hP, hB, hA⟩ := hrel
    have BD := Lib.hid (below_drewN (n := 1) hB.out)
    obtain ⟨y0, y1, y2, y3, y4, y5, y6⟩ := rm_cells hA.out
    -- the end behind the loop
    have END : Hid ((∀ y, l[k]? = some y → ¬ preP i y x) → WithD i l x (l.take k ++ x :: l.drop k)) := Lib.hid (fun h => ⟨k, by rw [hlen.out]; exact hk, hP.out, h, rfl⟩)
    by_cases hlt : k < n
    · have i0 : (k : Int) < (n : Int) := by omega
      have i1 : (0 : Int) ≤ (k : Int) := by omega
      obtain ⟨z, hz, rfl, hbl, z0, z1, z2, z3, z4, z5, z6⟩ := (MA.out _ hB.out).at7x hlt
      have PN : Hid (preP i z x → ∀ j y, j < k + 1 → l[j]? = some y → preP i y x) := Lib.hid (fun h j y hj hy => by
        by_cases e : j < k
        · exact hP.out j y e hy
        · obtain rfl : j = k := by omega
          rw [hz] at hy; cases hy; exact h)
      have EN : Hid (¬ preP i z x → WithD i l x (l.take k ++ x :: l.drop k)) := Lib.hid (fun h => END.out (fun y hy => by rw [hz] at hy; cases hy; exact h))
      have S0 : Hid (wr.drew.cell? ⟨b, o + k * 7, none⟩ = some (.int .u64 (z.num : Int)) ∧ wr.drew.cell? ⟨b, o + k * 7 + 3, none⟩ = some (.string z.fst) ∧ wr.drew.cell? ⟨w.heap.size, 0, none⟩ = some (.int .u64 (x.num : Int)) ∧ wr.drew.cell? ⟨w.heap.size, 3, none⟩ = some (.string x.fst)) := Lib.hid ⟨z0, z3, y0, y3⟩
      replace hz := Lib.hid hz
      clear z0 z1 z2 z3 z4 z5 z6 y0 y1 y2 y3 y4 y5 y6
      by_cases hz0 : i = 0
      · have j0 : ((i : Int) == 0) = true := by rw [hz0]; rfl
        have j1 : ¬ (0 : Int) < (i : Int) := by omega
        have j2 : (i : Int) = 0 := by omega
        by_cases hlt2 : z.num < x.num
        · have j3 : (z.num : Int) < (x.num : Int) := by omega
          have P1 := Lib.hid (PN.out (by unfold preP; rw [if_pos hz0]; exact hlt2))
          clear hlt2 PN EN END hz0
          go_upto_region 2 with fail
          refine wp_region_held_drew (S := (fun u => u.cell? ⟨b, o + k * 7, none⟩ = some (.int .u64 (z.num : Int)) ∧ u.cell? ⟨b, o + k * 7 + 3, none⟩ = some (.string z.fst) ∧ u.cell? ⟨w.heap.size, 0, none⟩ = some (.int .u64 (x.num : Int)) ∧ u.cell? ⟨w.heap.size, 3, none⟩ = some (.string x.fst))) (by kernel_rfl) (S0.out) (fun hHeld => ?_)
          refine held_take (i := 0) (v := ?_) rfl (by kernel_rfl) (by kernel_rfl) (by kernel_rfl) (fun _ _ _ h => h) (by rfl) (fun w hSw => ?_) (by assumption) ?_; rotate_left 1; focus (((try dsimp only at hSw); first | (go_simp; done) | (go_simp; with_reducible rfl)))
          try simp only [Act.put, List.setIfInBounds_toArray, List.set_cons_zero, List.set_cons_succ]
          refine held_take (i := 1) (v := ?_) rfl (by kernel_rfl) (by kernel_rfl) (by kernel_rfl) (fun _ _ _ h => h) (by rfl) (fun w hSw => ?_) (by assumption) ?_; rotate_left 1; focus (((try dsimp only at hSw); first | (go_simp; done) | (go_simp; with_reducible rfl)))
          try simp only [Act.put, List.setIfInBounds_toArray, List.set_cons_zero, List.set_cons_succ]
          refine held_take (i := 2) (v := ?_) rfl (by kernel_rfl) (by kernel_rfl) (by kernel_rfl) (fun _ _ _ h => h) (by rfl) (fun w hSw => ?_) (by assumption) ?_; rotate_left 1; focus (((try dsimp only at hSw); first | (go_simp; done) | (go_simp; with_reducible rfl)))
          try simp only [Act.put, List.setIfInBounds_toArray, List.set_cons_zero, List.set_cons_succ]
          refine held_take (i := 3) (v := ?_) rfl (by kernel_rfl) (by kernel_rfl) (by kernel_rfl) (fun _ _ _ h => h) (by rfl) (fun w hSw => ?_) (by assumption) ?_; rotate_left 1; focus (((try dsimp only at hSw); first | (go_simp; done) | (go_simp; with_reducible rfl)))
          try simp only [Act.put, List.setIfInBounds_toArray, List.set_cons_zero, List.set_cons_succ]
          refine held_take (i := 4) (v := ?_) rfl (by kernel_rfl) (by kernel_rfl) (by kernel_rfl) (fun _ _ _ h => h) (by rfl) (fun w hSw => ?_) (by assumption) ?_; rotate_left 1; focus (((try dsimp only at hSw); first | (go_simp; done) | (go_simp; with_reducible rfl)))
          try simp only [Act.put, List.setIfInBounds_toArray, List.set_cons_zero, List.set_cons_succ]
          refine held_take (i := 5) (v := ?_) rfl (by kernel_rfl) (by kernel_rfl) (by kernel_rfl) (fun _ _ _ h => h) (by rfl) (fun w hSw => ?_) (by assumption) ?_; rotate_left 1; focus (((try dsimp only at hSw); first | (go_simp; done) | (go_simp; with_reducible rfl)))
          try simp only [Act.put, List.setIfInBounds_toArray, List.set_cons_zero, List.set_cons_succ]
          refine held_take (i := 6) (v := ?_) rfl (by kernel_rfl) (by kernel_rfl) (by kernel_rfl) (fun _ _ _ h => h) (by rfl) (fun w hSw => ?_) (by assumption) ?_; rotate_left 1; focus (((try dsimp only at hSw); first | (go_simp; done) | (go_simp; with_reducible rfl)))
          try simp only [Act.put, List.setIfInBounds_toArray, List.set_cons_zero, List.set_cons_succ]
          refine held_take (i := 7) (v := ?_) rfl (by kernel_rfl) (by kernel_rfl) (by kernel_rfl) (fun _ _ _ h => h) (by rfl) (fun w hSw => ?_) (by assumption) ?_; rotate_left 1; focus (((try dsimp only at hSw); first | (go_simp; done) | (go_simp; with_reducible rfl)))
          try simp only [Act.put, List.setIfInBounds_toArray, List.set_cons_zero, List.set_cons_succ]
          refine held_take (i := 8) (v := ?_) rfl (by kernel_rfl) (by kernel_rfl) (by kernel_rfl) (fun _ _ _ h => h) (by rfl) (fun w hSw => ?_) (by assumption) ?_; rotate_left 1; focus (((try dsimp only at hSw); first | (go_simp; done) | (go_simp; with_reducible rfl)))
          try simp only [Act.put, List.setIfInBounds_toArray, List.set_cons_zero, List.set_cons_succ]
          refine held_take (i := 9) (v := ?_) rfl (by kernel_rfl) (by kernel_rfl) (by kernel_rfl) (fun _ _ _ h => h) (by rfl) (fun w hSw => ?_) (by assumption) ?_; rotate_left 1; focus (((try dsimp only at hSw); first | (go_simp; done) | (go_simp; with_reducible rfl)))
          try simp only [Act.put, List.setIfInBounds_toArray, List.set_cons_zero, List.set_cons_succ]
          refine held_take (i := 10) (v := ?_) rfl (by kernel_rfl) (by kernel_rfl) (by kernel_rfl) (fun _ _ _ h => h) (by rfl) (fun w hSw => ?_) (by assumption) ?_; rotate_left 1; focus (((try dsimp only at hSw); first | (go_simp; done) | (go_simp; with_reducible rfl)))
          try simp only [Act.put, List.setIfInBounds_toArray, List.set_cons_zero, List.set_cons_succ]
          refine held_take (i := 11) (v := ?_) rfl (by kernel_rfl) (by kernel_rfl) (by kernel_rfl) (fun _ _ _ h => h) (by rfl) (fun w hSw => ?_) (by assumption) ?_; rotate_left 1; focus (((try dsimp only at hSw); first | (go_simp; done) | (go_simp; with_reducible rfl)))
          try simp only [Act.put, List.setIfInBounds_toArray, List.set_cons_zero, List.set_cons_succ]
          refine held_take (i := 12) (v := ?_) rfl (by kernel_rfl) (by kernel_rfl) (by kernel_rfl) (fun _ _ _ h => h) (by rfl) (fun w hSw => ?_) (by assumption) ?_; rotate_left 1; focus (((try dsimp only at hSw); first | (go_simp; done) | (go_simp; with_reducible rfl)))
          try simp only [Act.put, List.setIfInBounds_toArray, List.set_cons_zero, List.set_cons_succ]
          refine held_take (i := 13) (v := ?_) rfl (by kernel_rfl) (by kernel_rfl) (by kernel_rfl) (fun _ _ _ h => h) (by rfl) (fun w hSw => ?_) (by assumption) ?_; rotate_left 1; focus (((try dsimp only at hSw); first | (go_simp; done) | (go_simp; with_reducible rfl)))
          try simp only [Act.put, List.setIfInBounds_toArray, List.set_cons_zero, List.set_cons_succ]
          refine held_take (i := 14) (v := ?_) rfl (by kernel_rfl) (by kernel_rfl) (by kernel_rfl) (fun _ _ _ h => h) (by rfl) (fun w hSw => ?_) (by assumption) ?_; rotate_left 1; focus (((try dsimp only at hSw); first | (go_simp; done) | (go_simp; with_reducible rfl)))
          try simp only [Act.put, List.setIfInBounds_toArray, List.set_cons_zero, List.set_cons_succ]
          refine held_take (i := 15) (v := ?_) rfl (by kernel_rfl) (by kernel_rfl) (by kernel_rfl) (fun _ _ _ h => h) (by rfl) (fun w hSw => ?_) (by assumption) ?_; rotate_left 1; focus (((try dsimp only at hSw); first | (go_simp; done) | (go_simp; with_reducible rfl)))
          try simp only [Act.put, List.setIfInBounds_toArray, List.set_cons_zero, List.set_cons_succ]
          refine held_take (i := 16) (v := ?_) rfl (by kernel_rfl) (by kernel_rfl) (by kernel_rfl) (fun _ _ _ h => h) (by rfl) (fun w hSw => ?_) (by assumption) ?_; rotate_left 1; focus (((try dsimp only at hSw); first | (go_simp; done) | (go_simp; with_reducible rfl)))
          try simp only [Act.put, List.setIfInBounds_toArray, List.set_cons_zero, List.set_cons_succ]
          refine held_take (i := 17) (v := ?_) rfl (by kernel_rfl) (by kernel_rfl) (by kernel_rfl) (fun _ _ _ h => h) (by rfl) (fun w hSw => ?_) (by assumption) ?_; rotate_left 1; focus (((try dsimp only at hSw); first | (go_simp; done) | (go_simp; with_reducible rfl)))
          try simp only [Act.put, List.setIfInBounds_toArray, List.set_cons_zero, List.set_cons_succ]
          refine held_skip (i := 18) rfl (by kernel_rfl) (by kernel_rfl) (by kernel_rfl) (fun _ _ _ h => h) (by rfl) (by assumption) ?_
          try simp only [Act.put, List.setIfInBounds_toArray, List.set_cons_zero, List.set_cons_succ]
          refine held_skip (i := 19) rfl (by kernel_rfl) (by kernel_rfl) (by kernel_rfl) (fun _ _ _ h => h) (by rfl) (by assumption) ?_
          try simp only [Act.put, List.setIfInBounds_toArray, List.set_cons_zero, List.set_cons_succ]
          refine held_skip (i := 20) rfl (by kernel_rfl) (by kernel_rfl) (by kernel_rfl) (fun _ _ _ h => h) (by rfl) (by assumption) ?_
          try simp only [Act.put, List.setIfInBounds_toArray, List.set_cons_zero, List.set_cons_succ]
          refine held_skip (i := 21) rfl (by kernel_rfl) (by kernel_rfl) (by kernel_rfl) (fun _ _ _ h => h) (by rfl) (by assumption) ?_
          try simp only [Act.put, List.setIfInBounds_toArray, List.set_cons_zero, List.set_cons_succ]
          refine held_skip (i := 22) rfl (by kernel_rfl) (by kernel_rfl) (by kernel_rfl) (fun _ _ _ h => h) (by rfl) (by assumption) ?_
          try simp only [Act.put, List.setIfInBounds_toArray, List.set_cons_zero, List.set_cons_succ]
          refine held_skip (i := 23) rfl (by kernel_rfl) (by kernel_rfl) (by kernel_rfl) (fun _ _ _ h => h) (by rfl) (by assumption) ?_
          try simp only [Act.put, List.setIfInBounds_toArray, List.set_cons_zero, List.set_cons_succ]
          refine held_skip (i := 24) rfl (by kernel_rfl) (by kernel_rfl) (by kernel_rfl) (fun _ _ _ h => h) (by rfl) (by assumption) ?_
          try simp only [Act.put, List.setIfInBounds_toArray, List.set_cons_zero, List.set_cons_succ]
          refine held_skip (i := 25) rfl (by kernel_rfl) (by kernel_rfl) (by kernel_rfl) (fun _ _ _ h => h) (by rfl) (by assumption) ?_
          try simp only [Act.put, List.setIfInBounds_toArray, List.set_cons_zero, List.set_cons_succ]
          refine held_skip (i := 26) rfl (by kernel_rfl) (by kernel_rfl) (by kernel_rfl) (fun _ _ _ h => h) (by rfl) (by assumption) ?_
          try simp only [Act.put, List.setIfInBounds_toArray, List.set_cons_zero, List.set_cons_succ]
          refine held_skip (i := 27) rfl (by kernel_rfl) (by kernel_rfl) (by kernel_rfl) (fun _ _ _ h => h) (by rfl) (by assumption) ?_
          try simp only [Act.put, List.setIfInBounds_toArray, List.set_cons_zero, List.set_cons_succ]
          refine held_skip (i := 28) rfl (by kernel_rfl) (by kernel_rfl) (by kernel_rfl) (fun _ _ _ h => h) (by rfl) (by assumption) ?_
          try simp only [Act.put, List.setIfInBounds_toArray, List.set_cons_zero, List.set_cons_succ]
          refine held_skip (i := 29) rfl (by kernel_rfl) (by kernel_rfl) (by kernel_rfl) (fun _ _ _ h => h) (by rfl) (by assumption) ?_
          try simp only [Act.put, List.setIfInBounds_toArray, List.set_cons_zero, List.set_cons_succ]
          refine held_take (i := 30) (v := ?_) rfl (by kernel_rfl) (by kernel_rfl) (by kernel_rfl) (fun _ _ _ h => h) (by rfl) (fun w hSw => ?_) (by assumption) ?_; rotate_left 1; focus (((try dsimp only at hSw); first | (go_simp; done) | (go_simp; with_reducible rfl)))
          try simp only [Act.put, List.setIfInBounds_toArray, List.set_cons_zero, List.set_cons_succ]
          refine held_take (i := 31) (v := ?_) rfl (by kernel_rfl) (by kernel_rfl) (by kernel_rfl) (fun _ _ _ h => h) (by rfl) (fun w hSw => ?_) (by assumption) ?_; rotate_left 1; focus (((try dsimp only at hSw); first | (go_simp; done) | (go_simp; with_reducible rfl)))
          try simp only [Act.put, List.setIfInBounds_toArray, List.set_cons_zero, List.set_cons_succ]
          refine wpAnyH_done (by kernel_rfl) ?_ _
          go_wp2_with fail
          go_roundw
          case rel => exact ⟨k + 1, by omega, by go_num, P1, BD, hA⟩
          case measure => simp [intOf]; omega
        · have j3 : ¬ (z.num : Int) < (x.num : Int) := by omega
          have E1 := Lib.hid (EN.out (by unfold preP; rw [if_pos hz0]; exact hlt2))
          clear hlt2 PN EN hz0
          go_upto_region 2 with fail
          refine wp_region_held_drew (S := (fun u => u.cell? ⟨b, o + k * 7, none⟩ = some (.int .u64 (z.num : Int)) ∧ u.cell? ⟨b, o + k * 7 + 3, none⟩ = some (.string z.fst) ∧ u.cell? ⟨w.heap.size, 0, none⟩ = some (.int .u64 (x.num : Int)) ∧ u.cell? ⟨w.heap.size, 3, none⟩ = some (.string x.fst))) (by kernel_rfl) (S0.out) (fun hHeld => ?_)
          refine held_take (i := 0) (v := ?_) rfl (by kernel_rfl) (by kernel_rfl) (by kernel_rfl) (fun _ _ _ h => h) (by rfl) (fun w hSw => ?_) (by assumption) ?_; rotate_left 1; focus (((try dsimp only at hSw); first | (go_simp; done) | (go_simp; with_reducible rfl)))
          try simp only [Act.put, List.setIfInBounds_toArray, List.set_cons_zero, List.set_cons_succ]
          refine held_take (i := 1) (v := ?_) rfl (by kernel_rfl) (by kernel_rfl) (by kernel_rfl) (fun _ _ _ h => h) (by rfl) (fun w hSw => ?_) (by assumption) ?_; rotate_left 1; focus (((try dsimp only at hSw); first | (go_simp; done) | (go_simp; with_reducible rfl)))
          try simp only [Act.put, List.setIfInBounds_toArray, List.set_cons_zero, List.set_cons_succ]
          refine held_take (i := 2) (v := ?_) rfl (by kernel_rfl) (by kernel_rfl) (by kernel_rfl) (fun _ _ _ h => h) (by rfl) (fun w hSw => ?_) (by assumption) ?_; rotate_left 1; focus (((try dsimp only at hSw); first | (go_simp; done) | (go_simp; with_reducible rfl)))
          try simp only [Act.put, List.setIfInBounds_toArray, List.set_cons_zero, List.set_cons_succ]
          refine held_take (i := 3) (v := ?_) rfl (by kernel_rfl) (by kernel_rfl) (by kernel_rfl) (fun _ _ _ h => h) (by rfl) (fun w hSw => ?_) (by assumption) ?_; rotate_left 1; focus (((try dsimp only at hSw); first | (go_simp; done) | (go_simp; with_reducible rfl)))
          try simp only [Act.put, List.setIfInBounds_toArray, List.set_cons_zero, List.set_cons_succ]
          refine held_take (i := 4) (v := ?_) rfl (by kernel_rfl) (by kernel_rfl) (by kernel_rfl) (fun _ _ _ h => h) (by rfl) (fun w hSw => ?_) (by assumption) ?_; rotate_left 1; focus (((try dsimp only at hSw); first | (go_simp; done) | (go_simp; with_reducible rfl)))
          try simp only [Act.put, List.setIfInBounds_toArray, List.set_cons_zero, List.set_cons_succ]
          refine held_take (i := 5) (v := ?_) rfl (by kernel_rfl) (by kernel_rfl) (by kernel_rfl) (fun _ _ _ h => h) (by rfl) (fun w hSw => ?_) (by assumption) ?_; rotate_left 1; focus (((try dsimp only at hSw); first | (go_simp; done) | (go_simp; with_reducible rfl)))
          try simp only [Act.put, List.setIfInBounds_toArray, List.set_cons_zero, List.set_cons_succ]
          refine held_take (i := 6) (v := ?_) rfl (by kernel_rfl) (by kernel_rfl) (by kernel_rfl) (fun _ _ _ h => h) (by rfl) (fun w hSw => ?_) (by assumption) ?_; rotate_left 1; focus (((try dsimp only at hSw); first | (go_simp; done) | (go_simp; with_reducible rfl)))
          try simp only [Act.put, List.setIfInBounds_toArray, List.set_cons_zero, List.set_cons_succ]
          refine held_take (i := 7) (v := ?_) rfl (by kernel_rfl) (by kernel_rfl) (by kernel_rfl) (fun _ _ _ h => h) (by rfl) (fun w hSw => ?_) (by assumption) ?_; rotate_left 1; focus (((try dsimp only at hSw); first | (go_simp; done) | (go_simp; with_reducible rfl)))
          try simp only [Act.put, List.setIfInBounds_toArray, List.set_cons_zero, List.set_cons_succ]
          refine held_take (i := 8) (v := ?_) rfl (by kernel_rfl) (by kernel_rfl) (by kernel_rfl) (fun _ _ _ h => h) (by rfl) (fun w hSw => ?_) (by assumption) ?_; rotate_left 1; focus (((try dsimp only at hSw); first | (go_simp; done) | (go_simp; with_reducible rfl)))
          try simp only [Act.put, List.setIfInBounds_toArray, List.set_cons_zero, List.set_cons_succ]
          refine held_take (i := 9) (v := ?_) rfl (by kernel_rfl) (by kernel_rfl) (by kernel_rfl) (fun _ _ _ h => h) (by rfl) (fun w hSw => ?_) (by assumption) ?_; rotate_left 1; focus (((try dsimp only at hSw); first | (go_simp; done) | (go_simp; with_reducible rfl)))
          try simp only [Act.put, List.setIfInBounds_toArray, List.set_cons_zero, List.set_cons_succ]
          refine held_take (i := 10) (v := ?_) rfl (by kernel_rfl) (by kernel_rfl) (by kernel_rfl) (fun _ _ _ h => h) (by rfl) (fun w hSw => ?_) (by assumption) ?_; rotate_left 1; focus (((try dsimp only at hSw); first | (go_simp; done) | (go_simp; with_reducible rfl)))
          try simp only [Act.put, List.setIfInBounds_toArray, List.set_cons_zero, List.set_cons_succ]
          refine held_take (i := 11) (v := ?_) rfl (by kernel_rfl) (by kernel_rfl) (by kernel_rfl) (fun _ _ _ h => h) (by rfl) (fun w hSw => ?_) (by assumption) ?_; rotate_left 1; focus (((try dsimp only at hSw); first | (go_simp; done) | (go_simp; with_reducible rfl)))
          try simp only [Act.put, List.setIfInBounds_toArray, List.set_cons_zero, List.set_cons_succ]
          refine held_take (i := 12) (v := ?_) rfl (by kernel_rfl) (by kernel_rfl) (by kernel_rfl) (fun _ _ _ h => h) (by rfl) (fun w hSw => ?_) (by assumption) ?_; rotate_left 1; focus (((try dsimp only at hSw); first | (go_simp; done) | (go_simp; with_reducible rfl)))
          try simp only [Act.put, List.setIfInBounds_toArray, List.set_cons_zero, List.set_cons_succ]
          refine held_take (i := 13) (v := ?_) rfl (by kernel_rfl) (by kernel_rfl) (by kernel_rfl) (fun _ _ _ h => h) (by rfl) (fun w hSw => ?_) (by assumption) ?_; rotate_left 1; focus (((try dsimp only at hSw); first | (go_simp; done) | (go_simp; with_reducible rfl)))
          try simp only [Act.put, List.setIfInBounds_toArray, List.set_cons_zero, List.set_cons_succ]
          refine held_take (i := 14) (v := ?_) rfl (by kernel_rfl) (by kernel_rfl) (by kernel_rfl) (fun _ _ _ h => h) (by rfl) (fun w hSw => ?_) (by assumption) ?_; rotate_left 1; focus (((try dsimp only at hSw); first | (go_simp; done) | (go_simp; with_reducible rfl)))
          try simp only [Act.put, List.setIfInBounds_toArray, List.set_cons_zero, List.set_cons_succ]
          refine held_take (i := 15) (v := ?_) rfl (by kernel_rfl) (by kernel_rfl) (by kernel_rfl) (fun _ _ _ h => h) (by rfl) (fun w hSw => ?_) (by assumption) ?_; rotate_left 1; focus (((try dsimp only at hSw); first | (go_simp; done) | (go_simp; with_reducible rfl)))
          try simp only [Act.put, List.setIfInBounds_toArray, List.set_cons_zero, List.set_cons_succ]
          refine held_take (i := 16) (v := ?_) rfl (by kernel_rfl) (by kernel_rfl) (by kernel_rfl) (fun _ _ _ h => h) (by rfl) (fun w hSw => ?_) (by assumption) ?_; rotate_left 1; focus (((try dsimp only at hSw); first | (go_simp; done) | (go_simp; with_reducible rfl)))
          try simp only [Act.put, List.setIfInBounds_toArray, List.set_cons_zero, List.set_cons_succ]
          refine held_take (i := 17) (v := ?_) rfl (by kernel_rfl) (by kernel_rfl) (by kernel_rfl) (fun _ _ _ h => h) (by rfl) (fun w hSw => ?_) (by assumption) ?_; rotate_left 1; focus (((try dsimp only at hSw); first | (go_simp; done) | (go_simp; with_reducible rfl)))
          try simp only [Act.put, List.setIfInBounds_toArray, List.set_cons_zero, List.set_cons_succ]
          refine held_take (i := 18) (v := ?_) rfl (by kernel_rfl) (by kernel_rfl) (by kernel_rfl) (fun _ _ _ h => h) (by rfl) (fun w hSw => ?_) (by assumption) ?_; rotate_left 1; focus (((try dsimp only at hSw); first | (go_simp; done) | (go_simp; with_reducible rfl)))
          try simp only [Act.put, List.setIfInBounds_toArray, List.set_cons_zero, List.set_cons_succ]
          refine held_take (i := 19) (v := ?_) rfl (by kernel_rfl) (by kernel_rfl) (by kernel_rfl) (fun _ _ _ h => h) (by rfl) (fun w hSw => ?_) (by assumption) ?_; rotate_left 1; focus (((try dsimp only at hSw); first | (go_simp; done) | (go_simp; with_reducible rfl)))
          try simp only [Act.put, List.setIfInBounds_toArray, List.set_cons_zero, List.set_cons_succ]
          refine held_take (i := 20) (v := ?_) rfl (by kernel_rfl) (by kernel_rfl) (by kernel_rfl) (fun _ _ _ h => h) (by rfl) (fun w hSw => ?_) (by assumption) ?_; rotate_left 1; focus (((try dsimp only at hSw); first | (go_simp; done) | (go_simp; with_reducible rfl)))
          try simp only [Act.put, List.setIfInBounds_toArray, List.set_cons_zero, List.set_cons_succ]
          refine held_skip (i := 21) rfl (by kernel_rfl) (by kernel_rfl) (by kernel_rfl) (fun _ _ _ h => h) (by rfl) (by assumption) ?_
          try simp only [Act.put, List.setIfInBounds_toArray, List.set_cons_zero, List.set_cons_succ]
          refine held_skip (i := 22) rfl (by kernel_rfl) (by kernel_rfl) (by kernel_rfl) (fun _ _ _ h => h) (by rfl) (by assumption) ?_
          try simp only [Act.put, List.setIfInBounds_toArray, List.set_cons_zero, List.set_cons_succ]
          refine held_skip (i := 23) rfl (by kernel_rfl) (by kernel_rfl) (by kernel_rfl) (fun _ _ _ h => h) (by rfl) (by assumption) ?_
          try simp only [Act.put, List.setIfInBounds_toArray, List.set_cons_zero, List.set_cons_succ]
          refine held_skip (i := 24) rfl (by kernel_rfl) (by kernel_rfl) (by kernel_rfl) (fun _ _ _ h => h) (by rfl) (by assumption) ?_
          try simp only [Act.put, List.setIfInBounds_toArray, List.set_cons_zero, List.set_cons_succ]
          refine held_skip (i := 25) rfl (by kernel_rfl) (by kernel_rfl) (by kernel_rfl) (fun _ _ _ h => h) (by rfl) (by assumption) ?_
          try simp only [Act.put, List.setIfInBounds_toArray, List.set_cons_zero, List.set_cons_succ]
          refine held_skip (i := 26) rfl (by kernel_rfl) (by kernel_rfl) (by kernel_rfl) (fun _ _ _ h => h) (by rfl) (by assumption) ?_
          try simp only [Act.put, List.setIfInBounds_toArray, List.set_cons_zero, List.set_cons_succ]
          refine held_skip (i := 27) rfl (by kernel_rfl) (by kernel_rfl) (by kernel_rfl) (fun _ _ _ h => h) (by rfl) (by assumption) ?_
          try simp only [Act.put, List.setIfInBounds_toArray, List.set_cons_zero, List.set_cons_succ]
          refine held_skip (i := 28) rfl (by kernel_rfl) (by kernel_rfl) (by kernel_rfl) (fun _ _ _ h => h) (by rfl) (by assumption) ?_
          try simp only [Act.put, List.setIfInBounds_toArray, List.set_cons_zero, List.set_cons_succ]
          refine held_take (i := 29) (v := ?_) rfl (by kernel_rfl) (by kernel_rfl) (by kernel_rfl) (fun _ _ _ h => h) (by rfl) (fun w hSw => ?_) (by assumption) ?_; rotate_left 1; focus (((try dsimp only at hSw); first | (go_simp; done) | (go_simp; with_reducible rfl)))
          try simp only [Act.put, List.setIfInBounds_toArray, List.set_cons_zero, List.set_cons_succ]
          refine held_take (i := 30) (v := ?_) rfl (by kernel_rfl) (by kernel_rfl) (by kernel_rfl) (fun _ _ _ h => h) (by rfl) (fun w hSw => ?_) (by assumption) ?_; rotate_left 1; focus (((try dsimp only at hSw); first | (go_simp; done) | (go_simp; with_reducible rfl)))
          try simp only [Act.put, List.setIfInBounds_toArray, List.set_cons_zero, List.set_cons_succ]
          refine held_take (i := 31) (v := ?_) rfl (by kernel_rfl) (by kernel_rfl) (by kernel_rfl) (fun _ _ _ h => h) (by rfl) (fun w hSw => ?_) (by assumption) ?_; rotate_left 1; focus (((try dsimp only at hSw); first | (go_simp; done) | (go_simp; with_reducible rfl)))
          try simp only [Act.put, List.setIfInBounds_toArray, List.set_cons_zero, List.set_cons_succ]
          refine wpAnyH_done (by kernel_rfl) ?_ _
          go_upto_region 4 with fail
          have hu0 : Hid (Below w.heap.size w wr.drew) := Lib.hid hB.out.drew
          have A1 : Hid (wr.drew.heap[w.heap.size]? = some (rmO x)) := Lib.hid hA.out
          obtain ⟨u, hu⟩ := named wr.drew
          rw [← hu.out] at hu0 A1
          rw [← hu.out]
          replace hu := Lib.hid trivial
          clear S0 BD hA hB hP
          have SU := slm_upto (some ⟨b, o, none⟩) n c k (by omega)
          have SF := slm_from (some ⟨b, o, none⟩) n c k hk
          have hlt1 := (Array.getElem?_eq_some_iff.1 A1.out).1
          have OW := Lib.hid (World.ownsRow_made (base := w.heap.size + 1) (e := 40) (size := 7) u #[] 0 (by omega) (by unfold maxLen; omega) (by simp))
          have zB : Hid (w.heap.size + 1 ≤ (u.alloc (.cells #[] 40)).heap.size) := Lib.hid (by rw [World.size_alloc]; omega)
          have MU : Hid (∀ v, Below w.heap.size w v → Ms ⟨some ⟨b, o, none⟩, k, c, b, o⟩ (l.take k) v) := Lib.hid (fun v hv => (MA.out v hv).upto hk (fun h => by cases h))
          have MF : Hid (∀ v, Below w.heap.size w v → Ms ⟨fromM (some ⟨b, o, none⟩) c k, n - k, c - k, b, o + k * 7⟩ (l.drop k) v) := Lib.hid (fun v hv => (MA.out v hv).from hk)
          have hfl : Hid (((l.take k).flatMap cellsM).length = k * 7) := Lib.hid (by rw [rowG_len (cells := cellsM) (k := 7) (fun _ => rfl), (MU.out _ hu0.out).len])
          have hfd : Hid (((l.drop k).flatMap cellsM).length = (n - k) * 7) := Lib.hid (by rw [rowG_len (cells := cellsM) (k := 7) (fun _ => rfl), (MF.out _ hu0.out).len])
          have A2 := Lib.hid (alloc_keep (O := .cells #[] 40) A1.out hu0.out)
          have hsr := Lib.hid (sl_src (cells := cellsM) (fun _ => rfl) (by decide) (MU.out _ A2.out.2).sl)
          have hnU := Lib.hid ((MU.out _ hu0.out).none')
          have hnF := Lib.hid ((MF.out _ hu0.out).none')
          have hbd := Lib.hid (app_bound (n := k) (by omega))
          have hbn : Hid (n - k ≤ 1048576) := Lib.hid (by omega)
          have hbl1 : Hid (w.heap.size < u.heap.size) := Lib.hid hlt1
          obtain ⟨F, hF⟩ := named (fromM (some ⟨b, o, none⟩) c k)
          rw [← hF.out] at SF MF hnF
          replace hF := Lib.hid trivial
          obtain ⟨nk, hnk⟩ := named (n - k)
          rw [← hnk.out] at SF MF hnF hfd hbn
          have hnk2 : Hid (k + 1 + nk = n + 1) := Lib.hid (by rw [hnk.out]; omega)
          replace hnk := Lib.hid trivial
          obtain ⟨ck, hck⟩ := named (c - k)
          rw [← hck.out] at SF MF hnF
          replace hck := Lib.hid trivial
          clear hlt1 MA END
          obtain ⟨xn, xs, xr, xf, xl, xm, xg⟩ := x
          go_upto_region 5 with (at_builtin; refine wpList_append_src rfl _ _ 23 rfl (w.heap.size + 1) 40 7 72 (.agg #[.int .u64 0, .int .i64 0, .int .i64 0, .string .empty, .string .empty, .int .u64 0, .int .u64 0]) Try.underlying23 infoM rfl (by decide) (by decide) (.slice (some ⟨u.heap.size, 0, none⟩) 0 0) 0 [] (some ⟨b, o, none⟩) k c ((l.take k).flatMap cellsM) OW.out hnU.out hfl.out hsr.out (by rfl) (by rfl) (one_m (l.take k)) (by decide) hbd.out.1 zB.out ?_; intro v1 w1 hown1 hgrow1 hsh1; rw [Nat.zero_add] at hown1 hsh1; rw [List.nil_append] at hown1; have G1 := Lib.hid (grow_keep A2.out.1 A2.out.2 hgrow1 (fun r hr => by cases hr; exact hbl1.out)); have O1 := Lib.hid hown1; obtain ⟨va, vc, rfl⟩ := hsh1; clear hown1 hgrow1)
          obtain ⟨y0, y1, y2, y3, y4, y5, y6⟩ := rm_cells G1.out.2
          have zC : Hid (w.heap.size + 1 ≤ (w1.alloc (rmO ⟨xn, xs, xr, xf, xl, xm, xg⟩)).heap.size) := Lib.hid (by have := G1.out.1.size; have := (Array.getElem?_eq_some_iff.1 G1.out.2).1; rw [World.size_alloc]; omega)
          have A3 := Lib.hid (alloc_keep (O := rmO ⟨xn, xs, xr, xf, xl, xm, xg⟩) G1.out.2 G1.out.1)
          go_upto_region 6 with (at_builtin; refine wpList_append_lies _ rfl _ _ 23 rfl (w.heap.size + 1) 40 ti (.agg #[.int .u64 0, .int .i64 0, .int .i64 0, .string .empty, .string .empty, .int .u64 0, .int .u64 0]) 7 72 Try.underlying23 hi0 hy0 hy1 hy2 rfl (by decide) (.slice va k vc) k ((l.take k).flatMap cellsM) (by rfl) (O1.out.alloc _) ⟨w1.heap.size, 0, none⟩ 1 1 [.int .u64 (xn : Int), .int .i64 xs, .int .i64 xr, .string xf, .string xl, .int .u64 (xm : Int), .int .u64 (xg : Int)] (by rfl) rfl (World.news_of_block (heap_alloc_new _ _)) (one_m [⟨xn, xs, xr, xf, xl, xm, xg⟩]) (by decide) hbd.out.2.1 hbd.out.2.2.1 zC.out _ rfl ?_; intro g9 cap9 w2 hown2 hgrow2 hat2 _; have G2 := Lib.hid (grow_keep A3.out.1 A3.out.2 hgrow2 (fun r hr => (row_of O1.out r hr).1)); have O2 := Lib.hid hown2; clear hown2 hgrow2 hat2)
          have hsf := Lib.hid (sl_src (cells := cellsM) (fun _ => rfl) (by decide) (MF.out _ G2.out.1).sl)
          have zD : Hid (w.heap.size + 1 ≤ w2.heap.size) := Lib.hid (by have := (Array.getElem?_eq_some_iff.1 G2.out.2).1; omega)
          clear y0 y1 y2 y3 y4 y5 y6
          go_wp2_with (at_builtin; refine wpList_append_src rfl _ _ 23 rfl (w.heap.size + 1) 40 7 72 (.agg #[.int .u64 0, .int .i64 0, .int .i64 0, .string .empty, .string .empty, .int .u64 0, .int .u64 0]) Try.underlying23 infoM rfl (by decide) (by decide) (.slice (some ⟨g9, 0, none⟩) (k + 1) cap9) (k + 1) ((l.take k).flatMap cellsM ++ [.int .u64 (xn : Int), .int .i64 xs, .int .i64 xr, .string xf, .string xl, .int .u64 (xm : Int), .int .u64 (xg : Int)]) F nk ck ((l.drop k).flatMap cellsM) O2.out hnF.out hfd.out hsf.out (by rfl) (by rfl) (one_m (l.drop k)) hbd.out.2.2.2 hbn.out zD.out ?_; intro v3 w3 hown3 hgrow3 hsh3; have G3 := Lib.hid (grow_keep G2.out.2 G2.out.1 hgrow3 (fun r hr => (row_of O2.out r hr).1)); have O3 := Lib.hid hown3; obtain ⟨vb, vd, rfl⟩ := hsh3; clear hown3 hgrow3)
          go_returns
          have hfin : (l.take k ++ (⟨xn, xs, xr, xf, xl, xm, xg⟩ : Mt) :: l.drop k).length = k + 1 + nk := by rw [List.length_append, List.length_cons, (MU.out _ hu0.out).len, (MF.out _ hu0.out).len]; show k + (nk + 1) = _; omega
          obtain ⟨b3, hk3, _⟩ := ms_own (l := l.take k ++ (⟨xn, xs, xr, xf, xl, xm, xg⟩ : Mt) :: l.drop k) hfin (by rw [List.flatMap_append, List.flatMap_cons, ← List.append_assoc]; exact O3.out)
          exact ⟨⟨⟨vb, k + 1 + nk, vd, b3, 0⟩, rfl, _, E1.out, hk3⟩, G3.out.1⟩
      · have j0 : ((i : Int) == 0) = false := by rw [beq_eq_false_iff_ne]; omega
        have j1 : 0 < i := by omega
        have j2 : ¬ (i : Int) = 0 := by omega
        have j3 : decide (0 < i) = true := decide_eq_true j1
        cases hle : Op.bytesLess x.fst.toList z.fst.toList with
        | false =>
          have LQ : ∀ u : World, (binOp .leq 9 (.string z.fst) (.string x.fst)).run Try.prog u = .ok (.bool true) u := fun u => leq_str _ _ _ (by rw [leq_notE, hle]; rfl) u
          have P1 := Lib.hid (PN.out (by unfold preP; rw [if_neg hz0]; exact hle))
          clear hle PN EN END hz0
          go_upto_region 2 with fail
          refine wp_region_held_drew (S := (fun u => u.cell? ⟨b, o + k * 7, none⟩ = some (.int .u64 (z.num : Int)) ∧ u.cell? ⟨b, o + k * 7 + 3, none⟩ = some (.string z.fst) ∧ u.cell? ⟨w.heap.size, 0, none⟩ = some (.int .u64 (x.num : Int)) ∧ u.cell? ⟨w.heap.size, 3, none⟩ = some (.string x.fst))) (by kernel_rfl) (S0.out) (fun hHeld => ?_)
          refine held_take (i := 0) (v := ?_) rfl (by kernel_rfl) (by kernel_rfl) (by kernel_rfl) (fun _ _ _ h => h) (by rfl) (fun w hSw => ?_) (by assumption) ?_; rotate_left 1; focus (((try dsimp only at hSw); first | (go_simp; done) | (go_simp; with_reducible rfl)))
          try simp only [Act.put, List.setIfInBounds_toArray, List.set_cons_zero, List.set_cons_succ]
          refine held_take (i := 1) (v := ?_) rfl (by kernel_rfl) (by kernel_rfl) (by kernel_rfl) (fun _ _ _ h => h) (by rfl) (fun w hSw => ?_) (by assumption) ?_; rotate_left 1; focus (((try dsimp only at hSw); first | (go_simp; done) | (go_simp; with_reducible rfl)))
          try simp only [Act.put, List.setIfInBounds_toArray, List.set_cons_zero, List.set_cons_succ]
          refine held_take (i := 2) (v := ?_) rfl (by kernel_rfl) (by kernel_rfl) (by kernel_rfl) (fun _ _ _ h => h) (by rfl) (fun w hSw => ?_) (by assumption) ?_; rotate_left 1; focus (((try dsimp only at hSw); first | (go_simp; done) | (go_simp; with_reducible rfl)))
          try simp only [Act.put, List.setIfInBounds_toArray, List.set_cons_zero, List.set_cons_succ]
          refine held_take (i := 3) (v := ?_) rfl (by kernel_rfl) (by kernel_rfl) (by kernel_rfl) (fun _ _ _ h => h) (by rfl) (fun w hSw => ?_) (by assumption) ?_; rotate_left 1; focus (((try dsimp only at hSw); first | (go_simp; done) | (go_simp; with_reducible rfl)))
          try simp only [Act.put, List.setIfInBounds_toArray, List.set_cons_zero, List.set_cons_succ]
          refine held_take (i := 4) (v := ?_) rfl (by kernel_rfl) (by kernel_rfl) (by kernel_rfl) (fun _ _ _ h => h) (by rfl) (fun w hSw => ?_) (by assumption) ?_; rotate_left 1; focus (((try dsimp only at hSw); first | (go_simp; done) | (go_simp; with_reducible rfl)))
          try simp only [Act.put, List.setIfInBounds_toArray, List.set_cons_zero, List.set_cons_succ]
          refine held_take (i := 5) (v := ?_) rfl (by kernel_rfl) (by kernel_rfl) (by kernel_rfl) (fun _ _ _ h => h) (by rfl) (fun w hSw => ?_) (by assumption) ?_; rotate_left 1; focus (((try dsimp only at hSw); first | (go_simp; done) | (go_simp; with_reducible rfl)))
          try simp only [Act.put, List.setIfInBounds_toArray, List.set_cons_zero, List.set_cons_succ]
          refine held_take (i := 6) (v := ?_) rfl (by kernel_rfl) (by kernel_rfl) (by kernel_rfl) (fun _ _ _ h => h) (by rfl) (fun w hSw => ?_) (by assumption) ?_; rotate_left 1; focus (((try dsimp only at hSw); first | (go_simp; done) | (go_simp; with_reducible rfl)))
          try simp only [Act.put, List.setIfInBounds_toArray, List.set_cons_zero, List.set_cons_succ]
          refine held_take (i := 7) (v := ?_) rfl (by kernel_rfl) (by kernel_rfl) (by kernel_rfl) (fun _ _ _ h => h) (by rfl) (fun w hSw => ?_) (by assumption) ?_; rotate_left 1; focus (((try dsimp only at hSw); first | (go_simp; done) | (go_simp; with_reducible rfl)))
          try simp only [Act.put, List.setIfInBounds_toArray, List.set_cons_zero, List.set_cons_succ]
          refine held_skip (i := 8) rfl (by kernel_rfl) (by kernel_rfl) (by kernel_rfl) (fun _ _ _ h => h) (by rfl) (by assumption) ?_
          try simp only [Act.put, List.setIfInBounds_toArray, List.set_cons_zero, List.set_cons_succ]
          refine held_skip (i := 9) rfl (by kernel_rfl) (by kernel_rfl) (by kernel_rfl) (fun _ _ _ h => h) (by rfl) (by assumption) ?_
          try simp only [Act.put, List.setIfInBounds_toArray, List.set_cons_zero, List.set_cons_succ]
          refine held_skip (i := 10) rfl (by kernel_rfl) (by kernel_rfl) (by kernel_rfl) (fun _ _ _ h => h) (by rfl) (by assumption) ?_
          try simp only [Act.put, List.setIfInBounds_toArray, List.set_cons_zero, List.set_cons_succ]
          refine held_skip (i := 11) rfl (by kernel_rfl) (by kernel_rfl) (by kernel_rfl) (fun _ _ _ h => h) (by rfl) (by assumption) ?_
          try simp only [Act.put, List.setIfInBounds_toArray, List.set_cons_zero, List.set_cons_succ]
          refine held_skip (i := 12) rfl (by kernel_rfl) (by kernel_rfl) (by kernel_rfl) (fun _ _ _ h => h) (by rfl) (by assumption) ?_
          try simp only [Act.put, List.setIfInBounds_toArray, List.set_cons_zero, List.set_cons_succ]
          refine held_skip (i := 13) rfl (by kernel_rfl) (by kernel_rfl) (by kernel_rfl) (fun _ _ _ h => h) (by rfl) (by assumption) ?_
          try simp only [Act.put, List.setIfInBounds_toArray, List.set_cons_zero, List.set_cons_succ]
          refine held_skip (i := 14) rfl (by kernel_rfl) (by kernel_rfl) (by kernel_rfl) (fun _ _ _ h => h) (by rfl) (by assumption) ?_
          try simp only [Act.put, List.setIfInBounds_toArray, List.set_cons_zero, List.set_cons_succ]
          refine held_skip (i := 15) rfl (by kernel_rfl) (by kernel_rfl) (by kernel_rfl) (fun _ _ _ h => h) (by rfl) (by assumption) ?_
          try simp only [Act.put, List.setIfInBounds_toArray, List.set_cons_zero, List.set_cons_succ]
          refine held_take (i := 16) (v := ?_) rfl (by kernel_rfl) (by kernel_rfl) (by kernel_rfl) (fun _ _ _ h => h) (by rfl) (fun w hSw => ?_) (by assumption) ?_; rotate_left 1; focus (((try dsimp only at hSw); first | (go_simp; done) | (go_simp; with_reducible rfl)))
          try simp only [Act.put, List.setIfInBounds_toArray, List.set_cons_zero, List.set_cons_succ]
          refine held_take (i := 17) (v := ?_) rfl (by kernel_rfl) (by kernel_rfl) (by kernel_rfl) (fun _ _ _ h => h) (by rfl) (fun w hSw => ?_) (by assumption) ?_; rotate_left 1; focus (((try dsimp only at hSw); first | (go_simp; done) | (go_simp; with_reducible rfl)))
          try simp only [Act.put, List.setIfInBounds_toArray, List.set_cons_zero, List.set_cons_succ]
          refine held_take (i := 18) (v := ?_) rfl (by kernel_rfl) (by kernel_rfl) (by kernel_rfl) (fun _ _ _ h => h) (by rfl) (fun w hSw => ?_) (by assumption) ?_; rotate_left 1; focus (((try dsimp only at hSw); first | (go_simp; done) | (go_simp; with_reducible rfl)))
          try simp only [Act.put, List.setIfInBounds_toArray, List.set_cons_zero, List.set_cons_succ]
          refine held_take (i := 19) (v := ?_) rfl (by kernel_rfl) (by kernel_rfl) (by kernel_rfl) (fun _ _ _ h => h) (by rfl) (fun w hSw => ?_) (by assumption) ?_; rotate_left 1; focus (((try dsimp only at hSw); first | (go_simp; done) | (go_simp; with_reducible rfl)))
          try simp only [Act.put, List.setIfInBounds_toArray, List.set_cons_zero, List.set_cons_succ]
          refine held_take (i := 20) (v := ?_) rfl (by kernel_rfl) (by kernel_rfl) (by kernel_rfl) (fun _ _ _ h => h) (by rfl) (fun w hSw => ?_) (by assumption) ?_; rotate_left 1; focus (((try dsimp only at hSw); first | (go_simp; done) | (go_simp; with_reducible rfl)))
          try simp only [Act.put, List.setIfInBounds_toArray, List.set_cons_zero, List.set_cons_succ]
          refine held_take (i := 21) (v := ?_) rfl (by kernel_rfl) (by kernel_rfl) (by kernel_rfl) (fun _ _ _ h => h) (by rfl) (fun w hSw => ?_) (by assumption) ?_; rotate_left 1; focus (((try dsimp only at hSw); first | (go_simp; done) | (go_simp; with_reducible rfl)))
          try simp only [Act.put, List.setIfInBounds_toArray, List.set_cons_zero, List.set_cons_succ]
          refine held_take (i := 22) (v := ?_) rfl (by kernel_rfl) (by kernel_rfl) (by kernel_rfl) (fun _ _ _ h => h) (by rfl) (fun w hSw => ?_) (by assumption) ?_; rotate_left 1; focus (((try dsimp only at hSw); first | (go_simp; done) | (go_simp; with_reducible rfl)))
          try simp only [Act.put, List.setIfInBounds_toArray, List.set_cons_zero, List.set_cons_succ]
          refine held_take (i := 23) (v := ?_) rfl (by kernel_rfl) (by kernel_rfl) (by kernel_rfl) (fun _ _ _ h => h) (by rfl) (fun w hSw => ?_) (by assumption) ?_; rotate_left 1; focus (((try dsimp only at hSw); first | (go_simp; done) | (go_simp; with_reducible rfl)))
          try simp only [Act.put, List.setIfInBounds_toArray, List.set_cons_zero, List.set_cons_succ]
          refine held_take (i := 24) (v := ?_) rfl (by kernel_rfl) (by kernel_rfl) (by kernel_rfl) (fun _ _ _ h => h) (by rfl) (fun w hSw => ?_) (by assumption) ?_; rotate_left 1; focus (((try dsimp only at hSw); first | (go_simp; done) | (go_simp; with_reducible rfl)))
          try simp only [Act.put, List.setIfInBounds_toArray, List.set_cons_zero, List.set_cons_succ]
          refine held_take (i := 25) (v := ?_) rfl (by kernel_rfl) (by kernel_rfl) (by kernel_rfl) (fun _ _ _ h => h) (by rfl) (fun w hSw => ?_) (by assumption) ?_; rotate_left 1; focus (((try dsimp only at hSw); first | (go_simp; done) | (go_simp; with_reducible rfl)))
          try simp only [Act.put, List.setIfInBounds_toArray, List.set_cons_zero, List.set_cons_succ]
          refine held_take (i := 26) (v := ?_) rfl (by kernel_rfl) (by kernel_rfl) (by kernel_rfl) (fun _ _ _ h => h) (by rfl) (fun w hSw => ?_) (by assumption) ?_; rotate_left 1; focus (((try dsimp only at hSw); first | (go_simp; done) | (go_simp; with_reducible rfl)))
          try simp only [Act.put, List.setIfInBounds_toArray, List.set_cons_zero, List.set_cons_succ]
          refine held_take (i := 27) (v := ?_) rfl (by kernel_rfl) (by kernel_rfl) (by kernel_rfl) (fun _ _ _ h => h) (by rfl) (fun w hSw => ?_) (by assumption) ?_; rotate_left 1; focus (((try dsimp only at hSw); first | (go_simp; done) | (go_simp; with_reducible rfl)))
          try simp only [Act.put, List.setIfInBounds_toArray, List.set_cons_zero, List.set_cons_succ]
          refine held_take (i := 28) (v := ?_) rfl (by kernel_rfl) (by kernel_rfl) (by kernel_rfl) (fun _ _ _ h => h) (by rfl) (fun w hSw => ?_) (by assumption) ?_; rotate_left 1; focus (((try dsimp only at hSw); first | (go_simp; done) | (go_simp; with_reducible rfl)))
          try simp only [Act.put, List.setIfInBounds_toArray, List.set_cons_zero, List.set_cons_succ]
          refine held_take (i := 29) (v := ?_) rfl (by kernel_rfl) (by kernel_rfl) (by kernel_rfl) (fun _ _ _ h => h) (by rfl) (fun w hSw => ?_) (by assumption) ?_; rotate_left 1; focus (((try dsimp only at hSw); first | (go_simp; done) | (go_simp; with_reducible rfl)))
          try simp only [Act.put, List.setIfInBounds_toArray, List.set_cons_zero, List.set_cons_succ]
          refine held_take (i := 30) (v := ?_) rfl (by kernel_rfl) (by kernel_rfl) (by kernel_rfl) (fun _ _ _ h => h) (by rfl) (fun w hSw => ?_) (by assumption) ?_; rotate_left 1; focus (((try dsimp only at hSw); first | (go_simp; done) | (go_simp; with_reducible rfl)))
          try simp only [Act.put, List.setIfInBounds_toArray, List.set_cons_zero, List.set_cons_succ]
          refine held_take (i := 31) (v := ?_) rfl (by kernel_rfl) (by kernel_rfl) (by kernel_rfl) (fun _ _ _ h => h) (by rfl) (fun w hSw => ?_) (by assumption) ?_; rotate_left 1; focus (((try dsimp only at hSw); first | (go_simp; done) | (go_simp; with_reducible rfl)))
          try simp only [Act.put, List.setIfInBounds_toArray, List.set_cons_zero, List.set_cons_succ]
          refine wpAnyH_done (by kernel_rfl) ?_ _
          go_wp2_with fail
          go_roundw
          case rel => exact ⟨k + 1, by omega, by go_num, P1, BD, hA⟩
          case measure => simp [intOf]; omega
        | true =>
          have LQ : ∀ u : World, (binOp .leq 9 (.string z.fst) (.string x.fst)).run Try.prog u = .ok (.bool false) u := fun u => leq_str _ _ _ (by rw [leq_notE, hle]; rfl) u
          have E1 := Lib.hid (EN.out (by unfold preP; rw [if_neg hz0, hle]; simp))
          clear hle PN EN hz0
          go_upto_region 2 with fail
          refine wp_region_held_drew (S := (fun u => u.cell? ⟨b, o + k * 7, none⟩ = some (.int .u64 (z.num : Int)) ∧ u.cell? ⟨b, o + k * 7 + 3, none⟩ = some (.string z.fst) ∧ u.cell? ⟨w.heap.size, 0, none⟩ = some (.int .u64 (x.num : Int)) ∧ u.cell? ⟨w.heap.size, 3, none⟩ = some (.string x.fst))) (by kernel_rfl) (S0.out) (fun hHeld => ?_)
          refine held_take (i := 0) (v := ?_) rfl (by kernel_rfl) (by kernel_rfl) (by kernel_rfl) (fun _ _ _ h => h) (by rfl) (fun w hSw => ?_) (by assumption) ?_; rotate_left 1; focus (((try dsimp only at hSw); first | (go_simp; done) | (go_simp; with_reducible rfl)))
          try simp only [Act.put, List.setIfInBounds_toArray, List.set_cons_zero, List.set_cons_succ]
          refine held_take (i := 1) (v := ?_) rfl (by kernel_rfl) (by kernel_rfl) (by kernel_rfl) (fun _ _ _ h => h) (by rfl) (fun w hSw => ?_) (by assumption) ?_; rotate_left 1; focus (((try dsimp only at hSw); first | (go_simp; done) | (go_simp; with_reducible rfl)))
          try simp only [Act.put, List.setIfInBounds_toArray, List.set_cons_zero, List.set_cons_succ]
          refine held_take (i := 2) (v := ?_) rfl (by kernel_rfl) (by kernel_rfl) (by kernel_rfl) (fun _ _ _ h => h) (by rfl) (fun w hSw => ?_) (by assumption) ?_; rotate_left 1; focus (((try dsimp only at hSw); first | (go_simp; done) | (go_simp; with_reducible rfl)))
          try simp only [Act.put, List.setIfInBounds_toArray, List.set_cons_zero, List.set_cons_succ]
          refine held_take (i := 3) (v := ?_) rfl (by kernel_rfl) (by kernel_rfl) (by kernel_rfl) (fun _ _ _ h => h) (by rfl) (fun w hSw => ?_) (by assumption) ?_; rotate_left 1; focus (((try dsimp only at hSw); first | (go_simp; done) | (go_simp; with_reducible rfl)))
          try simp only [Act.put, List.setIfInBounds_toArray, List.set_cons_zero, List.set_cons_succ]
          refine held_take (i := 4) (v := ?_) rfl (by kernel_rfl) (by kernel_rfl) (by kernel_rfl) (fun _ _ _ h => h) (by rfl) (fun w hSw => ?_) (by assumption) ?_; rotate_left 1; focus (((try dsimp only at hSw); first | (go_simp; done) | (go_simp; with_reducible rfl)))
          try simp only [Act.put, List.setIfInBounds_toArray, List.set_cons_zero, List.set_cons_succ]
          refine held_take (i := 5) (v := ?_) rfl (by kernel_rfl) (by kernel_rfl) (by kernel_rfl) (fun _ _ _ h => h) (by rfl) (fun w hSw => ?_) (by assumption) ?_; rotate_left 1; focus (((try dsimp only at hSw); first | (go_simp; done) | (go_simp; with_reducible rfl)))
          try simp only [Act.put, List.setIfInBounds_toArray, List.set_cons_zero, List.set_cons_succ]
          refine held_take (i := 6) (v := ?_) rfl (by kernel_rfl) (by kernel_rfl) (by kernel_rfl) (fun _ _ _ h => h) (by rfl) (fun w hSw => ?_) (by assumption) ?_; rotate_left 1; focus (((try dsimp only at hSw); first | (go_simp; done) | (go_simp; with_reducible rfl)))
          try simp only [Act.put, List.setIfInBounds_toArray, List.set_cons_zero, List.set_cons_succ]
          refine held_take (i := 7) (v := ?_) rfl (by kernel_rfl) (by kernel_rfl) (by kernel_rfl) (fun _ _ _ h => h) (by rfl) (fun w hSw => ?_) (by assumption) ?_; rotate_left 1; focus (((try dsimp only at hSw); first | (go_simp; done) | (go_simp; with_reducible rfl)))
          try simp only [Act.put, List.setIfInBounds_toArray, List.set_cons_zero, List.set_cons_succ]
          refine held_skip (i := 8) rfl (by kernel_rfl) (by kernel_rfl) (by kernel_rfl) (fun _ _ _ h => h) (by rfl) (by assumption) ?_
          try simp only [Act.put, List.setIfInBounds_toArray, List.set_cons_zero, List.set_cons_succ]
          refine held_skip (i := 9) rfl (by kernel_rfl) (by kernel_rfl) (by kernel_rfl) (fun _ _ _ h => h) (by rfl) (by assumption) ?_
          try simp only [Act.put, List.setIfInBounds_toArray, List.set_cons_zero, List.set_cons_succ]
          refine held_skip (i := 10) rfl (by kernel_rfl) (by kernel_rfl) (by kernel_rfl) (fun _ _ _ h => h) (by rfl) (by assumption) ?_
          try simp only [Act.put, List.setIfInBounds_toArray, List.set_cons_zero, List.set_cons_succ]
          refine held_skip (i := 11) rfl (by kernel_rfl) (by kernel_rfl) (by kernel_rfl) (fun _ _ _ h => h) (by rfl) (by assumption) ?_
          try simp only [Act.put, List.setIfInBounds_toArray, List.set_cons_zero, List.set_cons_succ]
          refine held_skip (i := 12) rfl (by kernel_rfl) (by kernel_rfl) (by kernel_rfl) (fun _ _ _ h => h) (by rfl) (by assumption) ?_
          try simp only [Act.put, List.setIfInBounds_toArray, List.set_cons_zero, List.set_cons_succ]
          refine held_skip (i := 13) rfl (by kernel_rfl) (by kernel_rfl) (by kernel_rfl) (fun _ _ _ h => h) (by rfl) (by assumption) ?_
          try simp only [Act.put, List.setIfInBounds_toArray, List.set_cons_zero, List.set_cons_succ]
          refine held_skip (i := 14) rfl (by kernel_rfl) (by kernel_rfl) (by kernel_rfl) (fun _ _ _ h => h) (by rfl) (by assumption) ?_
          try simp only [Act.put, List.setIfInBounds_toArray, List.set_cons_zero, List.set_cons_succ]
          refine held_skip (i := 15) rfl (by kernel_rfl) (by kernel_rfl) (by kernel_rfl) (fun _ _ _ h => h) (by rfl) (by assumption) ?_
          try simp only [Act.put, List.setIfInBounds_toArray, List.set_cons_zero, List.set_cons_succ]
          refine held_take (i := 16) (v := ?_) rfl (by kernel_rfl) (by kernel_rfl) (by kernel_rfl) (fun _ _ _ h => h) (by rfl) (fun w hSw => ?_) (by assumption) ?_; rotate_left 1; focus (((try dsimp only at hSw); first | (go_simp; done) | (go_simp; with_reducible rfl)))
          try simp only [Act.put, List.setIfInBounds_toArray, List.set_cons_zero, List.set_cons_succ]
          refine held_take (i := 17) (v := ?_) rfl (by kernel_rfl) (by kernel_rfl) (by kernel_rfl) (fun _ _ _ h => h) (by rfl) (fun w hSw => ?_) (by assumption) ?_; rotate_left 1; focus (((try dsimp only at hSw); first | (go_simp; done) | (go_simp; with_reducible rfl)))
          try simp only [Act.put, List.setIfInBounds_toArray, List.set_cons_zero, List.set_cons_succ]
          refine held_take (i := 18) (v := ?_) rfl (by kernel_rfl) (by kernel_rfl) (by kernel_rfl) (fun _ _ _ h => h) (by rfl) (fun w hSw => ?_) (by assumption) ?_; rotate_left 1; focus (((try dsimp only at hSw); first | (go_simp; done) | (go_simp; with_reducible rfl)))
          try simp only [Act.put, List.setIfInBounds_toArray, List.set_cons_zero, List.set_cons_succ]
          refine held_take (i := 19) (v := ?_) rfl (by kernel_rfl) (by kernel_rfl) (by kernel_rfl) (fun _ _ _ h => h) (by rfl) (fun w hSw => ?_) (by assumption) ?_; rotate_left 1; focus (((try dsimp only at hSw); first | (go_simp; done) | (go_simp; with_reducible rfl)))
          try simp only [Act.put, List.setIfInBounds_toArray, List.set_cons_zero, List.set_cons_succ]
          refine held_take (i := 20) (v := ?_) rfl (by kernel_rfl) (by kernel_rfl) (by kernel_rfl) (fun _ _ _ h => h) (by rfl) (fun w hSw => ?_) (by assumption) ?_; rotate_left 1; focus (((try dsimp only at hSw); first | (go_simp; done) | (go_simp; with_reducible rfl)))
          try simp only [Act.put, List.setIfInBounds_toArray, List.set_cons_zero, List.set_cons_succ]
          refine held_take (i := 21) (v := ?_) rfl (by kernel_rfl) (by kernel_rfl) (by kernel_rfl) (fun _ _ _ h => h) (by rfl) (fun w hSw => ?_) (by assumption) ?_; rotate_left 1; focus (((try dsimp only at hSw); first | (go_simp; done) | (go_simp; with_reducible rfl)))
          try simp only [Act.put, List.setIfInBounds_toArray, List.set_cons_zero, List.set_cons_succ]
          refine held_take (i := 22) (v := ?_) rfl (by kernel_rfl) (by kernel_rfl) (by kernel_rfl) (fun _ _ _ h => h) (by rfl) (fun w hSw => ?_) (by assumption) ?_; rotate_left 1; focus (((try dsimp only at hSw); first | (go_simp; done) | (go_simp; with_reducible rfl)))
          try simp only [Act.put, List.setIfInBounds_toArray, List.set_cons_zero, List.set_cons_succ]
          refine held_take (i := 23) (v := ?_) rfl (by kernel_rfl) (by kernel_rfl) (by kernel_rfl) (fun _ _ _ h => h) (by rfl) (fun w hSw => ?_) (by assumption) ?_; rotate_left 1; focus (((try dsimp only at hSw); first | (go_simp; done) | (go_simp; with_reducible rfl)))
          try simp only [Act.put, List.setIfInBounds_toArray, List.set_cons_zero, List.set_cons_succ]
          refine held_take (i := 24) (v := ?_) rfl (by kernel_rfl) (by kernel_rfl) (by kernel_rfl) (fun _ _ _ h => h) (by rfl) (fun w hSw => ?_) (by assumption) ?_; rotate_left 1; focus (((try dsimp only at hSw); first | (go_simp; done) | (go_simp; with_reducible rfl)))
          try simp only [Act.put, List.setIfInBounds_toArray, List.set_cons_zero, List.set_cons_succ]
          refine held_take (i := 25) (v := ?_) rfl (by kernel_rfl) (by kernel_rfl) (by kernel_rfl) (fun _ _ _ h => h) (by rfl) (fun w hSw => ?_) (by assumption) ?_; rotate_left 1; focus (((try dsimp only at hSw); first | (go_simp; done) | (go_simp; with_reducible rfl)))
          try simp only [Act.put, List.setIfInBounds_toArray, List.set_cons_zero, List.set_cons_succ]
          refine held_take (i := 26) (v := ?_) rfl (by kernel_rfl) (by kernel_rfl) (by kernel_rfl) (fun _ _ _ h => h) (by rfl) (fun w hSw => ?_) (by assumption) ?_; rotate_left 1; focus (((try dsimp only at hSw); first | (go_simp; done) | (go_simp; with_reducible rfl)))
          try simp only [Act.put, List.setIfInBounds_toArray, List.set_cons_zero, List.set_cons_succ]
          refine held_take (i := 27) (v := ?_) rfl (by kernel_rfl) (by kernel_rfl) (by kernel_rfl) (fun _ _ _ h => h) (by rfl) (fun w hSw => ?_) (by assumption) ?_; rotate_left 1; focus (((try dsimp only at hSw); first | (go_simp; done) | (go_simp; with_reducible rfl)))
          try simp only [Act.put, List.setIfInBounds_toArray, List.set_cons_zero, List.set_cons_succ]
          refine held_take (i := 28) (v := ?_) rfl (by kernel_rfl) (by kernel_rfl) (by kernel_rfl) (fun _ _ _ h => h) (by rfl) (fun w hSw => ?_) (by assumption) ?_; rotate_left 1; focus (((try dsimp only at hSw); first | (go_simp; done) | (go_simp; with_reducible rfl)))
          try simp only [Act.put, List.setIfInBounds_toArray, List.set_cons_zero, List.set_cons_succ]
          refine held_take (i := 29) (v := ?_) rfl (by kernel_rfl) (by kernel_rfl) (by kernel_rfl) (fun _ _ _ h => h) (by rfl) (fun w hSw => ?_) (by assumption) ?_; rotate_left 1; focus (((try dsimp only at hSw); first | (go_simp; done) | (go_simp; with_reducible rfl)))
          try simp only [Act.put, List.setIfInBounds_toArray, List.set_cons_zero, List.set_cons_succ]
          refine held_take (i := 30) (v := ?_) rfl (by kernel_rfl) (by kernel_rfl) (by kernel_rfl) (fun _ _ _ h => h) (by rfl) (fun w hSw => ?_) (by assumption) ?_; rotate_left 1; focus (((try dsimp only at hSw); first | (go_simp; done) | (go_simp; with_reducible rfl)))
          try simp only [Act.put, List.setIfInBounds_toArray, List.set_cons_zero, List.set_cons_succ]
          refine held_take (i := 31) (v := ?_) rfl (by kernel_rfl) (by kernel_rfl) (by kernel_rfl) (fun _ _ _ h => h) (by rfl) (fun w hSw => ?_) (by assumption) ?_; rotate_left 1; focus (((try dsimp only at hSw); first | (go_simp; done) | (go_simp; with_reducible rfl)))
          try simp only [Act.put, List.setIfInBounds_toArray, List.set_cons_zero, List.set_cons_succ]
          refine wpAnyH_done (by kernel_rfl) ?_ _
          go_upto_region 4 with fail
          clear LQ
          have hu0 : Hid (Below w.heap.size w wr.drew) := Lib.hid hB.out.drew
          have A1 : Hid (wr.drew.heap[w.heap.size]? = some (rmO x)) := Lib.hid hA.out
          obtain ⟨u, hu⟩ := named wr.drew
          rw [← hu.out] at hu0 A1
          rw [← hu.out]
          replace hu := Lib.hid trivial
          clear S0 BD hA hB hP
          have SU := slm_upto (some ⟨b, o, none⟩) n c k (by omega)
          have SF := slm_from (some ⟨b, o, none⟩) n c k hk
          have hlt1 := (Array.getElem?_eq_some_iff.1 A1.out).1
          have OW := Lib.hid (World.ownsRow_made (base := w.heap.size + 1) (e := 40) (size := 7) u #[] 0 (by omega) (by unfold maxLen; omega) (by simp))
          have zB : Hid (w.heap.size + 1 ≤ (u.alloc (.cells #[] 40)).heap.size) := Lib.hid (by rw [World.size_alloc]; omega)
          have MU : Hid (∀ v, Below w.heap.size w v → Ms ⟨some ⟨b, o, none⟩, k, c, b, o⟩ (l.take k) v) := Lib.hid (fun v hv => (MA.out v hv).upto hk (fun h => by cases h))
          have MF : Hid (∀ v, Below w.heap.size w v → Ms ⟨fromM (some ⟨b, o, none⟩) c k, n - k, c - k, b, o + k * 7⟩ (l.drop k) v) := Lib.hid (fun v hv => (MA.out v hv).from hk)
          have hfl : Hid (((l.take k).flatMap cellsM).length = k * 7) := Lib.hid (by rw [rowG_len (cells := cellsM) (k := 7) (fun _ => rfl), (MU.out _ hu0.out).len])
          have hfd : Hid (((l.drop k).flatMap cellsM).length = (n - k) * 7) := Lib.hid (by rw [rowG_len (cells := cellsM) (k := 7) (fun _ => rfl), (MF.out _ hu0.out).len])
          have A2 := Lib.hid (alloc_keep (O := .cells #[] 40) A1.out hu0.out)
          have hsr := Lib.hid (sl_src (cells := cellsM) (fun _ => rfl) (by decide) (MU.out _ A2.out.2).sl)
          have hnU := Lib.hid ((MU.out _ hu0.out).none')
          have hnF := Lib.hid ((MF.out _ hu0.out).none')
          have hbd := Lib.hid (app_bound (n := k) (by omega))
          have hbn : Hid (n - k ≤ 1048576) := Lib.hid (by omega)
          have hbl1 : Hid (w.heap.size < u.heap.size) := Lib.hid hlt1
          obtain ⟨F, hF⟩ := named (fromM (some ⟨b, o, none⟩) c k)
          rw [← hF.out] at SF MF hnF
          replace hF := Lib.hid trivial
          obtain ⟨nk, hnk⟩ := named (n - k)
          rw [← hnk.out] at SF MF hnF hfd hbn
          have hnk2 : Hid (k + 1 + nk = n + 1) := Lib.hid (by rw [hnk.out]; omega)
          replace hnk := Lib.hid trivial
          obtain ⟨ck, hck⟩ := named (c - k)
          rw [← hck.out] at SF MF hnF
          replace hck := Lib.hid trivial
          clear hlt1 MA END
          obtain ⟨xn, xs, xr, xf, xl, xm, xg⟩ := x
          go_upto_region 5 with (at_builtin; refine wpList_append_src rfl _ _ 23 rfl (w.heap.size + 1) 40 7 72 (.agg #[.int .u64 0, .int .i64 0, .int .i64 0, .string .empty, .string .empty, .int .u64 0, .int .u64 0]) Try.underlying23 infoM rfl (by decide) (by decide) (.slice (some ⟨u.heap.size, 0, none⟩) 0 0) 0 [] (some ⟨b, o, none⟩) k c ((l.take k).flatMap cellsM) OW.out hnU.out hfl.out hsr.out (by rfl) (by rfl) (one_m (l.take k)) (by decide) hbd.out.1 zB.out ?_; intro v1 w1 hown1 hgrow1 hsh1; rw [Nat.zero_add] at hown1 hsh1; rw [List.nil_append] at hown1; have G1 := Lib.hid (grow_keep A2.out.1 A2.out.2 hgrow1 (fun r hr => by cases hr; exact hbl1.out)); have O1 := Lib.hid hown1; obtain ⟨va, vc, rfl⟩ := hsh1; clear hown1 hgrow1)
          obtain ⟨y0, y1, y2, y3, y4, y5, y6⟩ := rm_cells G1.out.2
          have zC : Hid (w.heap.size + 1 ≤ (w1.alloc (rmO ⟨xn, xs, xr, xf, xl, xm, xg⟩)).heap.size) := Lib.hid (by have := G1.out.1.size; have := (Array.getElem?_eq_some_iff.1 G1.out.2).1; rw [World.size_alloc]; omega)
          have A3 := Lib.hid (alloc_keep (O := rmO ⟨xn, xs, xr, xf, xl, xm, xg⟩) G1.out.2 G1.out.1)
          go_upto_region 6 with (at_builtin; refine wpList_append_lies _ rfl _ _ 23 rfl (w.heap.size + 1) 40 ti (.agg #[.int .u64 0, .int .i64 0, .int .i64 0, .string .empty, .string .empty, .int .u64 0, .int .u64 0]) 7 72 Try.underlying23 hi0 hy0 hy1 hy2 rfl (by decide) (.slice va k vc) k ((l.take k).flatMap cellsM) (by rfl) (O1.out.alloc _) ⟨w1.heap.size, 0, none⟩ 1 1 [.int .u64 (xn : Int), .int .i64 xs, .int .i64 xr, .string xf, .string xl, .int .u64 (xm : Int), .int .u64 (xg : Int)] (by rfl) rfl (World.news_of_block (heap_alloc_new _ _)) (one_m [⟨xn, xs, xr, xf, xl, xm, xg⟩]) (by decide) hbd.out.2.1 hbd.out.2.2.1 zC.out _ rfl ?_; intro g9 cap9 w2 hown2 hgrow2 hat2 _; have G2 := Lib.hid (grow_keep A3.out.1 A3.out.2 hgrow2 (fun r hr => (row_of O1.out r hr).1)); have O2 := Lib.hid hown2; clear hown2 hgrow2 hat2)
          have hsf := Lib.hid (sl_src (cells := cellsM) (fun _ => rfl) (by decide) (MF.out _ G2.out.1).sl)
          have zD : Hid (w.heap.size + 1 ≤ w2.heap.size) := Lib.hid (by have := (Array.getElem?_eq_some_iff.1 G2.out.2).1; omega)
          clear y0 y1 y2 y3 y4 y5 y6
          go_wp2_with (at_builtin; refine wpList_append_src rfl _ _ 23 rfl (w.heap.size + 1) 40 7 72 (.agg #[.int .u64 0, .int .i64 0, .int .i64 0, .string .empty, .string .empty, .int .u64 0, .int .u64 0]) Try.underlying23 infoM rfl (by decide) (by decide) (.slice (some ⟨g9, 0, none⟩) (k + 1) cap9) (k + 1) ((l.take k).flatMap cellsM ++ [.int .u64 (xn : Int), .int .i64 xs, .int .i64 xr, .string xf, .string xl, .int .u64 (xm : Int), .int .u64 (xg : Int)]) F nk ck ((l.drop k).flatMap cellsM) O2.out hnF.out hfd.out hsf.out (by rfl) (by rfl) (one_m (l.drop k)) hbd.out.2.2.2 hbn.out zD.out ?_; intro v3 w3 hown3 hgrow3 hsh3; have G3 := Lib.hid (grow_keep G2.out.2 G2.out.1 hgrow3 (fun r hr => (row_of O2.out r hr).1)); have O3 := Lib.hid hown3; obtain ⟨vb, vd, rfl⟩ := hsh3; clear hown3 hgrow3)
          go_returns
          have hfin : (l.take k ++ (⟨xn, xs, xr, xf, xl, xm, xg⟩ : Mt) :: l.drop k).length = k + 1 + nk := by rw [List.length_append, List.length_cons, (MU.out _ hu0.out).len, (MF.out _ hu0.out).len]; show k + (nk + 1) = _; omega
          obtain ⟨b3, hk3, _⟩ := ms_own (l := l.take k ++ (⟨xn, xs, xr, xf, xl, xm, xg⟩ : Mt) :: l.drop k) hfin (by rw [List.flatMap_append, List.flatMap_cons, ← List.append_assoc]; exact O3.out)
          exact ⟨⟨⟨vb, k + 1 + nk, vd, b3, 0⟩, rfl, _, E1.out, hk3⟩, G3.out.1⟩
    · obtain rfl : k = n := by omega
      have i0 : ¬ (k : Int) < (k : Int) := by omega
      have E1 := Lib.hid (END.out (fun y hy => by have := (List.getElem?_eq_some_iff.1 hy).1; rw [hlen.out] at this; omega))
      have S0 : Hid (True ∧ True) := Lib.hid ⟨trivial, trivial⟩
      clear y0 y1 y2 y3 y4 y5 y6
      go_upto_region 2 with fail
      refine wp_region_held_drew (S := (fun _ => True ∧ True)) (by kernel_rfl) (S0.out) (fun hHeld => ?_)
      refine held_take (i := 0) (v := ?_) rfl (by kernel_rfl) (by kernel_rfl) (by kernel_rfl) (fun _ _ _ h => h) (by rfl) (fun w hSw => ?_) (by assumption) ?_; rotate_left 1; focus (((try dsimp only at hSw); first | (go_simp; done) | (go_simp; with_reducible rfl)))
      try simp only [Act.put, List.setIfInBounds_toArray, List.set_cons_zero, List.set_cons_succ]
      refine held_take (i := 1) (v := ?_) rfl (by kernel_rfl) (by kernel_rfl) (by kernel_rfl) (fun _ _ _ h => h) (by rfl) (fun w hSw => ?_) (by assumption) ?_; rotate_left 1; focus (((try dsimp only at hSw); first | (go_simp; done) | (go_simp; with_reducible rfl)))
      try simp only [Act.put, List.setIfInBounds_toArray, List.set_cons_zero, List.set_cons_succ]
      refine held_take (i := 2) (v := ?_) rfl (by kernel_rfl) (by kernel_rfl) (by kernel_rfl) (fun _ _ _ h => h) (by rfl) (fun w hSw => ?_) (by assumption) ?_; rotate_left 1; focus (((try dsimp only at hSw); first | (go_simp; done) | (go_simp; with_reducible rfl)))
      try simp only [Act.put, List.setIfInBounds_toArray, List.set_cons_zero, List.set_cons_succ]
      refine held_take (i := 3) (v := ?_) rfl (by kernel_rfl) (by kernel_rfl) (by kernel_rfl) (fun _ _ _ h => h) (by rfl) (fun w hSw => ?_) (by assumption) ?_; rotate_left 1; focus (((try dsimp only at hSw); first | (go_simp; done) | (go_simp; with_reducible rfl)))
      try simp only [Act.put, List.setIfInBounds_toArray, List.set_cons_zero, List.set_cons_succ]
      refine held_take (i := 4) (v := ?_) rfl (by kernel_rfl) (by kernel_rfl) (by kernel_rfl) (fun _ _ _ h => h) (by rfl) (fun w hSw => ?_) (by assumption) ?_; rotate_left 1; focus (((try dsimp only at hSw); first | (go_simp; done) | (go_simp; with_reducible rfl)))
      try simp only [Act.put, List.setIfInBounds_toArray, List.set_cons_zero, List.set_cons_succ]
      refine held_skip (i := 5) rfl (by kernel_rfl) (by kernel_rfl) (by kernel_rfl) (fun _ _ _ h => h) (by rfl) (by assumption) ?_
      try simp only [Act.put, List.setIfInBounds_toArray, List.set_cons_zero, List.set_cons_succ]
      refine held_skip (i := 6) rfl (by kernel_rfl) (by kernel_rfl) (by kernel_rfl) (fun _ _ _ h => h) (by rfl) (by assumption) ?_
      try simp only [Act.put, List.setIfInBounds_toArray, List.set_cons_zero, List.set_cons_succ]
      refine held_skip (i := 7) rfl (by kernel_rfl) (by kernel_rfl) (by kernel_rfl) (fun _ _ _ h => h) (by rfl) (by assumption) ?_
      try simp only [Act.put, List.setIfInBounds_toArray, List.set_cons_zero, List.set_cons_succ]
      refine held_skip (i := 8) rfl (by kernel_rfl) (by kernel_rfl) (by kernel_rfl) (fun _ _ _ h => h) (by rfl) (by assumption) ?_
      try simp only [Act.put, List.setIfInBounds_toArray, List.set_cons_zero, List.set_cons_succ]
      refine held_skip (i := 9) rfl (by kernel_rfl) (by kernel_rfl) (by kernel_rfl) (fun _ _ _ h => h) (by rfl) (by assumption) ?_
      try simp only [Act.put, List.setIfInBounds_toArray, List.set_cons_zero, List.set_cons_succ]
      refine held_skip (i := 10) rfl (by kernel_rfl) (by kernel_rfl) (by kernel_rfl) (fun _ _ _ h => h) (by rfl) (by assumption) ?_
      try simp only [Act.put, List.setIfInBounds_toArray, List.set_cons_zero, List.set_cons_succ]
      refine held_skip (i := 11) rfl (by kernel_rfl) (by kernel_rfl) (by kernel_rfl) (fun _ _ _ h => h) (by rfl) (by assumption) ?_
      try simp only [Act.put, List.setIfInBounds_toArray, List.set_cons_zero, List.set_cons_succ]
      refine held_skip (i := 12) rfl (by kernel_rfl) (by kernel_rfl) (by kernel_rfl) (fun _ _ _ h => h) (by rfl) (by assumption) ?_
      try simp only [Act.put, List.setIfInBounds_toArray, List.set_cons_zero, List.set_cons_succ]
      refine held_skip (i := 13) rfl (by kernel_rfl) (by kernel_rfl) (by kernel_rfl) (fun _ _ _ h => h) (by rfl) (by assumption) ?_
      try simp only [Act.put, List.setIfInBounds_toArray, List.set_cons_zero, List.set_cons_succ]
      refine held_skip (i := 14) rfl (by kernel_rfl) (by kernel_rfl) (by kernel_rfl) (fun _ _ _ h => h) (by rfl) (by assumption) ?_
      try simp only [Act.put, List.setIfInBounds_toArray, List.set_cons_zero, List.set_cons_succ]
      refine held_skip (i := 15) rfl (by kernel_rfl) (by kernel_rfl) (by kernel_rfl) (fun _ _ _ h => h) (by rfl) (by assumption) ?_
      try simp only [Act.put, List.setIfInBounds_toArray, List.set_cons_zero, List.set_cons_succ]
      refine held_skip (i := 16) rfl (by kernel_rfl) (by kernel_rfl) (by kernel_rfl) (fun _ _ _ h => h) (by rfl) (by assumption) ?_
      try simp only [Act.put, List.setIfInBounds_toArray, List.set_cons_zero, List.set_cons_succ]
      refine held_skip (i := 17) rfl (by kernel_rfl) (by kernel_rfl) (by kernel_rfl) (fun _ _ _ h => h) (by rfl) (by assumption) ?_
      try simp only [Act.put, List.setIfInBounds_toArray, List.set_cons_zero, List.set_cons_succ]
      refine held_skip (i := 18) rfl (by kernel_rfl) (by kernel_rfl) (by kernel_rfl) (fun _ _ _ h => h) (by rfl) (by assumption) ?_
      try simp only [Act.put, List.setIfInBounds_toArray, List.set_cons_zero, List.set_cons_succ]
      refine held_skip (i := 19) rfl (by kernel_rfl) (by kernel_rfl) (by kernel_rfl) (fun _ _ _ h => h) (by rfl) (by assumption) ?_
      try simp only [Act.put, List.setIfInBounds_toArray, List.set_cons_zero, List.set_cons_succ]
      refine held_skip (i := 20) rfl (by kernel_rfl) (by kernel_rfl) (by kernel_rfl) (fun _ _ _ h => h) (by rfl) (by assumption) ?_
      try simp only [Act.put, List.setIfInBounds_toArray, List.set_cons_zero, List.set_cons_succ]
      refine held_skip (i := 21) rfl (by kernel_rfl) (by kernel_rfl) (by kernel_rfl) (fun _ _ _ h => h) (by rfl) (by assumption) ?_
      try simp only [Act.put, List.setIfInBounds_toArray, List.set_cons_zero, List.set_cons_succ]
      refine held_skip (i := 22) rfl (by kernel_rfl) (by kernel_rfl) (by kernel_rfl) (fun _ _ _ h => h) (by rfl) (by assumption) ?_
      try simp only [Act.put, List.setIfInBounds_toArray, List.set_cons_zero, List.set_cons_succ]
      refine held_skip (i := 23) rfl (by kernel_rfl) (by kernel_rfl) (by kernel_rfl) (fun _ _ _ h => h) (by rfl) (by assumption) ?_
      try simp only [Act.put, List.setIfInBounds_toArray, List.set_cons_zero, List.set_cons_succ]
      refine held_skip (i := 24) rfl (by kernel_rfl) (by kernel_rfl) (by kernel_rfl) (fun _ _ _ h => h) (by rfl) (by assumption) ?_
      try simp only [Act.put, List.setIfInBounds_toArray, List.set_cons_zero, List.set_cons_succ]
      refine held_skip (i := 25) rfl (by kernel_rfl) (by kernel_rfl) (by kernel_rfl) (fun _ _ _ h => h) (by rfl) (by assumption) ?_
      try simp only [Act.put, List.setIfInBounds_toArray, List.set_cons_zero, List.set_cons_succ]
      refine held_skip (i := 26) rfl (by kernel_rfl) (by kernel_rfl) (by kernel_rfl) (fun _ _ _ h => h) (by rfl) (by assumption) ?_
      try simp only [Act.put, List.setIfInBounds_toArray, List.set_cons_zero, List.set_cons_succ]
      refine held_skip (i := 27) rfl (by kernel_rfl) (by kernel_rfl) (by kernel_rfl) (fun _ _ _ h => h) (by rfl) (by assumption) ?_
      try simp only [Act.put, List.setIfInBounds_toArray, List.set_cons_zero, List.set_cons_succ]
      refine held_skip (i := 28) rfl (by kernel_rfl) (by kernel_rfl) (by kernel_rfl) (fun _ _ _ h => h) (by rfl) (by assumption) ?_
      try simp only [Act.put, List.setIfInBounds_toArray, List.set_cons_zero, List.set_cons_succ]
      refine held_skip (i := 29) rfl (by kernel_rfl) (by kernel_rfl) (by kernel_rfl) (fun _ _ _ h => h) (by rfl) (by assumption) ?_
      try simp only [Act.put, List.setIfInBounds_toArray, List.set_cons_zero, List.set_cons_succ]
      refine held_skip (i := 30) rfl (by kernel_rfl) (by kernel_rfl) (by kernel_rfl) (fun _ _ _ h => h) (by rfl) (by assumption) ?_
      try simp only [Act.put, List.setIfInBounds_toArray, List.set_cons_zero, List.set_cons_succ]
      refine held_take (i := 31) (v := ?_) rfl (by kernel_rfl) (by kernel_rfl) (by kernel_rfl) (fun _ _ _ h => h) (by rfl) (fun w hSw => ?_) (by assumption) ?_; rotate_left 1; focus (((try dsimp only at hSw); first | (go_simp; done) | (go_simp; with_reducible rfl)))
      try simp only [Act.put, List.setIfInBounds_toArray, List.set_cons_zero, List.set_cons_succ]
      refine wpAnyH_done (by kernel_rfl) ?_ _
      go_upto_region 4 with fail
      have hu0 : Hid (Below w.heap.size w wr.drew) := Lib.hid hB.out.drew
      have A1 : Hid (wr.drew.heap[w.heap.size]? = some (rmO x)) := Lib.hid hA.out
      obtain ⟨u, hu⟩ := named wr.drew
      rw [← hu.out] at hu0 A1
      rw [← hu.out]
      replace hu := Lib.hid trivial
      clear S0 BD hA hB hP
      have SU := slm_upto a k c k (by omega)
      have SF := slm_from a k c k hk
      have hlt1 := (Array.getElem?_eq_some_iff.1 A1.out).1
      have OW := Lib.hid (World.ownsRow_made (base := w.heap.size + 1) (e := 40) (size := 7) u #[] 0 (by omega) (by unfold maxLen; omega) (by simp))
      have zB : Hid (w.heap.size + 1 ≤ (u.alloc (.cells #[] 40)).heap.size) := Lib.hid (by rw [World.size_alloc]; omega)
      have MU : Hid (∀ v, Below w.heap.size w v → Ms ⟨a, k, c, b, o⟩ (l.take k) v) := Lib.hid (fun v hv => (MA.out v hv).upto hk (fun h => by have h2 := hnil.out h; omega))
      have MF : Hid (∀ v, Below w.heap.size w v → Ms ⟨fromM a c k, k - k, c - k, b, o + k * 7⟩ (l.drop k) v) := Lib.hid (fun v hv => (MA.out v hv).from hk)
      have hfl : Hid (((l.take k).flatMap cellsM).length = k * 7) := Lib.hid (by rw [rowG_len (cells := cellsM) (k := 7) (fun _ => rfl), (MU.out _ hu0.out).len])
      have hfd : Hid (((l.drop k).flatMap cellsM).length = (k - k) * 7) := Lib.hid (by rw [rowG_len (cells := cellsM) (k := 7) (fun _ => rfl), (MF.out _ hu0.out).len])
      have A2 := Lib.hid (alloc_keep (O := .cells #[] 40) A1.out hu0.out)
      have hsr := Lib.hid (sl_src (cells := cellsM) (fun _ => rfl) (by decide) (MU.out _ A2.out.2).sl)
      have hnU := Lib.hid ((MU.out _ hu0.out).none')
      have hnF := Lib.hid ((MF.out _ hu0.out).none')
      have hbd := Lib.hid (app_bound (n := k) (by omega))
      have hbn : Hid (k - k ≤ 1048576) := Lib.hid (by omega)
      have hbl1 : Hid (w.heap.size < u.heap.size) := Lib.hid hlt1
      obtain ⟨F, hF⟩ := named (fromM a c k)
      rw [← hF.out] at SF MF hnF
      replace hF := Lib.hid trivial
      obtain ⟨nk, hnk⟩ := named (k - k)
      rw [← hnk.out] at SF MF hnF hfd hbn
      have hnk2 : Hid (k + 1 + nk = k + 1) := Lib.hid (by rw [hnk.out]; omega)
      replace hnk := Lib.hid trivial
      obtain ⟨ck, hck⟩ := named (c - k)
      rw [← hck.out] at SF MF hnF
      replace hck := Lib.hid trivial
      clear hlt1 MA END
      obtain ⟨xn, xs, xr, xf, xl, xm, xg⟩ := x
      go_upto_region 5 with (at_builtin; refine wpList_append_src rfl _ _ 23 rfl (w.heap.size + 1) 40 7 72 (.agg #[.int .u64 0, .int .i64 0, .int .i64 0, .string .empty, .string .empty, .int .u64 0, .int .u64 0]) Try.underlying23 infoM rfl (by decide) (by decide) (.slice (some ⟨u.heap.size, 0, none⟩) 0 0) 0 [] a k c ((l.take k).flatMap cellsM) OW.out hnU.out hfl.out hsr.out (by rfl) (by rfl) (one_m (l.take k)) (by decide) hbd.out.1 zB.out ?_; intro v1 w1 hown1 hgrow1 hsh1; rw [Nat.zero_add] at hown1 hsh1; rw [List.nil_append] at hown1; have G1 := Lib.hid (grow_keep A2.out.1 A2.out.2 hgrow1 (fun r hr => by cases hr; exact hbl1.out)); have O1 := Lib.hid hown1; obtain ⟨va, vc, rfl⟩ := hsh1; clear hown1 hgrow1)
      obtain ⟨y0, y1, y2, y3, y4, y5, y6⟩ := rm_cells G1.out.2
      have zC : Hid (w.heap.size + 1 ≤ (w1.alloc (rmO ⟨xn, xs, xr, xf, xl, xm, xg⟩)).heap.size) := Lib.hid (by have := G1.out.1.size; have := (Array.getElem?_eq_some_iff.1 G1.out.2).1; rw [World.size_alloc]; omega)
      have A3 := Lib.hid (alloc_keep (O := rmO ⟨xn, xs, xr, xf, xl, xm, xg⟩) G1.out.2 G1.out.1)
      go_upto_region 6 with (at_builtin; refine wpList_append_lies _ rfl _ _ 23 rfl (w.heap.size + 1) 40 ti (.agg #[.int .u64 0, .int .i64 0, .int .i64 0, .string .empty, .string .empty, .int .u64 0, .int .u64 0]) 7 72 Try.underlying23 hi0 hy0 hy1 hy2 rfl (by decide) (.slice va k vc) k ((l.take k).flatMap cellsM) (by rfl) (O1.out.alloc _) ⟨w1.heap.size, 0, none⟩ 1 1 [.int .u64 (xn : Int), .int .i64 xs, .int .i64 xr, .string xf, .string xl, .int .u64 (xm : Int), .int .u64 (xg : Int)] (by rfl) rfl (World.news_of_block (heap_alloc_new _ _)) (one_m [⟨xn, xs, xr, xf, xl, xm, xg⟩]) (by decide) hbd.out.2.1 hbd.out.2.2.1 zC.out _ rfl ?_; intro g9 cap9 w2 hown2 hgrow2 hat2 _; have G2 := Lib.hid (grow_keep A3.out.1 A3.out.2 hgrow2 (fun r hr => (row_of O1.out r hr).1)); have O2 := Lib.hid hown2; clear hown2 hgrow2 hat2)
      have hsf := Lib.hid (sl_src (cells := cellsM) (fun _ => rfl) (by decide) (MF.out _ G2.out.1).sl)
      have zD : Hid (w.heap.size + 1 ≤ w2.heap.size) := Lib.hid (by have := (Array.getElem?_eq_some_iff.1 G2.out.2).1; omega)
      clear y0 y1 y2 y3 y4 y5 y6
      go_wp2_with (at_builtin; refine wpList_append_src rfl _ _ 23 rfl (w.heap.size + 1) 40 7 72 (.agg #[.int .u64 0, .int .i64 0, .int .i64 0, .string .empty, .string .empty, .int .u64 0, .int .u64 0]) Try.underlying23 infoM rfl (by decide) (by decide) (.slice (some ⟨g9, 0, none⟩) (k + 1) cap9) (k + 1) ((l.take k).flatMap cellsM ++ [.int .u64 (xn : Int), .int .i64 xs, .int .i64 xr, .string xf, .string xl, .int .u64 (xm : Int), .int .u64 (xg : Int)]) F nk ck ((l.drop k).flatMap cellsM) O2.out hnF.out hfd.out hsf.out (by rfl) (by rfl) (one_m (l.drop k)) hbd.out.2.2.2 hbn.out zD.out ?_; intro v3 w3 hown3 hgrow3 hsh3; have G3 := Lib.hid (grow_keep G2.out.2 G2.out.1 hgrow3 (fun r hr => (row_of O2.out r hr).1)); have O3 := Lib.hid hown3; obtain ⟨vb, vd, rfl⟩ := hsh3; clear hown3 hgrow3)
      go_returns
      have hfin : (l.take k ++ (⟨xn, xs, xr, xf, xl, xm, xg⟩ : Mt) :: l.drop k).length = k + 1 + nk := by rw [List.length_append, List.length_cons, (MU.out _ hu0.out).len, (MF.out _ hu0.out).len]; show k + (nk + 1) = _; omega
      obtain ⟨b3, hk3, _⟩ := ms_own (l := l.take k ++ (⟨xn, xs, xr, xf, xl, xm, xg⟩ : Mt) :: l.drop k) hfin (by rw [List.flatMap_append, List.flatMap_cons, ← List.append_assoc]; exact O3.out)
      exact ⟨⟨⟨vb, k + 1 + nk, vd, b3, 0⟩, rfl, _, E1.out, hk3⟩, G3.out.1⟩
end Go.Proofs.Ytnmjfdejgfmoiaa
