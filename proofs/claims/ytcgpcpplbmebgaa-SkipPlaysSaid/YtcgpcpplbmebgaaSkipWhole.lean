/-
  The contracts of the law's own whole and all: the rows that an iterator hands over. Condition: at most 1048576 rows.
-/
import Derived.Test.YtcgpcpplbmebgaaSkipSeek
import Derived.Deep.AppendLies
namespace Go.Proofs.Ytcgpcpplbmebgaa
open Go.RowKit
attribute [local go_sem] eq_node ne_node eq_list Oper.semAt_some
theorem first_place {ns : List Nd} (h : ∀ x ∈ ns, x.row.seq ≤ 18446744073709551615) : plN ns ⟨#[]⟩ 18446744073709551615 = 0 := by
  unfold plN plc rowsN
  cases ns with
  | nil => rfl
  | cons x r =>
    have hx : ahd x.row ⟨#[]⟩ 18446744073709551615 = false := by
      unfold ahd
      have := h x (by simp)
      split
      · rw [decide_eq_false_iff_not]; omega
      · rename_i hne
        have e : (⟨#[]⟩ : ByteArray).toList = [] := by rw [ByteArray.toList_eq]
        rw [e]
        cases h2 : x.row.key.toList with
        | nil => rw [h2, e] at hne; exact absurd rfl hne
        | cons a b => rfl
    rw [List.map_cons, List.takeWhile_cons, hx]
    rfl
set_option maxRecDepth 100000 in
theorem iter_nil (b : Nat) (u : World) : (binOp .eql 97 (IterV b) .nilFunc).run Try.prog u = .ok (.bool false) u := rfl
attribute [local go_sem] iter_nil
theorem info_row : (Try.prog.info? 36).map (fun i => (i.zero, i.size, i.bytes)) = some (some (.agg #[.string .empty, .int .u64 0, .int .i64 0, .string .empty]), 4, 48) := by kernel_rfl
theorem row_one (x : Rw) : ∀ u ∈ [Value.string x.key, .int .u64 (x.seq : Int), .int .i64 x.kind, .string x.val], u.oneCell' = true := by
  intro u hu
  simp only [List.mem_cons, List.not_mem_nil, or_false] at hu
  rcases hu with rfl | rfl | rfl | rfl <;> rfl
theorem LsA.seqs {q : Option Addr} {ns : List Nd} {w : World} (h : LsA q ns w) : ∀ x ∈ ns, x.row.seq ≤ 18446744073709551615 := by
  rcases h with ⟨_, rfl⟩ | ⟨p, _, h⟩
  · intro x hx; cases hx
  · exact fun x hx => (h.small x hx).2.2
/-- A slice of just these rows is handed back. -/
def GaveR (l : List Rw) (w : World) (e : Ending) (w' : World) : Prop := ∃ v, e = .returned v ∧ w'.ownsRow w.heap.size 36 4 v l.length (rowR l) ∧ Below w.heap.size w w'
theorem ownsRow_slice {W : World} {base size k : Nat} {e : TypeId} {v : Value} {xs : List Value} (h : W.ownsRow base e size v k xs) : ∃ p c, v = .slice p k c := by
  rcases h.2 with ⟨rfl, rfl⟩ | ⟨g, cap, cur, rfl, _⟩
  · exact ⟨_, _, rfl⟩
  · exact ⟨_, _, rfl⟩
set_option maxRecDepth 100000 in
set_option maxHeartbeats 4000000 in
theorem whole_any {q : Option Addr} {ns : List Nd} {w : World} (h : LsA q ns w) (hn : ns.length ≤ 1048575) :
    Calls Try.prog 21 #[.pointer q] w (GaveR (rowsN ns) w) := by
  have C := fun u => Lib.hid (all_iter q u)
  refine (callsIn_wide (n := 6)).1 ?_
  refine callsIn_of_wp_marks Try.func21 rfl trivial ?_ rfl
  simp only [Try.ntmps21, List.size_toArray, List.length_cons, List.length_nil, Nat.reduceAdd, Nat.reduceSub, Array.replicate_succ, Array.replicate_zero, List.push_toArray, List.append_toArray, List.nil_append, List.cons_append]
  refine wpIn_wide.2 ?_
  go_wp2_with (go_at_call 47; ((with_reducible refine (C _).out.mono ?_); rintro e w1 ⟨b, hb, rfl, hI, hb1⟩))
  have n0 := Boxed.new w 30 (.slice none 0 0)
  have k0 := below_alloc w (.cells #[.slice none 0 0] 30)
  have hL := h.grow (below_of k0 hb1)
  have B0 := below_of k0 hb1
  have b3 : Boxed w1 w.heap.size 30 (.slice none 0 0) := (hb1.block w.heap.size (by simp only [World.size_alloc]; omega)).trans n0
  have hsz : w.heap.size + 1 ≤ w1.heap.size := by have := hb1.size; simp at this; omega
  have hD0 : rowsN (ns.drop (plN ns ⟨#[]⟩ 18446744073709551615)) = rowsN ns := by rw [first_place h.seqs, List.drop_zero]
  have hnl : (rowsN ns).length ≤ 1048575 := by unfold rowsN; rw [List.length_map]; exact hn
  have IS := iter_stops (n₀ := w.heap.size) hL h.low (by omega) (by omega) hI
  rw [hD0] at IS
  obtain ⟨R, hR⟩ := named (rowsN ns)
  rw [← hR.out] at IS hnl ⊢
  clear hb n0 k0 hb1 hD0
  obtain ⟨i0, hi, hz0, hz1, hz2⟩ := info_parts info_row
  refine (wpIn_wide (n := 6)).1 ?_
  refine wpIn_rangeFunc_ownH (F := Fence.wide) (n := 6) rfl (by omega) (gf := 59) (lb := #[.pointer (some ⟨b, 0, none⟩), .pointer (some ⟨b + 1, 0, none⟩), .pointer (some ⟨b + 2, 0, none⟩)]) rfl trivial (enters_of Try.func59 (by kernel_rfl) rfl)
    IS belowK_t (belowK_b (by omega)) (Below.refl _ _) (fun _ => rfl)
    (fun pre W => (∃ v, Boxed W w.heap.size 30 v ∧ W.ownsRow w.heap.size 36 4 v pre.length (rowR pre) ∧ True) ∧ Below w.heap.size w W)
    (fun _ _ _ => False)
    (OwnFrom.and (Own.from (holdsRow_own w.heap.size w.heap.size 30 36 4 (fun pre => pre.length) (fun pre => rowR pre) (fun _ _ => True)) _) (ownFrom_below (Nat.le_refl _) (by omega)))
    (fun c _ _ _ _ h _ _ => h)
    ⟨⟨_, b3, World.ownsRow_nil _ _ _ _, trivial⟩, B0⟩
    (fun x a' W => ∃ bx, w.heap.size < bx ∧ RowAt bx x W ∧ a' = { tmps := #[.pointer q, undef, .slice none 0 0, .pointer (some ⟨w.heap.size, 0, none⟩), IterV b, .pointer (some ⟨bx, 0, none⟩), .pointer q, IterV b, IterV b, .bool false, IterV b, rowV x, undef, undef, undef, undef, undef], defers := [] })
    (fun x a' _ X Y row h hg hr => by
      obtain ⟨bx, h1, h2, h3⟩ := h
      exact ⟨bx, h1, rowAt_own bx (fun _ : Unit => x) _ () X Y row h2 hg hr, h3⟩)
    ?assign ?body ?done ?stop
  case assign =>
    rintro l pre x W K ⟨⟨v, b3, hrow, _⟩, hB⟩ hK
    gi_wp2
    exact hK _ _ ((KeepsOthers.alloc _ _).from _) ((Below.refl _ W).alloc hB.size _) ⟨⟨v, b3.alloc _, hrow.alloc _, trivial⟩, hB.alloc hB.size _⟩ ⟨W.heap.size, b3.lt, RowAt.new x W, rfl⟩
  case body =>
    rintro l pre x a' W hl ⟨r, hr⟩ ⟨⟨v, hv, hrow, _⟩, hB⟩ ⟨bx, hbx, rX, rfl⟩ hlt
    obtain ⟨⟨x0, x1, x2, x3⟩, x4⟩ := rX.cells
    have z0 := hv.cell
    have z1 := hv.frozen
    obtain ⟨p1, p2, rfl⟩ := ownsRow_slice hrow
    have hl1 : pre.length + 1 ≤ 1048576 := by omega
    gi_wp2_with (gi_at_builtin; refine wpListIn_append_own _ rfl _ _ 30 rfl w.heap.size 36 i0 _ 4 48 Try.underlying30 hi hz0 hz1 hz2 rfl (by decide) _ _ _ rfl (hrow.alloc _) ⟨W.heap.size, 0, none⟩ 1 1 [.string x.key, .int .u64 (x.seq : Int), .int .i64 x.kind, .string x.val] rfl rfl (World.news_of_block (heap_alloc_new _ _)) (row_one x) (by unfold maxLen; omega) (by omega) (by have := hB.size; simp; omega) ?_; intro v' w1 hown' hgrow _; obtain ⟨g', cap', rfl⟩ := ownsRow_succ hown'; obtain ⟨hv1, hv2, hr2, hk2, hb2⟩ := hv.appended (by decide) hrow hB.size (Nat.le_refl _) hown' hgrow; have hc1 := hv1.cell; have hf1 := hv1.frozen)
    rw [← rowR_snoc] at hr2
    exact ⟨hk2.from _, hb2, ⟨_, hv2, by rw [List.length_append]; exact hr2, trivial⟩, hB.trans hb2⟩
  case done =>
    rintro D xs W hD rfl ⟨⟨v, hv, hrow, _⟩, hB⟩ hK
    have z0 := hv.cell
    obtain ⟨p1, p2, rfl⟩ := ownsRow_slice hrow
    go_wp2_with fail
    refine ⟨by simp, .inl ⟨_, _, rfl, run_takeDeferred hK, ?_⟩⟩
    refine ⟨_, results_tmp rfl _ _ _, ?_⟩
    rw [← hR.out]
    exact ⟨_, rfl, ownsRow_putObj hrow _ hK rfl, hB.trans (belowK_b (w := w) (Nat.le_refl _) W D _ _ (by omega) hK rfl rfl)⟩
  case stop =>
    rintro D c pre W hD hpre h
    exact h.elim
/-- What all hands back: not more than so many. -/
def upTo (most : Int) (l : List Rw) : List Rw := if 0 ≤ most ∧ most < l.length then l.take most.toNat else l
set_option maxRecDepth 100000 in
set_option maxHeartbeats 4000000 in
theorem all_any {q : Option Addr} {ns : List Nd} {w : World} (h : LsA q ns w) (hn : ns.length ≤ 1048575) (k : ByteArray) (hk : k.size ≤ 281474976710656) (s : Nat) (most : Int) :
    Calls Try.prog 15 #[.pointer q, .string k, .int .u64 (s : Int), .int .i64 most] w (GaveR (upTo most (rowsN (ns.drop (plN ns k s)))) w) := by
  have C := fun u => Lib.hid (from_iter q k hk s u)
  refine (callsIn_wide (n := 6)).1 ?_
  refine callsIn_of_wp_marks Try.func15 rfl trivial ?_ rfl
  simp only [Try.ntmps15, List.size_toArray, List.length_cons, List.length_nil, Nat.reduceAdd, Nat.reduceSub, Array.replicate_succ, Array.replicate_zero, List.push_toArray, List.append_toArray, List.nil_append, List.cons_append]
  refine wpIn_wide.2 ?_
  go_wp2_with (go_at_call 46; ((with_reducible refine (C _).out.mono ?_); rintro e w1 ⟨b, hb, rfl, hI, hb1⟩))
  have n0 := Boxed.new w 3 (.int .i64 most)
  have n1 := Boxed.new (w.alloc (.cells #[.int .i64 most] 3)) 30 (.slice none 0 0)
  have k0 := below_alloc w (.cells #[.int .i64 most] 3)
  have k1 := below_alloc (w.alloc (.cells #[.int .i64 most] 3)) (.cells #[.slice none 0 0] 30)
  have hL := h.grow (below_of (below_of k0 k1) hb1)
  have B0 := below_of (below_of k0 k1) hb1
  have b2 : Boxed w1 w.heap.size 3 (.int .i64 most) := ((hb1.block w.heap.size (by simp only [World.size_alloc]; omega)).trans (k1.block w.heap.size (by simp only [World.size_alloc]; omega))).trans n0
  have b3 : Boxed w1 (w.heap.size + 1) 30 (.slice none 0 0) := by
    rw [World.size_alloc] at n1
    exact (hb1.block (w.heap.size + 1) (by simp only [World.size_alloc]; omega)).trans n1
  have hsz : w.heap.size + 2 ≤ w1.heap.size := by have := hb1.size; simp at this; omega
  have hnl : (rowsN (ns.drop (plN ns k s))).length ≤ 1048575 := by unfold rowsN; rw [List.length_map, List.length_drop]; omega
  have IS := iter_stops (n₀ := w.heap.size) hL h.low (by omega) (by omega) hI
  obtain ⟨R, hR⟩ := named (rowsN (ns.drop (plN ns k s)))
  rw [← hR.out] at IS hnl
  clear hb n0 n1 k0 k1 hb1
  obtain ⟨i0, hi, hz0, hz1, hz2⟩ := info_parts info_row
  refine (wpIn_wide (n := 6)).1 ?_
  refine wpIn_rangeFunc_ownH (F := Fence.wide) (n := 6) rfl (by omega) (gf := 59) (lb := #[.pointer (some ⟨b, 0, none⟩), .pointer (some ⟨b + 1, 0, none⟩), .pointer (some ⟨b + 2, 0, none⟩)]) rfl trivial (enters_of Try.func59 (by kernel_rfl) rfl)
    IS belowK_t (belowK_b (by omega)) (Below.refl _ _) (fun _ => rfl)
    (fun pre W => ((∃ v, Boxed W (w.heap.size + 1) 30 v ∧ W.ownsRow w.heap.size 36 4 v pre.length (rowR pre) ∧ True) ∧ Boxed W w.heap.size 3 (.int .i64 most)) ∧ (¬ (0 ≤ most ∧ most < (pre.length : Int))) ∧ Below w.heap.size w W)
    (fun c ps W => c = .exit 0 ∧ (∃ v, Boxed W (w.heap.size + 1) 30 v ∧ W.ownsRow w.heap.size 36 4 v ps.dropLast.length (rowR ps.dropLast) ∧ True) ∧ ((ps.dropLast.length : Int) = most ∧ ps ≠ []) ∧ Below w.heap.size w W)
    (OwnFrom.and (OwnFrom.and (Own.from (holdsRow_own w.heap.size (w.heap.size + 1) 30 36 4 (fun (pre : List Rw) => pre.length) (fun pre => rowR pre) (fun _ _ => True)) _) (Own.from (boxed_own _ _ fun _ => .int .i64 most) _)) (OwnFrom.and (ownFrom_pure _ fun (pre : List Rw) => ¬ (0 ≤ most ∧ most < (pre.length : Int))) (ownFrom_below (Nat.le_refl _) (by omega))))
    (fun c => OwnFrom.and (ownFrom_pure _ fun _ => c = .exit 0) (OwnFrom.and (Own.from (holdsRow_own w.heap.size (w.heap.size + 1) 30 36 4 (fun (ps : List Rw) => ps.dropLast.length) (fun ps => rowR ps.dropLast) (fun _ _ => True)) _) (OwnFrom.and (ownFrom_pure _ fun (ps : List Rw) => (ps.dropLast.length : Int) = most ∧ ps ≠ []) (ownFrom_below (Nat.le_refl _) (by omega)))))
    ⟨⟨⟨_, b3, World.ownsRow_nil _ _ _ _, trivial⟩, b2⟩, by simp, B0⟩
    (fun x a' W => ∃ bx, w.heap.size + 1 < bx ∧ RowAt bx x W ∧ a' = { tmps := #[.pointer q, .string k, .int .u64 (s : Int), .int .i64 most, undef, undef, undef, .pointer (some ⟨w.heap.size, 0, none⟩), .slice none 0 0, .pointer (some ⟨w.heap.size + 1, 0, none⟩), IterV b, .pointer (some ⟨bx, 0, none⟩), .pointer q, .string k, .int .u64 (s : Int), IterV b, IterV b, .bool false, IterV b, rowV x, undef, undef, undef, undef, undef, undef, undef, undef, undef], defers := [] })
    (fun x a' _ X Y row h hg hr => by
      obtain ⟨bx, h1, h2, h3⟩ := h
      exact ⟨bx, h1, rowAt_own bx (fun _ : Unit => x) _ () X Y row h2 hg hr, h3⟩)
    ?assign ?body ?done ?stop
  case assign =>
    rintro l pre x W K ⟨⟨⟨v, b3, hrow, _⟩, b2⟩, hp, hB⟩ hK
    gi_wp2
    exact hK _ _ ((KeepsOthers.alloc _ _).from _) ((Below.refl _ W).alloc hB.size _) ⟨⟨⟨v, b3.alloc _, hrow.alloc _, trivial⟩, b2.alloc _⟩, hp, hB.alloc hB.size _⟩ ⟨W.heap.size, b3.lt, RowAt.new x W, rfl⟩
  case body =>
    rintro l pre x a' W hl ⟨r, hr⟩ ⟨⟨⟨v, hv, hrow, _⟩, b2⟩, hp, hB⟩ ⟨bx, hbx, rX, rfl⟩ hlt
    obtain ⟨⟨x0, x1, x2, x3⟩, x4⟩ := rX.cells
    have z0 := hv.cell
    have z1 := hv.frozen
    have m0 := b2.cell
    obtain ⟨p1, p2, rfl⟩ := ownsRow_slice hrow
    have hl1 : pre.length + 1 ≤ 1048576 := by omega
    by_cases hm : (pre.length : Int) = most
    · have hmb : ((pre.length : Int) == most) = true := by simpa using hm
      gi_wp2
      refine ⟨KeepsFrom.refl _ _, rfl, ⟨_, hv, ?_, trivial⟩, ?_, hB⟩
      · rw [List.dropLast_concat]; exact hrow
      · rw [List.dropLast_concat]; exact ⟨hm, by simp⟩
    · have hmb : ((pre.length : Int) == most) = false := by simpa using hm
      have hp' : ¬ (0 ≤ most ∧ most < ((pre ++ [x]).length : Int)) := by rw [List.length_append]; simp only [List.length_cons, List.length_nil]; omega
      gi_wp2_with (gi_at_builtin; refine wpListIn_append_own _ rfl _ _ 30 rfl w.heap.size 36 i0 _ 4 48 Try.underlying30 hi hz0 hz1 hz2 rfl (by decide) _ _ _ rfl (hrow.alloc _) ⟨W.heap.size, 0, none⟩ 1 1 [.string x.key, .int .u64 (x.seq : Int), .int .i64 x.kind, .string x.val] rfl rfl (World.news_of_block (heap_alloc_new _ _)) (row_one x) (by unfold maxLen; omega) (by omega) (by have := hB.size; simp; omega) ?_; intro v' w1 hown' hgrow _; obtain ⟨g', cap', rfl⟩ := ownsRow_succ hown'; obtain ⟨hv1, hv2, hr2, hk2, hb2⟩ := hv.appended (by decide) hrow hB.size (Nat.le_succ _) hown' hgrow; have hc1 := hv1.cell; have hf1 := hv1.frozen; have m1 := ((b2.alloc _).kept hgrow (b2.not_row (by decide) hrow)).other (B' := w.heap.size + 1) (by omega) (.slice (some ⟨g', 0, none⟩) (pre.length + 1) cap'))
      rw [← rowR_snoc] at hr2
      exact ⟨hk2.from _, hb2, ⟨⟨_, hv2, by rw [List.length_append]; exact hr2, trivial⟩, m1⟩, hp', hB.trans hb2⟩
  case done =>
    rintro D xs W hD rfl ⟨⟨⟨v, hv, hrow, _⟩, b2⟩, hp, hB⟩ hK
    have z0 := hv.cell
    obtain ⟨p1, p2, rfl⟩ := ownsRow_slice hrow
    go_wp2_with fail
    refine ⟨by simp, .inl ⟨_, _, rfl, run_takeDeferred hK, ?_⟩⟩
    refine ⟨_, results_tmp rfl _ _ _, ?_⟩
    rw [← hR.out, upTo, if_neg hp]
    exact ⟨_, rfl, ownsRow_putObj hrow _ hK rfl, hB.trans (belowK_b (w := w) (Nat.le_refl _) W D _ _ (by omega) hK rfl rfl)⟩
  case stop =>
    rintro D c ps W hD hpre ⟨rfl, ⟨v, hv, hrow, _⟩, ⟨hm, hne⟩, hB⟩ hK
    obtain ⟨a, x, rfl⟩ : ∃ a x, ps = a ++ [x] := ⟨ps.dropLast, ps.getLast hne, (List.dropLast_concat_getLast hne).symm⟩
    rw [List.dropLast_concat] at hrow hm
    have z0 := hv.cell
    obtain ⟨p1, p2, rfl⟩ := ownsRow_slice hrow
    refine wpIn_wide.2 ?_
    go_wp2_with fail
    have e : upTo most R = a := by
      obtain ⟨t, ht⟩ := hpre
      have hlen : a.length < R.length := by rw [← ht]; simp only [List.length_append, List.length_cons, List.length_nil]; omega
      unfold upTo
      rw [if_pos (by omega), show most.toNat = a.length by omega, ← ht]
      simp
    refine ⟨by simp, .inl ⟨_, _, rfl, run_takeDeferred hK, ?_⟩⟩
    refine ⟨_, results_tmp rfl _ _ _, ?_⟩
    rw [← hR.out, e]
    exact ⟨_, rfl, ownsRow_putObj hrow _ hK rfl, hB.trans (belowK_b (w := w) (Nat.le_refl _) W D _ _ (by omega) hK rfl rfl)⟩
end Go.Proofs.Ytcgpcpplbmebgaa
