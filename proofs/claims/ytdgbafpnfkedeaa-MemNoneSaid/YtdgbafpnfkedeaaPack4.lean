/-
  The contracts of slices.AppendSeq and Collect over a skip list's iterator, of the table's Rows and Range. Condition: at most 1048575 rows.
-/
import Derived.Test.YtdgbafpnfkedeaaPack3
import Derived.StillTailTactics
import Derived.Laws.OwnMore
import Derived.Deep.AppendLies
import Derived.Deep.Upon
namespace Go.Proofs.Ytdgbafpnfkedeaa
set_option maxRecDepth 100000
open Go.RowKit
attribute [local go_sem] eq_node ne_node eq_list eq_table Oper.semAt_some iter_nil
set_option maxRecDepth 100000 in
set_option maxHeartbeats 4000000 in
theorem seq_any {q : Option Addr} {ns : List Nd} {w : World} (h : LsA q ns w) (hn : ns.length ≤ 1048575) {b : Nat} {k : ByteArray} {s : Nat} (hI : IterAt b q k s w) :
    Calls Try.prog 47 #[.slice none 0 0, IterV b] w (GaveR (rowsN (ns.drop (plN ns k s))) w) := by
  refine (callsIn_wide (n := 6)).1 ?_
  refine callsIn_of_wp_marks Try.func47 rfl trivial ?_ rfl
  simp only [Try.ntmps47, List.size_toArray, List.length_cons, List.length_nil, Nat.reduceAdd, Nat.reduceSub, Array.replicate_succ, Array.replicate_zero, List.push_toArray, List.append_toArray, List.nil_append, List.cons_append]
  refine wpIn_wide.2 ?_
  have n0 := Boxed.new w 27 (.slice none 0 0)
  have B0 := below_alloc w (.cells #[.slice none 0 0] 27)
  have hL := h.grow B0
  have hI1 := hI.below B0
  have hsz : (w.alloc (.cells #[.slice none 0 0] 27)).heap.size = w.heap.size + 1 := World.size_alloc _ _
  have IS := iter_stops (n₀ := w.heap.size) hL h.low (by omega) (by omega) hI1
  have hnl : (rowsN (ns.drop (plN ns k s))).length ≤ 1048575 := by unfold rowsN; rw [List.length_map, List.length_drop]; omega
  obtain ⟨R, hR⟩ := named (rowsN (ns.drop (plN ns k s)))
  rw [← hR.out] at IS hnl ⊢
  have n0 := Lib.hid n0
  have B0 := Lib.hid B0
  have IS := Lib.hid IS
  have hsz := Lib.hid hsz
  clear hI hI1 hL h hn
  go_wp2_with fail
  replace n0 := n0.out
  replace B0 := B0.out
  replace IS := IS.out
  replace hsz := hsz.out
  obtain ⟨i0, hi, hz0, hz1, hz2⟩ := info_parts info_row
  generalize w.alloc (.cells #[.slice none 0 0] 27) = w1 at *
  refine (wpIn_wide (n := 6)).1 ?_
  refine wpIn_rangeFunc_ownH (F := Fence.wide) (n := 6) rfl (by omega) (gf := 50) (lb := #[.pointer (some ⟨b, 0, none⟩), .pointer (some ⟨b + 1, 0, none⟩), .pointer (some ⟨b + 2, 0, none⟩)]) rfl trivial (enters_of Try.func50 (by kernel_rfl) rfl)
    IS belowK_t (belowK_b (by omega)) (Below.refl _ _) (fun _ => rfl)
    (fun pre W => (∃ v, Boxed W w.heap.size 27 v ∧ W.ownsRow w.heap.size 43 4 v pre.length (rowR pre) ∧ True) ∧ Below w.heap.size w W)
    (fun _ _ _ => False)
    (OwnFrom.and (Own.from (holdsRow_own w.heap.size w.heap.size 27 43 4 (fun pre => pre.length) (fun pre => rowR pre) (fun _ _ => True)) _) (ownFrom_below (Nat.le_refl _) (by omega)))
    (fun c _ _ _ _ h _ _ => h)
    ⟨⟨_, n0, World.ownsRow_nil _ _ _ _, trivial⟩, B0⟩
    (fun x a' W => ∃ bx, w.heap.size < bx ∧ RowAt bx x W ∧ a' = { tmps := #[.slice none 0 0, IterV b, .pointer (some ⟨w.heap.size, 0, none⟩), undef, .slice none 0 0, .pointer (some ⟨bx, 0, none⟩), IterV b, rowV x, undef, undef, undef, undef, undef], defers := [] })
    (fun x a' _ X Y row h hg hr => by
      obtain ⟨bx, h1, h2, h3⟩ := h
      exact ⟨bx, h1, rowAt_own bx (fun _ : Unit => x) _ () X Y row h2 hg hr, h3⟩)
    ?assign ?body ?done ?stop
  case assign =>
    rintro l pre x W K ⟨⟨v, b3, hrow, _⟩, hB⟩ hK
    gi_wp2
    exact hK _ _ ((KeepsOthers.alloc _ _).from _) ((Below.refl _ W).alloc hB.size _) ⟨⟨v, b3.alloc _, hrow.alloc _, trivial⟩, hB.alloc hB.size _⟩ ⟨W.heap.size, b3.lt, RowAt.new x W, rfl⟩
  case body =>
    rintro l pre x a' W hl ⟨r, hr⟩ ⟨⟨v, hv, hrow, _⟩, hB⟩ ⟨bx, hbx, rX, rfl⟩ hlt
    obtain ⟨⟨x0, x1, x2, x3⟩, x4⟩ := rX.cells
    have z0 := hv.cell
    have z1 := hv.frozen
    obtain ⟨p1, p2, rfl⟩ := ownsRow_slice hrow
    have hl1 : pre.length + 1 ≤ 1048576 := by omega
    gi_wp2_with (gi_at_builtin; refine wpListIn_append_own _ rfl _ _ 27 rfl w.heap.size 43 i0 _ 4 48 Try.underlying27 hi hz0 hz1 hz2 rfl (by decide) _ _ _ rfl (hrow.alloc _) ⟨W.heap.size, 0, none⟩ 1 1 [.string x.key, .int .u64 (x.seq : Int), .int .i64 x.kind, .string x.val] rfl rfl (World.news_of_block (heap_alloc_new _ _)) (row_one x) (by unfold maxLen; omega) (by omega) (by have := hB.size; simp; omega) ?_; intro v' w1 hown' hgrow _; obtain ⟨g', cap', rfl⟩ := ownsRow_succ hown'; obtain ⟨hv1, hv2, hr2, hk2, hb2⟩ := hv.appended (by decide) hrow hB.size (Nat.le_refl _) hown' hgrow; have hc1 := hv1.cell; have hf1 := hv1.frozen)
    rw [← rowR_snoc] at hr2
    exact ⟨hk2.from _, hb2, ⟨_, hv2, by rw [List.length_append]; exact hr2, trivial⟩, hB.trans hb2⟩
  case done =>
    rintro D xs W hD rfl ⟨⟨v, hv, hrow, _⟩, hB⟩ hK
    have z0 := hv.cell
    obtain ⟨p1, p2, rfl⟩ := ownsRow_slice hrow
    go_wp2_with fail
    refine ⟨by simp, .inl ⟨_, _, rfl, run_takeDeferred hK, ?_⟩⟩
    refine ⟨_, results_tmp rfl _ _ _, ?_⟩
    exact ⟨_, rfl, ownsRow_putObj hrow _ hK rfl, hB.trans (belowK_b (w := w) (Nat.le_refl _) W D _ _ (by omega) hK rfl rfl)⟩
  case stop =>
    rintro D c pre W hD hpre h
    exact h.elim
set_option maxHeartbeats 2000000 in
theorem collect_any {q : Option Addr} {ns : List Nd} {w : World} (h : LsA q ns w) (hn : ns.length ≤ 1048575) {b : Nat} {k : ByteArray} {s : Nat} (hI : IterAt b q k s w) :
    Calls Try.prog 39 #[IterV b] w (GaveR (rowsN (ns.drop (plN ns k s))) w) := by
  have S := Lib.hid (seq_any h hn hI)
  clear h hI
  go_enter Try.func39, Try.ntmps39
  go_wp2_with fail
  refine S.out.mono ?_
  rintro e w' ⟨v, rfl, h1, h2⟩
  have h1 := Lib.hid h1
  have h2 := Lib.hid h2
  go_wp2_with fail
  go_returns
  exact ⟨_, rfl, h1.out, h2.out⟩
theorem GaveR.nil (w : World) {e : Ending} (he : e = .returned (.slice none 0 0)) : GaveR [] w e w := ⟨_, he, World.ownsRow_nil _ _ _ _, Below.refl _ _⟩
theorem GaveR.lift {l : List Rw} {w w1 w2 : World} {e : Ending} (h : GaveR l w1 e w2) (hb : Below w.heap.size w w1) : GaveR l w e w2 := by
  obtain ⟨v, h1, h2, h3⟩ := h
  exact ⟨v, h1, ⟨h2.1, h2.2.imp id fun ⟨g, cap, cur, k1, k2, k3⟩ => ⟨g, cap, cur, k1, Nat.le_trans hb.size k2, k3⟩⟩, below_of hb h3⟩
set_option maxHeartbeats 2000000 in
theorem rows_tab {q : Option Addr} {R : List Rw} {w : World} (h : TabQ q R w) : Calls Try.prog 20 #[.pointer q] w (GaveR R w) := by
  rcases h with ⟨rfl, rfl⟩ | ⟨p, L, l, rfl, h, ⟨ns, hL, hns⟩, hR, hn⟩
  · go_enter Try.func20, Try.ntmps20
    go_wp2_with fail
    go_returns
    exact GaveR.nil _ rfl
  · obtain ⟨c0, c1, c2, c3⟩ := h.cells
    have hnl : ns.length ≤ 1048575 := by rw [len_P hns, ← rows_len, hR]; exact hn
    have hall : rowsN (ns.drop (plN ns ⟨#[]⟩ 18446744073709551615)) = R := by rw [first_place hL.seqs, List.drop_zero, rowsN_P hns, hR]
    have AL := Lib.hid (all_iter L w)
    have CO : Hid (∀ b u, IterAt b L ⟨#[]⟩ 18446744073709551615 u → Below w.heap.size w u → Calls Try.prog 39 #[IterV b] u (GaveR R u)) := Lib.hid fun b u hI hb => by
      have := collect_any (hL.grow hb) hnl hI
      rwa [hall] at this
    clear h hL hns hR hn hnl hall
    go_enter Try.func20, Try.ntmps20
    go_wp2_with (first
      | (go_at_call 40; ((with_reducible refine AL.out.mono ?_); rintro e w1 ⟨b, hb, rfl, hI, hb1⟩; have C1 := Lib.hid (CO.out b w1 hI hb1); have B1 := Lib.hid hb1; clear hb hI hb1))
      | (go_at_call 39; ((with_reducible refine C1.out.mono ?_); rintro e w2 hd; have G2 := hd.lift B1.out; obtain ⟨v2, rfl, hv2, hB2⟩ := G2; have hv2 := Lib.hid hv2; have hB2 := Lib.hid hB2; clear hd))
      | fail "no arm")
    go_returns
    exact ⟨_, rfl, hv2.out, hB2.out⟩
end Go.Proofs.Ytdgbafpnfkedeaa
/-
  The contract of the table's Range. Condition: at most 1048575 rows, a first key of at most 2^48 bytes.
-/
namespace Go.Proofs.Ytdgbafpnfkedeaa
set_option maxRecDepth 100000
open Go.RowKit
attribute [local go_sem] eq_node ne_node eq_list eq_table Oper.semAt_some iter_nil
theorem geq_str (a b : ByteArray) (u : World) : (binOp .geq 9 (.string a) (.string b)).run Try.prog u = .ok (.bool (!(Op.bytesLess a.toList b.toList))) u := by
  have : binOp .geq 9 (.string a) (.string b) = pure (.bool (!(Op.bytesLess a.toList b.toList))) := by simp [binOp, Op.stringOp]
  rw [this]
  rfl
/-- Is a row ahead of the range's end? -/
def inR (to' : ByteArray) (x : Rw) : Bool := to'.toList.isEmpty || Op.bytesLess x.key.toList to'.toList
def rngR (R : List Rw) (fr to' : ByteArray) : List Rw := (R.drop (plc R fr 18446744073709551615)).takeWhile (inR to')
theorem takeWhile_all {f : Rw → Bool} {l : List Rw} (h : ∀ y ∈ l, f y = true) : l.takeWhile f = l := by
  induction l with
  | nil => rfl
  | cons x r ih => rw [List.takeWhile_cons, if_pos (h x (by simp)), ih (fun y hy => h y (by simp [hy]))]
theorem takeWhile_stop {f : Rw → Bool} {a : List Rw} {x : Rw} {t : List Rw} (h : ∀ y ∈ a, f y = true) (hx : f x = false) : (a ++ x :: t).takeWhile f = a := by
  induction a with
  | nil => simp [List.takeWhile_cons, hx]
  | cons y r ih => rw [List.cons_append, List.takeWhile_cons, if_pos (h y (by simp)), ih (fun z hz => h z (by simp [hz]))]
set_option maxRecDepth 100000 in
set_option maxHeartbeats 4000000 in
theorem range_some {p : Nat} {L : Option Addr} {l : SL} {R : List Rw} {w : World} (h : TabAt p L R w) (hLs : Ls L l w) (hRl : rowsL l = R) (hn : R.length ≤ 1048575) (fr to' : ByteArray) (hk : fr.size ≤ 281474976710656) :
    Calls Try.prog 16 #[.pointer (some ⟨p, 0, none⟩), .string fr, .string to'] w (GaveR (rngR R fr to') w) := by
  obtain ⟨ns, hL, hns⟩ := hLs
  have hnl : ns.length ≤ 1048575 := by rw [len_P hns, ← rows_len, hRl]; exact hn
  have C : ∀ u, Hid (Calls Try.prog 36 #[.pointer L, .string fr, .int .u64 18446744073709551615] u (IterDid L fr 18446744073709551615 u)) := fun u => Lib.hid (from_iter L fr hk 18446744073709551615 u)
  have n0 := Boxed.new w 9 (.string to')
  have n1 := Boxed.new (w.alloc (.cells #[.string to'] 9)) 27 (.slice none 0 0)
  rw [World.size_alloc] at n1
  have k0 := below_alloc w (.cells #[.string to'] 9)
  have k1 := below_alloc (w.alloc (.cells #[.string to'] 9)) (.cells #[.slice none 0 0] 27)
  have hT := (h.grow (below_of k0 k1)).cells.1
  have hnd : (rowsN (ns.drop (plN ns fr 18446744073709551615))).length ≤ 1048575 := by unfold rowsN; rw [List.length_map, List.length_drop]; omega
  have hDR : rowsN (ns.drop (plN ns fr 18446744073709551615)) = R.drop (plc R fr 18446744073709551615) := by
    rw [drop_P hns, plN_P hns, ← hRl]; rfl
  rw [show rngR R fr to' = (rowsN (ns.drop (plN ns fr 18446744073709551615))).takeWhile (inR to') by rw [hDR]; rfl]
  obtain ⟨D, hD⟩ := named (rowsN (ns.drop (plN ns fr 18446744073709551615)))
  rw [← hD.out] at hnd ⊢
  have n0 := Lib.hid n0
  have n1 := Lib.hid n1
  have k0 := Lib.hid k0
  have k1 := Lib.hid k1
  replace hL := Lib.hid hL
  clear hns hDR hn hk h hRl
  refine (callsIn_wide (n := 6)).1 ?_
  refine callsIn_of_wp_marks Try.func16 rfl trivial ?_ rfl
  simp only [Try.ntmps16, List.size_toArray, List.length_cons, List.length_nil, Nat.reduceAdd, Nat.reduceSub, Array.replicate_succ, Array.replicate_zero, List.push_toArray, List.append_toArray, List.nil_append, List.cons_append]
  refine wpIn_wide.2 ?_
  go_wp2_with (go_at_call 36; ((with_reducible refine (C _).out.mono ?_); rintro e w1 ⟨b, hb, rfl, hI, hb1⟩))
  replace n0 := n0.out
  replace n1 := n1.out
  replace k0 := k0.out
  replace k1 := k1.out
  replace hL := hL.out
  have hLw := hL.grow (below_of (below_of k0 k1) hb1)
  have B0 := below_of (below_of k0 k1) hb1
  have b2 : Boxed w1 w.heap.size 9 (.string to') := ((hb1.block w.heap.size (by simp only [World.size_alloc]; omega)).trans (k1.block w.heap.size (by simp only [World.size_alloc]; omega))).trans n0
  have b3 : Boxed w1 (w.heap.size + 1) 27 (.slice none 0 0) := (hb1.block (w.heap.size + 1) (by simp only [World.size_alloc]; omega)).trans n1
  have hsz : w.heap.size + 2 ≤ w1.heap.size := by have := hb1.size; simp at this; omega
  have IS := iter_stops (n₀ := w.heap.size) hLw hL.low (by omega) (by omega) hI
  rw [← hD.out] at IS
  clear hb n0 n1 k0 k1 hb1 hT
  obtain ⟨i0, hi, hz0, hz1, hz2⟩ := info_parts info_row
  refine (wpIn_wide (n := 6)).1 ?_
  refine wpIn_rangeFunc_ownH (F := Fence.wide) (n := 6) rfl (by omega) (gf := 50) (lb := #[.pointer (some ⟨b, 0, none⟩), .pointer (some ⟨b + 1, 0, none⟩), .pointer (some ⟨b + 2, 0, none⟩)]) rfl trivial (enters_of Try.func50 (by kernel_rfl) rfl)
    IS belowK_t (belowK_b (by omega)) (Below.refl _ _) (fun _ => rfl)
    (fun pre W => ((∃ v, Boxed W (w.heap.size + 1) 27 v ∧ W.ownsRow w.heap.size 43 4 v pre.length (rowR pre) ∧ True) ∧ Boxed W w.heap.size 9 (.string to')) ∧ (∀ y ∈ pre, inR to' y = true) ∧ Below w.heap.size w W)
    (fun c ps W => c = .exit 0 ∧ (∃ v, Boxed W (w.heap.size + 1) 27 v ∧ W.ownsRow w.heap.size 43 4 v ps.dropLast.length (rowR ps.dropLast) ∧ True) ∧ (∃ a x, ps = a ++ [x] ∧ (∀ y ∈ a, inR to' y = true) ∧ inR to' x = false) ∧ Below w.heap.size w W)
    (OwnFrom.and (OwnFrom.and (Own.from (holdsRow_own w.heap.size (w.heap.size + 1) 27 43 4 (fun (pre : List Rw) => pre.length) (fun pre => rowR pre) (fun _ _ => True)) _) (Own.from (boxed_own _ _ fun _ => .string to') _)) (OwnFrom.and (ownFrom_pure _ fun (pre : List Rw) => ∀ y ∈ pre, inR to' y = true) (ownFrom_below (Nat.le_refl _) (by omega))))
    (fun c => OwnFrom.and (ownFrom_pure _ fun _ => c = .exit 0) (OwnFrom.and (Own.from (holdsRow_own w.heap.size (w.heap.size + 1) 27 43 4 (fun (ps : List Rw) => ps.dropLast.length) (fun ps => rowR ps.dropLast) (fun _ _ => True)) _) (OwnFrom.and (ownFrom_pure _ fun (ps : List Rw) => ∃ a x, ps = a ++ [x] ∧ (∀ y ∈ a, inR to' y = true) ∧ inR to' x = false) (ownFrom_below (Nat.le_refl _) (by omega)))))
    ⟨⟨⟨_, b3, World.ownsRow_nil _ _ _ _, trivial⟩, b2⟩, (by simp), B0⟩
    (fun x a' W => ∃ bx, w.heap.size + 1 < bx ∧ RowAt bx x W ∧ a' = { tmps := #[.pointer (some ⟨p, 0, none⟩), .string fr, .string to', undef, undef, .pointer (some ⟨w.heap.size, 0, none⟩), .slice none 0 0, .pointer (some ⟨w.heap.size + 1, 0, none⟩), .pointer (some ⟨bx, 0, none⟩), .pointer (some ⟨p, 0, none⟩), .bool false, .pointer (some ⟨p, 0, none⟩), .pointer (some ⟨p, 0, none⟩), .pointer (some ⟨p, 0, none⟩), .pointer L, .string fr, IterV b, rowV x, undef, undef, undef, undef, undef, undef, undef, undef, undef, undef, undef, undef, undef], defers := [] })
    (fun x a' _ X Y row h hg hr => by
      obtain ⟨bx, h1, h2, h3⟩ := h
      exact ⟨bx, h1, rowAt_own bx (fun _ : Unit => x) _ () X Y row h2 hg hr, h3⟩)
    ?assign ?body ?done ?stop
  case assign =>
    rintro l pre x W K ⟨⟨⟨v, b3, hrow, _⟩, b2⟩, hp, hB⟩ hK
    gi_wp2
    exact hK _ _ ((KeepsOthers.alloc _ _).from _) ((Below.refl _ W).alloc hB.size _) ⟨⟨⟨v, b3.alloc _, hrow.alloc _, trivial⟩, b2.alloc _⟩, hp, hB.alloc hB.size _⟩ ⟨W.heap.size, b3.lt, RowAt.new x W, rfl⟩
  case body =>
    rintro l pre x a' W hl ⟨r, hr⟩ ⟨⟨⟨v, hv, hrow, _⟩, b2⟩, hp, hB⟩ ⟨bx, hbx, rX, rfl⟩ hlt
    obtain ⟨⟨x0, x1, x2, x3⟩, x4⟩ := rX.cells
    have z0 := hv.cell
    have z1 := hv.frozen
    have m0 := b2.cell
    have GE := geq_str x.key to'
    obtain ⟨p1, p2, rfl⟩ := ownsRow_slice hrow
    have hl1 : pre.length + 1 ≤ 1048576 := by omega
    by_cases he : to'.toList = []
    · have e1 : (to'.toList == []) = true := by rw [he]; rfl
      have hin : ∀ y ∈ pre ++ [x], inR to' y = true := fun y hy => by unfold inR; rw [he]; rfl
      clear GE
      gi_wp2_with (gi_at_builtin; refine wpListIn_append_own _ rfl _ _ 27 rfl w.heap.size 43 i0 _ 4 48 Try.underlying27 hi hz0 hz1 hz2 rfl (by decide) _ _ _ rfl (hrow.alloc _) ⟨W.heap.size, 0, none⟩ 1 1 [.string x.key, .int .u64 (x.seq : Int), .int .i64 x.kind, .string x.val] rfl rfl (World.news_of_block (heap_alloc_new _ _)) (row_one x) (by unfold maxLen; omega) (by omega) (by have := hB.size; simp; omega) ?_; intro v' w1 hown' hgrow _; obtain ⟨g', cap', rfl⟩ := ownsRow_succ hown'; obtain ⟨hv1, hv2, hr2, hk2, hb2⟩ := hv.appended (by decide) hrow hB.size (Nat.le_succ _) hown' hgrow; have hc1 := hv1.cell; have hf1 := hv1.frozen; have m1 := ((b2.alloc _).kept hgrow (b2.not_row (by decide) hrow)).other (B' := w.heap.size + 1) (by omega) (.slice (some ⟨g', 0, none⟩) (pre.length + 1) cap'))
      rw [← rowR_snoc] at hr2
      exact ⟨hk2.from _, hb2, ⟨⟨_, hv2, by rw [List.length_append]; exact hr2, trivial⟩, m1⟩, hin, hB.trans hb2⟩
    · have e1 : (to'.toList == []) = false := by simpa using he
      cases hle : Op.bytesLess x.key.toList to'.toList with
      | false =>
        have hin : inR to' x = false := by unfold inR; rw [hle]; simpa using he
        rw [hle] at GE
        gi_wp2
        refine ⟨KeepsFrom.refl _ _, rfl, ⟨_, hv, ?_, trivial⟩, ⟨pre, x, rfl, hp, hin⟩, hB⟩
        rw [List.dropLast_concat]; exact hrow
      | true =>
        have hin : ∀ y ∈ pre ++ [x], inR to' y = true := fun y hy => by
          rcases List.mem_append.1 hy with h | h
          · exact hp y h
          · rw [List.mem_singleton.1 h]; unfold inR; rw [hle, Bool.or_true]
        rw [hle] at GE
        gi_wp2_with (gi_at_builtin; refine wpListIn_append_own _ rfl _ _ 27 rfl w.heap.size 43 i0 _ 4 48 Try.underlying27 hi hz0 hz1 hz2 rfl (by decide) _ _ _ rfl (hrow.alloc _) ⟨W.heap.size, 0, none⟩ 1 1 [.string x.key, .int .u64 (x.seq : Int), .int .i64 x.kind, .string x.val] rfl rfl (World.news_of_block (heap_alloc_new _ _)) (row_one x) (by unfold maxLen; omega) (by omega) (by have := hB.size; simp; omega) ?_; intro v' w1 hown' hgrow _; obtain ⟨g', cap', rfl⟩ := ownsRow_succ hown'; obtain ⟨hv1, hv2, hr2, hk2, hb2⟩ := hv.appended (by decide) hrow hB.size (Nat.le_succ _) hown' hgrow; have hc1 := hv1.cell; have hf1 := hv1.frozen; have m1 := ((b2.alloc _).kept hgrow (b2.not_row (by decide) hrow)).other (B' := w.heap.size + 1) (by omega) (.slice (some ⟨g', 0, none⟩) (pre.length + 1) cap'))
        rw [← rowR_snoc] at hr2
        exact ⟨hk2.from _, hb2, ⟨⟨_, hv2, by rw [List.length_append]; exact hr2, trivial⟩, m1⟩, hin, hB.trans hb2⟩
  case done =>
    rintro D' xs W hD' rfl ⟨⟨⟨v, hv, hrow, _⟩, b2⟩, hp, hB⟩ hK
    have z0 := hv.cell
    obtain ⟨p1, p2, rfl⟩ := ownsRow_slice hrow
    go_wp2_with fail
    refine ⟨by simp, .inl ⟨_, _, rfl, run_takeDeferred hK, ?_⟩⟩
    refine ⟨_, results_tmp rfl _ _ _, ?_⟩
    rw [takeWhile_all hp]
    exact ⟨_, rfl, ownsRow_putObj hrow _ hK rfl, hB.trans (belowK_b (w := w) (Nat.le_refl _) W D' _ _ (by omega) hK rfl rfl)⟩
  case stop =>
    rintro D' c ps W hD' hpre ⟨rfl, ⟨v, hv, hrow, _⟩, ⟨a, x, rfl, hm, hx⟩, hB⟩ hK
    rw [List.dropLast_concat] at hrow
    have z0 := hv.cell
    obtain ⟨p1, p2, rfl⟩ := ownsRow_slice hrow
    refine wpIn_wide.2 ?_
    go_wp2_with fail
    have e : D.takeWhile (inR to') = a := by
      obtain ⟨t, ht⟩ := hpre
      rw [← ht, List.append_assoc]
      exact takeWhile_stop hm hx
    refine ⟨by simp, .inl ⟨_, _, rfl, run_takeDeferred hK, ?_⟩⟩
    refine ⟨_, results_tmp rfl _ _ _, ?_⟩
    rw [e]
    exact ⟨_, rfl, ownsRow_putObj hrow _ hK rfl, hB.trans (belowK_b (w := w) (Nat.le_refl _) W D' _ _ (by omega) hK rfl rfl)⟩
end Go.Proofs.Ytdgbafpnfkedeaa
/-
  The contract of the law's own laid: a table of batches. No condition.
-/
namespace Go.Proofs.Ytdgbafpnfkedeaa
set_option maxRecDepth 100000
open Go.RowKit
attribute [local go_sem] eq_node ne_node eq_list eq_table
def laidR (bs : List Bt) : List Rw := bs.foldl (fun R v => (addR R v.seq v.ws).1) []
def fineB (bs : List Bt) : Bool := decide (bs.length ≤ 30) && bs.all fun v => decide (v.ws.length ≤ 70)
theorem laidR_snoc (bs : List Bt) (v : Bt) : laidR (bs ++ [v]) = (addR (laidR bs) v.seq v.ws).1 := by unfold laidR; rw [List.foldl_append]; rfl
theorem laidR_len : ∀ (bs : List Bt), (laidR bs).length ≤ 64 * bs.length := by
  intro bs
  suffices ∀ (bs : List Bt) (R : List Rw), (bs.foldl (fun R v => (addR R v.seq v.ws).1) R).length ≤ R.length + 64 * bs.length by have := this bs []; simpa [laidR] using this
  intro bs
  induction bs with
  | nil => intro R; simp
  | cons v r ih =>
    intro R
    rw [List.foldl_cons, List.length_cons]
    have := ih (addR R v.seq v.ws).1
    have := addR_len R v.seq v.ws
    omega
theorem laidR_sorted (bs : List Bt) : SortedR (laidR bs) := by
  suffices ∀ (bs : List Bt) (R : List Rw), SortedR R → SortedR (bs.foldl (fun R v => (addR R v.seq v.ws).1) R) from this bs [] List.Pairwise.nil
  intro bs
  induction bs with
  | nil => intro R h; exact h
  | cons v r ih => intro R h; exact ih _ (addR_sorted h _ _)
theorem bt_at {a : Option Addr} {n c b o : Nat} {l : List Bt} {w : World} (h : SlOf 2 cellsBt a n c b o l w) {j : Nat} (hj : j < n) : ∃ x, l[j]? = some x ∧ a = some ⟨b, o, none⟩ ∧ w.cell? ⟨b, o + j * 2, none⟩ = some (.int .u64 (x.seq : Int)) ∧ w.cell? ⟨b, o + j * 2 + 1, none⟩ = some (.slice x.a x.n x.c) := by
  obtain ⟨x, hx⟩ : ∃ x, l[j]? = some x := ⟨_, List.getElem?_eq_getElem (by rw [h.len]; exact hj)⟩
  exact ⟨x, hx, (h.addr (by omega)).1, h.at' j x hx 0 _ rfl, h.at' j x hx 1 _ rfl⟩
theorem tb_snoc_at (ts : List (Nat × List Rw)) (p : Nat) (R : List Rw) : (ts ++ [(p, R)])[ts.length]? = some (p, R) := by simp
theorem tb_snoc_set (ts : List (Nat × List Rw)) (p : Nat) (R R' : List Rw) : (ts ++ [(p, R)]).set ts.length (p, R') = ts ++ [(p, R')] := by
  rw [List.set_append_right _ _ (Nat.le_refl _)]
  simp
theorem eql_rw (xs ys : ByteArray) (xn yn : Nat) (xk yk : Int) (xv yv : ByteArray) (B : Bool) (hB : B = true ↔ (⟨xs, xn, xk, xv⟩ : Rw) = ⟨ys, yn, yk, yv⟩) (u : World) : (binOp .eql 43 (.agg #[.string xs, .int .u64 (xn : Int), .int .i64 xk, .string xv]) (.agg #[.string ys, .int .u64 (yn : Int), .int .i64 yk, .string yv])).run Try.prog u = .ok (.bool B) u := by
  rw [rw_eq] at hB
  go_simp
  by_cases h1 : xs.toList = ys.toList
  · by_cases h2 : (xn : Int) = (yn : Int)
    · by_cases h3 : xk = yk
      · by_cases h4 : xv.toList = yv.toList
        · have : B = true := hB.2 ⟨h1, h2, h3, h4⟩
          simp [h1, h2, h3, h4, this]
        · have : B = false := by cases B <;> simp_all
          simp [h1, h2, h3, h4, this]
      · have : B = false := by cases B <;> simp_all
        simp [h1, h2, h3, this]
    · have : B = false := by cases B <;> simp_all
      simp [h1, h2, this]
  · have : B = false := by cases B <;> simp_all
    simp [h1, this]
theorem gave_rs {l : List Rw} {w w' : World} {e : Ending} (h : GaveR l w e w') : ∃ a c b, e = .returned (.slice a l.length c) ∧ Rs a l.length c b 0 l w' ∧ Below w.heap.size w w' := by
  obtain ⟨v, rfl, h2, h3⟩ := h
  obtain ⟨a, c, b, rfl, hr, _⟩ := rs_of_row h2
  exact ⟨a, c, b, rfl, hr, h3⟩
/-- What laid hands back. -/
def LaidD (base : Nat) (ts : List (Nat × List Rw)) (bs : List Bt) (w : World) (e : Ending) (w' : World) : Prop :=
  ∃ p R, e = .returned (.tuple #[.pointer (some ⟨p, 0, none⟩), .bool (fineB bs)]) ∧ Tb base (ts ++ [(p, R)]) w' ∧ Below base w w' ∧ R.length ≤ 4000 ∧ (fineB bs = true → R = laidR bs)
set_option maxRecDepth 100000 in
set_option maxHeartbeats 8000000 in
theorem laid_any {base : Nat} {ts : List (Nat × List Rw)} {w0 w : World} (hT : Tb base ts w) (hb : base ≤ w.heap.size) {a0 : Option Addr} {n0 c0 b0 o0 : Nat} {bs : List Bt} {a1 : Option Addr} {n1 c1 b1 o1 : Nat} {hs : List Int}
    (hA : ∀ u, Below base w0 u → SlOf 2 cellsBt a0 n0 c0 b0 o0 bs u ∧ (∀ v ∈ bs, BtAt v u) ∧ SlOf 1 cellsI a1 n1 c1 b1 o1 hs u) (h0 : Below base w0 w) :
    Calls Try.prog 23 #[.slice a0 n0 c0, .slice a1 n1 c1] w (LaidD base ts bs w) := by
  obtain ⟨SB, _, SH⟩ := hA w h0
  have hlen := SB.len
  have hcap := SB.cap
  have hmost := SB.most
  have hcap1 := SH.cap
  have hmost1 := SH.most
  have NW := Lib.hid (new_tb hT hb)
  have hA := Lib.hid hA
  have h0 := Lib.hid h0
  have hb := Lib.hid hb
  clear SB SH hT
  by_cases hbig : 30 < n0
  · have d0 : decide ((30 : Int) < (n0 : Int)) = true := by rw [decide_eq_true_eq]; omega
    have ff : Hid (fineB bs = false) := Lib.hid (by unfold fineB; rw [hlen, decide_eq_false (by omega)]; rfl)
    go_enter Try.func23, Try.ntmps23
    go_wp2_with (go_at_call 10; ((with_reducible refine NW.out.mono ?_); rintro e w1 ⟨p, rfl, T1, B1⟩; have T1 := Lib.hid T1; have B1 := Lib.hid B1; clear NW))
    go_returns
    exact ⟨p, [], by rw [ff.out]; rfl, T1.out, B1.out.mono hb.out, by simp, fun h => by rw [ff.out] at h; cases h⟩
  · have d0 : decide ((30 : Int) < (n0 : Int)) = false := by rw [decide_eq_false_iff_not]; omega
    go_enter Try.func23, Try.ntmps23
    go_wp2_with (go_at_call 10; ((with_reducible refine NW.out.mono ?_); rintro e w1 ⟨p, rfl, T1, B1⟩; have T1 := Lib.hid T1; have B1 := Lib.hid (B1.mono hb.out); clear NW))
    go_loopw [7] (fun v wr => ∃ j : Nat, j ≤ n0 ∧ v = .int .i64 (j : Int) ∧ (∀ (m : Nat) (x : Bt), m < j → bs[m]? = some x → x.ws.length ≤ 70) ∧ Tb base (ts ++ [(p, laidR (bs.take j))]) wr ∧ Below base w wr) (fun v _ => n0 - (intOf v).toNat)
    case atStart => exact ⟨0, Nat.zero_le _, rfl, fun m x hm => absurd hm (Nat.not_lt_zero _), T1.out, B1.out⟩
    case round =>
      clear T1 B1
      obtain ⟨j, hj, rfl, hfr, T1, B1⟩ := hrel
      have hfr := Lib.hid hfr
      have hbr : Hid (base ≤ wr.heap.size) := Lib.hid (Nat.le_trans hb.out B1.size)
      by_cases hlt : j < n0
      · obtain ⟨SB, SW, SH⟩ := hA.out wr (h0.out.trans B1)
        obtain ⟨x, hx, rfl, x0, x1⟩ := bt_at SB hlt
        have hW := (SW x (List.mem_of_getElem? hx)).2
        have hwl := hW.len
        have i1 : (j : Int) < (n0 : Int) := by omega
        have hlr : (laidR (bs.take j)).length ≤ 900000 := by have := laidR_len (bs.take j); rw [List.length_take] at this; omega
        have AD := add_any T1 hbr.out (tb_snoc_at ts p _) hlr (seq := x.seq) hW (fun w' hB _ => (hA.out w' (h0.out.trans (B1.trans hB))).2.2)
        rw [tb_snoc_set, ← laidR_snoc, show bs.take j ++ [x] = bs.take (j + 1) by rw [List.take_add_one, hx]; rfl] at AD
        have AD := Lib.hid AD
        have T1 := Lib.hid T1
        have B1 := Lib.hid B1
        have hx := Lib.hid hx
        obtain ⟨xq, xa, xn, xc, xb, xo, xw⟩ := x
        simp only at x0 x1 hwl AD
        clear SB SW SH hW hlr
        by_cases hg : 70 < xn
        · have d1 : decide ((70 : Int) < (xn : Int)) = true := by rw [decide_eq_true_eq]; omega
          have ff : Hid (fineB bs = false) := Lib.hid (by
            unfold fineB
            rw [Bool.and_eq_false_iff]
            right
            rw [List.all_eq_false]
            exact ⟨_, List.mem_of_getElem? hx.out, by simp; omega⟩)
          go_wp2_with fail
          go_returns
          refine ⟨p, laidR (bs.take j), by rw [ff.out]; rfl, T1.out, B1.out, ?_, fun h => by rw [ff.out] at h; cases h⟩
          have := laidR_len (bs.take j); rw [List.length_take] at this; omega
        · have d1 : decide ((70 : Int) < (xn : Int)) = false := by rw [decide_eq_false_iff_not]; omega
          go_wp2_with (go_at_call 12; ((with_reducible refine AD.out.mono ?_); rintro e w2 ⟨rfl, T2, B2, _⟩; have T2 := Lib.hid T2; have B2 := Lib.hid (B1.out.trans B2); clear AD))
          go_roundw
          case rel => exact ⟨j + 1, by omega, by go_num, fun m y hm hy => by
            by_cases hmj : m < j
            · exact hfr.out m y hmj hy
            · obtain rfl : m = j := by omega
              rw [hx.out] at hy
              cases hy
              show xw.length ≤ 70; omega, T2.out, B2.out⟩
          case measure => simp [intOf]; omega
      · have hjN : j = n0 := by omega
        have i1 : ¬ ((j : Int) < (n0 : Int)) := by omega
        have tk : bs.take j = bs := List.take_of_length_le (by omega)
        rw [tk] at T1
        have ff : Hid (fineB bs = true) := Lib.hid (by
          unfold fineB
          rw [Bool.and_eq_true]
          refine ⟨decide_eq_true (by omega), List.all_eq_true.2 fun x hx => decide_eq_true ?_⟩
          obtain ⟨m, hm⟩ := List.getElem?_of_mem hx
          exact hfr.out m x (by have := (List.getElem?_eq_some_iff.1 hm).1; omega) hm)
        have hlr : Hid ((laidR bs).length ≤ 4000) := Lib.hid (by have := laidR_len bs; omega)
        have T1 := Lib.hid T1
        have B1 := Lib.hid B1
        clear tk
        go_wp2_with fail
        go_returns
        exact ⟨p, laidR bs, by rw [ff.out]; rfl, T1.out, B1.out, hlr.out, fun _ => rfl⟩
end Go.Proofs.Ytdgbafpnfkedeaa
/-
  Ranges of rows as filters; a range in two parts; room. No condition.
-/
namespace Go.Proofs.Ytdgbafpnfkedeaa
set_option maxRecDepth 100000
open Go.RowKit
/-- Is a row's key at least a first one? -/
def fromR (fr : ByteArray) (x : Rw) : Bool := !(Op.bytesLess x.key.toList fr.toList)
theorem part_sorted {p : Rw → Bool} : ∀ {R : List Rw}, R.Pairwise (fun x y => p y = true → p x = true) → R.filter p ++ R.filter (fun x => !p x) = R
  | [], _ => rfl
  | x :: r, h => by
    obtain ⟨h1, h2⟩ := List.pairwise_cons.1 h
    cases hp : p x with
    | true => rw [List.filter_cons_of_pos hp, List.filter_cons_of_neg (by simp [hp]), List.cons_append, part_sorted h2]
    | false =>
      have e1 : r.filter p = [] := by
        rw [List.filter_eq_nil_iff]
        intro y hy hpy
        rw [h1 y hy hpy] at hp; cases hp
      have e2 : r.filter (fun x => !p x) = r := by
        rw [List.filter_eq_self]
        intro y hy
        cases hpy : p y with
        | false => rfl
        | true => rw [h1 y hy hpy] at hp; cases hp
      rw [List.filter_cons_of_neg (by simp [hp]), List.filter_cons_of_pos (by simp [hp]), e1, e2]; rfl
theorem takeWhile_filter {p : Rw → Bool} : ∀ {R : List Rw}, R.Pairwise (fun x y => p y = true → p x = true) → R.takeWhile p = R.filter p
  | [], _ => rfl
  | x :: r, h => by
    obtain ⟨h1, h2⟩ := List.pairwise_cons.1 h
    cases hp : p x with
    | true => rw [List.filter_cons_of_pos hp, List.takeWhile_cons, if_pos hp, takeWhile_filter h2]
    | false =>
      rw [List.filter_cons_of_neg (by simp [hp]), List.takeWhile_cons, if_neg (by simp [hp])]
      symm
      rw [List.filter_eq_nil_iff]
      intro y hy hpy
      rw [h1 y hy hpy] at hp; cases hp
theorem less_tr {a b c : List UInt8} (h1 : Op.bytesLess a b = true) (h2 : Op.bytesLess b c = true) : Op.bytesLess a c = true := by
  rw [less_before] at *
  exact WideShapes.bytes_trans _ _ _ h1 h2
theorem less_irr (a : List UInt8) : Op.bytesLess a a = false := by
  rw [less_before]
  exact WideAt.bytes_irrefl a
theorem less_tot {a b : List UInt8} (h1 : Op.bytesLess a b = false) (h2 : a ≠ b) : Op.bytesLess b a = true := by
  rw [less_before] at *
  rcases WideAt.bytes_total _ _ h2 with h | h
  · rw [h] at h1; cases h1
  · exact h
/-- Keys of rows in order do not fall. -/
theorem keys_up {R : List Rw} (hs : SortedR R) : R.Pairwise (fun x y => Op.bytesLess y.key.toList x.key.toList = false) := hs.imp fun {x y} h => by
  unfold ahd at h
  split at h
  · rename_i e; rw [e]; exact less_irr _
  · rw [← less_before] at h
    cases h2 : Op.bytesLess y.key.toList x.key.toList with
    | false => rfl
    | true => have := less_tr h h2; rw [less_irr] at this; cases this
theorem lesskey_down {R : List Rw} (hs : SortedR R) (k : List UInt8) : R.Pairwise (fun x y => Op.bytesLess y.key.toList k = true → Op.bytesLess x.key.toList k = true) := (keys_up hs).imp fun {x y} h hy => by
  by_cases e : x.key.toList = y.key.toList
  · rw [e]; exact hy
  · exact less_tr (less_tot h (fun e2 => e e2.symm)) hy
theorem in_down {R : List Rw} (hs : SortedR R) (to' : ByteArray) : R.Pairwise (fun x y => inR to' y = true → inR to' x = true) := (lesskey_down hs to'.toList).imp fun {x y} h hy => by
  unfold inR at *
  rw [Bool.or_eq_true] at *
  exact hy.imp id h
theorem ahd_max {x : Rw} (h : x.seq ≤ 18446744073709551615) (fr : ByteArray) : ahd x fr 18446744073709551615 = Op.bytesLess x.key.toList fr.toList := by
  unfold ahd
  split
  · rename_i e; rw [e, less_irr, decide_eq_false_iff_not]; omega
  · rw [less_before]
theorem drop_from {R : List Rw} (hs : SortedR R) (hq : ∀ x ∈ R, x.seq ≤ 18446744073709551615) (fr : ByteArray) : R.drop (plc R fr 18446744073709551615) = R.filter (fromR fr) := by
  have h1 : R.takeWhile (fun x => ahd x fr 18446744073709551615) = R.filter (fun x => Op.bytesLess x.key.toList fr.toList) := by
    rw [← takeWhile_filter (lesskey_down hs fr.toList)]
    clear hs
    induction R with
    | nil => rfl
    | cons x r ih =>
      rw [List.takeWhile_cons, List.takeWhile_cons, ahd_max (hq x (by simp))]
      split
      · rw [ih (fun y hy => hq y (by simp [hy]))]
      · rfl
  have h2 := part_sorted (lesskey_down hs fr.toList)
  rw [← h1] at h2
  have h3 : R.take (plc R fr 18446744073709551615) = R.takeWhile (fun x => ahd x fr 18446744073709551615) := by
    unfold plc
    exact List.prefix_iff_eq_take.1 (List.takeWhile_prefix _) |>.symm
  have h4 := List.take_append_drop (plc R fr 18446744073709551615) R
  rw [h3] at h4
  exact List.append_cancel_left (h4.trans h2.symm)
theorem rng_filter {R : List Rw} (hs : SortedR R) (hq : ∀ x ∈ R, x.seq ≤ 18446744073709551615) (fr to' : ByteArray) : rngR R fr to' = R.filter (fun x => fromR fr x && inR to' x) := by
  unfold rngR
  rw [drop_from hs hq, takeWhile_filter ((in_down hs to').filter _), List.filter_filter]
  congr 1
  funext x
  rw [Bool.and_comm]
/-- A range in two parts. -/
theorem rng_parts {R : List Rw} (hs : SortedR R) (hq : ∀ x ∈ R, x.seq ≤ 18446744073709551615) {fr cut to' : ByteArray} (h1 : Op.bytesLess cut.toList fr.toList = false) (h2 : cut.toList ≠ []) (h3 : to'.toList = [] ∨ Op.bytesLess to'.toList cut.toList = false) : rngR R fr cut ++ rngR R cut to' = rngR R fr to' := by
  rw [rng_filter hs hq, rng_filter hs hq, rng_filter hs hq]
  conv => rhs; rw [← part_sorted (lesskey_down hs cut.toList)]
  rw [List.filter_append, List.filter_filter, List.filter_filter]
  have hc : cut.toList.isEmpty = false := by simpa using h2
  congr 1
  · congr 1
    funext x
    unfold fromR inR
    rw [hc, Bool.false_or]
    cases hx : Op.bytesLess x.key.toList cut.toList with
    | false => simp
    | true =>
      rcases h3 with h3 | h3
      · rw [h3]; simp
      · have : Op.bytesLess x.key.toList to'.toList = true := by
          by_cases e : cut.toList = to'.toList
          · rw [← e]; exact hx
          · exact less_tr hx (less_tot h3 (fun e2 => e e2.symm))
        rw [this]; simp
  · congr 1
    funext x
    unfold fromR inR
    cases hx : Op.bytesLess x.key.toList cut.toList with
    | true => simp
    | false =>
      have : Op.bytesLess x.key.toList fr.toList = false := by
        cases e : Op.bytesLess x.key.toList fr.toList with
        | false => rfl
        | true =>
          by_cases e2 : cut.toList = fr.toList
          · rw [e2, e] at hx; cases hx
          · have := less_tr e (less_tot h1 e2)
            rw [this] at hx; cases hx
      rw [this]; simp
end Go.Proofs.Ytdgbafpnfkedeaa
/-
  The document's own room and ends of rows; the law's own tells. Condition: rows of valid batches, at most 1000000.
-/
namespace Go.Proofs.Ytdgbafpnfkedeaa
set_option maxRecDepth 100000
open Go.RowKit
attribute [local go_sem] eq_node ne_node eq_list eq_table
theorem room_snoc (l : List Rw) (x : Rw) : roomR (l ++ [x]) = roomR l + (x.key.size + x.val.size + 16) := by unfold roomR; rw [List.foldl_append]; rfl
theorem gr_snoc (l : List Rw) (x : Rw) : grR (l ++ [x]) = max (grR l) x.seq := by unfold grR; rw [List.foldl_append]; rfl
theorem ls_snoc (l : List Rw) (x : Rw) (hx : x.seq ≤ 18446744073709551615) : lsR (l ++ [x]) = if l.length = 0 then x.seq else min (lsR l) x.seq := by
  unfold lsR
  cases l with
  | nil => simp; omega
  | cons y r => simp [List.foldl_append]
theorem take_snoc {l : List Rw} {j : Nat} {x : Rw} (h : l[j]? = some x) : l.take (j + 1) = l.take j ++ [x] := by rw [List.take_add_one, h]; rfl
set_option maxRecDepth 100000 in
set_option maxHeartbeats 4000000 in
theorem room_ref {a : Option Addr} {n c b o : Nat} {l : List Rw} {w : World} (h : Rs a n c b o l w) (hn : n ≤ 1000000) (hs : ∀ x ∈ l, shortR x) :
    Calls Try.prog 38 #[.slice a n c] w fun e w' => e = .returned (.int .i64 (roomR l : Int)) ∧ Below w.heap.size w w' := by
  have hlen := h.len
  have hcap := h.cap
  have hmost := h.most
  have h := Lib.hid h
  have Z0 := Lib.hid (Below.refl w.heap.size w)
  go_enter Try.func38, Try.ntmps38
  go_wp2_with fail
  go_loopw [3, 4] (fun s v wr => ∃ j : Nat, j ≤ n ∧ s = .int .i64 (roomR (l.take j) : Int) ∧ v = .int .i64 (j : Int) ∧ Below w.heap.size w wr) (fun _ v _ => n - (intOf v).toNat)
  case atStart => exact ⟨0, Nat.zero_le _, rfl, rfl, Z0.out⟩
  case round =>
    obtain ⟨j, hj, rfl, rfl, hB⟩ := hrel
    by_cases hlt : j < n
    · obtain ⟨x, hx, rfl, x0, x1, x2, x3⟩ := (h.out.below hB (Nat.le_refl _)).at4 hlt
      have hxs := hs x (List.mem_of_getElem? hx)
      have i1 : (j : Int) < (n : Int) := by omega
      have r1 := room_le (l := l.take j) (fun y hy => hs y (List.mem_of_mem_take hy))
      rw [List.length_take] at r1
      have r2 : roomR (l.take (j + 1)) = roomR (l.take j) + (x.key.size + x.val.size + 16) := by rw [take_snoc hx, room_snoc]
      obtain ⟨A, hA⟩ := named (roomR (l.take j))
      obtain ⟨A', hA'⟩ := named (roomR (l.take (j + 1)))
      rw [← hA.out] at r1 r2 ⊢
      rw [← hA'.out] at r2
      unfold shortR at hxs
      have e3 : (A : Int) + (x.key.size : Int) + (x.val.size : Int) + 16 = (A' : Int) := by omega
      have s1 : x.key.size ≤ 520 := hxs.1
      have s2 : x.val.size ≤ 2048 := hxs.2.1
      have s3 : A ≤ 2584000000 := by omega
      have e4 := Lib.hid e3
      have hB := Lib.hid hB
      clear hxs r1 r2
      go_upto_region 5 with fail
      go_still_tail 16, (by kernel_rfl)
      change wpList _ _ _ _ _ wr.drew
      have hB2 := Lib.hid hB.out.drew
      clear hB x0 x1 x2 x3
      generalize wr.drew = wr' at hB2 ⊢
      go_wp2_with fail
      go_roundw
      case rel => exact ⟨j + 1, by omega, by rw [← hA'.out, IntWalk.i64_in ((A : Int) + (x.key.size : Int)) ⟨by omega, by omega⟩, IntWalk.i64_in ((A : Int) + (x.key.size : Int) + (x.val.size : Int)) ⟨by omega, by omega⟩, IntWalk.i64_in ((A : Int) + (x.key.size : Int) + (x.val.size : Int) + 16) ⟨by omega, by omega⟩, e4.out], by go_num, hB2.out⟩
      case measure => simp [intOf]; omega
    · have hjN : j = n := by omega
      subst hjN
      have i1 : ¬ ((j : Int) < (j : Int)) := by omega
      rw [List.take_of_length_le (l := l) (i := j) (by omega)]
      have hB := Lib.hid hB
      obtain ⟨A, hA⟩ := named (roomR l)
      rw [← hA.out]
      go_wp2_with fail
      go_returns
      exact ⟨by rw [← hA.out]; rfl, hB.out⟩
set_option maxRecDepth 100000 in
set_option maxHeartbeats 4000000 in
theorem ends_ref {a : Option Addr} {n c b o : Nat} {l : List Rw} {w : World} (h : Rs a n c b o l w) (hn : n ≤ 1000000) (hs : ∀ x ∈ l, shortR x) :
    Calls Try.prog 37 #[.slice a n c] w fun e w' => e = .returned (.tuple #[.int .u64 (lsR l : Int), .int .u64 (grR l : Int)]) ∧ Below w.heap.size w w' := by
  have hlen := h.len
  have hcap := h.cap
  have hmost := h.most
  have h := Lib.hid h
  have Z0 := Lib.hid (Below.refl w.heap.size w)
  go_enter Try.func37, Try.ntmps37
  go_wp2_with fail
  go_loopw [4, 5, 6] (fun s g v wr => ∃ j : Nat, j ≤ n ∧ s = .int .u64 (lsR (l.take j) : Int) ∧ g = .int .u64 (grR (l.take j) : Int) ∧ v = .int .i64 (j : Int) ∧ Below w.heap.size w wr) (fun _ _ v _ => n - (intOf v).toNat)
  case atStart => exact ⟨0, Nat.zero_le _, rfl, rfl, rfl, Z0.out⟩
  case round =>
    obtain ⟨j, hj, rfl, rfl, rfl, hB⟩ := hrel
    by_cases hlt : j < n
    · obtain ⟨x, hx, rfl, x0, x1, x2, x3⟩ := (h.out.below hB (Nat.le_refl _)).at4 hlt
      have hxs := (hs x (List.mem_of_getElem? hx))
      unfold shortR at hxs
      have i1 : (j : Int) < (n : Int) := by omega
      have r1 := ls_snoc (l.take j) x (by omega)
      have r2 := gr_snoc (l.take j) x
      rw [← take_snoc hx] at r1 r2
      rw [List.length_take] at r1
      have k1 := ls_le (l := l.take j) (fun y hy => hs y (List.mem_of_mem_take hy))
      have k2 := gr_le (l := l.take j) (fun y hy => hs y (List.mem_of_mem_take hy))
      obtain ⟨A, hA⟩ := named (lsR (l.take j))
      obtain ⟨A', hA'⟩ := named (lsR (l.take (j + 1)))
      obtain ⟨G, hG⟩ := named (grR (l.take j))
      obtain ⟨G', hG'⟩ := named (grR (l.take (j + 1)))
      rw [← hA.out] at r1 k1 ⊢
      rw [← hA'.out] at r1
      rw [← hG.out] at r2 k2 ⊢
      rw [← hG'.out] at r2
      have hmin : min j l.length = j := by omega
      rw [hmin] at r1
      have hB := Lib.hid hB
      obtain ⟨S, hS⟩ := named x.seq
      rw [← hS.out] at r1 r2 hxs x1
      have hxs := Lib.hid hxs
      clear hmin k1 k2
      by_cases c0 : j = 0
      · subst c0
        rw [if_pos rfl] at r1
        have r1 := Lib.hid r1
        by_cases c2 : G < S
        · have i3 : (G : Int) < (S : Int) := by omega
          have r2 : Hid (G' = S) := Lib.hid (by omega)
          go_wp2_with fail
          go_roundw
          case rel => exact ⟨0 + 1, by omega, by rw [← hA'.out, r1.out], by rw [← hG'.out, r2.out], by go_num, hB.out⟩
          case measure => simp [intOf]; omega
        · have i3 : ¬ ((G : Int) < (S : Int)) := by omega
          have r2 : Hid (G' = G) := Lib.hid (by omega)
          go_wp2_with fail
          go_roundw
          case rel => exact ⟨0 + 1, by omega, by rw [← hA'.out, r1.out], by rw [← hG'.out, r2.out], by go_num, hB.out⟩
          case measure => simp [intOf]; omega
      · rw [if_neg c0] at r1
        have j0 : ((j : Int) == 0) = false := by rw [beq_eq_false_iff_ne]; omega
        have j1 : ¬ ((j : Int) = 0) := by omega
        by_cases c1 : S < A <;> by_cases c2 : G < S
        · have i2 : (S : Int) < (A : Int) := by omega
          have i3 : (G : Int) < (S : Int) := by omega
          have r1 : Hid (A' = S) := Lib.hid (by omega)
          have r2 : Hid (G' = S) := Lib.hid (by omega)
          go_wp2_with fail
          go_roundw
          case rel => exact ⟨j + 1, by omega, by rw [← hA'.out, r1.out], by rw [← hG'.out, r2.out], by go_num, hB.out⟩
          case measure => simp [intOf]; omega
        · have i2 : (S : Int) < (A : Int) := by omega
          have i3 : ¬ ((G : Int) < (S : Int)) := by omega
          have r1 : Hid (A' = S) := Lib.hid (by omega)
          have r2 : Hid (G' = G) := Lib.hid (by omega)
          go_wp2_with fail
          go_roundw
          case rel => exact ⟨j + 1, by omega, by rw [← hA'.out, r1.out], by rw [← hG'.out, r2.out], by go_num, hB.out⟩
          case measure => simp [intOf]; omega
        · have i2 : ¬ ((S : Int) < (A : Int)) := by omega
          have i3 : (G : Int) < (S : Int) := by omega
          have r1 : Hid (A' = A) := Lib.hid (by omega)
          have r2 : Hid (G' = S) := Lib.hid (by omega)
          go_wp2_with fail
          go_roundw
          case rel => exact ⟨j + 1, by omega, by rw [← hA'.out, r1.out], by rw [← hG'.out, r2.out], by go_num, hB.out⟩
          case measure => simp [intOf]; omega
        · have i2 : ¬ ((S : Int) < (A : Int)) := by omega
          have i3 : ¬ ((G : Int) < (S : Int)) := by omega
          have r1 : Hid (A' = A) := Lib.hid (by omega)
          have r2 : Hid (G' = G) := Lib.hid (by omega)
          go_wp2_with fail
          go_roundw
          case rel => exact ⟨j + 1, by omega, by rw [← hA'.out, r1.out], by rw [← hG'.out, r2.out], by go_num, hB.out⟩
          case measure => simp [intOf]; omega
    · have hjN : j = n := by omega
      subst hjN
      have i1 : ¬ ((j : Int) < (j : Int)) := by omega
      rw [List.take_of_length_le (l := l) (i := j) (by omega)]
      have hB := Lib.hid hB
      obtain ⟨A, hA⟩ := named (lsR l)
      obtain ⟨G, hG⟩ := named (grR l)
      rw [← hA.out, ← hG.out]
      go_wp2_with fail
      go_returns
      exact ⟨by rw [← hA.out, ← hG.out]; rfl, hB.out⟩
set_option maxRecDepth 100000 in
set_option maxHeartbeats 4000000 in
/-- A table tells all as it must. -/
theorem tells_any {q : Option Addr} {a : Option Addr} {n c b o : Nat} {R : List Rw} {w : World} (hT : TabQ q R w) (h : Rs a n c b o R w) (hn : n ≤ 1000000) (hs : ∀ x ∈ R, shortR x) :
    Calls Try.prog 19 #[.pointer q, .slice a n c] w fun e w' => e = .returned (.bool true) ∧ Below w.heap.size w w' := by
  have hcap := h.cap
  have hmost := h.most
  have EN := Lib.hid (ends_ref h hn hs)
  have HR : Hid (∀ u, Below w.heap.size w u → Calls Try.prog 38 #[.slice a n c] u fun e w' => e = .returned (.int .i64 (roomR R : Int)) ∧ Below u.heap.size u w') := Lib.hid fun u hu => room_ref (h.below hu (Nat.le_refl _)) hn hs
  have LN : Hid (∀ u, Below w.heap.size w u → Calls Try.prog 25 #[.pointer q] u fun e w' => e = .returned (.int .i64 (n : Int)) ∧ w' = u) := Lib.hid fun u hu => by rw [← h.len]; exact tlen_any (hT.grow hu)
  have RM : Hid (∀ u, Below w.heap.size w u → Calls Try.prog 24 #[.pointer q] u fun e w' => e = .returned (.int .i64 (roomR R : Int)) ∧ w' = u) := Lib.hid fun u hu => room_any (hT.grow hu)
  have LS : Hid (∀ u, Below w.heap.size w u → Calls Try.prog 26 #[.pointer q] u fun e w' => e = .returned (.int .u64 (lsR R : Int)) ∧ w' = u) := Lib.hid fun u hu => least_any (hT.grow hu)
  have GS : Hid (∀ u, Below w.heap.size w u → Calls Try.prog 27 #[.pointer q] u fun e w' => e = .returned (.int .u64 (grR R : Int)) ∧ w' = u) := Lib.hid fun u hu => greatest_any (hT.grow hu)
  obtain ⟨A, hA⟩ := named (lsR R)
  obtain ⟨G, hG⟩ := named (grR R)
  obtain ⟨M, hM⟩ := named (roomR R)
  rw [← hA.out, ← hG.out] at EN
  rw [← hM.out] at HR RM
  rw [← hA.out] at LS
  rw [← hG.out] at GS
  clear h hT hA hG hM
  go_enter Try.func19, Try.ntmps19
  go_wp2_with (first
    | (go_at_call 37; ((with_reducible refine EN.out.mono ?_); rintro e w2 ⟨rfl, B2⟩; have B2 := Lib.hid B2; clear EN))
    | (go_at_call 25; ((with_reducible refine (LN.out _ B2.out).mono ?_); rintro e w3 ⟨rfl, rfl⟩; clear LN))
    | (go_at_call 24; ((with_reducible refine (RM.out _ B2.out).mono ?_); rintro e w3 ⟨rfl, rfl⟩; clear RM))
    | (go_at_call 38; ((with_reducible refine (HR.out _ B2.out).mono ?_); rintro e w4 ⟨rfl, B4⟩; have B4 := Lib.hid (below_of B2.out B4); clear HR))
    | (go_at_call 26; ((with_reducible refine (LS.out _ B4.out).mono ?_); rintro e w5 ⟨rfl, rfl⟩; clear LS))
    | (go_at_call 27; ((with_reducible refine (GS.out _ B4.out).mono ?_); rintro e w5 ⟨rfl, rfl⟩; clear GS))
    | fail "no arm")
  go_returns
  exact ⟨rfl, B4.out⟩
end Go.Proofs.Ytdgbafpnfkedeaa
/-
  'append(a, b...)': a the call's own row, b another row, nil or not: one law for whatever element. No condition.
-/
namespace Go.Proofs.Ytdgbafpnfkedeaa
set_option maxRecDepth 100000
open Go.RowKit
theorem wp_append_two {P : Program} {o : Oper} {a : Act} {w : World} {K : Act → World → Prop} {Q : Exit → Act → World → Prop} (s x : Operand) (t : TypeId)
    (ho : o.op = .call { callee := .builtin .append, args := #[s, x], argTypes := #[t, t] }) (B B' : Nat) (e : TypeId) (size bytes : Nat) (z : Value) (ht : P.underlying t = some (.slice e))
    (hinf : (P.info? e).map (fun i => (i.zero, i.size, i.bytes)) = some (some z, size, bytes)) (hzs : z.cells.size = size) (hsz : 0 < size) (hby : bytes ≤ 64)
    (v : Value) (k : Nat) (xs : List Value) (sv : Value) (n : Nat) (ys : List Value) (hown : w.ownsRow B e size v k xs) (hsrc : w.ownsRow B' e size sv n ys) (hs : a.eval s = v) (hx : a.eval x = sv) (h1 : ∀ u ∈ ys, u.oneCell' = true) (hk : k ≤ 1048576) (hn : n ≤ 1048576) (hB : B ≤ w.heap.size)
    (h : ∀ v' w', w'.ownsRow B e size v' (k + n) (xs ++ ys) → w.grownBy w' v.ownBlock → (∃ va vc, v' = .slice va (k + n) vc) → K (a.put o.dst v') w') : o.wp P a w K Q := by
  obtain ⟨i0, hi, hz0, hz1, hz2⟩ := info_parts hinf
  have shape : ∀ {v' : Value} {w' : World} {l : List Value}, w'.ownsRow B e size v' (k + n) l → ∃ va vc, v' = .slice va (k + n) vc := fun hr => by
    rcases hr.2 with ⟨e1, e0⟩ | ⟨g', cap, cur, e1, _⟩
    · exact ⟨none, 0, by rw [e1, e0]⟩
    · exact ⟨_, _, e1⟩
  rcases hsrc.2 with ⟨rfl, rfl⟩ | ⟨g, cap, cur, rfl, hg, hb, hle, hm, hcs, htk⟩
  · have hy : ys = [] := List.length_eq_zero_iff.1 (by simpa using hsrc.1)
    subst hy
    have hrun : (Builtin.append_ #[t, t] o.type #[v, .slice none 0 0]).run P w = .ok v w := by
      rcases hown.2 with ⟨rfl, _⟩ | ⟨g, cap, cur, rfl, _, _, hle, _⟩
      · exact run_append_nothing w _ _ _ e i0 ht hi none 0 0 (Nat.le_refl _) _ (Src.ofNil w ht 0)
      · exact run_append_nothing w _ _ _ e i0 ht hi _ k cap hle _ (Src.ofNil w ht 0)
    have h2 : w.ownsRow B e size v (k + 0) (xs ++ []) := by rw [Nat.add_zero, List.append_nil]; exact hown
    unfold Oper.wp
    simp [execOp, ho, resolve, invoke, builtin, hs, hx, hrun, Result.andThen]
    exact h v w h2 ⟨rfl, rfl, rfl, Nat.le_refl _, fun _ _ _ => rfl⟩ (shape h2)
  · have hb2 : (k + n) * bytes ≤ 140737488355328 := Nat.le_trans (Nat.mul_le_mul_left (k + n) hby) (by omega)
    exact wp_append_own w s x t ho B e i0 z size bytes ht hi hz0 hz1 hz2 hzs hsz v k xs hs hown ⟨g, 0, none⟩ n cap ys hx hsrc.1 (fun j u hj => World.ownsRow.cells hsrc (g := g) rfl j u hj) h1 (by unfold maxLen; omega) hb2 hB fun v' w' a1 a2 _ => h v' w' a1 a2 (shape a1)
theorem wpList_append_two {P : Program} {ops : Array Oper} {rest : List Oper} {o : Oper} {a : Act} {w : World} {Q : Exit → Act → World → Prop} (hgd : o.guard = none) (s x : Operand) (t : TypeId)
    (ho : o.op = .call { callee := .builtin .append, args := #[s, x], argTypes := #[t, t] }) (B B' : Nat) (e : TypeId) (size bytes : Nat) (z : Value) (ht : P.underlying t = some (.slice e))
    (hinf : (P.info? e).map (fun i => (i.zero, i.size, i.bytes)) = some (some z, size, bytes)) (hzs : z.cells.size = size) (hsz : 0 < size) (hby : bytes ≤ 64)
    (v : Value) (k : Nat) (xs : List Value) (sv : Value) (n : Nat) (ys : List Value) (hown : w.ownsRow B e size v k xs) (hsrc : w.ownsRow B' e size sv n ys) (hs : a.eval s = v) (hx : a.eval x = sv) (h1 : ∀ u ∈ ys, u.oneCell' = true) (hk : k ≤ 1048576) (hn : n ≤ 1048576) (hB : B ≤ w.heap.size)
    (h : ∀ v' w', w'.ownsRow B e size v' (k + n) (xs ++ ys) → w.grownBy w' v.ownBlock → (∃ va vc, v' = .slice va (k + n) vc) → wpList P ops Q rest (a.put o.dst v') w') : wpList P ops Q (o :: rest) a w :=
  wpList_plain hgd fun _ hK => wp_append_two s x t ho B B' e size bytes z ht hinf hzs hsz hby v k xs sv n ys hown hsrc hs hx h1 hk hn hB fun v' w' a1 a2 a3 => hK _ _ (h v' w' a1 a2 a3)
theorem step_append_two {P : Program} {ops : Array Oper} {o : Oper} {a : Act} {w : World} {K : Act → World → Prop} {Q : Exit → Act → World → Prop} {E : Prop} (hgd : o.guard = none) (s x : Operand) (t : TypeId)
    (ho : o.op = .call { callee := .builtin .append, args := #[s, x], argTypes := #[t, t] }) (B B' : Nat) (e : TypeId) (size bytes : Nat) (z : Value) (ht : P.underlying t = some (.slice e))
    (hinf : (P.info? e).map (fun i => (i.zero, i.size, i.bytes)) = some (some z, size, bytes)) (hzs : z.cells.size = size) (hsz : 0 < size) (hby : bytes ≤ 64)
    (v : Value) (k : Nat) (xs : List Value) (sv : Value) (n : Nat) (ys : List Value) (hown : w.ownsRow B e size v k xs) (hsrc : w.ownsRow B' e size sv n ys) (hs : a.eval s = v) (hx : a.eval x = sv) (h1 : ∀ u ∈ ys, u.oneCell' = true) (hk : k ≤ 1048576) (hn : n ≤ 1048576) (hB : B ≤ w.heap.size)
    (h : ∀ v' w', w'.ownsRow B e size v' (k + n) (xs ++ ys) → w.grownBy w' v.ownBlock → (∃ va vc, v' = .slice va (k + n) vc) → K (a.put o.dst v') w') :
    if Region.wanted o (yielded ops a.tmps) = true then Oper.wp P o a w K Q else E := by
  have hw : Region.wanted o (yielded ops a.tmps) = true := by simp [Region.wanted, hgd]
  rw [if_pos hw]
  exact wp_append_two s x t ho B B' e size bytes z ht hinf hzs hsz hby v k xs sv n ys hown hsrc hs hx h1 hk hn hB h
/-- A block of one element is an own row. -/
theorem row_single {w : World} {g B size : Nat} {e : TypeId} {cs : Array Value} (h : w.heap[g]? = some (.cells cs e (0, 0))) (hs : cs.size = size) (hB : B ≤ g) : w.ownsRow B e size (.slice (some ⟨g, 0, none⟩) 1 1) 1 cs.toList := by
  refine ⟨by simp [hs], .inr ⟨g, 1, cs, rfl, hB, h, Nat.le_refl _, by unfold maxLen; omega, by omega, ?_⟩⟩
  rw [List.take_of_length_le (by simp; omega)]
end Go.Proofs.Ytdgbafpnfkedeaa
