/-
  The contract of the list's Seek. Condition: texts of less than 2^48 bytes.
-/
import Derived.Test.YtcgpcpplbmebgaaSkipCalls
import Derived.Maps.AppendAt
import Derived.RangeFuncFrom
namespace Go.Proofs.Ytcgpcpplbmebgaa
open Go.RowKit
attribute [local go_sem] eq_node ne_node eq_list Oper.semAt_some
theorem rowAt_own {β : Type} (b : Nat) (f : β → Rw) (B : Nat) : OwnFrom B (fun s W => RowAt b (f s) W) := fun s X Y row h hg hr => (hg.block b (Array.getElem?_eq_some_iff.1 h).1 fun e => by
  obtain ⟨_, o, ho, hc⟩ := hr b e.symm
  rw [show X.heap[b]? = _ from h] at ho
  cases ho; cases hc).trans h
theorem RowAt.kept {b : Nat} {x : Rw} {W Y : World} {row : Option Nat} (h : RowAt b x W) (hg : W.grownBy Y row) (hr : row ≠ some b) : RowAt b x Y := (hg.block b (Array.getElem?_eq_some_iff.1 h).1 (fun e => hr e.symm)).trans h
theorem seekX_own {β : Type} (b b' : Nat) (t : TypeId) (g : β → List Rw) (B : Nat) : OwnFrom B (fun s W => ∃ x, g s = [x] ∧ RowAt b x W ∧ Boxed W b' t (.bool true)) := fun s X Y row h hg hr => by
  obtain ⟨x, e, h1, h2⟩ := h
  exact ⟨x, e, rowAt_own b (fun _ : Unit => x) B () X Y row h1 hg hr, Own.from (boxed_own b' t fun _ : Unit => .bool true) B () X Y row h2 hg hr⟩
theorem RowAt.set4 {b : Nat} {y : Rw} {W : World} (h : RowAt b y W) (x : Rw) : RowAt b x ((((W.setCell ⟨b, 0, none⟩ (.string x.key)).setCell ⟨b, 1, none⟩ (.int .u64 (x.seq : Int))).setCell ⟨b, 2, none⟩ (.int .i64 x.kind)).setCell ⟨b, 3, none⟩ (.string x.val)) := by
  have h0 := heap_setCell_same _ b 0 _ _ (.string x.key) h
  have h1 := heap_setCell_same _ b 1 _ _ (.int .u64 (x.seq : Int)) h0
  have h2 := heap_setCell_same _ b 2 _ _ (.int .i64 x.kind) h1
  exact heap_setCell_same _ b 3 _ _ (.string x.val) h2
theorem boxed_other {W : World} {B B' : Nat} {t : TypeId} {v : Value} (h : Boxed W B t v) (o : Nat) (hne : B ≠ B') (u : Value) : Boxed (W.setCell ⟨B', o, none⟩ u) B t v := (Below.heap_setCell W _ u B hne).trans h
def zeroR : Rw := ⟨⟨#[]⟩, 0, 0, ⟨#[]⟩⟩
/-- What Seek tells of the rows that are left. -/
def seekR (l : List Rw) : Value := match l with | [] => .tuple #[rowV zeroR, .bool false] | x :: _ => .tuple #[rowV x, .bool true]
set_option maxRecDepth 100000 in
set_option maxHeartbeats 4000000 in
theorem seek_any {q : Option Addr} {ns : List Nd} {w : World} (h : LsA q ns w) (hn : ns.length ≤ 4611686018427387903) (k : ByteArray) (s : Nat) :
    Calls Try.prog 13 #[.pointer q, .string k, .int .u64 (s : Int)] w fun e w' => e = .returned (seekR (rowsN (ns.drop (plN ns k s)))) ∧ Below w.heap.size w w' := by
  obtain ⟨R, hR⟩ := named (rowsN (ns.drop (plN ns k s)))
  rw [← hR.out]
  have C := fun u => Lib.hid (from_any q k s u)
  refine (callsIn_wide (n := 6)).1 ?_
  refine callsIn_of_wp_marks Try.func13 rfl trivial ?_ rfl
  simp only [Try.ntmps13, List.size_toArray, List.length_cons, List.length_nil, Nat.reduceAdd, Nat.reduceSub, Array.replicate_succ, Array.replicate_zero, List.push_toArray, List.append_toArray, List.nil_append, List.cons_append]
  refine wpIn_wide.2 ?_
  go_wp2_with (go_at_call 45; ((with_reducible refine (C _).out.mono ?_); rintro e w1 ⟨b, hb, rfl, hI, hb1⟩))
  have n0 := heap_alloc_new w (.cells #[.string ⟨#[]⟩, .int .u64 0, .int .i64 0, .string ⟨#[]⟩] 36)
  have n1 := Boxed.new (w.alloc (.cells #[.string ⟨#[]⟩, .int .u64 0, .int .i64 0, .string ⟨#[]⟩] 36)) 4 (.bool false)
  have k0 := below_alloc w (.cells #[.string ⟨#[]⟩, .int .u64 0, .int .i64 0, .string ⟨#[]⟩] 36)
  have k1 := below_alloc (w.alloc (.cells #[.string ⟨#[]⟩, .int .u64 0, .int .i64 0, .string ⟨#[]⟩] 36)) (.cells #[.bool false] 4)
  have hL := h.grow (below_of (below_of k0 k1) hb1)
  have B0 := below_of (below_of k0 k1) hb1
  have r6 : RowAt w.heap.size zeroR w1 := ((hb1.block w.heap.size (by simp only [World.size_alloc]; omega)).trans (k1.block w.heap.size (by simp only [World.size_alloc]; omega))).trans n0
  have b7 : Boxed w1 (w.heap.size + 1) 4 (.bool false) := by
    rw [World.size_alloc] at n1
    exact (hb1.block (w.heap.size + 1) (by simp only [World.size_alloc]; omega)).trans n1
  have hsz : w.heap.size + 2 ≤ w1.heap.size := by have := hb1.size; simp at this; omega
  clear hb n0 n1 k0 k1 hb1
  refine (wpIn_wide (n := 6)).1 ?_
  refine wpIn_rangeFunc_ownH (F := Fence.wide) (n := 6) rfl (by omega) (gf := 59) (lb := #[.pointer (some ⟨b, 0, none⟩), .pointer (some ⟨b + 1, 0, none⟩), .pointer (some ⟨b + 2, 0, none⟩)]) rfl trivial (enters_of Try.func59 (by kernel_rfl) rfl)
    (iter_stops (n₀ := w.heap.size) hL h.low (by omega) hn hI) belowK_t (belowK_b (by omega)) (Below.refl _ _) (fun _ => rfl)
    (fun pre W => (RowAt w.heap.size zeroR W ∧ Boxed W (w.heap.size + 1) 4 (.bool false)) ∧ pre = [] ∧ Below w.heap.size w W)
    (fun c pre W => c = .ret ∧ (∃ x, pre = [x] ∧ RowAt w.heap.size x W ∧ Boxed W (w.heap.size + 1) 4 (.bool true)) ∧ Below w.heap.size w W)
    (OwnFrom.and (OwnFrom.and (rowAt_own _ (fun _ => zeroR) _) (Own.from (boxed_own _ _ fun _ => .bool false) _)) (OwnFrom.and (ownFrom_pure _ fun pre => pre = []) (ownFrom_below (Nat.le_refl _) (by omega))))
    (fun c => OwnFrom.and (ownFrom_pure _ fun _ => c = .ret) (OwnFrom.and (seekX_own _ _ _ (fun pre => pre) _) (ownFrom_below (Nat.le_refl _) (by omega))))
    ⟨⟨r6, b7⟩, rfl, B0⟩
    (fun x a' W => ∃ bx, w.heap.size + 1 < bx ∧ RowAt bx x W ∧ a' = { tmps := #[.pointer q, .string k, .int .u64 (s : Int), undef, undef, undef, .pointer (some ⟨w.heap.size, 0, none⟩), .pointer (some ⟨w.heap.size + 1, 0, none⟩), .pointer (some ⟨bx, 0, none⟩), .pointer q, .string k, .int .u64 (s : Int), IterV b, rowV x, undef, undef], defers := [] })
    (fun x a' _ X Y row h hg hr => by
      obtain ⟨bx, h1, h2, h3⟩ := h
      exact ⟨bx, h1, rowAt_own bx (fun _ : Unit => x) _ () X Y row h2 hg hr, h3⟩)
    ?assign ?body ?done ?stop
  case assign =>
    rintro l pre x W K ⟨⟨r6, b7⟩, hp, hB⟩ hK
    gi_wp2
    exact hK _ _ ((KeepsOthers.alloc _ _).from _) ((Below.refl _ W).alloc hB.size _) ⟨⟨r6.below (below_alloc _ _), b7.alloc _⟩, hp, hB.alloc hB.size _⟩ ⟨W.heap.size, b7.lt, RowAt.new x W, rfl⟩
  case body =>
    rintro l pre x a' W hl ⟨r, hr⟩ ⟨⟨r6, b7⟩, rfl, hB⟩ ⟨bx, hbx, rX, rfl⟩ hlt
    obtain ⟨⟨x0, x1, x2, x3⟩, x4⟩ := rX.cells
    obtain ⟨⟨y0, y1, y2, y3⟩, y4⟩ := r6.cells
    have z0 := b7.cell
    have z1 := b7.frozen
    gi_wp2
    refine ⟨?_, rfl, ⟨x, rfl, ?_, ?_⟩, ?_⟩
    · exact (((((KeepsOthers.setCell _ _ _).trans (KeepsOthers.setCell _ _ _)).trans (KeepsOthers.setCell _ _ _)).trans (KeepsOthers.setCell _ _ _)).trans (KeepsOthers.setCell _ _ _)).from _
    · have := RowAt.set4 r6 x
      exact this.kept (grownBy_setCell' _ (w.heap.size + 1) _) (by simp)
    · exact (boxed_other (boxed_other (boxed_other (boxed_other b7 0 (by omega) _) 1 (by omega) _) 2 (by omega) _) 3 (by omega) _).set _
    · exact ((((hB.setCell (p := ⟨w.heap.size, 0, none⟩) (Nat.le_refl _) _).setCell (p := ⟨w.heap.size, 1, none⟩) (Nat.le_refl _) _).setCell (p := ⟨w.heap.size, 2, none⟩) (Nat.le_refl _) _).setCell (p := ⟨w.heap.size, 3, none⟩) (Nat.le_refl _) _).setCell (p := ⟨w.heap.size + 1, 0, none⟩) (by simp) _
  case done =>
    rintro D xs W hD rfl ⟨⟨r6, b7⟩, hnil, hB⟩ hK
    have hnil' : R = [] := by rw [hR.out]; exact hnil
    subst hnil'
    clear hnil
    obtain ⟨⟨y0, y1, y2, y3⟩, y4⟩ := r6.cells
    have z0 := b7.cell
    have z1 := b7.frozen
    clear hR
    go_wp2_with fail
    have r6' := (RowAt.set4 r6 zeroR).kept (grownBy_setCell' _ (w.heap.size + 1) (.bool false)) (by simp)
    have b7' := (boxed_other (boxed_other (boxed_other (boxed_other b7 0 (show w.heap.size + 1 ≠ w.heap.size by omega) (.string zeroR.key)) 1 (show w.heap.size + 1 ≠ w.heap.size by omega) (.int .u64 (zeroR.seq : Int))) 2 (show w.heap.size + 1 ≠ w.heap.size by omega) (.int .i64 zeroR.kind)) 3 (show w.heap.size + 1 ≠ w.heap.size by omega) (.string zeroR.val)).set (.bool false)
    have hB' := ((((hB.setCell (p := ⟨w.heap.size, 0, none⟩) (Nat.le_refl _) (.string zeroR.key)).setCell (p := ⟨w.heap.size, 1, none⟩) (Nat.le_refl _) (.int .u64 (zeroR.seq : Int))).setCell (p := ⟨w.heap.size, 2, none⟩) (Nat.le_refl _) (.int .i64 zeroR.kind)).setCell (p := ⟨w.heap.size, 3, none⟩) (Nat.le_refl _) (.string zeroR.val)).setCell (p := ⟨w.heap.size + 1, 0, none⟩) (by simp) (.bool false)
    have hK' := (((((KeepsOthers.setCell W ⟨w.heap.size, 0, none⟩ (.string zeroR.key)).trans (KeepsOthers.setCell _ ⟨w.heap.size, 1, none⟩ (.int .u64 (zeroR.seq : Int)))).trans (KeepsOthers.setCell _ ⟨w.heap.size, 2, none⟩ (.int .i64 zeroR.kind))).trans (KeepsOthers.setCell _ ⟨w.heap.size, 3, none⟩ (.string zeroR.val))).trans (KeepsOthers.setCell _ ⟨w.heap.size + 1, 0, none⟩ (.bool false))).same D _ hK rfl
    refine ⟨by simp, .inl ⟨_, _, rfl, run_takeDeferred hK', ?_⟩⟩
    have r7 := r6'.kept (grownBy_putObj' _ D (.deferred none)) (fun e => by cases e; rw [show _ = _ from r6'] at hK'; cases hK')
    have b8 := (((boxed_own (w.heap.size + 1) 4 (fun _ : Unit => (.bool false : Value))).putObj (s := ()) (.deferred none) b7' hK' rfl)).cell
    obtain ⟨⟨v0, v1, v2, v3⟩, _⟩ := r7.cells
    refine ⟨.tuple #[rowV zeroR, .bool false], ?_, rfl, ?_⟩
    · simp only [zeroR] at v0 v1 v2 v3 b8
      simp [results, Try.results13, go_sem, zeroR] at v0 v1 v2 v3 b8 ⊢
      simp [v0, v1, v2, v3, b8]
    · exact hB'.trans (belowK_b (w := w) (Nat.le_refl _) _ D _ _ (by omega) hK' rfl rfl)
  case stop =>
    rintro D c pre W hD hpre ⟨rfl, ⟨x, rfl, r6, b7⟩, hB⟩ hK
    refine wpIn_wide.2 ?_
    go_wp2_with fail
    have hR1 : R = x :: R.tail := by
      obtain ⟨t, ht⟩ := hpre
      rw [← hR.out] at ht
      rw [← ht]; rfl
    rw [hR1]
    refine ⟨by simp, .inl ⟨_, _, rfl, run_takeDeferred hK, ?_⟩⟩
    have r6' : RowAt w.heap.size x (W.putObj D (.deferred none)) := r6.kept (grownBy_putObj' _ D (.deferred none)) (fun e => by cases e; rw [show W.heap[w.heap.size]? = _ from r6] at hK; cases hK)
    have b7' := (((boxed_own (w.heap.size + 1) 4 (fun _ : Unit => (.bool true : Value))).putObj (s := ()) (.deferred none) b7 hK rfl)).cell
    obtain ⟨⟨y0, y1, y2, y3⟩, y4⟩ := r6'.cells
    refine ⟨.tuple #[rowV x, .bool true], ?_, rfl, ?_⟩
    · simp [results, Try.results13, go_sem, y0, y1, y2, y3, b7']
    · exact hB.trans (belowK_b (w := w) (Nat.le_refl _) W D _ _ (by omega) hK rfl rfl)
end Go.Proofs.Ytcgpcpplbmebgaa
