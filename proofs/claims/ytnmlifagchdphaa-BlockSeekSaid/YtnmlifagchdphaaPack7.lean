/-
  The contract of decode and Rows. Condition: at most 2^20 bytes.
-/
import Derived.Test.YtnmlifagchdphaaPack6
import Derived.Test.YtnmlifagchdphaaRows
import Derived.ChangeSame
import Derived.ProofKit
import Derived.SizedLaws
import Derived.WalkKit
import Derived.Deep.Slices
import Derived.Deep.Fields
import Derived.ChangeSlices
import Derived.OpenShut
import Derived.SliceStrings
namespace Go.Proofs.Ytnmlifagchdphaa
set_option maxRecDepth 100000
open Go.RowKit
theorem own_belowB {w w' : World} {base size n : Nat} {e : TypeId} {v : Value} {xs : List Value} (h : w.ownsRow base e size v n xs) (hb : Below w.heap.size w w') : w'.ownsRow base e size v n xs :=
  h.kept ⟨hb.os, hb.tape, hb.output, hb.size, fun k hk _ => hb.block k hk⟩ (row := none) (by cases v.ownBlock <;> simp)
theorem own_keepB {w w' : World} {base size n : Nat} {e : TypeId} {v : Value} {xs : List Value} (h : w.ownsRow base e size v n xs) (hb : ∀ g cs, v.ownBlock = some g → w.heap[g]? = some (.cells cs e (0, 0)) → w'.heap[g]? = w.heap[g]?) : w'.ownsRow base e size v n xs := by
  refine ⟨h.1, ?_⟩
  rcases h.2 with hn | ⟨g, cap, cur, rfl, a1, a2, a3⟩
  · exact .inl hn
  · exact .inr ⟨g, cap, cur, rfl, a1, (hb g cur rfl a2).trans a2, a3⟩
theorem info_rowB : (Try.prog.info? 33).map (fun i => (i.zero, i.size, i.bytes)) = some (some (.agg #[.string .empty, .int .u64 0, .int .i64 0, .string .empty]), 4, 48) := by kernel_rfl
theorem row_oneB (x : Rw) : ∀ u ∈ [Value.string x.key, .int .u64 (x.seq : Int), .int .i64 x.kind, .string x.val], u.oneCell' = true := by
  intro u hu
  simp only [List.mem_cons, List.not_mem_nil, or_false] at hu
  rcases hu with rfl | rfl | rfl | rfl <;> rfl
/-- decode under way: a builder and rows of its own. -/
structure DeI (N : Nat) (w : World) (T : List UInt8) (l : List Rw) (v : Value) (V : World) : Prop where
  bld : Bld N N T V
  row : V.ownsRow N 33 4 v l.length (rowR l)
  bel : Below N w V
  lo : N ≤ V.heap.size
theorem DeI.keep {N : Nat} {w : World} {T : List UInt8} {l : List Rw} {v : Value} {V V' : World} (h : DeI N w T l v V) (hb : Below V.heap.size V V') : DeI N w T l v V' :=
  ⟨h.bld.below hb, own_belowB h.row hb, h.bel.trans (hb.mono h.lo), Nat.le_trans h.lo hb.size⟩
theorem DeI.wrote {N : Nat} {w : World} {T T' : List UInt8} {l : List Rw} {v : Value} {V V' : World} (h : DeI N w T l v V) (b : Bld N N T' V') (hb : Below N V V') (hf : Fr N V V') : DeI N w T' l v V' := by
  obtain ⟨u, c, _, ho⟩ := h.bld.own
  obtain ⟨ds, hd⟩ := h.bld.at'
  refine ⟨b, own_keepB h.row (fun g cs _ hc => (hf.2 u c).1 g (Array.getElem?_eq_some_iff.1 hc).1 (fun e => ?_) (fun e => ?_)), h.bel.trans hb, Nat.le_trans h.lo hf.1⟩
  · rw [e, hd] at hc
    simp only [Option.some.injEq, Obj.cells.injEq] at hc
    exact absurd hc.2.1 (by decide)
  · obtain ⟨_, es, he⟩ := ho g e
    rw [hc] at he
    simp only [Option.some.injEq, Obj.cells.injEq] at he
    exact absurd he.2.1 (by decide)
theorem Bld.but {B b p : Nat} {l : List UInt8} {w w' : World} (k : Bld B b l w) (hb : But p w w') {cs : Array Value} {t : TypeId} {m : Nat × Nat} (hp : w.heap[p]? = some (.cells cs t m)) (ht1 : t ≠ 53) (ht2 : t ≠ 5) : Bld B b l w' := by
  obtain ⟨ds, hd⟩ := k.at'
  refine k.keep (hb.block _ (Array.getElem?_eq_some_iff.1 hd).1 (fun e => ?_)) (fun v g hv hg => ?_)
  · rw [e, hp] at hd
    simp only [Option.some.injEq, Obj.cells.injEq] at hd
    exact ht1 hd.2.1
  · obtain ⟨u, c, _, ho⟩ := k.own
    rw [hv] at c
    cases c
    obtain ⟨hlt, es, he⟩ := ho g hg
    refine hb.block g hlt fun e => ?_
    rw [e, hp] at he
    simp only [Option.some.injEq, Obj.cells.injEq] at he
    exact ht2 he.2.1
theorem DeI.but {N p : Nat} {w : World} {T : List UInt8} {l : List Rw} {v : Value} {x : Rw} {V V' : World} (h : DeI N w T l v V) (hp : RowAt p x V) (hb : But p V V') (hN : N ≤ p) (hv : v.ownBlock ≠ some p) : DeI N w T l v V' :=
  ⟨h.bld.but hb hp (by decide) (by decide), own_keepB h.row (fun g cs hg hc => hb.block g (Array.getElem?_eq_some_iff.1 hc).1 (fun e => hv (by rw [hg, e]))), h.bel.trans (hb.below hN h.lo), Nat.le_trans h.lo hb.size⟩
theorem DeI.grown {N : Nat} {w : World} {T : List UInt8} {l : List Rw} {v v' : Value} {x : Rw} {V V' : World} (h : DeI N w T l v V) (hr : V'.ownsRow N 33 4 v' (l.length + 1) (rowR l ++ [.string x.key, .int .u64 (x.seq : Int), .int .i64 x.kind, .string x.val])) (hg : V.grownBy V' v.ownBlock) : DeI N w T (l ++ [x]) v' V' := by
  obtain ⟨ds, hd⟩ := h.bld.at'
  have tp : ∀ g cs, v.ownBlock = some g → ∀ cs', V.heap[g]? = some (.cells cs' cs (0, 0)) → cs = 33 := fun g cs hv cs' hc => by
    rcases h.row.2 with ⟨rfl, _⟩ | ⟨g', cap, cur, rfl, _, a2, _⟩
    · cases hv
    · have : g' = g := by simpa [Value.ownBlock] using hv
      subst this
      rw [a2] at hc
      simp only [Option.some.injEq, Obj.cells.injEq] at hc
      exact hc.2.1.symm
  refine ⟨h.bld.keep (hg.block _ (Array.getElem?_eq_some_iff.1 hd).1 (fun e => ?_)) (fun u g hu ho => ?_), ?_, h.bel.grown hg h.lo (fun k hk => (World.ownsRow.lt h.row k hk).1), Nat.le_trans h.lo hg.size⟩
  · exact absurd (tp N _ e.symm _ hd) (by decide)
  · obtain ⟨u', c, _, ho'⟩ := h.bld.own
    rw [hu] at c
    cases c
    obtain ⟨hlt, es, he⟩ := ho' g ho
    refine hg.block g hlt fun e => ?_
    exact absurd (tp g _ e.symm _ he) (by decide)
  · rw [rowR_snoc, List.length_append]
    exact hr
theorem dei_new (w : World) : DeI w.heap.size w [] [] (.slice none 0 0) (w.alloc (.cells #[.pointer none, .slice none 0 0] 53)) :=
  ⟨bld_new w, World.ownsRow_nil _ _ _ _, below_alloc _ _, by simp⟩
theorem DeI.read {N : Nat} {w : World} {T : List UInt8} {l : List Rw} {v : Value} {V V' : World} (h : DeI N w T l v V) (hr : Rd N V V') : V'.ownsRow N 33 4 v l.length (rowR l) := by
  obtain ⟨u, c, _, ho⟩ := h.bld.own
  refine own_keepB h.row (fun g cs _ hc => hr.2 u c g (Array.getElem?_eq_some_iff.1 hc).1 (fun e => ?_))
  obtain ⟨_, es, he⟩ := ho g e
  rw [hc] at he
  simp only [Option.some.injEq, Obj.cells.injEq] at he
  exact absurd he.2.1 (by decide)
/-- What decode answers. -/
def Decd (L : List UInt8) (w : World) (e : Ending) (w' : World) : Prop :=
  (∃ l d a c b, IsB L l d ∧ e = .returned (.tuple #[.slice a l.length c, .int .i64 (d : Int), .int .i64 0]) ∧ Rs a l.length c b 0 l w' ∧ (0 < l.length → w.heap.size ≤ b) ∧ Below w.heap.size w w') ∨
  ((∀ l d, ¬ IsB L l d) ∧ e = .returned (.tuple #[.slice none 0 0, .int .i64 0, .int .i64 7]) ∧ Below w.heap.size w w')
def sizeV : Value → Nat
  | .string s => s.size
  | _ => 0
set_option maxRecDepth 100000 in
set_option maxHeartbeats 8000000 in
theorem decode_any (L : List UInt8) (hL : L.length ≤ 1048576) (w : World) :
    Calls Try.prog 13 #[.string ⟨L.toArray⟩] w (Decd L w) := by
  have PT := Lib.hid (fun u => parts_any L (by omega) u)
  have I0 := Lib.hid (dei_new w)
  have CR := Lib.hid (fun L' P' h1 h2 u => cutrow_any L' P' h1 h2 u)
  cases hp : ptB L with
  | none =>
    rw [hp] at PT
    have hno : Hid (∀ l d, ¬ IsB L l d) := Lib.hid (fun l d h => by rw [ptB_isB h] at hp; cases hp)
    unfold ptV at PT
    clear hp
    go_enter Try.func13, Try.ntmps13
    go_wp2_with fail
    refine wp_scope_fwd 0 rfl ?_
    go_wp2_with (go_at_call 30; ((with_reducible refine (PT.out _).mono ?_); rintro e w1 ⟨rfl, hb1⟩; have I1 := Lib.hid (I0.out.keep hb1)))
    go_step3
    refine ⟨rfl, ?_⟩
    go_wp2_with fail
    rw [Exit.noGoto_ret]
    go_returns
    exact .inr ⟨hno.out, rfl, I1.out.bel⟩
  | some q =>
    obtain ⟨rows, d⟩ := q
    rw [hp] at PT
    unfold ptV at PT
    obtain ⟨p1, p2, p3, p4, p5, p6⟩ := ptB_some hp
    have HF := Lib.hid (fun l r => @DeP.fail L rows r d l hp)
    have HN := Lib.hid (fun l r t x => @DeP.next L rows r t d l x hp)
    have HG := Lib.hid (fun l => @DeP.good L rows d l hp)
    have HB := Lib.hid (fun l => @DeP.bad L rows d l hp)
    have BH := Lib.hid (fun r hr u => behind_any r hr d (by omega) u)
    have PN := Lib.hid (fun k hk u => putnum_any k hk u)
    have hrl : rows.length ≤ 65536 := by omega
    clear hp p6
    have d0 : (d : Int) ≠ 0 := by omega
    go_enter Try.func13, Try.ntmps13
    go_wp2_with fail
    refine wp_scope_fwd 0 rfl ?_
    go_wp2_with (go_at_call 30; ((with_reducible refine (PT.out _).mono ?_); rintro e w1 ⟨rfl, hb1⟩; have I1 := Lib.hid (I0.out.keep hb1); clear hb1))
    go_loopw [2, 8] (fun v r wr => ∃ (l : List Rw) (j : Nat) (t : List UInt8) (a : Option Addr) (c : Nat), l.length = j ∧ v = .slice a j c ∧ r = .string ⟨t.toArray⟩ ∧ DeP L rows d l t ∧ DeI w.heap.size w (rstB d l j) l (.slice a j c) wr) (fun _ r _ => sizeV r)
    case atStart => exact ⟨[], 0, rows, none, 0, rfl, rfl, rfl, DeP.zero L rows d, I1.out⟩
    case round =>
      clear I1 I0 PT
      obtain ⟨l, j, t, a, c, hjN, rfl, rfl, hP, hI⟩ := hrel
      have hl4 : l.length ≤ 1024 := hP.2.2.1
      have htl : t.length ≤ 65536 := by have := congrArg List.length hP.1; rw [List.length_append] at this; omega
      by_cases ht : t = []
      · subst ht
        obtain ⟨a', c', b', e1, RS, hbb⟩ := rs_of_row (l := l) hI.row
        rw [hjN] at e1 RS hbb
        simp only [Value.slice.injEq, true_and] at e1
        obtain ⟨rfl, rfl⟩ := e1
        have OC := Lib.hid (order_any RS)
        have hIH := Lib.hid hI
        have hPH := Lib.hid hP
        have RSH := Lib.hid RS
        have hbbH := Lib.hid hbb
        obtain ⟨T, hT⟩ := named (ordR l)
        rw [← hT.out] at OC
        obtain ⟨E1, hE1⟩ := named (L.drop rows.length)
        obtain ⟨E2, hE2⟩ := named (tailB (rstB d l j) d)
        have EX := exL_from L rows.length
        rw [← hE1.out] at EX
        have BH2 := Lib.hid (BH.out (rstB d l j) (by have := rstB_le d l j; omega))
        rw [← hE2.out] at BH2
        have B0 := Lib.hid (Below.refl wr.heap.size wr).drew
        have hjH := Lib.hid hjN
        clear RS hbb hI hP hjN
        cases T with
        | false =>
          have hno : Hid (∀ l' d', ¬ IsB L l' d') := Lib.hid (HB.out l hPH.out (.inl (by rw [← hT.out])))
          go_upto_region 14 with fail
          refine wp_region_held_drew (S := (fun v => Hid (Below wr.heap.size wr v))) (by kernel_rfl) (B0) (fun hHeld => ?_)
          refine held_take (i := 0) (v := ?_) rfl (by kernel_rfl) (by kernel_rfl) (by kernel_rfl) (fun _ _ _ h => h) (by rfl) (fun w hSw => ?_) (by assumption) ?_; rotate_left 1; focus (((try dsimp only at hSw); first | (go_simp; done) | (go_simp; with_reducible rfl)))
          try simp only [Act.put, List.setIfInBounds_toArray, List.set_cons_zero, List.set_cons_succ]
          refine held_call (i := 1) (by kernel_rfl) rfl (by rfl) (fun K hK => ?_)
          go_simp
          (go_at_call 12; ((with_reducible refine (order_any (RSH.out.below B0.out (Nat.le_refl _))).mono ?_); rw [← hT.out]; rintro e u1 ⟨rfl, hb1⟩))
          have B1 := Lib.hid (below_of (w := wr) B0.out hb1)
          clear hb1
          refine hK.out _ _ (B1) (fun hHeld => ?_)
          try simp only [Act.put, List.setIfInBounds_toArray, List.set_cons_zero, List.set_cons_succ]
          refine held_take (i := 2) (v := ?_) rfl (by kernel_rfl) (by kernel_rfl) (by kernel_rfl) (fun _ _ _ h => h) (by rfl) (fun w hSw => ?_) (by assumption) ?_; rotate_left 1; focus (((try dsimp only at hSw); first | (go_simp; done) | (go_simp; with_reducible rfl)))
          try simp only [Act.put, List.setIfInBounds_toArray, List.set_cons_zero, List.set_cons_succ]
          refine held_take (i := 3) (v := ?_) rfl (by kernel_rfl) (by kernel_rfl) (by kernel_rfl) (fun _ _ _ h => h) (by rfl) (fun w hSw => ?_) (by assumption) ?_; rotate_left 1; focus (((try dsimp only at hSw); first | (go_simp; done) | (go_simp; with_reducible rfl)))
          try simp only [Act.put, List.setIfInBounds_toArray, List.set_cons_zero, List.set_cons_succ]
          refine held_skip (i := 4) rfl (by kernel_rfl) (by kernel_rfl) (by kernel_rfl) (fun _ _ _ h => h) (by rfl) (by assumption) ?_
          try simp only [Act.put, List.setIfInBounds_toArray, List.set_cons_zero, List.set_cons_succ]
          refine held_skip (i := 5) rfl (by kernel_rfl) (by kernel_rfl) (by kernel_rfl) (fun _ _ _ h => h) (by rfl) (by assumption) ?_
          try simp only [Act.put, List.setIfInBounds_toArray, List.set_cons_zero, List.set_cons_succ]
          refine held_skip (i := 6) rfl (by kernel_rfl) (by kernel_rfl) (by kernel_rfl) (fun _ _ _ h => h) (by rfl) (by assumption) ?_
          try simp only [Act.put, List.setIfInBounds_toArray, List.set_cons_zero, List.set_cons_succ]
          refine held_skip (i := 7) rfl (by kernel_rfl) (by kernel_rfl) (by kernel_rfl) (fun _ _ _ h => h) (by rfl) (by assumption) ?_
          try simp only [Act.put, List.setIfInBounds_toArray, List.set_cons_zero, List.set_cons_succ]
          refine held_skip (i := 9) rfl (by kernel_rfl) (by kernel_rfl) (by kernel_rfl) (fun _ _ _ h => h) (by rfl) (by assumption) ?_
          try simp only [Act.put, List.setIfInBounds_toArray, List.set_cons_zero, List.set_cons_succ]
          refine held_skip (i := 8) rfl (by kernel_rfl) (by kernel_rfl) (by kernel_rfl) (fun _ _ _ h => h) (by rfl) (by assumption) ?_
          try simp only [Act.put, List.setIfInBounds_toArray, List.set_cons_zero, List.set_cons_succ]
          refine held_skip (i := 10) rfl (by kernel_rfl) (by kernel_rfl) (by kernel_rfl) (fun _ _ _ h => h) (by rfl) (by assumption) ?_
          try simp only [Act.put, List.setIfInBounds_toArray, List.set_cons_zero, List.set_cons_succ]
          refine held_skip (i := 11) rfl (by kernel_rfl) (by kernel_rfl) (by kernel_rfl) (fun _ _ _ h => h) (by rfl) (by assumption) ?_
          try simp only [Act.put, List.setIfInBounds_toArray, List.set_cons_zero, List.set_cons_succ]
          refine held_take (i := 12) (v := ?_) rfl (by kernel_rfl) (by kernel_rfl) (by kernel_rfl) (fun _ _ _ h => h) (by rfl) (fun w hSw => ?_) (by assumption) ?_; rotate_left 1; focus (((try dsimp only at hSw); first | (go_simp; done) | (go_simp; with_reducible rfl)))
          try simp only [Act.put, List.setIfInBounds_toArray, List.set_cons_zero, List.set_cons_succ]
          refine wpAnyH_done (by kernel_rfl) ?_ _
          go_wp2_with fail
          go_step3
          refine ⟨rfl, ?_⟩
          go_wp2_with fail
          rw [Exit.noGoto_ret]
          go_returns
          exact .inr ⟨hno.out, rfl, hIH.out.bel.trans (B1.out.mono hIH.out.lo)⟩
        | true =>
          have hyes : Hid (E1 = E2 → IsB L l d) := Lib.hid (fun e => HG.out l hPH.out (by rw [← hT.out]) (by rw [hjH.out, ← hE1.out, ← hE2.out, e]))
          have hnot : Hid (E1 ≠ E2 → ∀ l' d', ¬ IsB L l' d') := Lib.hid (fun e => HB.out l hPH.out (.inr (by rw [hjH.out, ← hE1.out, ← hE2.out]; exact e)))
          have W0 := Lib.hid hIH.out.bel.drew
          obtain ⟨Q, hQ⟩ : ∃ Q, (E1 == E2) = Q := ⟨_, rfl⟩
          have hyes : Hid (Q = true → IsB L l d) := Lib.hid (fun e => hyes.out (by rw [e] at hQ; exact beq_iff_eq.1 hQ))
          have hnot : Hid (Q = false → ∀ l' d', ¬ IsB L l' d') := Lib.hid (fun e => hnot.out (by rw [e] at hQ; exact beq_eq_false_iff_ne.1 hQ))
          go_upto_region 14 with fail
          refine wp_region_held_drew (S := (fun v => Hid (Below w.heap.size w v))) (by kernel_rfl) (W0) (fun hHeld => ?_)
          refine held_take (i := 0) (v := ?_) rfl (by kernel_rfl) (by kernel_rfl) (by kernel_rfl) (fun _ _ _ h => h) (by rfl) (fun w hSw => ?_) (by assumption) ?_; rotate_left 1; focus (((try dsimp only at hSw); first | (go_simp; done) | (go_simp; with_reducible rfl)))
          try simp only [Act.put, List.setIfInBounds_toArray, List.set_cons_zero, List.set_cons_succ]
          refine held_call (i := 1) (by kernel_rfl) rfl (by rfl) (fun K hK => ?_)
          go_simp
          (go_at_call 12; ((with_reducible refine (order_any (RSH.out.below B0.out (Nat.le_refl _))).mono ?_); rw [← hT.out]; rintro e u1 ⟨rfl, hb1⟩))
          have I1 := Lib.hid (hIH.out.keep (below_of (w := wr) B0.out hb1))
          clear hb1
          refine hK.out _ _ (Lib.hid I1.out.bel) (fun hHeld => ?_)
          try simp only [Act.put, List.setIfInBounds_toArray, List.set_cons_zero, List.set_cons_succ]
          refine held_take (i := 2) (v := ?_) rfl (by kernel_rfl) (by kernel_rfl) (by kernel_rfl) (fun _ _ _ h => h) (by rfl) (fun w hSw => ?_) (by assumption) ?_; rotate_left 1; focus (((try dsimp only at hSw); first | (go_simp; done) | (go_simp; with_reducible rfl)))
          try simp only [Act.put, List.setIfInBounds_toArray, List.set_cons_zero, List.set_cons_succ]
          refine held_take (i := 3) (v := ?_) rfl (by kernel_rfl) (by kernel_rfl) (by kernel_rfl) (fun _ _ _ h => h) (by rfl) (fun w hSw => ?_) (by assumption) ?_; rotate_left 1; focus (((try dsimp only at hSw); first | (go_simp; done) | (go_simp; with_reducible rfl)))
          try simp only [Act.put, List.setIfInBounds_toArray, List.set_cons_zero, List.set_cons_succ]
          refine held_take (i := 4) (v := ?_) rfl (by kernel_rfl) (by kernel_rfl) (by kernel_rfl) (fun _ _ _ h => h) (by rfl) (fun w hSw => ?_) (by assumption) ?_; rotate_left 1; focus (((try dsimp only at hSw); first | (go_simp; done) | (go_simp; with_reducible rfl)))
          try simp only [Act.put, List.setIfInBounds_toArray, List.set_cons_zero, List.set_cons_succ]
          refine held_take (i := 5) (v := ?_) rfl (by kernel_rfl) (by kernel_rfl) (by kernel_rfl) (fun _ _ _ h => h) (by rfl) (fun w hSw => ?_) (by assumption) ?_; rotate_left 1; focus (((try dsimp only at hSw); first | (go_simp; done) | (go_simp; with_reducible rfl)))
          try simp only [Act.put, List.setIfInBounds_toArray, List.set_cons_zero, List.set_cons_succ]
          refine held_take (i := 6) (v := ?_) rfl (by kernel_rfl) (by kernel_rfl) (by kernel_rfl) (fun _ _ _ h => h) (by rfl) (fun w hSw => ?_) (by assumption) ?_; rotate_left 1; focus (((try dsimp only at hSw); first | (go_simp; done) | (go_simp; with_reducible rfl)))
          try simp only [Act.put, List.setIfInBounds_toArray, List.set_cons_zero, List.set_cons_succ]
          refine held_take (i := 7) (v := ?_) rfl (by kernel_rfl) (by kernel_rfl) (by kernel_rfl) (fun _ _ _ h => h) (by rfl) (fun w hSw => ?_) (by assumption) ?_; rotate_left 1; focus (((try dsimp only at hSw); first | (go_simp; done) | (go_simp; with_reducible rfl)))
          try simp only [Act.put, List.setIfInBounds_toArray, List.set_cons_zero, List.set_cons_succ]
          refine held_take (i := 9) (v := ?_) rfl (by kernel_rfl) (by kernel_rfl) (by kernel_rfl) (fun _ _ _ h => h) (by rfl) (fun w hSw => ?_) (by assumption) ?_; rotate_left 1; focus (((try dsimp only at hSw); first | (go_simp; done) | (go_simp; with_reducible rfl)))
          try simp only [Act.put, List.setIfInBounds_toArray, List.set_cons_zero, List.set_cons_succ]
          refine held_call (i := 8) (by kernel_rfl) rfl (by rfl) (fun K hK => ?_)
          go_simp
          (go_at_call 28; ((with_reducible refine (bld_read I1.out.bld I1.out.lo).mono ?_); rintro e u2 ⟨rfl, hb2, hr2⟩))
          have W2 := Lib.hid (I1.out.bel.trans hb2)
          have O2 := Lib.hid (I1.out.read hr2)
          clear hb2 hr2
          refine hK.out _ _ (W2) (fun hHeld => ?_)
          try simp only [Act.put, List.setIfInBounds_toArray, List.set_cons_zero, List.set_cons_succ]
          refine held_call (i := 10) (by kernel_rfl) rfl (by rfl) (fun K hK => ?_)
          go_simp
          (go_at_call 29; ((with_reducible refine (BH2.out _).mono ?_); rintro e u3 ⟨rfl, hb3⟩))
          have W3 := Lib.hid (W2.out.trans (hb3.mono W2.out.size))
          have O3 := Lib.hid (own_belowB O2.out hb3)
          clear hb3
          refine hK.out _ _ (W3) (fun hHeld => ?_)
          try simp only [Act.put, List.setIfInBounds_toArray, List.set_cons_zero, List.set_cons_succ]
          refine held_take (i := 11) (v := ?_) rfl (by kernel_rfl) (by kernel_rfl) (by kernel_rfl) (fun _ _ _ h => h) (by rfl) (fun w hSw => ?_) (by assumption) ?_; rotate_left 1; focus (((try dsimp only at hSw); first | (go_simp; done) | (go_simp; with_reducible rfl)))
          try simp only [Act.put, List.setIfInBounds_toArray, List.set_cons_zero, List.set_cons_succ]
          refine held_take (i := 12) (v := ?_) rfl (by kernel_rfl) (by kernel_rfl) (by kernel_rfl) (fun _ _ _ h => h) (by rfl) (fun w hSw => ?_) (by assumption) ?_; rotate_left 1; focus (((try dsimp only at hSw); first | (go_simp; done) | (go_simp; with_reducible rfl)))
          try simp only [Act.put, List.setIfInBounds_toArray, List.set_cons_zero, List.set_cons_succ]
          refine wpAnyH_done (by kernel_rfl) ?_ _
          cases Q with
          | true =>
            have hB := Lib.hid (hyes.out rfl)
            go_wp2_with fail
            rw [jump_ret]
            go_returns
            obtain ⟨a2, c2, b2, e2, RS2, hb2⟩ := rs_of_row (l := l) O3.out
            rw [hjH.out] at e2 RS2 hb2
            simp only [Value.slice.injEq, true_and] at e2
            obtain ⟨rfl, rfl⟩ := e2
            refine .inl ⟨l, d, _, c, b2, hB.out, by rw [hjH.out]; rfl, by rw [hjH.out]; exact RS2, by rw [hjH.out]; exact hb2, W3.out⟩
          | false =>
            have hno := Lib.hid (hnot.out rfl)
            go_wp2_with fail
            go_step3
            refine ⟨rfl, ?_⟩
            go_wp2_with fail
            rw [Exit.noGoto_ret]
            go_returns
            exact .inr ⟨hno.out, rfl, W3.out⟩
      · have ti : t.isEmpty = false := by cases t; exact absurd rfl ht; rfl
        have hj4 : j ≤ 1024 := by rw [← hjN]; exact hl4
        replace hjN := Lib.hid hjN
        have I2 := Lib.hid (hI.keep (below_alloc wr (.cells #[.string ⟨#[]⟩, .int .u64 0, .int .i64 0, .string ⟨#[]⟩] 33)))
        have R2 := Lib.hid (RowAt.new rwZ wr)
        simp only [rwZ] at R2
        have hvb : Hid ((Value.slice a j c).ownBlock ≠ some wr.heap.size) := Lib.hid (fun e => by have := (World.ownsRow.lt hI.row wr.heap.size e).2; omega)
        have hlo := Lib.hid hI.lo
        have hK : Hid ((rows.length : Int) - (t.length : Int) = ((bodB d l j).length : Int)) := Lib.hid (by have := congrArg List.length hP.1; rw [List.length_append, hjN.out] at this; omega)
        have hbl : Hid ((bodB d l j).length < 4294967296) := Lib.hid (by have := congrArg List.length hP.1; rw [List.length_append, hjN.out] at this; omega)
        have hPH := Lib.hid hP
        have htH := Lib.hid ht
        obtain ⟨K, hKK⟩ := named (bodB d l j).length
        rw [← hKK.out] at hK hbl
        have hrt : rows.length - t.length = K := by have := hK.out; omega
        have hrt2 : (rows.length : Int) - (t.length : Int) = (K : Int) := hK.out
        clear ht hP hl4
        go_upto_if 26 with fail
        go_cut [10] from 26 to 40 (fun s wc => s = .string ⟨(prvB d l j).toArray⟩ ∧ DeI w.heap.size w (rstB d l j ++ (if j % d = 0 then le4 K else [])) l (.slice a j c) wc ∧ RowAt wr.heap.size ⟨⟨#[]⟩, 0, 0, ⟨#[]⟩⟩ wc)
        case first =>
          by_cases hm : j % d = 0
          · have hmH := Lib.hid hm
            have hpv : Hid (prvB d l j = []) := Lib.hid (by unfold prvB; rw [if_pos hm])
            have em : (j : Int) % (d : Int) = ((j % d : Nat) : Int) := (Int.natCast_emod j d).symm
            have g1 : ¬ (0 : Int) < (j : Int) % (d : Int) := by rw [em]; omega
            clear em
            clear hm
            have hln2 : Hid ((rstB d l j).length + (⟨(le4 K).toArray⟩ : ByteArray).size ≤ 140737488355328) := Lib.hid (by have := rstB_le d l j; show (rstB d l j).length + (le4 K).toArray.size ≤ _; rw [List.size_toArray, le4_len]; omega)
            go_wp2_with (first
              | (go_at_call 26; ((with_reducible refine (PN.out K hbl.out _).mono ?_); rintro e v1 ⟨rfl, hb2⟩; have I3 := Lib.hid (I2.out.keep hb2); have R3 := Lib.hid (R2.out.below hb2); clear hb2))
              | (go_at_call 25; ((with_reducible refine (bld_string_at I3.out.bld I3.out.lo ⟨(le4 K).toArray⟩ hln2.out).mono ?_); rintro e v2 ⟨rfl, hB4, hb4, hf4⟩; have I4 := Lib.hid (I3.out.wrote hB4 hb4 hf4); have R4 := Lib.hid (rowAt_spares R3.out hf4 I3.out.bld); clear hB4 hb4 hf4)))
            go_meet
            exact ⟨by rw [hpv.out], by rw [if_pos hmH.out]; exact I4.out, R4.out⟩
          · have hmH := Lib.hid hm
            have hj0 : 0 < j := by rcases Nat.eq_zero_or_pos j with e | e; exact absurd (by rw [e]; exact Nat.zero_mod d) hm; exact e
            obtain ⟨m, rfl⟩ : ∃ m, j = m + 1 := ⟨j - 1, by omega⟩
            obtain ⟨a', c', b', e1, RS, _⟩ := rs_of_row (l := l) I2.out.row
            rw [hjN.out] at e1 RS
            simp only [Value.slice.injEq, true_and] at e1
            obtain ⟨rfl, rfl⟩ := e1
            obtain ⟨x, hx, rfl, x0, _⟩ := RS.at4 (j := m) (by omega)
            have hpv : Hid (prvB d l (m + 1) = x.key.toList) := Lib.hid (by unfold prvB; rw [if_neg hm, Nat.add_sub_cancel, rwAt_some hx])
            rw [Nat.zero_add] at x0
            have em : ((m + 1 : Nat) : Int) % (d : Int) = (((m + 1) % d : Nat) : Int) := (Int.natCast_emod (m + 1) d).symm
            have g1 : (0 : Int) < ((m + 1 : Nat) : Int) % (d : Int) := by rw [em]; omega
            clear em
            have w1 : wrap64 ((m : Int) + 1 - 1) = (m : Int) := by unfold wrap64; omega
            have w2 : IntKind.i64.wrap (m : Int) = (m : Int) := by rw [IntKind.wrap_i64]; omega
            have w3 : wrap64 (m : Int) = (m : Int) := by unfold wrap64; omega
            have i0 : (m : Int) < (m : Int) + 1 := by omega
            have i1 : m < m + 1 := by omega
            clear RS hx hm
            go_wp2_with fail
            go_meet
            exact ⟨by rw [hpv.out, ofL], by rw [if_neg hmH.out, List.append_nil]; exact I2.out, R2.out⟩
        case rest =>
          obtain ⟨rfl, hI5, hR5⟩ := hcut
          have I5 := Lib.hid hI5
          have R5 := Lib.hid hR5
          have hpl : (prvB d l j).length ≤ 520 := prvB_le hPH.out.2.1 (by rw [hjN.out]; exact Nat.le_refl j)
          have CX := Lib.hid (CR.out t (prvB d l j) htl hpl)
          obtain ⟨P, hP⟩ := named (prvB d l j)
          rw [← hP.out] at CX ⊢
          obtain ⟨C, hC⟩ := named (cutX t P)
          rw [← hC.out] at CX
          have hrb : Hid (w.heap.size ≤ wr.heap.size) := Lib.hid hlo.out
          have htN := Lib.hid htl
          clear I2 R2 hI hI5 hR5 hK hbl hrt hrt2 hlo hpl htl
          cases C with
          | none =>
            unfold cutV at CX
            have hno : Hid (∀ l' d', ¬ IsB L l' d') := Lib.hid (HF.out l t hPH.out htH.out (.inl (by rw [hjN.out, ← hP.out, ← hC.out])))
            go_wp2_with (go_at_call 31; ((with_reducible refine (CX.out _).mono ?_); rintro e v6 ⟨rfl, hb6⟩; have I6 := Lib.hid (I5.out.keep hb6); have R6 := Lib.hid (R5.out.below hb6); clear hb6; obtain ⟨⟨c0, c1, c2, c3⟩, cf⟩ := R6.out.cells; simp only at c0 c1 c2 c3; have f0 := cf 0; have f1 := cf 1; have f2 := cf 2; have f3 := cf 3; clear cf; have I7 := Lib.hid (I6.out.but R6.out (but_put4 wr.heap.size v6 rwZ) hrb.out hvb.out)))
            go_step3
            refine ⟨rfl, ?_⟩
            go_wp2_with fail
            rw [Exit.noGoto_ret]
            go_returns
            exact .inr ⟨hno.out, rfl, I7.out.bel⟩
          | some q =>
            obtain ⟨x, t'⟩ := q
            unfold cutV at CX
            have hT : Hid (rstB d l j ++ (if j % d = 0 then le4 K else []) = rstB d (l ++ [x]) (j + 1)) := Lib.hid (by
              have tk : (l ++ [x]).take j = l := by rw [← hjN.out]; simp
              rw [rstB_snoc, ← rstB_take d (l ++ [x]) (Nat.le_refl j), ← bodB_take d (l ++ [x]) (Nat.le_refl j), tk, hKK.out])
            have hcut2 : Hid (cutX t (prvB d l l.length) = some (x, t')) := Lib.hid (by rw [hjN.out, ← hP.out, ← hC.out])
            have htt : Hid (t'.length < t.length) := Lib.hid (by
              have h0 := (cutX_only hcut2.out).1
              have h1 := congrArg List.length h0
              have h2 := encX_pos (prvB d l l.length) x
              rw [List.length_append] at h1
              omega)
            obtain ⟨xk, xs, xi, xv⟩ := x
            have CX : Hid (∀ u, Calls Try.prog 31 #[.string ⟨t.toArray⟩, .string ⟨P.toArray⟩] u fun e w' => e = .returned (.tuple #[.agg #[.string xk, .int .u64 (xs : Int), .int .i64 xi, .string xv], .string ⟨t'.toArray⟩, .bool true]) ∧ Below u.heap.size u w') := CX
            by_cases hj1 : j = 1024
            · have g4 : ((j : Int) == 1024) = true := by rw [beq_iff_eq]; omega
              have hno : Hid (∀ l' d', ¬ IsB L l' d') := Lib.hid (HF.out l t hPH.out htH.out (.inr (by rw [hjN.out]; exact hj1)))
              have g4b : (j == 1024) = true := by rw [beq_iff_eq]; exact hj1
              clear hj1
              go_wp2_with (go_at_call 31; ((with_reducible refine (CX.out _).mono ?_); rintro e v6 ⟨rfl, hb6⟩; have I6 := Lib.hid (I5.out.keep hb6); have R6 := Lib.hid (R5.out.below hb6); clear hb6; obtain ⟨⟨c0, c1, c2, c3⟩, cf⟩ := R6.out.cells; simp only at c0 c1 c2 c3; have f0 := cf 0; have f1 := cf 1; have f2 := cf 2; have f3 := cf 3; clear cf; have I7 := Lib.hid (I6.out.but R6.out (but_put4 wr.heap.size v6 ⟨xk, xs, xi, xv⟩) hrb.out hvb.out)))
              go_step3
              refine ⟨rfl, ?_⟩
              go_wp2_with fail
              rw [Exit.noGoto_ret]
              go_returns
              exact .inr ⟨hno.out, rfl, I7.out.bel⟩
            · have g4 : ((j : Int) == 1024) = false := by rw [beq_eq_false_iff_ne]; omega
              have g4b : (j == 1024) = false := by rw [beq_eq_false_iff_ne]; exact hj1
              have hP2 := Lib.hid (HN.out l t t' _ hPH.out hcut2.out (by rw [hjN.out]; exact hj1))
              have e9 : Hid ((l ++ [(⟨xk, xs, xi, xv⟩ : Rw)]).length = j + 1) := Lib.hid (by rw [List.length_append, hjN.out]; exact rfl)
              obtain ⟨i0, hi, hz0, hz1, hz2⟩ := info_parts info_rowB
              go_upto_region 13 with (go_at_call 31; ((with_reducible refine (CX.out _).mono ?_); rintro e v6 ⟨rfl, hb6⟩; have I6 := Lib.hid (I5.out.keep hb6); have R6 := Lib.hid (R5.out.below hb6); clear hb6; obtain ⟨⟨c0, c1, c2, c3⟩, cf⟩ := R6.out.cells; simp only at c0 c1 c2 c3; have f0 := cf 0; have f1 := cf 1; have f2 := cf 2; have f3 := cf 3; clear cf; have I7 := Lib.hid (I6.out.but R6.out (but_put4 wr.heap.size v6 ⟨xk, xs, xi, xv⟩) hrb.out hvb.out); have R7 := Lib.hid (rowAt_put R6.out ⟨xk, xs, xi, xv⟩)))
              clear c0 c1 c2 c3 f0 f1 f2 f3 I6 R6
              generalize (((v6.setCell ⟨wr.heap.size, 0, none⟩ (.string xk)).setCell ⟨wr.heap.size, 1, none⟩ (.int .u64 (xs : Int))).setCell ⟨wr.heap.size, 2, none⟩ (.int .i64 xi)).setCell ⟨wr.heap.size, 3, none⟩ (.string xv) = v7 at *
              have I8 := Lib.hid (I7.out.keep (below_alloc v7 (.cells #[.string xk, .int .u64 (xs : Int), .int .i64 xi, .string xv] 33)))
              obtain ⟨c0, c1, c2, c3⟩ := R7.out.c4
              have hown := I8.out.row
              rw [hjN.out] at hown
              have hown := Lib.hid hown
              have hlo8 := Lib.hid I8.out.lo
              go_wp2_with (at_builtin; refine wpList_append_own _ rfl _ _ 23 rfl w.heap.size 33 i0 (.agg #[.string .empty, .int .u64 0, .int .i64 0, .string .empty]) 4 48 Try.underlying23 hi hz0 hz1 hz2 rfl (by decide) (.slice a j c) j (rowR l) (by rfl) hown.out ⟨v7.heap.size, 0, none⟩ 1 1 [.string xk, .int .u64 (xs : Int), .int .i64 xi, .string xv] (by rfl) rfl (World.news_of_block (heap_alloc_new _ _)) (row_oneB ⟨xk, xs, xi, xv⟩) (by unfold maxLen; omega) (by omega) hlo8.out ?_; intro v' w9 hown9 hgrow9 _; have I9 := Lib.hid (I8.out.grown (x := ⟨xk, xs, xi, xv⟩) (by rw [hjN.out]; exact hown9) hgrow9); obtain ⟨a2, c2', hv2⟩ : ∃ a2 c2', v' = .slice a2 (j + 1) c2' := (by rcases hown9.2 with ⟨e1, e0⟩ | ⟨g', cap, cur, e1, _⟩; exact absurd e0 (by omega); exact ⟨_, _, e1⟩); subst hv2; clear hown9 hgrow9)
              refine ⟨⟨l ++ [⟨xk, xs, xi, xv⟩], j + 1, t', a2, c2', e9.out, rfl, rfl, ?_, ?_⟩, ?_⟩
              · exact hP2.out
              · rw [← hT.out]
                exact I9.out
              · show t'.toArray.size < t.toArray.size
                rw [List.size_toArray, List.size_toArray]
                exact htt.out
end Go.Proofs.Ytnmlifagchdphaa
/-
  The contract of Rows, and the law's own answer that the document fixes: true. No condition.
-/
namespace Go.Proofs.Ytnmlifagchdphaa
set_option maxRecDepth 100000
open Go.RowKit
/-- What Rows answers. -/
def RowsD (L : List UInt8) (w : World) (e : Ending) (w' : World) : Prop :=
  (∃ l d a c b, IsB L l d ∧ e = .returned (.tuple #[.slice a l.length c, .int .i64 0]) ∧ Rs a l.length c b 0 l w' ∧ (0 < l.length → w.heap.size ≤ b) ∧ Below w.heap.size w w') ∨
  ((∀ l d, ¬ IsB L l d) ∧ e = .returned (.tuple #[.slice none 0 0, .int .i64 7]) ∧ Below w.heap.size w w')
set_option maxRecDepth 100000 in
set_option maxHeartbeats 2000000 in
theorem rows_any (L : List UInt8) (hL : L.length ≤ 1048576) (w : World) :
    Calls Try.prog 6 #[.string ⟨L.toArray⟩] w (RowsD L w) := by
  have D := Lib.hid (decode_any L hL w)
  go_enter Try.func6, Try.ntmps6
  go_wp2_with fail
  refine D.out.mono ?_
  rintro e w1 (⟨l, d, a, c, b, hB, rfl, hRs, hb, hw⟩ | ⟨hno, rfl, hw⟩)
  · have K := Lib.hid (show RowsD L w (.returned (.tuple #[.slice a l.length c, .int .i64 0])) w1 from .inl ⟨l, d, a, c, b, hB, rfl, hRs, hb, hw⟩)
    clear hB hRs hb hw
    go_wp2_with fail
    go_returns
    exact K.out
  · have K := Lib.hid (show RowsD L w (.returned (.tuple #[.slice none 0 0, .int .i64 7])) w1 from .inr ⟨hno, rfl, hw⟩)
    clear hno hw
    go_wp2_with fail
    go_returns
    exact K.out
def aw1 : Rw := ⟨⟨#[97, 98]⟩, 2, 1, ⟨#[120]⟩⟩
def aw2 : Rw := ⟨⟨#[97, 98]⟩, 1, 2, ⟨#[]⟩⟩
def aw3 : Rw := ⟨⟨#[98]⟩, 1, 1, ⟨#[]⟩⟩
theorem aw_ord : ordR [aw1, aw2, aw3] = true := by
  have e1 : ahd aw1 aw2.key aw2.seq = true := by unfold ahd aw1 aw2; simp [toL]
  have e2 : ahd aw2 aw3.key aw3.seq = true := by
    unfold ahd aw2 aw3
    rw [if_neg (by rw [toL, toL]; decide), toL, toL]
    decide
  simp [ordR, e1, e2]
theorem aw_chk : chkA [aw1, aw2, aw3] 16 = 0 := chkA_zero (d := 16) (by decide) (by decide) aw_ord (by
  intro x hx
  simp only [List.mem_cons, List.not_mem_nil, or_false] at hx
  rcases hx with rfl | rfl | rfl <;> decide) (by decide)
theorem aw_blk : blkB 16 [aw1, aw2, aw3] = [0, 2, 97, 98, 2, 1, 1, 120, 2, 0, 1, 2, 0, 1, 98, 1, 1, 0, 0, 0, 0, 0, 1, 0, 0, 0, 16, 0, 0, 0] := by
  have k1 : aw1.key.toList = [97, 98] := toL [97, 98]
  have k2 : aw2.key.toList = [97, 98] := toL [97, 98]
  have k3 : aw3.key.toList = [98] := toL [98]
  have v1 : aw1.val.toList = [120] := toL [120]
  have v3 : aw3.val.toList = [] := toL []
  have i0 : encI 16 [aw1, aw2, aw3] 0 = [0, 2, 97, 98, 2, 1, 1, 120] := by
    unfold encI prvB
    rw [if_pos (by decide)]
    show encX [] aw1 = _
    unfold encX valB
    rw [k1, v1, com_nil, if_pos (by decide)]
    rw [show aw1.seq = 2 by rfl, show aw1.val.size = 1 by rfl, show aw1.kind = 1 by rfl]
    rw [show ([97, 98] : List UInt8).drop 0 = [97, 98] by rfl, Code.uvar_small (n := 0) (by decide), Code.uvar_small (n := 2) (by decide), Code.uvar_small (n := 1) (by decide), show ([97, 98] : List UInt8).length = 2 by rfl, Code.uvar_small (n := 2) (by decide)]
    rfl
  have i1 : encI 16 [aw1, aw2, aw3] 1 = [2, 0, 1, 2] := by
    unfold encI prvB
    rw [if_neg (by decide)]
    show encX aw1.key.toList aw2 = _
    unfold encX valB
    rw [k1, k2, show com [97, 98] [97, 98] = 2 by decide, if_neg (by decide)]
    rw [show aw2.seq = 1 by rfl, show aw2.kind = 2 by rfl]
    rw [show ([97, 98] : List UInt8).drop 2 = [] by rfl, Code.uvar_small (n := 2) (by decide), Code.uvar_small (n := 1) (by decide), show ([] : List UInt8).length = 0 by rfl, Code.uvar_small (n := 0) (by decide)]
    rfl
  have i2 : encI 16 [aw1, aw2, aw3] 2 = [0, 1, 98, 1, 1, 0] := by
    unfold encI prvB
    rw [if_neg (by decide)]
    show encX aw2.key.toList aw3 = _
    unfold encX valB
    rw [k2, k3, v3, show com [97, 98] [98] = 0 by decide, if_pos (by decide)]
    rw [show aw3.seq = 1 by rfl, show aw3.val.size = 0 by rfl, show aw3.kind = 1 by rfl]
    rw [show ([98] : List UInt8).drop 0 = [98] by rfl, Code.uvar_small (n := 0) (by decide), Code.uvar_small (n := 1) (by decide), show ([98] : List UInt8).length = 1 by rfl, Code.uvar_small (n := 1) (by decide)]
    rfl
  have b0 : bodB 16 [aw1, aw2, aw3] 0 = [] := rfl
  have b3 : bodB 16 [aw1, aw2, aw3] 3 = [0, 2, 97, 98, 2, 1, 1, 120, 2, 0, 1, 2, 0, 1, 98, 1, 1, 0] := by
    rw [bodB_snoc, bodB_snoc, bodB_snoc, b0, i0, i1, i2]; rfl
  have r3 : rstB 16 [aw1, aw2, aw3] 3 = [0, 0, 0, 0] := by
    rw [rstB_snoc, rstB_snoc, rstB_snoc, b0]
    rw [if_pos (by decide), if_neg (by decide), if_neg (by decide)]
    rfl
  show bodB 16 [aw1, aw2, aw3] 3 ++ tailB (rstB 16 [aw1, aw2, aw3] 3) 16 = _
  rw [b3, r3]
  rfl
theorem aw_build : buildB [aw1, aw2, aw3] 16 = ([0, 2, 97, 98, 2, 1, 1, 120, 2, 0, 1, 2, 0, 1, 98, 1, 1, 0, 0, 0, 0, 0, 1, 0, 0, 0, 16, 0, 0, 0], 0) := by
  unfold buildB
  rw [aw_chk, if_neg (by simp), show (16 : Int).toNat = 16 from rfl, aw_blk, if_neg (by decide)]
theorem aw_none : ∀ l d, ¬ IsB [0, 0, 0, 0, 0, 0, 0, 0] l d := fun l d h => by
  have := ptB_isB h
  rw [show ptB [0, 0, 0, 0, 0, 0, 0, 0] = none by decide] at this
  cases this
theorem aw_rs (w : World) : Rs (some ⟨w.heap.size, 0, none⟩) 3 3 w.heap.size 0 [aw1, aw2, aw3] (w.alloc (.cells #[.string ⟨#[97, 98]⟩, .int .u64 2, .int .i64 1, .string ⟨#[120]⟩, .string ⟨#[97, 98]⟩, .int .u64 1, .int .i64 2, .string ⟨#[]⟩, .string ⟨#[98]⟩, .int .u64 1, .int .i64 1, .string ⟨#[]⟩] 33)) := by
  refine ⟨rfl, Nat.le_refl _, by omega, fun _ => ⟨rfl, by simp⟩, fun j x hx => ?_⟩
  have hj : j < 3 := (List.getElem?_eq_some_iff.1 hx).1
  rcases (show j = 0 ∨ j = 1 ∨ j = 2 by omega) with rfl | rfl | rfl
  all_goals (
    simp only [List.getElem?_cons_zero, List.getElem?_cons_succ, Option.some.injEq] at hx
    subst hx
    refine ⟨?_, ?_, ?_, ?_⟩ <;> (rw [World.cell?_alloc_new]; rfl))
set_option maxRecDepth 100000 in
set_option maxHeartbeats 4000000 in
theorem awake_any (w : World) : Calls Try.prog 5 #[] w fun e w' => e = .returned (.bool true) ∧ Below w.heap.size w w' := by
  have RS := Lib.hid (aw_rs w)
  have W0 := Lib.hid (below_alloc w (.cells #[.string ⟨#[97, 98]⟩, .int .u64 2, .int .i64 1, .string ⟨#[120]⟩, .string ⟨#[97, 98]⟩, .int .u64 1, .int .i64 2, .string ⟨#[]⟩, .string ⟨#[98]⟩, .int .u64 1, .int .i64 1, .string ⟨#[]⟩] 33))
  have BC := Lib.hid (build_any 16 RS.out)
  rw [aw_build] at BC
  go_enter Try.func5, Try.ntmps5
  go_wp2_with (first
    | (go_at_call 11; ((with_reducible refine BC.out.mono ?_); rintro e w1 ⟨rfl, hb1⟩; have R1 := Lib.hid (RS.out.below hb1 (Nat.le_refl _)); have W1 := Lib.hid (below_of W0.out hb1); clear hb1))
    | (go_at_call 6; ((with_reducible refine (rows_any [0, 0, 0, 0, 0, 0, 0, 0] (by decide) _).mono ?_); rintro e w2 (⟨l, d, _, _, _, hB, _⟩ | ⟨_, rfl, hb2⟩); (try exact absurd hB (aw_none l d)); have R2 := Lib.hid (R1.out.below hb2 (Nat.le_refl _)); have W2 := Lib.hid (below_of W1.out hb2); clear hb2))
    | (go_at_call 12; ((with_reducible refine (order_any R2.out).mono ?_); rw [aw_ord]; rintro e w3 ⟨rfl, hb3⟩; have W3 := Lib.hid (below_of W2.out hb3); clear hb3)))
  go_returns
  exact ⟨rfl, W3.out⟩
end Go.Proofs.Ytnmlifagchdphaa
/-
  The program's types are laid out. No condition.
-/
namespace Go.Proofs.Ytnmlifagchdphaa
set_option maxRecDepth 100000
open Go Go.RowKit Go.ChangeShapes
theorem laid_out : laidOutB Try.prog = true := by kernel_rfl
end Go.Proofs.Ytnmlifagchdphaa
/-
  Slices of slices of rows. No condition.
-/
namespace Go.Proofs.Ytnmlifagchdphaa
set_option maxRecDepth 100000
open Go.RowKit
theorem size_rowB (w : World) : (Go.sizeOf (Try.prog.elem 23)).run Try.prog w = .ok 4 w := by
  obtain ⟨i0, hi, hz0, hz1, hz2⟩ := info_parts (show (Try.prog.info? (Try.prog.elem 23)).map (fun i => (i.zero, i.size, i.bytes)) = some (some (.agg #[.string .empty, .int .u64 0, .int .i64 0, .string .empty]), 4, 48) by kernel_rfl)
  simp [Go.sizeOf, typeInfo, hi, hz1]
theorem slr_upto (p : Option Addr) (n c k : Nat) (hk : k ≤ c) (u : World) : (Instr.slice 23 (.slice p n c) none (some (.int .i64 (k : Int))) none).run Try.prog u = .ok (.slice p k c) u := by
  rw [run_slice_h u 23 p n c (by kernel_rfl) .i64 (k : Int) (by omega) (by omega), size_rowB]
  cases p <;> simp [Result.andThen, sliced, Addr.add]
theorem Rs.upto {a : Option Addr} {n c b o : Nat} {l : List Rw} {w : World} (h : Rs a n c b o l w) {k : Nat} (hk : k ≤ n) : Rs a k c b o (l.take k) w :=
  ⟨by rw [List.length_take, h.len]; omega, by have := h.cap; omega, h.most, fun h0 => h.addr (by omega), fun j x hx => by
    rw [List.getElem?_take] at hx
    split at hx
    · exact h.at' j x hx
    · cases hx⟩
theorem addr_add (b o k : Nat) : (⟨b, o, none⟩ : Addr).add k = ⟨b, o + k, none⟩ := by
  unfold Addr.add
  split
  · rename_i h; rw [h]; rfl
  · rfl
/-- Where the rows from the k-th on lie. -/
def fromA (p : Option Addr) (c k : Nat) : Option Addr := if c = k then p else p.map (·.add (k * 4))
theorem slr_from (p : Option Addr) (n c k : Nat) (hk : k ≤ n) (x : Int) (hx : x = (k : Int)) (u : World) : (Instr.slice 23 (.slice p n c) (some (.int .i64 x)) none none).run Try.prog u = .ok (.slice (fromA p c k) (n - k) (c - k)) u := by
  subst hx
  rw [run_slice_l u 23 p n c (by kernel_rfl) .i64 (k : Int) (by omega) (by omega), size_rowB]
  simp only [Result.andThen, sliced, Int.toNat_natCast, fromA]
theorem slr_mid (p : Option Addr) (n c k m : Nat) (hk : k ≤ m) (hm : m ≤ c) (u : World) : (Instr.slice 23 (.slice p n c) (some (.int .i64 (k : Int))) (some (.int .i64 (m : Int))) none).run Try.prog u = .ok (.slice (fromA p c k) (m - k) (c - k)) u := by
  rw [run_slice_lh u 23 p n c (by kernel_rfl) .i64 .i64 (k : Int) (m : Int) (by omega) (by omega) (by omega), size_rowB]
  simp only [Result.andThen, sliced, Int.toNat_natCast, fromA]
theorem Rs.mid {p : Option Addr} {n c b o : Nat} {l : List Rw} {w : World} (h : Rs p n c b o l w) {k m : Nat} (hk : k ≤ m) (hm : m ≤ n) : Rs (fromA p c k) (m - k) (c - k) b (o + k * 4) ((l.take m).drop k) w := by
  have hc := h.cap
  refine ⟨by rw [List.length_drop, List.length_take, h.len]; omega, by omega, by have := h.most; omega, fun h0 => ?_, fun j x hx => ?_⟩
  · obtain ⟨rfl, hb⟩ := h.addr (by omega)
    refine ⟨?_, hb⟩
    unfold fromA
    rw [if_neg (by omega)]
    simp [addr_add]
  · rw [List.getElem?_drop, List.getElem?_take] at hx
    split at hx
    · have := h.at' (k + j) x hx
      rw [show o + (k + j) * 4 = o + k * 4 + j * 4 by omega] at this
      exact this
    · cases hx
theorem Rs.from {p : Option Addr} {n c b o : Nat} {l : List Rw} {w : World} (h : Rs p n c b o l w) {k : Nat} (hk : k ≤ n) : Rs (fromA p c k) (n - k) (c - k) b (o + k * 4) (l.drop k) w := by
  have := h.mid hk (Nat.le_refl n)
  rwa [List.take_of_length_le (by rw [h.len]; exact Nat.le_refl _)] at this
theorem same_rowsB {p1 p2 : Option Addr} {n1 c1 b1 o1 n2 c2 b2 o2 : Nat} {l : List Rw} {w : World} (h1 : Rs p1 n1 c1 b1 o1 l w) (h2 : Rs p2 n2 c2 b2 o2 l w) :
    Calls Try.prog 8 #[.slice p1 n1 c1, .slice p2 n2 c2] w fun e w' => e = .returned (.bool true) ∧ Below w.heap.size w w' := by
  have := samerows_any h1 h2
  simpa using this
end Go.Proofs.Ytnmlifagchdphaa
/-
  A slice of structs that came in as an argument, whatever its element: opened once, over how one element reads. Rows (api.Row) and slices of rows. No condition.
-/
namespace Go.Proofs.Ytnmlifagchdphaa
open Go Go.RowKit Go.ChangeShapes Go.WideShapes Go.Deep
set_option maxRecDepth 100000
theorem weights_of {H : Type} {P : Program} {e : TypeId} : ∀ {l : List (DataW H)} {d : DataW H} {n : Nat}, d ∈ l → n ∈ d.weights P e → n ∈ DataW.weightsAll P e l
  | [], _, _, h, _ => by cases h
  | x :: r, d, n, h, hn => by
    rw [DataW.weightsAll]
    rcases List.mem_cons.1 h with rfl | h
    · exact List.mem_append_left _ hn
    · exact List.mem_append_right _ (weights_of h hn)
/-- A slice of elements of k cells: where it lies, and what it holds. -/
structure SlOf {α : Type} (k : Nat) (cells : α → List Value) (a : Option Addr) (n c b o : Nat) (l : List α) (w : World) : Prop where
  len : l.length = n
  cap : n ≤ c
  most : c ≤ 9223372036854775807
  addr : 0 < n → a = some ⟨b, o, none⟩ ∧ b < w.heap.size
  at' : ∀ j x, l[j]? = some x → ∀ m u, (cells x)[m]? = some u → w.cell? ⟨b, o + j * k + m, none⟩ = some u
theorem open_slice_of {α : Type} [Inhabited α] {H : Type} {enc : TypeId × Value → H} {W : World} {a0 : Option Addr} {len cap fuel : Nat} {x : DataW H × List MemPlace} {T E : TypeId} (k : Nat) (hT : Try.prog.underlying T = some (.slice E)) (hk : Try.prog.cellsOf E = k) (hk0 : 0 < k)
    (cells : α → List Value) (hcl : ∀ v, (cells v).length = k) (Good : α → Prop) (Ns : α → List Nat)
    (read : ∀ {fuel : Nat} {cs : List Value} {y : DataW H × List MemPlace}, DataW.trod enc Try.prog W 0 (fun _ => true) true fuel E cs = some y → ∃ v : α, cs = cells v ∧ Good v ∧ ∀ n ∈ Ns v, n ∈ y.1.weights Try.prog E)
    (hf : DataW.trod enc Try.prog W 0 (fun _ => true) true fuel T [.slice a0 len cap] = some x) (hsz : ∀ n ∈ x.1.weights Try.prog T, n ≤ reachBytes) :
    ∃ b o l, SlOf k cells a0 len cap b o l W ∧ ∀ v ∈ l, Good v ∧ ∀ n ∈ Ns v, n ≤ reachBytes := by
  rcases DataW.trod_slice hT hf with ⟨hcs, _⟩ | ⟨a, len', cap', elems, rest, n, _, hcs, hx, _, hl, hm, hlen, hel, _, _⟩
  · simp at hcs
    obtain ⟨rfl, rfl, rfl⟩ := hcs
    exact ⟨0, 0, [], ⟨rfl, Nat.le_refl _, by omega, fun h => absurd h (by omega), fun j x hx => by simp at hx⟩, fun x hx => by cases hx⟩
  · simp at hcs
    obtain ⟨rfl, rfl, rfl⟩ := hcs
    obtain ⟨b, off, spot⟩ := a
    have el : ∀ i, i < len → ∃ v : α, (∀ m u, (cells v)[m]? = some u → W.cell? ((⟨b, off, spot⟩ : Addr).add (i * k + m)) = some u) ∧ Good v ∧ ∃ y, elems[i]? = some y ∧ ∀ n ∈ Ns v, n ∈ y.1.weights Try.prog E := by
      intro i hi
      have h1 := hel i hi
      rw [hk] at h1
      have hys : elems[i]? = some (elems[i]'(by omega)) := List.getElem?_eq_getElem (by omega)
      rw [hys] at h1
      obtain ⟨cs, hc, ht'⟩ := Option.bind_eq_some_iff.1 h1
      obtain ⟨v, rfl, hg, hy⟩ := read ht'
      obtain ⟨_, hcl', hat⟩ := World.cells?_some hc
      refine ⟨v, fun m u hu => ?_, hg, _, hys, hy⟩
      have hm5 : m < k := by have := (List.getElem?_eq_some_iff.1 hu).1; rw [hcl] at this; exact this
      rw [← Go.Deep.add_add, hat m hm5, hu]
    obtain ⟨vf, hvf⟩ : ∃ vf : Nat → α, ∀ i, i < len → (∀ m u, (cells (vf i))[m]? = some u → W.cell? ((⟨b, off, spot⟩ : Addr).add (i * k + m)) = some u) ∧ Good (vf i) ∧ ∃ y, elems[i]? = some y ∧ ∀ n ∈ Ns (vf i), n ∈ y.1.weights Try.prog E := by
      refine ⟨fun i => if h : i < len then (el i h).choose else default, fun i hi => ?_⟩
      simp only [dif_pos hi]
      exact (el i hi).choose_spec
    have hwt : ∀ i, i < len → ∀ n, n ∈ Ns (vf i) → n ≤ reachBytes := by
      intro i hi n hn
      obtain ⟨_, _, y, hy, he⟩ := hvf i hi
      refine hsz n ?_
      rw [hx, DataW.weights, hT]
      exact List.mem_cons_of_mem _ (List.mem_append_left _ (weights_of (List.mem_map.2 ⟨y, List.mem_of_getElem? hy, rfl⟩) (he n hn)))
    have hspot : 0 < len → spot = none := fun h0 => by
      obtain ⟨hcell, _⟩ := hvf 0 h0
      have := hcell 0 _ (List.getElem?_eq_getElem (by rw [hcl]; exact hk0))
      simpa [Addr.add] using World.cell?_spot this
    unfold maxLen at hm
    refine ⟨b, off, (List.range len).map vf, ⟨by simp, hl, by omega, fun h0 => ?_, fun j v hj m u hu => ?_⟩, fun v hv => ?_⟩
    · have hs := hspot h0
      subst hs
      obtain ⟨hcell, _⟩ := hvf 0 h0
      have hb := World.block_lt_of_cell? _ _ (hcell 0 _ (List.getElem?_eq_getElem (by rw [hcl]; exact hk0)))
      exact ⟨rfl, by simpa [Addr.add] using hb⟩
    · have hjl : j < len := by have := (List.getElem?_eq_some_iff.1 hj).1; simpa using this
      have hvj : v = vf j := by simpa [hjl] using hj.symm
      subst hvj
      have hs := hspot (by omega)
      subst hs
      obtain ⟨hcell, _⟩ := hvf j hjl
      have := hcell m u hu
      have e1 : (⟨b, off, none⟩ : Addr).add (j * k + m) = ⟨b, off + j * k + m, none⟩ := by
        unfold Addr.add
        split
        · rename_i h0
          rw [show off + j * k + m = off by omega]
        · simp only [Addr.mk.injEq, true_and, and_true]; omega
      rw [e1] at this
      exact this
    · obtain ⟨i, hi, rfl⟩ := List.mem_map.1 hv
      have hil : i < len := List.mem_range.1 hi
      exact ⟨(hvf i hil).2.1, hwt i hil⟩
/-- A row's cells. -/
def cellsR (x : Rw) : List Value := [.string x.key, .int .u64 (x.seq : Int), .int .i64 x.kind, .string x.val]
instance : Inhabited Rw := ⟨⟨.empty, 0, 0, .empty⟩⟩
/-- What holds of each row that came in. -/
def RwIn (x : Rw) : Prop := x.key.size ≤ 281474976710656 ∧ x.val.size ≤ 281474976710656 ∧ x.seq ≤ 18446744073709551615
theorem rw_read {H : Type} {enc : TypeId × Value → H} {w : World} {fuel : Nat} {cs : List Value} {y : DataW H × List MemPlace} (h : DataW.trod enc Try.prog w 0 (fun _ => true) true fuel 33 cs = some y) :
    ∃ x : Rw, cs = cellsR x ∧ x.seq ≤ 18446744073709551615 ∧ ∀ n ∈ [x.key.size, x.val.size], n ∈ y.1.weights Try.prog 33 := by
  have oc : Try.prog.cellsOf 33 = 4 := by kernel_rfl
  have i1 : Try.prog.cellsOf 3 = 1 := by kernel_rfl
  have q1 : Try.prog.cellsOf 29 = 1 := by kernel_rfl
  have s1 : Try.prog.cellsOf 9 = 1 := by kernel_rfl
  obtain ⟨xs, n, _, hx, hsz, hn, hg⟩ := DataW.trod_struct Try.underlying33 h
  have g0 := hg 0 _ rfl
  have g1 := hg 1 _ rfl
  have g2 := hg 2 _ rfl
  have g3 := hg 3 _ rfl
  clear hg h
  rw [oc] at hsz
  have hm : xs.length = 4 := hn
  match cs, hsz with
  | [c0, c1, c2, c3], _ =>
    match xs, hm with
    | [y0, y1, y2, y3], _ =>
      obtain ⟨a0, e0, f0, w0⟩ := DataW.trod_string Try.underlying9 g0
      obtain ⟨a1, e1, f1, w1⟩ := DataW.trod_int Try.underlying29 g1
      obtain ⟨a2, e2, f2, w2⟩ := DataW.trod_int Try.underlying3 g2
      obtain ⟨a3, e3, f3, w3⟩ := DataW.trod_string Try.underlying9 g3
      simp [i1, s1, q1] at e0 e1 e2 e3
      subst e0 e1 e2 e3 f0 f1 f2 f3
      have hr : 0 ≤ a1 ∧ a1 ≤ 18446744073709551615 := by simpa [Lit.wf, IntKind.min, IntKind.max, IntKind.signed, IntKind.bits] using w1
      have e5 : ((a1.toNat : Nat) : Int) = a1 := by omega
      refine ⟨⟨a0, a1.toNat, a2, a3⟩, by simp only [cellsR, e5], by show a1.toNat ≤ _; omega, fun m hm => ?_⟩
      have hy : y.1 = .agg [.lit (.string a0.data.toList), .lit (.int .u64 a1), .lit (.int .i64 a2), .lit (.string a3.data.toList)] := by rw [hx]; rfl
      rw [hy]
      simp only [DataW.weights, Try.underlying33, DataW.weightsEach, List.map_cons, List.map_nil]
      have e : ∀ s : ByteArray, s.data.toList.length = s.size := fun s => by rw [Array.length_toList]; rfl
      simp only [List.mem_cons, List.not_mem_nil, or_false] at hm
      rcases hm with rfl | rfl
      · rw [← e]; simp
      · rw [← e]; simp
theorem rwIn_of {x : Rw} (h : x.seq ≤ 18446744073709551615) (hn : ∀ n ∈ [x.key.size, x.val.size], n ≤ reachBytes) : RwIn x := by
  have h1 := hn _ (List.mem_cons_self ..)
  have h2 := hn x.val.size (by simp)
  unfold reachBytes at h1 h2
  exact ⟨by omega, by omega, h⟩
/-- Rows that came in. -/
theorem open_rows {H : Type} {enc : TypeId × Value → H} {W : World} {a0 : Option Addr} {len cap fuel : Nat} {x : DataW H × List MemPlace} {ts : List TypeId} {ds : List (DataW H)}
    (hf : DataW.trod enc Try.prog W 0 (fun _ => true) true fuel 23 [.slice a0 len cap] = some x) (hsz : (DataW.weightsEach Try.prog ts ds).all (· ≤ reachBytes) = true) {j : Nat} (ht : ts[j]? = some 23) (hd : ds[j]? = some x.1) :
    ∃ b o l, Rs a0 len cap b o l W ∧ ∀ v ∈ l, RwIn v := by
  have oc : Try.prog.cellsOf 33 = 4 := by kernel_rfl
  obtain ⟨b, o, l, hs, hg⟩ := open_slice_of (α := Rw) 4 Try.underlying23 oc (by omega) cellsR (fun _ => rfl) (fun v => v.seq ≤ 18446744073709551615) (fun v => [v.key.size, v.val.size]) rw_read hf
    (fun m hm => by have := List.all_eq_true.1 hsz _ (DataW.weights_mem_each ht hd m hm); simpa using this)
  refine ⟨b, o, l, ⟨hs.len, hs.cap, hs.most, hs.addr, fun j v hj => ?_⟩, fun v hv => rwIn_of (hg v hv).1 (hg v hv).2⟩
  exact ⟨hs.at' j v hj 0 _ rfl, hs.at' j v hj 1 _ rfl, hs.at' j v hj 2 _ rfl, hs.at' j v hj 3 _ rfl⟩
/-- A row that came in. -/
theorem open_row {H : Type} {enc : TypeId × Value → H} {W : World} {b0 : Nat} {r : Reach} {v : Value} {d : DataW H} {ps : List MemPlace} {ts : List TypeId} {ds : List (DataW H)}
    (hv : Value.okWide Try.prog W r b0 33 v) (h : DataW.Trod enc Try.prog W 0 (fun _ => true) true 33 v d ps)
    (hsz : (DataW.weightsEach Try.prog ts ds).all (· ≤ reachBytes) = true) {j : Nat} (ht : ts[j]? = some 33) (hd : ds[j]? = some d) :
    ∃ x : Rw, v = .agg #[.string x.key, .int .u64 (x.seq : Int), .int .i64 x.kind, .string x.val] ∧ RwIn x := by
  obtain ⟨cs, rfl, hsz2⟩ := okWide_struct Try.underlying33 hv
  obtain ⟨fuel, hf⟩ := h
  obtain ⟨x, hc, hq, hw⟩ := rw_read hf
  obtain ⟨l⟩ := cs
  have hc' : l = cellsR x := hc
  subst hc'
  exact ⟨x, rfl, rwIn_of hq fun n hn => by
    have := List.all_eq_true.1 hsz _ (DataW.weights_mem_each ht hd n (hw n hn)); simpa using this⟩
/-- Integers that came in. -/
def cellsI (x : Int) : List Value := [.int .i64 x]
theorem open_nums {H : Type} {enc : TypeId × Value → H} {W : World} {a0 : Option Addr} {len cap fuel : Nat} {x : DataW H × List MemPlace} {ts : List TypeId} {ds : List (DataW H)}
    (hf : DataW.trod enc Try.prog W 0 (fun _ => true) true fuel 42 [.slice a0 len cap] = some x) (hsz : (DataW.weightsEach Try.prog ts ds).all (· ≤ reachBytes) = true) {j : Nat} (ht : ts[j]? = some 42) (hd : ds[j]? = some x.1) :
    ∃ b o l, SlOf 1 cellsI a0 len cap b o l W ∧ ∀ v ∈ l, (Lit.int .i64 v).wf = true := by
  have i1 : Try.prog.cellsOf 3 = 1 := by kernel_rfl
  obtain ⟨b, o, l, hs, hg⟩ := open_slice_of (α := Int) 1 Try.underlying42 i1 (by omega) cellsI (fun _ => rfl) (fun v => (Lit.int .i64 v).wf = true) (fun _ => []) (fun {fuel cs y} h => by
      obtain ⟨a0, e0, f0, w0⟩ := DataW.trod_int Try.underlying3 h
      exact ⟨a0, e0, w0, fun n hn => by cases hn⟩) hf
    (fun m hm => by have := List.all_eq_true.1 hsz _ (DataW.weights_mem_each ht hd m hm); simpa using this)
  exact ⟨b, o, l, hs, fun v hv => (hg v hv).1⟩
theorem SlOf.keep {α : Type} {k : Nat} {cells : α → List Value} {a : Option Addr} {n c b o : Nat} {l : List α} {w w' : World} (h : SlOf k cells a n c b o l w) (hk : 0 < n → w'.heap[b]? = w.heap[b]?) (hs : w.heap.size ≤ w'.heap.size) : SlOf k cells a n c b o l w' := by
  refine ⟨h.len, h.cap, h.most, fun h0 => ⟨(h.addr h0).1, Nat.lt_of_lt_of_le (h.addr h0).2 hs⟩, fun j x hx m u hu => ?_⟩
  have hj : j < n := by rw [← h.len]; exact (List.getElem?_eq_some_iff.1 hx).1
  rw [World.cell?_of_block (a := ⟨b, o + j * k + m, none⟩) (hk (by omega))]
  exact h.at' j x hx m u hu
theorem SlOf.below {α : Type} {k : Nat} {cells : α → List Value} {a : Option Addr} {n c b o : Nat} {l : List α} {w w' : World} {B : Nat} (h : SlOf k cells a n c b o l w) (hb : Below B w w') (hB : w.heap.size ≤ B) : SlOf k cells a n c b o l w' := h.keep (fun h0 => hb.block b (Nat.lt_of_lt_of_le (h.addr h0).2 hB)) hb.size
end Go.Proofs.Ytnmlifagchdphaa
