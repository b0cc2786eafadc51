/-
  The contract of decode and Rows. Condition: at most 2^20 bytes.
-/
import Derived.Test.YtnmlifagchdphaaBlockMath2
import Derived.Test.YtnmlifagchdphaaBlockRow
import Derived.Test.YtnmlifagchdphaaAppendTwo
namespace Go.Proofs.Ytnmlifagchdphaa
set_option maxRecDepth 100000
open Go.RowKit
theorem own_belowB {w w' : World} {base size n : Nat} {e : TypeId} {v : Value} {xs : List Value} (h : w.ownsRow base e size v n xs) (hb : Below w.heap.size w w') : w'.ownsRow base e size v n xs :=
  h.kept ⟨hb.os, hb.tape, hb.output, hb.size, fun k hk _ => hb.block k hk⟩ (row := none) (by cases v.ownBlock <;> simp)
theorem own_keepB {w w' : World} {base size n : Nat} {e : TypeId} {v : Value} {xs : List Value} (h : w.ownsRow base e size v n xs) (hb : ∀ g cs, v.ownBlock = some g → w.heap[g]? = some (.cells cs e (0, 0)) → w'.heap[g]? = w.heap[g]?) : w'.ownsRow base e size v n xs := by
  refine ⟨h.1, ?_⟩
  rcases h.2 with hn | ⟨g, cap, cur, rfl, a1, a2, a3⟩
  · exact .inl hn
  · exact .inr ⟨g, cap, cur, rfl, a1, (hb g cur rfl a2).trans a2, a3⟩
theorem info_rowB : (Try.prog.info? 33).map (fun i => (i.zero, i.size, i.bytes)) = some (some (.agg #[.string .empty, .int .u64 0, .int .i64 0, .string .empty]), 4, 48) := by kernel_rfl
theorem row_oneB (x : Rw) : ∀ u ∈ [Value.string x.key, .int .u64 (x.seq : Int), .int .i64 x.kind, .string x.val], u.oneCell' = true := by
  intro u hu
  simp only [List.mem_cons, List.not_mem_nil, or_false] at hu
  rcases hu with rfl | rfl | rfl | rfl <;> rfl
/-- decode under way: a builder and rows of its own. -/
structure DeI (N : Nat) (w : World) (T : List UInt8) (l : List Rw) (v : Value) (V : World) : Prop where
  bld : Bld N N T V
  row : V.ownsRow N 33 4 v l.length (rowR l)
  bel : Below N w V
  lo : N ≤ V.heap.size
theorem DeI.keep {N : Nat} {w : World} {T : List UInt8} {l : List Rw} {v : Value} {V V' : World} (h : DeI N w T l v V) (hb : Below V.heap.size V V') : DeI N w T l v V' :=
  ⟨h.bld.below hb, own_belowB h.row hb, h.bel.trans (hb.mono h.lo), Nat.le_trans h.lo hb.size⟩
theorem DeI.wrote {N : Nat} {w : World} {T T' : List UInt8} {l : List Rw} {v : Value} {V V' : World} (h : DeI N w T l v V) (b : Bld N N T' V') (hb : Below N V V') (hf : Fr N V V') : DeI N w T' l v V' := by
  obtain ⟨u, c, _, ho⟩ := h.bld.own
  obtain ⟨ds, hd⟩ := h.bld.at'
  refine ⟨b, own_keepB h.row (fun g cs _ hc => (hf.2 u c).1 g (Array.getElem?_eq_some_iff.1 hc).1 (fun e => ?_) (fun e => ?_)), h.bel.trans hb, Nat.le_trans h.lo hf.1⟩
  · rw [e, hd] at hc
    simp only [Option.some.injEq, Obj.cells.injEq] at hc
    exact absurd hc.2.1 (by decide)
  · obtain ⟨_, es, he⟩ := ho g e
    rw [hc] at he
    simp only [Option.some.injEq, Obj.cells.injEq] at he
    exact absurd he.2.1 (by decide)
theorem Bld.but {B b p : Nat} {l : List UInt8} {w w' : World} (k : Bld B b l w) (hb : But p w w') {cs : Array Value} {t : TypeId} {m : Nat × Nat} (hp : w.heap[p]? = some (.cells cs t m)) (ht1 : t ≠ 53) (ht2 : t ≠ 5) : Bld B b l w' := by
  obtain ⟨ds, hd⟩ := k.at'
  refine k.keep (hb.block _ (Array.getElem?_eq_some_iff.1 hd).1 (fun e => ?_)) (fun v g hv hg => ?_)
  · rw [e, hp] at hd
    simp only [Option.some.injEq, Obj.cells.injEq] at hd
    exact ht1 hd.2.1
  · obtain ⟨u, c, _, ho⟩ := k.own
    rw [hv] at c
    cases c
    obtain ⟨hlt, es, he⟩ := ho g hg
    refine hb.block g hlt fun e => ?_
    rw [e, hp] at he
    simp only [Option.some.injEq, Obj.cells.injEq] at he
    exact ht2 he.2.1
theorem DeI.but {N p : Nat} {w : World} {T : List UInt8} {l : List Rw} {v : Value} {x : Rw} {V V' : World} (h : DeI N w T l v V) (hp : RowAt p x V) (hb : But p V V') (hN : N ≤ p) (hv : v.ownBlock ≠ some p) : DeI N w T l v V' :=
  ⟨h.bld.but hb hp (by decide) (by decide), own_keepB h.row (fun g cs hg hc => hb.block g (Array.getElem?_eq_some_iff.1 hc).1 (fun e => hv (by rw [hg, e]))), h.bel.trans (hb.below hN h.lo), Nat.le_trans h.lo hb.size⟩
theorem DeI.grown {N : Nat} {w : World} {T : List UInt8} {l : List Rw} {v v' : Value} {x : Rw} {V V' : World} (h : DeI N w T l v V) (hr : V'.ownsRow N 33 4 v' (l.length + 1) (rowR l ++ [.string x.key, .int .u64 (x.seq : Int), .int .i64 x.kind, .string x.val])) (hg : V.grownBy V' v.ownBlock) : DeI N w T (l ++ [x]) v' V' := by
  obtain ⟨ds, hd⟩ := h.bld.at'
  have tp : ∀ g cs, v.ownBlock = some g → ∀ cs', V.heap[g]? = some (.cells cs' cs (0, 0)) → cs = 33 := fun g cs hv cs' hc => by
    rcases h.row.2 with ⟨rfl, _⟩ | ⟨g', cap, cur, rfl, _, a2, _⟩
    · cases hv
    · have : g' = g := by simpa [Value.ownBlock] using hv
      subst this
      rw [a2] at hc
      simp only [Option.some.injEq, Obj.cells.injEq] at hc
      exact hc.2.1.symm
  refine ⟨h.bld.keep (hg.block _ (Array.getElem?_eq_some_iff.1 hd).1 (fun e => ?_)) (fun u g hu ho => ?_), ?_, h.bel.grown hg h.lo (fun k hk => (World.ownsRow.lt h.row k hk).1), Nat.le_trans h.lo hg.size⟩
  · exact absurd (tp N _ e.symm _ hd) (by decide)
  · obtain ⟨u', c, _, ho'⟩ := h.bld.own
    rw [hu] at c
    cases c
    obtain ⟨hlt, es, he⟩ := ho' g ho
    refine hg.block g hlt fun e => ?_
    exact absurd (tp g _ e.symm _ he) (by decide)
  · rw [rowR_snoc, List.length_append]
    exact hr
theorem dei_new (w : World) : DeI w.heap.size w [] [] (.slice none 0 0) (w.alloc (.cells #[.pointer none, .slice none 0 0] 53)) :=
  ⟨bld_new w, World.ownsRow_nil _ _ _ _, below_alloc _ _, by simp⟩
theorem DeI.read {N : Nat} {w : World} {T : List UInt8} {l : List Rw} {v : Value} {V V' : World} (h : DeI N w T l v V) (hr : Rd N V V') : V'.ownsRow N 33 4 v l.length (rowR l) := by
  obtain ⟨u, c, _, ho⟩ := h.bld.own
  refine own_keepB h.row (fun g cs _ hc => hr.2 u c g (Array.getElem?_eq_some_iff.1 hc).1 (fun e => ?_))
  obtain ⟨_, es, he⟩ := ho g e
  rw [hc] at he
  simp only [Option.some.injEq, Obj.cells.injEq] at he
  exact absurd he.2.1 (by decide)
/-- What decode answers. -/
def Decd (L : List UInt8) (w : World) (e : Ending) (w' : World) : Prop :=
  (∃ l d a c b, IsB L l d ∧ e = .returned (.tuple #[.slice a l.length c, .int .i64 (d : Int), .int .i64 0]) ∧ Rs a l.length c b 0 l w' ∧ (0 < l.length → w.heap.size ≤ b) ∧ Below w.heap.size w w') ∨
  ((∀ l d, ¬ IsB L l d) ∧ e = .returned (.tuple #[.slice none 0 0, .int .i64 0, .int .i64 7]) ∧ Below w.heap.size w w')
def sizeV : Value → Nat
  | .string s => s.size
  | _ => 0
set_option maxRecDepth 100000 in
set_option maxHeartbeats 8000000 in
theorem decode_any (L : List UInt8) (hL : L.length ≤ 1048576) (w : World) :
    Calls Try.prog 13 #[.string ⟨L.toArray⟩] w (Decd L w) := by
  have PT := Lib.hid (fun u => parts_any L (by omega) u)
  have I0 := Lib.hid (dei_new w)
  have CR := Lib.hid (fun L' P' h1 h2 u => cutrow_any L' P' h1 h2 u)
  cases hp : ptB L with
  | none =>
    rw [hp] at PT
    have hno : Hid (∀ l d, ¬ IsB L l d) := Lib.hid (fun l d h => by rw [ptB_isB h] at hp; cases hp)
    unfold ptV at PT
    clear hp
    go_enter Try.func13, Try.ntmps13
    go_wp2_with fail
    refine wp_scope_fwd 0 rfl ?_
    go_wp2_with (go_at_call 30; ((with_reducible refine (PT.out _).mono ?_); rintro e w1 ⟨rfl, hb1⟩; have I1 := Lib.hid (I0.out.keep hb1)))
    go_step3
    refine ⟨rfl, ?_⟩
    go_wp2_with fail
    rw [Exit.noGoto_ret]
    go_returns
    exact .inr ⟨hno.out, rfl, I1.out.bel⟩
  | some q =>
    obtain ⟨rows, d⟩ := q
    rw [hp] at PT
    unfold ptV at PT
    obtain ⟨p1, p2, p3, p4, p5, p6⟩ := ptB_some hp
    have HF := Lib.hid (fun l r => @DeP.fail L rows r d l hp)
    have HN := Lib.hid (fun l r t x => @DeP.next L rows r t d l x hp)
    have HG := Lib.hid (fun l => @DeP.good L rows d l hp)
    have HB := Lib.hid (fun l => @DeP.bad L rows d l hp)
    have BH := Lib.hid (fun r hr u => behind_any r hr d (by omega) u)
    have PN := Lib.hid (fun k hk u => putnum_any k hk u)
    have hrl : rows.length ≤ 65536 := by omega
    clear hp p6
    have d0 : (d : Int) ≠ 0 := by omega
    go_enter Try.func13, Try.ntmps13
    go_wp2_with fail
    refine wp_scope_fwd 0 rfl ?_
    go_wp2_with (go_at_call 30; ((with_reducible refine (PT.out _).mono ?_); rintro e w1 ⟨rfl, hb1⟩; have I1 := Lib.hid (I0.out.keep hb1); clear hb1))
    go_loopw [2, 8] (fun v r wr => ∃ (l : List Rw) (j : Nat) (t : List UInt8) (a : Option Addr) (c : Nat), l.length = j ∧ v = .slice a j c ∧ r = .string ⟨t.toArray⟩ ∧ DeP L rows d l t ∧ DeI w.heap.size w (rstB d l j) l (.slice a j c) wr) (fun _ r _ => sizeV r)
    case atStart => exact ⟨[], 0, rows, none, 0, rfl, rfl, rfl, DeP.zero L rows d, I1.out⟩
    case round =>
      clear I1 I0 PT
      obtain ⟨l, j, t, a, c, hjN, rfl, rfl, hP, hI⟩ := hrel
      have hl4 : l.length ≤ 1024 := hP.2.2.1
      have htl : t.length ≤ 65536 := by have := congrArg List.length hP.1; rw [List.length_append] at this; omega
      by_cases ht : t = []
      · subst ht
        obtain ⟨a', c', b', e1, RS, hbb⟩ := rs_of_row (l := l) hI.row
        rw [hjN] at e1 RS hbb
        simp only [Value.slice.injEq, true_and] at e1
        obtain ⟨rfl, rfl⟩ := e1
        have OC := Lib.hid (order_any RS)
        have hIH := Lib.hid hI
        have hPH := Lib.hid hP
        have RSH := Lib.hid RS
        have hbbH := Lib.hid hbb
        obtain ⟨T, hT⟩ := named (ordR l)
        rw [← hT.out] at OC
        obtain ⟨E1, hE1⟩ := named (L.drop rows.length)
        obtain ⟨E2, hE2⟩ := named (tailB (rstB d l j) d)
        have EX := exL_from L rows.length
        rw [← hE1.out] at EX
        have BH2 := Lib.hid (BH.out (rstB d l j) (by have := rstB_le d l j; omega))
        rw [← hE2.out] at BH2
        have B0 := Lib.hid (Below.refl wr.heap.size wr).drew
        have hjH := Lib.hid hjN
        clear RS hbb hI hP hjN
        cases T with
        | false =>
          have hno : Hid (∀ l' d', ¬ IsB L l' d') := Lib.hid (HB.out l hPH.out (.inl (by rw [← hT.out])))
          go_upto_region 14 with fail
          refine wp_region_held_drew (S := (fun v => Hid (Below wr.heap.size wr v))) (by kernel_rfl) (B0) (fun hHeld => ?_)
          refine held_take (i := 0) (v := ?_) rfl (by kernel_rfl) (by kernel_rfl) (by kernel_rfl) (fun _ _ _ h => h) (by rfl) (fun w hSw => ?_) (by assumption) ?_; rotate_left 1; focus (((try dsimp only at hSw); first | (go_simp; done) | (go_simp; with_reducible rfl)))
          try simp only [Act.put, List.setIfInBounds_toArray, List.set_cons_zero, List.set_cons_succ]
          refine held_call (i := 1) (by kernel_rfl) rfl (by rfl) (fun K hK => ?_)
          go_simp
          (go_at_call 12; ((with_reducible refine (order_any (RSH.out.below B0.out (Nat.le_refl _))).mono ?_); rw [← hT.out]; rintro e u1 ⟨rfl, hb1⟩))
          have B1 := Lib.hid (below_of (w := wr) B0.out hb1)
          clear hb1
          refine hK.out _ _ (B1) (fun hHeld => ?_)
          try simp only [Act.put, List.setIfInBounds_toArray, List.set_cons_zero, List.set_cons_succ]
          refine held_take (i := 2) (v := ?_) rfl (by kernel_rfl) (by kernel_rfl) (by kernel_rfl) (fun _ _ _ h => h) (by rfl) (fun w hSw => ?_) (by assumption) ?_; rotate_left 1; focus (((try dsimp only at hSw); first | (go_simp; done) | (go_simp; with_reducible rfl)))
          try simp only [Act.put, List.setIfInBounds_toArray, List.set_cons_zero, List.set_cons_succ]
          refine held_take (i := 3) (v := ?_) rfl (by kernel_rfl) (by kernel_rfl) (by kernel_rfl) (fun _ _ _ h => h) (by rfl) (fun w hSw => ?_) (by assumption) ?_; rotate_left 1; focus (((try dsimp only at hSw); first | (go_simp; done) | (go_simp; with_reducible rfl)))
          try simp only [Act.put, List.setIfInBounds_toArray, List.set_cons_zero, List.set_cons_succ]
          refine held_skip (i := 4) rfl (by kernel_rfl) (by kernel_rfl) (by kernel_rfl) (fun _ _ _ h => h) (by rfl) (by assumption) ?_
          try simp only [Act.put, List.setIfInBounds_toArray, List.set_cons_zero, List.set_cons_succ]
          refine held_skip (i := 5) rfl (by kernel_rfl) (by kernel_rfl) (by kernel_rfl) (fun _ _ _ h => h) (by rfl) (by assumption) ?_
          try simp only [Act.put, List.setIfInBounds_toArray, List.set_cons_zero, List.set_cons_succ]
          refine held_skip (i := 6) rfl (by kernel_rfl) (by kernel_rfl) (by kernel_rfl) (fun _ _ _ h => h) (by rfl) (by assumption) ?_
          try simp only [Act.put, List.setIfInBounds_toArray, List.set_cons_zero, List.set_cons_succ]
          refine held_skip (i := 7) rfl (by kernel_rfl) (by kernel_rfl) (by kernel_rfl) (fun _ _ _ h => h) (by rfl) (by assumption) ?_
          try simp only [Act.put, List.setIfInBounds_toArray, List.set_cons_zero, List.set_cons_succ]
          refine held_skip (i := 9) rfl (by kernel_rfl) (by kernel_rfl) (by kernel_rfl) (fun _ _ _ h => h) (by rfl) (by assumption) ?_
          try simp only [Act.put, List.setIfInBounds_toArray, List.set_cons_zero, List.set_cons_succ]
          refine held_skip (i := 8) rfl (by kernel_rfl) (by kernel_rfl) (by kernel_rfl) (fun _ _ _ h => h) (by rfl) (by assumption) ?_
          try simp only [Act.put, List.setIfInBounds_toArray, List.set_cons_zero, List.set_cons_succ]
          refine held_skip (i := 10) rfl (by kernel_rfl) (by kernel_rfl) (by kernel_rfl) (fun _ _ _ h => h) (by rfl) (by assumption) ?_
          try simp only [Act.put, List.setIfInBounds_toArray, List.set_cons_zero, List.set_cons_succ]
          refine held_skip (i := 11) rfl (by kernel_rfl) (by kernel_rfl) (by kernel_rfl) (fun _ _ _ h => h) (by rfl) (by assumption) ?_
          try simp only [Act.put, List.setIfInBounds_toArray, List.set_cons_zero, List.set_cons_succ]
          refine held_take (i := 12) (v := ?_) rfl (by kernel_rfl) (by kernel_rfl) (by kernel_rfl) (fun _ _ _ h => h) (by rfl) (fun w hSw => ?_) (by assumption) ?_; rotate_left 1; focus (((try dsimp only at hSw); first | (go_simp; done) | (go_simp; with_reducible rfl)))
          try simp only [Act.put, List.setIfInBounds_toArray, List.set_cons_zero, List.set_cons_succ]
          refine wpAnyH_done (by kernel_rfl) ?_ _
          go_wp2_with fail
          go_step3
          refine ⟨rfl, ?_⟩
          go_wp2_with fail
          rw [Exit.noGoto_ret]
          go_returns
          exact .inr ⟨hno.out, rfl, hIH.out.bel.trans (B1.out.mono hIH.out.lo)⟩
        | true =>
          have hyes : Hid (E1 = E2 → IsB L l d) := Lib.hid (fun e => HG.out l hPH.out (by rw [← hT.out]) (by rw [hjH.out, ← hE1.out, ← hE2.out, e]))
          have hnot : Hid (E1 ≠ E2 → ∀ l' d', ¬ IsB L l' d') := Lib.hid (fun e => HB.out l hPH.out (.inr (by rw [hjH.out, ← hE1.out, ← hE2.out]; exact e)))
          have W0 := Lib.hid hIH.out.bel.drew
          obtain ⟨Q, hQ⟩ : ∃ Q, (E1 == E2) = Q := ⟨_, rfl⟩
          have hyes : Hid (Q = true → IsB L l d) := Lib.hid (fun e => hyes.out (by rw [e] at hQ; exact beq_iff_eq.1 hQ))
          have hnot : Hid (Q = false → ∀ l' d', ¬ IsB L l' d') := Lib.hid (fun e => hnot.out (by rw [e] at hQ; exact beq_eq_false_iff_ne.1 hQ))
          go_upto_region 14 with fail
          refine wp_region_held_drew (S := (fun v => Hid (Below w.heap.size w v))) (by kernel_rfl) (W0) (fun hHeld => ?_)
          refine held_take (i := 0) (v := ?_) rfl (by kernel_rfl) (by kernel_rfl) (by kernel_rfl) (fun _ _ _ h => h) (by rfl) (fun w hSw => ?_) (by assumption) ?_; rotate_left 1; focus (((try dsimp only at hSw); first | (go_simp; done) | (go_simp; with_reducible rfl)))
          try simp only [Act.put, List.setIfInBounds_toArray, List.set_cons_zero, List.set_cons_succ]
          refine held_call (i := 1) (by kernel_rfl) rfl (by rfl) (fun K hK => ?_)
          go_simp
          (go_at_call 12; ((with_reducible refine (order_any (RSH.out.below B0.out (Nat.le_refl _))).mono ?_); rw [← hT.out]; rintro e u1 ⟨rfl, hb1⟩))
          have I1 := Lib.hid (hIH.out.keep (below_of (w := wr) B0.out hb1))
          clear hb1
          refine hK.out _ _ (Lib.hid I1.out.bel) (fun hHeld => ?_)
          try simp only [Act.put, List.setIfInBounds_toArray, List.set_cons_zero, List.set_cons_succ]
          refine held_take (i := 2) (v := ?_) rfl (by kernel_rfl) (by kernel_rfl) (by kernel_rfl) (fun _ _ _ h => h) (by rfl) (fun w hSw => ?_) (by assumption) ?_; rotate_left 1; focus (((try dsimp only at hSw); first | (go_simp; done) | (go_simp; with_reducible rfl)))
          try simp only [Act.put, List.setIfInBounds_toArray, List.set_cons_zero, List.set_cons_succ]
          refine held_take (i := 3) (v := ?_) rfl (by kernel_rfl) (by kernel_rfl) (by kernel_rfl) (fun _ _ _ h => h) (by rfl) (fun w hSw => ?_) (by assumption) ?_; rotate_left 1; focus (((try dsimp only at hSw); first | (go_simp; done) | (go_simp; with_reducible rfl)))
          try simp only [Act.put, List.setIfInBounds_toArray, List.set_cons_zero, List.set_cons_succ]
          refine held_take (i := 4) (v := ?_) rfl (by kernel_rfl) (by kernel_rfl) (by kernel_rfl) (fun _ _ _ h => h) (by rfl) (fun w hSw => ?_) (by assumption) ?_; rotate_left 1; focus (((try dsimp only at hSw); first | (go_simp; done) | (go_simp; with_reducible rfl)))
          try simp only [Act.put, List.setIfInBounds_toArray, List.set_cons_zero, List.set_cons_succ]
          refine held_take (i := 5) (v := ?_) rfl (by kernel_rfl) (by kernel_rfl) (by kernel_rfl) (fun _ _ _ h => h) (by rfl) (fun w hSw => ?_) (by assumption) ?_; rotate_left 1; focus (((try dsimp only at hSw); first | (go_simp; done) | (go_simp; with_reducible rfl)))
          try simp only [Act.put, List.setIfInBounds_toArray, List.set_cons_zero, List.set_cons_succ]
          refine held_take (i := 6) (v := ?_) rfl (by kernel_rfl) (by kernel_rfl) (by kernel_rfl) (fun _ _ _ h => h) (by rfl) (fun w hSw => ?_) (by assumption) ?_; rotate_left 1; focus (((try dsimp only at hSw); first | (go_simp; done) | (go_simp; with_reducible rfl)))
          try simp only [Act.put, List.setIfInBounds_toArray, List.set_cons_zero, List.set_cons_succ]
          refine held_take (i := 7) (v := ?_) rfl (by kernel_rfl) (by kernel_rfl) (by kernel_rfl) (fun _ _ _ h => h) (by rfl) (fun w hSw => ?_) (by assumption) ?_; rotate_left 1; focus (((try dsimp only at hSw); first | (go_simp; done) | (go_simp; with_reducible rfl)))
          try simp only [Act.put, List.setIfInBounds_toArray, List.set_cons_zero, List.set_cons_succ]
          refine held_take (i := 9) (v := ?_) rfl (by kernel_rfl) (by kernel_rfl) (by kernel_rfl) (fun _ _ _ h => h) (by rfl) (fun w hSw => ?_) (by assumption) ?_; rotate_left 1; focus (((try dsimp only at hSw); first | (go_simp; done) | (go_simp; with_reducible rfl)))
          try simp only [Act.put, List.setIfInBounds_toArray, List.set_cons_zero, List.set_cons_succ]
          refine held_call (i := 8) (by kernel_rfl) rfl (by rfl) (fun K hK => ?_)
          go_simp
          (go_at_call 28; ((with_reducible refine (bld_read I1.out.bld I1.out.lo).mono ?_); rintro e u2 ⟨rfl, hb2, hr2⟩))
          have W2 := Lib.hid (I1.out.bel.trans hb2)
          have O2 := Lib.hid (I1.out.read hr2)
          clear hb2 hr2
          refine hK.out _ _ (W2) (fun hHeld => ?_)
          try simp only [Act.put, List.setIfInBounds_toArray, List.set_cons_zero, List.set_cons_succ]
          refine held_call (i := 10) (by kernel_rfl) rfl (by rfl) (fun K hK => ?_)
          go_simp
          (go_at_call 29; ((with_reducible refine (BH2.out _).mono ?_); rintro e u3 ⟨rfl, hb3⟩))
          have W3 := Lib.hid (W2.out.trans (hb3.mono W2.out.size))
          have O3 := Lib.hid (own_belowB O2.out hb3)
          clear hb3
          refine hK.out _ _ (W3) (fun hHeld => ?_)
          try simp only [Act.put, List.setIfInBounds_toArray, List.set_cons_zero, List.set_cons_succ]
          refine held_take (i := 11) (v := ?_) rfl (by kernel_rfl) (by kernel_rfl) (by kernel_rfl) (fun _ _ _ h => h) (by rfl) (fun w hSw => ?_) (by assumption) ?_; rotate_left 1; focus (((try dsimp only at hSw); first | (go_simp; done) | (go_simp; with_reducible rfl)))
          try simp only [Act.put, List.setIfInBounds_toArray, List.set_cons_zero, List.set_cons_succ]
          refine held_take (i := 12) (v := ?_) rfl (by kernel_rfl) (by kernel_rfl) (by kernel_rfl) (fun _ _ _ h => h) (by rfl) (fun w hSw => ?_) (by assumption) ?_; rotate_left 1; focus (((try dsimp only at hSw); first | (go_simp; done) | (go_simp; with_reducible rfl)))
          try simp only [Act.put, List.setIfInBounds_toArray, List.set_cons_zero, List.set_cons_succ]
          refine wpAnyH_done (by kernel_rfl) ?_ _
          cases Q with
          | true =>
            have hB := Lib.hid (hyes.out rfl)
            go_wp2_with fail
            rw [jump_ret]
            go_returns
            obtain ⟨a2, c2, b2, e2, RS2, hb2⟩ := rs_of_row (l := l) O3.out
            rw [hjH.out] at e2 RS2 hb2
            simp only [Value.slice.injEq, true_and] at e2
            obtain ⟨rfl, rfl⟩ := e2
            refine .inl ⟨l, d, _, c, b2, hB.out, by rw [hjH.out]; rfl, by rw [hjH.out]; exact RS2, by rw [hjH.out]; exact hb2, W3.out⟩
          | false =>
            have hno := Lib.hid (hnot.out rfl)
            go_wp2_with fail
            go_step3
            refine ⟨rfl, ?_⟩
            go_wp2_with fail
            rw [Exit.noGoto_ret]
            go_returns
            exact .inr ⟨hno.out, rfl, W3.out⟩
      · have ti : t.isEmpty = false := by cases t; exact absurd rfl ht; rfl
        have hj4 : j ≤ 1024 := by rw [← hjN]; exact hl4
        replace hjN := Lib.hid hjN
        have I2 := Lib.hid (hI.keep (below_alloc wr (.cells #[.string ⟨#[]⟩, .int .u64 0, .int .i64 0, .string ⟨#[]⟩] 33)))
        have R2 := Lib.hid (RowAt.new rwZ wr)
        simp only [rwZ] at R2
        have hvb : Hid ((Value.slice a j c).ownBlock ≠ some wr.heap.size) := Lib.hid (fun e => by have := (World.ownsRow.lt hI.row wr.heap.size e).2; omega)
        have hlo := Lib.hid hI.lo
        have hK : Hid ((rows.length : Int) - (t.length : Int) = ((bodB d l j).length : Int)) := Lib.hid (by have := congrArg List.length hP.1; rw [List.length_append, hjN.out] at this; omega)
        have hbl : Hid ((bodB d l j).length < 4294967296) := Lib.hid (by have := congrArg List.length hP.1; rw [List.length_append, hjN.out] at this; omega)
        have hPH := Lib.hid hP
        have htH := Lib.hid ht
        obtain ⟨K, hKK⟩ := named (bodB d l j).length
        rw [← hKK.out] at hK hbl
        have hrt : rows.length - t.length = K := by have := hK.out; omega
        have hrt2 : (rows.length : Int) - (t.length : Int) = (K : Int) := hK.out
        clear ht hP hl4
        go_upto_if 26 with fail
        go_cut [10] from 26 to 40 (fun s wc => s = .string ⟨(prvB d l j).toArray⟩ ∧ DeI w.heap.size w (rstB d l j ++ (if j % d = 0 then le4 K else [])) l (.slice a j c) wc ∧ RowAt wr.heap.size ⟨⟨#[]⟩, 0, 0, ⟨#[]⟩⟩ wc)
        case first =>
          by_cases hm : j % d = 0
          · have hmH := Lib.hid hm
            have hpv : Hid (prvB d l j = []) := Lib.hid (by unfold prvB; rw [if_pos hm])
            have em : (j : Int) % (d : Int) = ((j % d : Nat) : Int) := (Int.natCast_emod j d).symm
            have g1 : ¬ (0 : Int) < (j : Int) % (d : Int) := by rw [em]; omega
            clear em
            clear hm
            have hln2 : Hid ((rstB d l j).length + (⟨(le4 K).toArray⟩ : ByteArray).size ≤ 140737488355328) := Lib.hid (by have := rstB_le d l j; show (rstB d l j).length + (le4 K).toArray.size ≤ _; rw [List.size_toArray, le4_len]; omega)
            go_wp2_with (first
              | (go_at_call 26; ((with_reducible refine (PN.out K hbl.out _).mono ?_); rintro e v1 ⟨rfl, hb2⟩; have I3 := Lib.hid (I2.out.keep hb2); have R3 := Lib.hid (R2.out.below hb2); clear hb2))
              | (go_at_call 25; ((with_reducible refine (bld_string_at I3.out.bld I3.out.lo ⟨(le4 K).toArray⟩ hln2.out).mono ?_); rintro e v2 ⟨rfl, hB4, hb4, hf4⟩; have I4 := Lib.hid (I3.out.wrote hB4 hb4 hf4); have R4 := Lib.hid (rowAt_spares R3.out hf4 I3.out.bld); clear hB4 hb4 hf4)))
            go_meet
            exact ⟨by rw [hpv.out], by rw [if_pos hmH.out]; exact I4.out, R4.out⟩
          · have hmH := Lib.hid hm
            have hj0 : 0 < j := by rcases Nat.eq_zero_or_pos j with e | e; exact absurd (by rw [e]; exact Nat.zero_mod d) hm; exact e
            obtain ⟨m, rfl⟩ : ∃ m, j = m + 1 := ⟨j - 1, by omega⟩
            obtain ⟨a', c', b', e1, RS, _⟩ := rs_of_row (l := l) I2.out.row
            rw [hjN.out] at e1 RS
            simp only [Value.slice.injEq, true_and] at e1
            obtain ⟨rfl, rfl⟩ := e1
            obtain ⟨x, hx, rfl, x0, _⟩ := RS.at4 (j := m) (by omega)
            have hpv : Hid (prvB d l (m + 1) = x.key.toList) := Lib.hid (by unfold prvB; rw [if_neg hm, Nat.add_sub_cancel, rwAt_some hx])
            rw [Nat.zero_add] at x0
            have em : ((m + 1 : Nat) : Int) % (d : Int) = (((m + 1) % d : Nat) : Int) := (Int.natCast_emod (m + 1) d).symm
            have g1 : (0 : Int) < ((m + 1 : Nat) : Int) % (d : Int) := by rw [em]; omega
            clear em
            have w1 : wrap64 ((m : Int) + 1 - 1) = (m : Int) := by unfold wrap64; omega
            have w2 : IntKind.i64.wrap (m : Int) = (m : Int) := by rw [IntKind.wrap_i64]; omega
            have w3 : wrap64 (m : Int) = (m : Int) := by unfold wrap64; omega
            have i0 : (m : Int) < (m : Int) + 1 := by omega
            have i1 : m < m + 1 := by omega
            clear RS hx hm
            go_wp2_with fail
            go_meet
            exact ⟨by rw [hpv.out, ofL], by rw [if_neg hmH.out, List.append_nil]; exact I2.out, R2.out⟩
        case rest =>
          obtain ⟨rfl, hI5, hR5⟩ := hcut
          have I5 := Lib.hid hI5
          have R5 := Lib.hid hR5
          have hpl : (prvB d l j).length ≤ 520 := prvB_le hPH.out.2.1 (by rw [hjN.out]; exact Nat.le_refl j)
          have CX := Lib.hid (CR.out t (prvB d l j) htl hpl)
          obtain ⟨P, hP⟩ := named (prvB d l j)
          rw [← hP.out] at CX ⊢
          obtain ⟨C, hC⟩ := named (cutX t P)
          rw [← hC.out] at CX
          have hrb : Hid (w.heap.size ≤ wr.heap.size) := Lib.hid hlo.out
          have htN := Lib.hid htl
          clear I2 R2 hI hI5 hR5 hK hbl hrt hrt2 hlo hpl htl
          cases C with
          | none =>
            unfold cutV at CX
            have hno : Hid (∀ l' d', ¬ IsB L l' d') := Lib.hid (HF.out l t hPH.out htH.out (.inl (by rw [hjN.out, ← hP.out, ← hC.out])))
            go_wp2_with (go_at_call 31; ((with_reducible refine (CX.out _).mono ?_); rintro e v6 ⟨rfl, hb6⟩; have I6 := Lib.hid (I5.out.keep hb6); have R6 := Lib.hid (R5.out.below hb6); clear hb6; obtain ⟨⟨c0, c1, c2, c3⟩, cf⟩ := R6.out.cells; simp only at c0 c1 c2 c3; have f0 := cf 0; have f1 := cf 1; have f2 := cf 2; have f3 := cf 3; clear cf; have I7 := Lib.hid (I6.out.but R6.out (but_put4 wr.heap.size v6 rwZ) hrb.out hvb.out)))
            go_step3
            refine ⟨rfl, ?_⟩
            go_wp2_with fail
            rw [Exit.noGoto_ret]
            go_returns
            exact .inr ⟨hno.out, rfl, I7.out.bel⟩
          | some q =>
            obtain ⟨x, t'⟩ := q
            unfold cutV at CX
            have hT : Hid (rstB d l j ++ (if j % d = 0 then le4 K else []) = rstB d (l ++ [x]) (j + 1)) := Lib.hid (by
              have tk : (l ++ [x]).take j = l := by rw [← hjN.out]; simp
              rw [rstB_snoc, ← rstB_take d (l ++ [x]) (Nat.le_refl j), ← bodB_take d (l ++ [x]) (Nat.le_refl j), tk, hKK.out])
            have hcut2 : Hid (cutX t (prvB d l l.length) = some (x, t')) := Lib.hid (by rw [hjN.out, ← hP.out, ← hC.out])
            have htt : Hid (t'.length < t.length) := Lib.hid (by
              have h0 := (cutX_only hcut2.out).1
              have h1 := congrArg List.length h0
              have h2 := encX_pos (prvB d l l.length) x
              rw [List.length_append] at h1
              omega)
            obtain ⟨xk, xs, xi, xv⟩ := x
            have CX : Hid (∀ u, Calls Try.prog 31 #[.string ⟨t.toArray⟩, .string ⟨P.toArray⟩] u fun e w' => e = .returned (.tuple #[.agg #[.string xk, .int .u64 (xs : Int), .int .i64 xi, .string xv], .string ⟨t'.toArray⟩, .bool true]) ∧ Below u.heap.size u w') := CX
            by_cases hj1 : j = 1024
            · have g4 : ((j : Int) == 1024) = true := by rw [beq_iff_eq]; omega
              have hno : Hid (∀ l' d', ¬ IsB L l' d') := Lib.hid (HF.out l t hPH.out htH.out (.inr (by rw [hjN.out]; exact hj1)))
              have g4b : (j == 1024) = true := by rw [beq_iff_eq]; exact hj1
              clear hj1
              go_wp2_with (go_at_call 31; ((with_reducible refine (CX.out _).mono ?_); rintro e v6 ⟨rfl, hb6⟩; have I6 := Lib.hid (I5.out.keep hb6); have R6 := Lib.hid (R5.out.below hb6); clear hb6; obtain ⟨⟨c0, c1, c2, c3⟩, cf⟩ := R6.out.cells; simp only at c0 c1 c2 c3; have f0 := cf 0; have f1 := cf 1; have f2 := cf 2; have f3 := cf 3; clear cf; have I7 := Lib.hid (I6.out.but R6.out (but_put4 wr.heap.size v6 ⟨xk, xs, xi, xv⟩) hrb.out hvb.out)))
              go_step3
              refine ⟨rfl, ?_⟩
              go_wp2_with fail
              rw [Exit.noGoto_ret]
              go_returns
              exact .inr ⟨hno.out, rfl, I7.out.bel⟩
            · have g4 : ((j : Int) == 1024) = false := by rw [beq_eq_false_iff_ne]; omega
              have g4b : (j == 1024) = false := by rw [beq_eq_false_iff_ne]; exact hj1
              have hP2 := Lib.hid (HN.out l t t' _ hPH.out hcut2.out (by rw [hjN.out]; exact hj1))
              have e9 : Hid ((l ++ [(⟨xk, xs, xi, xv⟩ : Rw)]).length = j + 1) := Lib.hid (by rw [List.length_append, hjN.out]; exact rfl)
              obtain ⟨i0, hi, hz0, hz1, hz2⟩ := info_parts info_rowB
              go_upto_region 13 with (go_at_call 31; ((with_reducible refine (CX.out _).mono ?_); rintro e v6 ⟨rfl, hb6⟩; have I6 := Lib.hid (I5.out.keep hb6); have R6 := Lib.hid (R5.out.below hb6); clear hb6; obtain ⟨⟨c0, c1, c2, c3⟩, cf⟩ := R6.out.cells; simp only at c0 c1 c2 c3; have f0 := cf 0; have f1 := cf 1; have f2 := cf 2; have f3 := cf 3; clear cf; have I7 := Lib.hid (I6.out.but R6.out (but_put4 wr.heap.size v6 ⟨xk, xs, xi, xv⟩) hrb.out hvb.out); have R7 := Lib.hid (rowAt_put R6.out ⟨xk, xs, xi, xv⟩)))
              clear c0 c1 c2 c3 f0 f1 f2 f3 I6 R6
              generalize (((v6.setCell ⟨wr.heap.size, 0, none⟩ (.string xk)).setCell ⟨wr.heap.size, 1, none⟩ (.int .u64 (xs : Int))).setCell ⟨wr.heap.size, 2, none⟩ (.int .i64 xi)).setCell ⟨wr.heap.size, 3, none⟩ (.string xv) = v7 at *
              have I8 := Lib.hid (I7.out.keep (below_alloc v7 (.cells #[.string xk, .int .u64 (xs : Int), .int .i64 xi, .string xv] 33)))
              obtain ⟨c0, c1, c2, c3⟩ := R7.out.c4
              have hown := I8.out.row
              rw [hjN.out] at hown
              have hown := Lib.hid hown
              have hlo8 := Lib.hid I8.out.lo
              go_wp2_with (at_builtin; refine wpList_append_own _ rfl _ _ 23 rfl w.heap.size 33 i0 (.agg #[.string .empty, .int .u64 0, .int .i64 0, .string .empty]) 4 48 Try.underlying23 hi hz0 hz1 hz2 rfl (by decide) (.slice a j c) j (rowR l) (by rfl) hown.out ⟨v7.heap.size, 0, none⟩ 1 1 [.string xk, .int .u64 (xs : Int), .int .i64 xi, .string xv] (by rfl) rfl (World.news_of_block (heap_alloc_new _ _)) (row_oneB ⟨xk, xs, xi, xv⟩) (by unfold maxLen; omega) (by omega) hlo8.out ?_; intro v' w9 hown9 hgrow9 _; have I9 := Lib.hid (I8.out.grown (x := ⟨xk, xs, xi, xv⟩) (by rw [hjN.out]; exact hown9) hgrow9); obtain ⟨a2, c2', hv2⟩ : ∃ a2 c2', v' = .slice a2 (j + 1) c2' := (by rcases hown9.2 with ⟨e1, e0⟩ | ⟨g', cap, cur, e1, _⟩; exact absurd e0 (by omega); exact ⟨_, _, e1⟩); subst hv2; clear hown9 hgrow9)
              refine ⟨⟨l ++ [⟨xk, xs, xi, xv⟩], j + 1, t', a2, c2', e9.out, rfl, rfl, ?_, ?_⟩, ?_⟩
              · exact hP2.out
              · rw [← hT.out]
                exact I9.out
              · show t'.toArray.size < t.toArray.size
                rw [List.size_toArray, List.size_toArray]
                exact htt.out
end Go.Proofs.Ytnmlifagchdphaa
