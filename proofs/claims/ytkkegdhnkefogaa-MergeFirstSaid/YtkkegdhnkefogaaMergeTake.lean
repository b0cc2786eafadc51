/-
  The contract of take: the first row of all that are left. Condition: less than 1000 lists.
-/
import Derived.Test.YtkkegdhnkefogaaMergeHeads
import Derived.Test.YtkkegdhnkefogaaRowAt
import Derived.Test.YtkkegdhnkefogaaBlockSlices
namespace Go.Proofs.Ytkkegdhnkefogaa
set_option maxRecDepth 100000
open Go.RowKit
/-- Of what there was all blocks of cells stand but the heap's own and the lists'. -/
def ElseM (w w' : World) : Prop := w.heap.size ≤ w'.heap.size ∧ ∀ (k : Nat) (cs : Array Value) (t : TypeId) (m : Nat × Nat), w.heap[k]? = some (.cells cs t m) → t ≠ 69 → t ≠ 72 → t ≠ 75 → w'.heap[k]? = some (.cells cs t m)
theorem ElseH.m {w w' : World} (h : ElseH w w') : ElseM w w' := ⟨h.1, fun k cs t m hk h1 h2 _ => h.2 k cs t m hk h1 h2⟩
theorem ElseM.trans {x y z : World} (h : ElseM x y) (k : ElseM y z) : ElseM x z := ⟨Nat.le_trans h.1 k.1, fun a cs t m ha h1 h2 h3 => k.2 a cs t m (h.2 a cs t m ha h1 h2 h3) h1 h2 h3⟩
/-- What is no block of rows stands. -/
theorem Hp.keepR {B hp k : Nat} {ps : List Nat} {it : Nat → It} {w w' : World} (h : Hp B hp k ps it w) (hb : Below B w w') (hk : ∀ (c : Nat) (cs : Array Value) (t : TypeId) (m : Nat × Nat), w.heap[c]? = some (.cells cs t m) → t ≠ 42 → w'.heap[c]? = some (.cells cs t m)) : Hp B hp k ps it w' := by
  obtain ⟨v, h1, h2⟩ := h.hd
  refine ⟨⟨v, hk _ _ _ _ h1 (by decide), h2.1, ?_⟩, fun b hbm => ⟨?_, (h.item b hbm).2⟩, h.nodup, h.low⟩
  · rcases h2.2 with e | ⟨g, cap, cur, e1, e2, e3, e4⟩
    · exact .inl e
    · exact .inr ⟨g, cap, cur, e1, e2, hk _ _ _ _ e3 (by decide), e4⟩
  · obtain ⟨a, n, c, bb, o, q1, q2, q3⟩ := (h.item b hbm).1
    exact ⟨a, n, c, bb, o, hk _ _ _ _ q1 (by decide), q2.keep (fun _ => hb.block bb q3) hb.size, q3⟩
/-- A store into a list that is out of the heap. -/
theorem Hp.out {B hp k : Nat} {ps : List Nat} {it : Nat → It} {w : World} (h : Hp B hp k ps it w) {b : Nat} (hn : b ∉ ps) (hB : B ≤ b) {x y u : Value} (hb : w.heap[b]? = some (.cells #[x, y] 75 (0, 0))) : Hp B hp k ps it (w.setCell ⟨b, 0, none⟩ u) := by
  obtain ⟨v, h1, h2⟩ := h.hd
  have hbel : Below B w (w.setCell ⟨b, 0, none⟩ u) := (Below.refl B w).setCell (p := ⟨b, 0, none⟩) hB u
  have hk : ∀ c, c ≠ b → (w.setCell ⟨b, 0, none⟩ u).heap[c]? = w.heap[c]? := fun c hc => heap_setCell_other _ _ _ _ hc
  refine ⟨⟨v, (hk _ fun e => by subst e; rw [h1] at hb; cases hb).trans h1, h2.1, ?_⟩, fun c hc => ⟨?_, (h.item c hc).2⟩, h.nodup, h.low⟩
  · rcases h2.2 with e | ⟨g, cap, cur, e1, e2, e3, e4⟩
    · exact .inl e
    · exact .inr ⟨g, cap, cur, e1, e2, (hk _ fun e => by subst e; rw [e3] at hb; cases hb).trans e3, e4⟩
  · exact (h.item c hc).1.keep h.big hbel (hk _ fun e => hn (by rw [← e]; exact hc))
/-- What take leaves. -/
def TakeD (B hp k : Nat) (ps : List Nat) (it : Nat → It) (b : Nat) (w w' : World) : Prop := ElseM w w' ∧ Below B w w' ∧
  (((it b).tl = [] ∧ ∃ qs, (b :: qs).Perm ps ∧ HeapP (fun a c => ltI (it a) (it c)) qs.length 0 qs ∧ Hp B hp k qs it w') ∨
   (∃ y tl, (it b).tl = y :: tl ∧ ∃ qs, qs.Perm ps ∧ HeapP (fun a c => ltI (if a = b then ⟨(it b).num, y, tl⟩ else it a) (if c = b then ⟨(it b).num, y, tl⟩ else it c)) qs.length 0 qs ∧ Hp B hp k qs (fun c => if c = b then ⟨(it b).num, y, tl⟩ else it c) w'))
/-- The result's four cells are stored. -/
theorem res_row {W : World} {R : Nat} {cs : Array Value} (hR : W.heap[R]? = some (.cells cs 42 (0, 0))) (a b c d : Value) : ∃ F, F = ((((W.setCell ⟨R, 0, none⟩ a).setCell ⟨R, 1, none⟩ b).setCell ⟨R, 2, none⟩ c).setCell ⟨R, 3, none⟩ d) ∧ (∀ k, k ≠ R → F.heap[k]? = W.heap[k]?) ∧ (∀ B, B ≤ R → Below B W F) ∧ (∀ (k : Nat) (cs : Array Value) (t : TypeId) (m : Nat × Nat), W.heap[k]? = some (.cells cs t m) → t ≠ 42 → F.heap[k]? = some (.cells cs t m)) := by
  have h1 : ∀ k, k ≠ R → ((((W.setCell ⟨R, 0, none⟩ a).setCell ⟨R, 1, none⟩ b).setCell ⟨R, 2, none⟩ c).setCell ⟨R, 3, none⟩ d).heap[k]? = W.heap[k]? := fun k hk => by
    rw [heap_setCell_other _ _ _ _ hk, heap_setCell_other _ _ _ _ hk, heap_setCell_other _ _ _ _ hk, heap_setCell_other _ _ _ _ hk]
  refine ⟨_, rfl, h1, fun B hB => ?_, fun k cs' t m hk ht => (h1 k fun e => ?_).trans hk⟩
  · exact ((((Below.refl B W).setCell (p := ⟨R, 0, none⟩) hB a).setCell (p := ⟨R, 1, none⟩) hB b).setCell (p := ⟨R, 2, none⟩) hB c).setCell (p := ⟨R, 3, none⟩) hB d
  · subst e
    rw [hR] at hk; cases hk; exact ht rfl
theorem els_out {w W : World} {B b : Nat} {x y : Value} (hE : ElseM w W) (hB : Below B w W) (hbB : B ≤ b) (hb : W.heap[b]? = some (.cells #[x, y] 75 (0, 0))) (u : Value) : ElseM w (W.setCell ⟨b, 0, none⟩ u) ∧ Below B w (W.setCell ⟨b, 0, none⟩ u) := by
  have hbel : Below B W (W.setCell ⟨b, 0, none⟩ u) := (Below.refl B W).setCell (p := ⟨b, 0, none⟩) hbB u
  refine ⟨⟨Nat.le_trans hE.1 hbel.size, fun k cs t m hk h1 h2 h3 => (heap_setCell_other _ _ _ _ fun e => ?_).trans (hE.2 k cs t m hk h1 h2 h3)⟩, hB.trans hbel⟩
  have e : k = b := e
  subst e
  have := hE.2 _ cs t m hk h1 h2 h3
  rw [hb] at this; cases this; exact h3 rfl
set_option maxRecDepth 100000 in
set_option maxHeartbeats 8000000 in
theorem take_last {B hp k : Nat} {ps : List Nat} {it : Nat → It} {w : World} (h : Hp B hp k ps it w) (hl : ps.length < 1000) (hh : HeapP (fun a c => ltI (it a) (it c)) ps.length 0 ps) {n b : Nat} (hn : ps.length = n + 1) (hb : ps[0]? = some b) (htl : (it b).tl = []) :
    Calls Try.prog 26 #[.pointer (some ⟨hp, 0, none⟩)] w fun e w' => e = .returned (rowV (it b).hd) ∧ TakeD B hp k ps it b w w' := by
  have hbm : b ∈ ps := List.mem_of_getElem? hb
  have hbB := (h.item b hbm).2
  have hbig := h.big
  have h0 := h.below (below_alloc w (.cells #[.string ⟨#[]⟩, .int .u64 0, .int .i64 0, .string ⟨#[]⟩] 42))
  have TC := Lib.hid (htop_any h0 (by omega) hh hn hb)
  have I0 := (h0.item b hbm).1
  have nd := h.nodup
  obtain ⟨X, hX⟩ := named (it b).hd
  rw [← hX.out]
  have TA := ta_rest (.pointer (some ⟨b, 0, none⟩))
  have R0 : Hid ((w.alloc (.cells #[.string ⟨#[]⟩, .int .u64 0, .int .i64 0, .string ⟨#[]⟩] 42)).heap[w.heap.size]? = some (.cells #[.string ⟨#[]⟩, .int .u64 0, .int .i64 0, .string ⟨#[]⟩] 42)) := Lib.hid (heap_alloc_new w _)
  have W0 : Hid (ElseM w (w.alloc (.cells #[.string ⟨#[]⟩, .int .u64 0, .int .i64 0, .string ⟨#[]⟩] 42)) ∧ Below B w (w.alloc (.cells #[.string ⟨#[]⟩, .int .u64 0, .int .i64 0, .string ⟨#[]⟩] 42))) := Lib.hid ⟨(ElseH.of_below (below_alloc w _)).m, (below_alloc w _).mono hbig⟩
  have I0 := Lib.hid I0
  have hfin : Hid (∀ (W F : World) (a b c d : Value) (cs : Array Value), W.heap[w.heap.size]? = some (.cells cs 42 (0, 0)) → F = ((((W.setCell ⟨w.heap.size, 0, none⟩ a).setCell ⟨w.heap.size, 1, none⟩ b).setCell ⟨w.heap.size, 2, none⟩ c).setCell ⟨w.heap.size, 3, none⟩ d) → ElseM w W → Below B w W → ElseM w F ∧ Below B w F ∧ (∀ qs it', Hp B hp k qs it' W → Hp B hp k qs it' F)) := Lib.hid (fun W F a b c d cs hR hF hE hB => by
    obtain ⟨F', hF', f1, f2, f3⟩ := res_row hR a b c d
    have e : F = F' := by rw [hF, hF']
    subst e
    refine ⟨⟨Nat.le_trans hE.1 (f2 _ (Nat.le_refl _)).size, fun k cs t m hk h1 h2 h3 => (f1 k fun e => ?_).trans (hE.2 k cs t m hk h1 h2 h3)⟩, hB.trans (f2 B hbig), fun qs it' hq => hq.keepR (f2 B hbig) f3⟩
    have := (Array.getElem?_eq_some_iff.1 hk).1
    omega)
  obtain ⟨xk, xs, xi, xv⟩ := X
  clear h h0 hh
  go_enter Try.func26, Try.ntmps26
  go_wp2_with fail
  refine TC.out.mono ?_
  rintro e w1 ⟨rfl, qs, hq1, hq2, hq3⟩
  have I1 := I0.out.els hq3.els hq3.bel
  have R1 := Lib.hid (hq3.els.2 _ _ _ _ R0.out (by decide) (by decide))
  have D1 := Lib.hid hq3
  have Q1 := Lib.hid hq1
  have Q2 := Lib.hid hq2
  have hbq : Hid (b ∉ qs) := Lib.hid (fun hm => by have := (hq1.nodup_iff).2 nd; exact (List.nodup_cons.1 this).1 hm)
  obtain ⟨a, n1, c, bb, o, i1, i2, i3⟩ := I1
  have hn1 : n1 = (it b).tl.length + 1 := by
    have := i2.len
    simp at this
    omega
  obtain ⟨rfl, _⟩ := i2.addr (by omega)
  rw [htl] at hn1
  replace hn1 : n1 = 1 := hn1
  subst hn1
  by_cases hc : c = 1
  · subst hc
    obtain ⟨j0, j1, jf, _⟩ := two_cells i1
    obtain ⟨x0, x1, x2, x3⟩ := i2.at' 0 _ rfl
    rw [Nat.zero_mul, Nat.add_zero, ← hX.out] at x0 x1 x2 x3
    simp only at x0 x1 x2 x3
    have icap := i2.cap
    have imost := i2.most
    have i1 := Lib.hid i1
    have i2 := Lib.hid i2
    have i3 := Lib.hid i3
    clear hq1 hq2 hq3
    have hpA : Hid (fromA (some ⟨bb, o, none⟩) 1 1 = some ⟨bb, o, none⟩) := Lib.hid (by unfold fromA; simp)
    have E2 : Hid (ElseM w (w1.alloc (.cells #[.string xk, .int .u64 (xs : Int), .int .i64 xi, .string xv] 42)) ∧ Below B w (w1.alloc (.cells #[.string xk, .int .u64 (xs : Int), .int .i64 xi, .string xv] 42))) := Lib.hid ⟨W0.out.1.trans (D1.out.els.m.trans (ElseH.of_below (below_alloc w1 _)).m), W0.out.2.trans (D1.out.bel.trans ((below_alloc w1 _).mono D1.out.hp.big))⟩
    have j0' : (w1.alloc (.cells #[.string xk, .int .u64 (xs : Int), .int .i64 xi, .string xv] 42)).cell? ⟨b, 0, none⟩ = some (.slice (some ⟨bb, o, none⟩) 1 1) := cell_keep (below_alloc _ _) j0
    have i1' : Hid ((w1.alloc (.cells #[.string xk, .int .u64 (xs : Int), .int .i64 xi, .string xv] 42)).heap[b]? = some (.cells #[.slice (some ⟨bb, o, none⟩) 1 1, .int .i64 ((it b).num : Int)] 75 (0, 0))) := Lib.hid (((below_alloc w1 _).block b (Array.getElem?_eq_some_iff.1 i1.out).1).trans i1.out)
    have j0f : (w1.alloc (.cells #[.string xk, .int .u64 (xs : Int), .int .i64 xi, .string xv] 42)).frozen? ⟨b, 0, none⟩ = false := (two_cells i1'.out).2.2.1
    have X2 : Hid (RowAt w1.heap.size ⟨xk, xs, xi, xv⟩ (w1.alloc (.cells #[.string xk, .int .u64 (xs : Int), .int .i64 xi, .string xv] 42))) := Lib.hid (RowAt.new ⟨xk, xs, xi, xv⟩ w1)
    have R2 : Hid ((w1.alloc (.cells #[.string xk, .int .u64 (xs : Int), .int .i64 xi, .string xv] 42)).heap[w.heap.size]? = some (.cells #[.string ⟨#[]⟩, .int .u64 0, .int .i64 0, .string ⟨#[]⟩] 42)) := Lib.hid (((below_alloc w1 _).block _ (Array.getElem?_eq_some_iff.1 R1.out).1).trans R1.out)
    obtain ⟨W3, hW3⟩ : ∃ W, W = (w1.alloc (.cells #[.string xk, .int .u64 (xs : Int), .int .i64 xi, .string xv] 42)).setCell ⟨b, 0, none⟩ (.slice (some ⟨bb, o, none⟩) 0 0) := ⟨_, rfl⟩
    have H3 : Hid (Hp B hp k qs it W3) := Lib.hid (by rw [hW3]; exact (D1.out.hp.below (below_alloc w1 _)).out hbq.out hbB i1'.out)
    have E3 : Hid (ElseM w W3 ∧ Below B w W3) := Lib.hid (by rw [hW3]; exact els_out E2.out.1 E2.out.2 hbB i1'.out _)
    have hb3 : Hid (W3.heap[b]? = some (.cells #[.slice (some ⟨bb, o, none⟩) 0 0, .int .i64 ((it b).num : Int)] 75 (0, 0))) := Lib.hid (by rw [hW3]; exact heap_setCell_same _ _ 0 _ _ _ i1'.out)
    have X3 : Hid (RowAt w1.heap.size ⟨xk, xs, xi, xv⟩ W3) := Lib.hid (by
      rw [hW3]
      refine (heap_setCell_other _ _ _ _ (fun e => ?_)).trans X2.out
      have h1 := X2.out
      have e : w1.heap.size = b := e
      unfold RowAt at h1
      rw [e, i1'.out] at h1; cases h1)
    have R3 : Hid (W3.heap[w.heap.size]? = some (.cells #[.string ⟨#[]⟩, .int .u64 0, .int .i64 0, .string ⟨#[]⟩] 42)) := Lib.hid (by
      rw [hW3]
      refine (heap_setCell_other _ _ _ _ (fun e => ?_)).trans R2.out
      have h1 := R2.out
      have e : w.heap.size = b := e
      rw [e, i1'.out] at h1; cases h1)
    have I3 : Hid (Rs (some ⟨bb, o, none⟩) 0 0 bb (o + 4) (it b).tl W3) := Lib.hid (by
      have h1 := i2.out.below (below_alloc w1 (.cells #[.string xk, .int .u64 (xs : Int), .int .i64 xi, .string xv] 42)) (Nat.le_refl _)
      have h2 := h1.from (k := 1) (by omega)
      rw [hpA.out] at h2
      rw [Nat.one_mul] at h2
      have h3 := (els_out E2.out.1 E2.out.2 hbB i1'.out (.slice (some ⟨bb, o, none⟩) 0 0)).2
      rw [← hW3] at h3
      have hB2 : Below B (w1.alloc (.cells #[.string xk, .int .u64 (xs : Int), .int .i64 xi, .string xv] 42)) W3 := by rw [hW3]; exact (Below.refl B _).setCell (p := ⟨b, 0, none⟩) hbB _
      exact h2.keep (fun _ => hB2.block bb i3.out) hB2.size)
    have j3 := (two_cells hb3.out).1
    go_upto_region 4 with fail
    rw [← hW3]
    clear hW3
    obtain ⟨⟨y0, y1, y2, y3⟩, _⟩ := X3.out.cells
    obtain ⟨⟨z0, z1, z2, z3⟩, z4⟩ := RowAt.cells (x := ⟨⟨#[]⟩, 0, 0, ⟨#[]⟩⟩) R3.out
    clear x0 x1 x2 x3 j0 j0' j0f jf j1
    go_wp2_with fail
    all_goals (
      refine bodyPost_ret (v := rowV ⟨xk, xs, xi, xv⟩) (by simp [results, Try.results26, go_sem, y0, y1, y2, y3, z0, z1, z2, z3]) rfl ⟨by first | rfl | rw [hX.out], ?_⟩
      obtain ⟨f1, f2, f3⟩ := hfin.out _ _ _ _ _ _ _ R3.out rfl E3.out.1 E3.out.2
      exact ⟨f1, f2, .inl ⟨htl, qs, Q1.out, Q2.out, f3 _ _ H3.out⟩⟩)
  · skip
    obtain ⟨j0, j1, jf, _⟩ := two_cells i1
    obtain ⟨x0, x1, x2, x3⟩ := i2.at' 0 _ rfl
    rw [Nat.zero_mul, Nat.add_zero, ← hX.out] at x0 x1 x2 x3
    simp only at x0 x1 x2 x3
    have icap := i2.cap
    have imost := i2.most
    have i1 := Lib.hid i1
    have i2 := Lib.hid i2
    have i3 := Lib.hid i3
    clear hq1 hq2 hq3
    have hpA : Hid (fromA (some ⟨bb, o, none⟩) c 1 = some ⟨bb, o + 4, none⟩) := Lib.hid (by unfold fromA; rw [if_neg hc]; simp [addr_add])
    have E2 : Hid (ElseM w (w1.alloc (.cells #[.string xk, .int .u64 (xs : Int), .int .i64 xi, .string xv] 42)) ∧ Below B w (w1.alloc (.cells #[.string xk, .int .u64 (xs : Int), .int .i64 xi, .string xv] 42))) := Lib.hid ⟨W0.out.1.trans (D1.out.els.m.trans (ElseH.of_below (below_alloc w1 _)).m), W0.out.2.trans (D1.out.bel.trans ((below_alloc w1 _).mono D1.out.hp.big))⟩
    have j0' : (w1.alloc (.cells #[.string xk, .int .u64 (xs : Int), .int .i64 xi, .string xv] 42)).cell? ⟨b, 0, none⟩ = some (.slice (some ⟨bb, o, none⟩) 1 c) := cell_keep (below_alloc _ _) j0
    have i1' : Hid ((w1.alloc (.cells #[.string xk, .int .u64 (xs : Int), .int .i64 xi, .string xv] 42)).heap[b]? = some (.cells #[.slice (some ⟨bb, o, none⟩) 1 c, .int .i64 ((it b).num : Int)] 75 (0, 0))) := Lib.hid (((below_alloc w1 _).block b (Array.getElem?_eq_some_iff.1 i1.out).1).trans i1.out)
    have j0f : (w1.alloc (.cells #[.string xk, .int .u64 (xs : Int), .int .i64 xi, .string xv] 42)).frozen? ⟨b, 0, none⟩ = false := (two_cells i1'.out).2.2.1
    have X2 : Hid (RowAt w1.heap.size ⟨xk, xs, xi, xv⟩ (w1.alloc (.cells #[.string xk, .int .u64 (xs : Int), .int .i64 xi, .string xv] 42))) := Lib.hid (RowAt.new ⟨xk, xs, xi, xv⟩ w1)
    have R2 : Hid ((w1.alloc (.cells #[.string xk, .int .u64 (xs : Int), .int .i64 xi, .string xv] 42)).heap[w.heap.size]? = some (.cells #[.string ⟨#[]⟩, .int .u64 0, .int .i64 0, .string ⟨#[]⟩] 42)) := Lib.hid (((below_alloc w1 _).block _ (Array.getElem?_eq_some_iff.1 R1.out).1).trans R1.out)
    obtain ⟨W3, hW3⟩ : ∃ W, W = (w1.alloc (.cells #[.string xk, .int .u64 (xs : Int), .int .i64 xi, .string xv] 42)).setCell ⟨b, 0, none⟩ (.slice (some ⟨bb, o + 4, none⟩) 0 (c - 1)) := ⟨_, rfl⟩
    have H3 : Hid (Hp B hp k qs it W3) := Lib.hid (by rw [hW3]; exact (D1.out.hp.below (below_alloc w1 _)).out hbq.out hbB i1'.out)
    have E3 : Hid (ElseM w W3 ∧ Below B w W3) := Lib.hid (by rw [hW3]; exact els_out E2.out.1 E2.out.2 hbB i1'.out _)
    have hb3 : Hid (W3.heap[b]? = some (.cells #[.slice (some ⟨bb, o + 4, none⟩) 0 (c - 1), .int .i64 ((it b).num : Int)] 75 (0, 0))) := Lib.hid (by rw [hW3]; exact heap_setCell_same _ _ 0 _ _ _ i1'.out)
    have X3 : Hid (RowAt w1.heap.size ⟨xk, xs, xi, xv⟩ W3) := Lib.hid (by
      rw [hW3]
      refine (heap_setCell_other _ _ _ _ (fun e => ?_)).trans X2.out
      have h1 := X2.out
      have e : w1.heap.size = b := e
      unfold RowAt at h1
      rw [e, i1'.out] at h1; cases h1)
    have R3 : Hid (W3.heap[w.heap.size]? = some (.cells #[.string ⟨#[]⟩, .int .u64 0, .int .i64 0, .string ⟨#[]⟩] 42)) := Lib.hid (by
      rw [hW3]
      refine (heap_setCell_other _ _ _ _ (fun e => ?_)).trans R2.out
      have h1 := R2.out
      have e : w.heap.size = b := e
      rw [e, i1'.out] at h1; cases h1)
    have I3 : Hid (Rs (some ⟨bb, o + 4, none⟩) 0 (c - 1) bb (o + 4) (it b).tl W3) := Lib.hid (by
      have h1 := i2.out.below (below_alloc w1 (.cells #[.string xk, .int .u64 (xs : Int), .int .i64 xi, .string xv] 42)) (Nat.le_refl _)
      have h2 := h1.from (k := 1) (by omega)
      rw [hpA.out] at h2
      rw [Nat.one_mul] at h2
      have h3 := (els_out E2.out.1 E2.out.2 hbB i1'.out (.slice (some ⟨bb, o + 4, none⟩) 0 (c - 1))).2
      rw [← hW3] at h3
      have hB2 : Below B (w1.alloc (.cells #[.string xk, .int .u64 (xs : Int), .int .i64 xi, .string xv] 42)) W3 := by rw [hW3]; exact (Below.refl B _).setCell (p := ⟨b, 0, none⟩) hbB _
      exact h2.keep (fun _ => hB2.block bb i3.out) hB2.size)
    have j3 := (two_cells hb3.out).1
    go_upto_region 4 with fail
    rw [← hW3]
    clear hW3
    obtain ⟨⟨y0, y1, y2, y3⟩, _⟩ := X3.out.cells
    obtain ⟨⟨z0, z1, z2, z3⟩, z4⟩ := RowAt.cells (x := ⟨⟨#[]⟩, 0, 0, ⟨#[]⟩⟩) R3.out
    clear x0 x1 x2 x3 j0 j0' j0f jf j1
    go_wp2_with fail
    all_goals (
      refine bodyPost_ret (v := rowV ⟨xk, xs, xi, xv⟩) (by simp [results, Try.results26, go_sem, y0, y1, y2, y3, z0, z1, z2, z3]) rfl ⟨by first | rfl | rw [hX.out], ?_⟩
      obtain ⟨f1, f2, f3⟩ := hfin.out _ _ _ _ _ _ _ R3.out rfl E3.out.1 E3.out.2
      exact ⟨f1, f2, .inl ⟨htl, qs, Q1.out, Q2.out, f3 _ _ H3.out⟩⟩)
set_option maxRecDepth 100000 in
set_option maxHeartbeats 8000000 in
theorem take_more {B hp k : Nat} {ps : List Nat} {it : Nat → It} {w : World} (h : Hp B hp k ps it w) (hl : ps.length < 1000) (hh : HeapP (fun a c => ltI (it a) (it c)) ps.length 0 ps) {n b : Nat} (hn : ps.length = n + 1) (hb : ps[0]? = some b) {y : Rw} {tl : List Rw} (htl : (it b).tl = y :: tl) :
    Calls Try.prog 26 #[.pointer (some ⟨hp, 0, none⟩)] w fun e w' => e = .returned (rowV (it b).hd) ∧ TakeD B hp k ps it b w w' := by
  have hbm : b ∈ ps := List.mem_of_getElem? hb
  have hbB := (h.item b hbm).2
  have hbig := h.big
  have h0 := h.below (below_alloc w (.cells #[.string ⟨#[]⟩, .int .u64 0, .int .i64 0, .string ⟨#[]⟩] 42))
  have TC := Lib.hid (htop_any h0 (by omega) hh hn hb)
  have I0 := (h0.item b hbm).1
  have nd := h.nodup
  obtain ⟨X, hX⟩ := named (it b).hd
  rw [← hX.out]
  have TA := ta_rest (.pointer (some ⟨b, 0, none⟩))
  have R0 : Hid ((w.alloc (.cells #[.string ⟨#[]⟩, .int .u64 0, .int .i64 0, .string ⟨#[]⟩] 42)).heap[w.heap.size]? = some (.cells #[.string ⟨#[]⟩, .int .u64 0, .int .i64 0, .string ⟨#[]⟩] 42)) := Lib.hid (heap_alloc_new w _)
  have W0 : Hid (ElseM w (w.alloc (.cells #[.string ⟨#[]⟩, .int .u64 0, .int .i64 0, .string ⟨#[]⟩] 42)) ∧ Below B w (w.alloc (.cells #[.string ⟨#[]⟩, .int .u64 0, .int .i64 0, .string ⟨#[]⟩] 42))) := Lib.hid ⟨(ElseH.of_below (below_alloc w _)).m, (below_alloc w _).mono hbig⟩
  have I0 := Lib.hid I0
  have hfin : Hid (∀ (W F : World) (a b c d : Value) (cs : Array Value), W.heap[w.heap.size]? = some (.cells cs 42 (0, 0)) → F = ((((W.setCell ⟨w.heap.size, 0, none⟩ a).setCell ⟨w.heap.size, 1, none⟩ b).setCell ⟨w.heap.size, 2, none⟩ c).setCell ⟨w.heap.size, 3, none⟩ d) → ElseM w W → Below B w W → ElseM w F ∧ Below B w F ∧ (∀ qs it', Hp B hp k qs it' W → Hp B hp k qs it' F)) := Lib.hid (fun W F a b c d cs hR hF hE hB => by
    obtain ⟨F', hF', f1, f2, f3⟩ := res_row hR a b c d
    have e : F = F' := by rw [hF, hF']
    subst e
    refine ⟨⟨Nat.le_trans hE.1 (f2 _ (Nat.le_refl _)).size, fun k cs t m hk h1 h2 h3 => (f1 k fun e => ?_).trans (hE.2 k cs t m hk h1 h2 h3)⟩, hB.trans (f2 B hbig), fun qs it' hq => hq.keepR (f2 B hbig) f3⟩
    have := (Array.getElem?_eq_some_iff.1 hk).1
    omega)
  obtain ⟨xk, xs, xi, xv⟩ := X
  clear h h0 hh
  go_enter Try.func26, Try.ntmps26
  go_wp2_with fail
  refine TC.out.mono ?_
  rintro e w1 ⟨rfl, qs, hq1, hq2, hq3⟩
  have I1 := I0.out.els hq3.els hq3.bel
  have R1 := Lib.hid (hq3.els.2 _ _ _ _ R0.out (by decide) (by decide))
  have D1 := Lib.hid hq3
  have Q1 := Lib.hid hq1
  have Q2 := Lib.hid hq2
  have hbq : Hid (b ∉ qs) := Lib.hid (fun hm => by have := (hq1.nodup_iff).2 nd; exact (List.nodup_cons.1 this).1 hm)
  obtain ⟨a, n1, c, bb, o, i1, i2, i3⟩ := I1
  have hn1 : n1 = (it b).tl.length + 1 := by
    have := i2.len
    simp at this
    omega
  obtain ⟨rfl, _⟩ := i2.addr (by omega)
  rw [htl] at hn1 
  simp only [List.length_cons] at hn1
  have hc : ¬ c = 1 := by have := i2.cap; omega
  have n1p : 2 ≤ n1 := by omega
  replace hn1 := Lib.hid hn1
  have n1i : (1 : Int) ≤ (n1 : Int) := by omega
  obtain ⟨j0, j1, jf, _⟩ := two_cells i1
  obtain ⟨x0, x1, x2, x3⟩ := i2.at' 0 _ rfl
  rw [Nat.zero_mul, Nat.add_zero, ← hX.out] at x0 x1 x2 x3
  simp only at x0 x1 x2 x3
  have icap := i2.cap
  have imost := i2.most
  have i1 := Lib.hid i1
  have i2 := Lib.hid i2
  have i3 := Lib.hid i3
  clear hq1 hq2 hq3
  have hpA : Hid (fromA (some ⟨bb, o, none⟩) c 1 = some ⟨bb, o + 4, none⟩) := Lib.hid (by unfold fromA; rw [if_neg hc]; simp [addr_add])
  have E2 : Hid (ElseM w (w1.alloc (.cells #[.string xk, .int .u64 (xs : Int), .int .i64 xi, .string xv] 42)) ∧ Below B w (w1.alloc (.cells #[.string xk, .int .u64 (xs : Int), .int .i64 xi, .string xv] 42))) := Lib.hid ⟨W0.out.1.trans (D1.out.els.m.trans (ElseH.of_below (below_alloc w1 _)).m), W0.out.2.trans (D1.out.bel.trans ((below_alloc w1 _).mono D1.out.hp.big))⟩
  have j0' : (w1.alloc (.cells #[.string xk, .int .u64 (xs : Int), .int .i64 xi, .string xv] 42)).cell? ⟨b, 0, none⟩ = some (.slice (some ⟨bb, o, none⟩) n1 c) := cell_keep (below_alloc _ _) j0
  have i1' : Hid ((w1.alloc (.cells #[.string xk, .int .u64 (xs : Int), .int .i64 xi, .string xv] 42)).heap[b]? = some (.cells #[.slice (some ⟨bb, o, none⟩) n1 c, .int .i64 ((it b).num : Int)] 75 (0, 0))) := Lib.hid (((below_alloc w1 _).block b (Array.getElem?_eq_some_iff.1 i1.out).1).trans i1.out)
  have j0f : (w1.alloc (.cells #[.string xk, .int .u64 (xs : Int), .int .i64 xi, .string xv] 42)).frozen? ⟨b, 0, none⟩ = false := (two_cells i1'.out).2.2.1
  have X2 : Hid (RowAt w1.heap.size ⟨xk, xs, xi, xv⟩ (w1.alloc (.cells #[.string xk, .int .u64 (xs : Int), .int .i64 xi, .string xv] 42))) := Lib.hid (RowAt.new ⟨xk, xs, xi, xv⟩ w1)
  have R2 : Hid ((w1.alloc (.cells #[.string xk, .int .u64 (xs : Int), .int .i64 xi, .string xv] 42)).heap[w.heap.size]? = some (.cells #[.string ⟨#[]⟩, .int .u64 0, .int .i64 0, .string ⟨#[]⟩] 42)) := Lib.hid (((below_alloc w1 _).block _ (Array.getElem?_eq_some_iff.1 R1.out).1).trans R1.out)
  obtain ⟨W3, hW3⟩ : ∃ W, W = (w1.alloc (.cells #[.string xk, .int .u64 (xs : Int), .int .i64 xi, .string xv] 42)).setCell ⟨b, 0, none⟩ (.slice (some ⟨bb, o + 4, none⟩) (n1 - 1) (c - 1)) := ⟨_, rfl⟩
  have H3 : Hid (Hp B hp k qs it W3) := Lib.hid (by rw [hW3]; exact (D1.out.hp.below (below_alloc w1 _)).out hbq.out hbB i1'.out)
  have E3 : Hid (ElseM w W3 ∧ Below B w W3) := Lib.hid (by rw [hW3]; exact els_out E2.out.1 E2.out.2 hbB i1'.out _)
  have hb3 : Hid (W3.heap[b]? = some (.cells #[.slice (some ⟨bb, o + 4, none⟩) (n1 - 1) (c - 1), .int .i64 ((it b).num : Int)] 75 (0, 0))) := Lib.hid (by rw [hW3]; exact heap_setCell_same _ _ 0 _ _ _ i1'.out)
  have X3 : Hid (RowAt w1.heap.size ⟨xk, xs, xi, xv⟩ W3) := Lib.hid (by
    rw [hW3]
    refine (heap_setCell_other _ _ _ _ (fun e => ?_)).trans X2.out
    have h1 := X2.out
    have e : w1.heap.size = b := e
    unfold RowAt at h1
    rw [e, i1'.out] at h1; cases h1)
  have R3 : Hid (W3.heap[w.heap.size]? = some (.cells #[.string ⟨#[]⟩, .int .u64 0, .int .i64 0, .string ⟨#[]⟩] 42)) := Lib.hid (by
    rw [hW3]
    refine (heap_setCell_other _ _ _ _ (fun e => ?_)).trans R2.out
    have h1 := R2.out
    have e : w.heap.size = b := e
    rw [e, i1'.out] at h1; cases h1)
  have I3 : Hid (Rs (some ⟨bb, o + 4, none⟩) (n1 - 1) (c - 1) bb (o + 4) (it b).tl W3) := Lib.hid (by
    have h1 := i2.out.below (below_alloc w1 (.cells #[.string xk, .int .u64 (xs : Int), .int .i64 xi, .string xv] 42)) (Nat.le_refl _)
    have h2 := h1.from (k := 1) (by omega)
    rw [hpA.out] at h2
    rw [Nat.one_mul] at h2
    have h3 := (els_out E2.out.1 E2.out.2 hbB i1'.out (.slice (some ⟨bb, o + 4, none⟩) (n1 - 1) (c - 1))).2
    rw [← hW3] at h3
    have hB2 : Below B (w1.alloc (.cells #[.string xk, .int .u64 (xs : Int), .int .i64 xi, .string xv] 42)) W3 := by rw [hW3]; exact (Below.refl B _).setCell (p := ⟨b, 0, none⟩) hbB _
    exact h2.keep (fun _ => hB2.block bb i3.out) hB2.size)
  have j3 := (two_cells hb3.out).1
  go_upto_region 4 with fail
  rw [← hW3]
  clear hW3
  clear x0 x1 x2 x3 j0 j0' j0f jf j1
  have IT : ItemAt B b ⟨(it b).num, y, tl⟩ W3 := by
    have h3 := I3.out
    rw [htl] at h3
    exact ⟨_, _, _, _, _, hb3.out, h3, i3.out⟩
  have PC := Lib.hid (hpush_any H3.out (by have := Q1.out.length_eq; simp at this; omega) Q2.out IT hbB hbq.out)
  clear IT
  have k1 : (0 : Int) < ((n1 - 1 : Nat) : Int) := by omega
  have k2 : 0 < n1 - 1 := by omega
  go_wp2_with (go_at_call 44; ((with_reducible refine PC.out.mono ?_); rintro e w4 ⟨rfl, rs, hr1, hr2, hr3⟩; have P4 := Lib.hid hr1; have G4 := Lib.hid hr2; have D4 := Lib.hid hr3; have X4 := Lib.hid (hr3.els.2 _ _ _ _ X3.out (by decide) (by decide)); have R4 := Lib.hid (hr3.els.2 _ _ _ _ R3.out (by decide) (by decide)); have E4 : Hid (ElseM w w4 ∧ Below B w w4) := Lib.hid ⟨E3.out.1.trans hr3.els.m, E3.out.2.trans hr3.bel⟩; clear hr1 hr2 hr3; obtain ⟨⟨y0, y1, y2, y3⟩, _⟩ := RowAt.cells (x := ⟨xk, xs, xi, xv⟩) X4.out; obtain ⟨⟨z0, z1, z2, z3⟩, z4⟩ := RowAt.cells (x := ⟨⟨#[]⟩, 0, 0, ⟨#[]⟩⟩) R4.out))
  all_goals (
    refine bodyPost_ret (v := rowV ⟨xk, xs, xi, xv⟩) (by simp [results, Try.results26, go_sem, y0, y1, y2, y3, z0, z1, z2, z3]) rfl ⟨by first | rfl | rw [hX.out], ?_⟩
    obtain ⟨f1, f2, f3⟩ := hfin.out _ _ _ _ _ _ _ R4.out rfl E4.out.1 E4.out.2
    exact ⟨f1, f2, .inr ⟨y, tl, htl, rs, P4.out.trans ((List.perm_append_singleton b qs).trans Q1.out), G4.out, f3 _ _ D4.out.hp⟩⟩)
theorem take_any {B hp k : Nat} {ps : List Nat} {it : Nat → It} {w : World} (h : Hp B hp k ps it w) (hl : ps.length < 1000) (hh : HeapP (fun a c => ltI (it a) (it c)) ps.length 0 ps) {n b : Nat} (hn : ps.length = n + 1) (hb : ps[0]? = some b) :
    Calls Try.prog 26 #[.pointer (some ⟨hp, 0, none⟩)] w fun e w' => e = .returned (rowV (it b).hd) ∧ TakeD B hp k ps it b w w' := by
  cases htl : (it b).tl with
  | nil => exact take_last h hl hh hn hb htl
  | cons y tl => exact take_more h hl hh hn hb htl
end Go.Proofs.Ytkkegdhnkefogaa
