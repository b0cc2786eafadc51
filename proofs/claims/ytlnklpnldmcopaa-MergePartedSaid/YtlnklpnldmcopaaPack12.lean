/-
  Lists of rows, cut and put together; merging the first ones first. No condition.
-/
import Derived.Test.YtlnklpnldmcopaaPack11
import Derived.RangeFuncNested
import Derived.RangeFuncBound
import Derived.RangeFuncCalls
import Derived.RangeFuncLeaves
import Derived.RangeFuncBox
namespace Go.Proofs.Ytlnklpnldmcopaa
set_option maxRecDepth 100000
open Go.RowKit
theorem FinL_app : ∀ {A B : List (List Rw)} {x : Rw}, FinL (A ++ B) x ↔ FinL A x ∨ (FinL B x ∧ ∀ l ∈ A, ∀ y ∈ l, smpB y x = false)
  | [], B, x => by simp [FinL]
  | a :: A, B, x => by
    show x ∈ a ∨ (FinL (A ++ B) x ∧ ∀ y ∈ a, smpB y x = false) ↔ (x ∈ a ∨ (FinL A x ∧ ∀ y ∈ a, smpB y x = false)) ∨ _
    rw [FinL_app]
    constructor
    · rintro (h | ⟨h | ⟨h, h2⟩, h3⟩)
      · exact .inl (.inl h)
      · exact .inl (.inr ⟨h, h3⟩)
      · refine .inr ⟨h, fun l hl y hy => ?_⟩
        rcases List.mem_cons.1 hl with rfl | hl
        · exact h3 y hy
        · exact h2 l hl y hy
    · rintro ((h | ⟨h, h3⟩) | ⟨h, h2⟩)
      · exact .inl h
      · exact .inr ⟨.inl h, h3⟩
      · exact .inr ⟨.inr ⟨h, fun l hl => h2 l (List.mem_cons_of_mem _ hl)⟩, h2 a (List.mem_cons_self ..)⟩
theorem FinL_in : ∀ {A : List (List Rw)} {x : Rw}, FinL A x → ∃ l ∈ A, x ∈ l
  | [], _, h => h.elim
  | a :: A, x, h => by
    rcases h with h | ⟨h, _⟩
    · exact ⟨a, List.mem_cons_self .., h⟩
    · obtain ⟨l, h1, h2⟩ := FinL_in h
      exact ⟨l, List.mem_cons_of_mem _ h1, h2⟩
theorem FinL_some : ∀ {A : List (List Rw)} {l : List Rw} {y : Rw}, l ∈ A → y ∈ l → ∃ z, FinL A z ∧ smpB z y = true
  | a :: A, l, y, hl, hy => by
    rcases List.mem_cons.1 hl with rfl | hl
    · exact ⟨y, .inl hy, smpB_refl y⟩
    · obtain ⟨z, h1, h2⟩ := FinL_some hl hy
      by_cases e : ∀ u ∈ a, smpB u z = false
      · exact ⟨z, .inr ⟨h1, e⟩, h2⟩
      · have e2 : ∃ u ∈ a, smpB u z = true := by
          by_cases e3 : ∃ u ∈ a, smpB u z = true
          · exact e3
          · exact absurd (fun u hu => by
              cases e4 : smpB u z with
              | false => rfl
              | true => exact absurd ⟨u, hu, e4⟩ e3) e
        obtain ⟨u, hu, h3⟩ := e2
        exact ⟨u, .inl hu, smpB_trans h3 h2⟩
theorem mergeL_first {A B : List (List Rw)} (hA : ∀ l ∈ A, SortedR l) (hB : ∀ l ∈ B, SortedR l) : mergeL (mergeL A :: B) = mergeL (A ++ B) := by
  have h1 : ∀ l ∈ mergeL A :: B, SortedR l := fun l hl => by
    rcases List.mem_cons.1 hl with rfl | hl
    · exact mergeL_sorted hA
    · exact hB l hl
  have h2 : ∀ l ∈ A ++ B, SortedR l := fun l hl => by
    rcases List.mem_append.1 hl with hl | hl
    · exact hA l hl
    · exact hB l hl
  refine sorted_same (mergeL_sorted h1) (mergeL_sorted h2) fun x => ?_
  rw [mergeL_mem h1, mergeL_mem h2, FinL_app]
  show x ∈ mergeL A ∨ (FinL B x ∧ ∀ y ∈ mergeL A, smpB y x = false) ↔ _
  rw [mergeL_mem hA]
  constructor
  · rintro (h | ⟨h, h3⟩)
    · exact .inl h
    · refine .inr ⟨h, fun l hl y hy => ?_⟩
      obtain ⟨z, k1, k2⟩ := FinL_some hl hy
      cases e : smpB y x with
      | false => rfl
      | true => have := h3 z ((mergeL_mem hA z).2 k1); rw [smpB_trans k2 e] at this; cases this
  · rintro (h | ⟨h, h3⟩)
    · exact .inl h
    · refine .inr ⟨h, fun y hy => ?_⟩
      obtain ⟨l, k1, k2⟩ := FinL_in ((mergeL_mem hA y).1 hy)
      exact h3 l k1 y k2
theorem size_listB (w : World) : (Go.sizeOf (Try.prog.elem 36)).run Try.prog w = .ok 1 w := by
  obtain ⟨i0, hi, hz0, hz1, hz2⟩ := info_parts (show (Try.prog.info? (Try.prog.elem 36)).map (fun i => (i.zero, i.size, i.bytes)) = some (some (.slice none 0 0), 1, 24) by kernel_rfl)
  simp [Go.sizeOf, typeInfo, hi, hz1]
def fromL (p : Option Addr) (c k : Nat) : Option Addr := if c = k then p else p.map (·.add (k * 1))
theorem sll_upto (p : Option Addr) (n c k : Nat) (hk : k ≤ c) (u : World) : (Instr.slice 36 (.slice p n c) none (some (.int .i64 (k : Int))) none).run Try.prog u = .ok (.slice p k c) u := by
  rw [run_slice_h u 36 p n c (by kernel_rfl) .i64 (k : Int) (by omega) (by omega), size_listB]
  cases p <;> simp [Result.andThen, sliced, Addr.add]
theorem sll_from (p : Option Addr) (n c k : Nat) (hk : k ≤ n) (u : World) : (Instr.slice 36 (.slice p n c) (some (.int .i64 (k : Int))) none none).run Try.prog u = .ok (.slice (fromL p c k) (n - k) (c - k)) u := by
  rw [run_slice_l u 36 p n c (by kernel_rfl) .i64 (k : Int) (by omega) (by omega), size_listB]
  simp only [Result.andThen, sliced, Int.toNat_natCast, fromL]
theorem RL.upto {B : Nat} {p : Option Addr} {n c : Nat} {L : List (List Rw)} {w : World} (h : RL B p n c L w) {k : Nat} (hk : k ≤ n) : RL B p k c (L.take k) w := by
  obtain ⟨g, o, h1, h2⟩ := h.addr
  refine ⟨by rw [List.length_take, h.len]; omega, by have := h.cap; omega, h.most, g, o, fun h0 => h1 (by omega), fun j l hl => ?_⟩
  rw [List.getElem?_take] at hl
  split at hl
  · exact h2 j l hl
  · cases hl
theorem RL.from {B : Nat} {p : Option Addr} {n c : Nat} {L : List (List Rw)} {w : World} (h : RL B p n c L w) {k : Nat} (hk : k ≤ n) : RL B (fromL p c k) (n - k) (c - k) (L.drop k) w := by
  obtain ⟨g, o, h1, h2⟩ := h.addr
  have hc := h.cap
  have hm := h.most
  refine ⟨by rw [List.length_drop, h.len], by omega, by omega, g, o + k, fun h0 => ?_, fun j l hl => ?_⟩
  · obtain ⟨rfl, hb⟩ := h1 (by omega)
    refine ⟨?_, hb⟩
    unfold fromL
    rw [if_neg (by omega)]
    simp [addr_add]
  · rw [List.getElem?_drop] at hl
    obtain ⟨a, m, d, b, q, e1, e2, e3⟩ := h2 (k + j) l hl
    exact ⟨a, m, d, b, q, by rw [Nat.add_assoc]; exact e1, e2, e3⟩
theorem RL.vals {B : Nat} {p : Option Addr} {n c : Nat} {L : List (List Rw)} {w : World} (h : RL B p n c L w) : ∃ vs : List Value, vs.length = n ∧ (∀ ad, p = some ad → ∀ j u, vs[j]? = some u → w.cell? (ad.add j) = some u) ∧ (∀ u ∈ vs, u.oneCell' = true) ∧ ∀ (j : Nat) l, L[j]? = some l → ∃ a m d b q, vs[j]? = some (.slice a m d) ∧ Rs a m d b q l w ∧ (0 < m → b < B) := by
  obtain ⟨g, o, h1, h2⟩ := h.addr
  have hat : ∀ j u, ((List.range n).map fun j => (w.cell? ⟨g, o + j, none⟩).getD (.slice none 0 0))[j]? = some u → j < n ∧ w.cell? ⟨g, o + j, none⟩ = some u ∧ u.oneCell' = true := fun j u hj => by
    rw [List.getElem?_map] at hj
    by_cases hjn : j < n
    · rw [List.getElem?_range hjn] at hj
      obtain ⟨l, hl⟩ : ∃ l, L[j]? = some l := ⟨_, List.getElem?_eq_getElem (by rw [h.len]; exact hjn)⟩
      obtain ⟨a, m, d, b, q, e1, _⟩ := h2 j l hl
      simp only [Option.map_some, e1, Option.getD_some, Option.some.injEq] at hj
      subst hj
      exact ⟨hjn, e1, rfl⟩
    · rw [List.getElem?_eq_none (by simp; omega)] at hj; cases hj
  refine ⟨(List.range n).map fun j => (w.cell? ⟨g, o + j, none⟩).getD (.slice none 0 0), by simp, fun ad e j u hj => ?_, fun u hu => ?_, fun j l hl => ?_⟩
  · obtain ⟨hjn, k1, _⟩ := hat j u hj
    obtain ⟨e2, _⟩ := h1 (by omega)
    rw [e] at e2
    cases e2
    rw [addr_add]; exact k1
  · obtain ⟨j, hj⟩ := List.mem_iff_getElem?.1 hu
    exact (hat j u hj).2.2
  · have hjn : j < n := by have := (List.getElem?_eq_some_iff.1 hl).1; have := h.len; omega
    obtain ⟨a, m, d, b, q, e1, e2, e3⟩ := h2 j l hl
    refine ⟨a, m, d, b, q, ?_, e2, e3⟩
    rw [List.getElem?_map, List.getElem?_range hjn]
    simp [e1]
/-- 'append(a, b...)' of lists, a the call's own, b a slice of them, nil or not. -/
theorem wpList_append_lists {ops : Array Oper} {rest : List Oper} {o : Oper} {a : Act} {Q : Exit → Act → World → Prop} {w : World} (hgd : o.guard = none) (s x : Operand)
    (ho : o.op = .call { callee := .builtin .append, args := #[s, x], argTypes := #[36, 36] })
    (base : Nat) (v : Value) (k : Nat) (xs : List Value) (p : Option Addr) (n c B : Nat) (L : List (List Rw)) (hs : a.eval s = v) (hx : a.eval x = .slice p n c) (hown : w.ownsRow base 22 1 v k xs) (hsrc : RL B p n c L w) (hk : k ≤ 1000) (hn : n ≤ 1000) (hbase : base ≤ w.heap.size)
    (h : ∀ v' w' vs, w'.ownsRow base 22 1 v' (k + n) (xs ++ vs) → w.grownBy w' v.ownBlock → (∀ (j : Nat) l, L[j]? = some l → ∃ a m d b q, vs[j]? = some (.slice a m d) ∧ Rs a m d b q l w ∧ (0 < m → b < B)) → (∃ va vc, v' = .slice va (k + n) vc) → wpList Try.prog ops Q rest (a.put o.dst v') w') : wpList Try.prog ops Q (o :: rest) a w := by
  obtain ⟨i0, hi, hz0, hz1, hz2⟩ := info_parts (show (Try.prog.info? 22).map (fun i => (i.zero, i.size, i.bytes)) = some (some (.slice none 0 0), 1, 24) by kernel_rfl)
  obtain ⟨vs, k1, k2, k3, k4⟩ := hsrc.vals
  have shape : ∀ {v' : Value} {w' : World} {ys : List Value}, w'.ownsRow base 22 1 v' (k + n) ys → ∃ va vc, v' = .slice va (k + n) vc := fun hr => by
    obtain ⟨p, c, e⟩ := row_shape hr
    exact ⟨p, c, e⟩
  cases p with
  | none =>
    have h0 : n = 0 := by
      obtain ⟨g, o, h1, _⟩ := hsrc.addr
      rcases Nat.eq_zero_or_pos n with e | e
      · exact e
      · have := (h1 e).1; cases this
    subst h0
    obtain rfl : vs = [] := List.length_eq_zero_iff.1 k1
    have hrun : (Builtin.append_ #[36, 36] o.type #[v, .slice none 0 c]).run Try.prog w = .ok v w := by
      rcases hown.2 with ⟨rfl, e0⟩ | ⟨g, cap, cur, rfl, _, _, hle, _⟩
      · exact run_append_nothing w _ _ _ 22 i0 Try.underlying36 hi none 0 0 (Nat.le_refl _) _ (Src.ofNil w Try.underlying36 c)
      · exact run_append_nothing w _ _ _ 22 i0 Try.underlying36 hi _ k cap hle _ (Src.ofNil w Try.underlying36 c)
    refine wpList_plain hgd fun K hK => ?_
    unfold Oper.wp
    simp [execOp, ho, resolve, invoke, builtin, hs, hx, hrun, Result.andThen]
    exact hK _ _ (h v w [] (by rw [List.append_nil]; exact hown) ⟨rfl, rfl, rfl, Nat.le_refl _, fun _ _ _ => rfl⟩ k4 (shape (by exact hown)))
  | some ad =>
    refine wpList_append_own w hgd s x 36 ho base 22 i0 _ 1 24 Try.underlying36 hi hz0 hz1 hz2 rfl (by decide) v k xs hs hown ad n c vs hx (by rw [k1, Nat.mul_one]) (k2 ad rfl) k3 (by unfold maxLen; omega) (by omega) hbase ?_
    intro v' w' h1 h2 h3
    exact h v' w' vs h1 h2 k4 (shape h1)
/-- Lists put together, one of them ahead. -/
theorem rl_cons {base B : Nat} {v' : Value} {R : Nat} {n : Nat} {L : List (List Rw)} {w w' : World} {x : Option Addr} {xn xc xb : Nat} {l : List Rw} {vs : List Value} (hx : Rs x xn xc xb 0 l w) (hxR : 0 < xn → xb ≠ R) (hRB : B ≤ R) (hwB : B ≤ w.heap.size) (hL : L.length = n) (hown : w'.ownsRow base 22 1 v' (1 + n) ([.slice x xn xc] ++ vs)) (hgrow : w.grownBy w' (some R)) (hvs : ∀ (j : Nat) l, L[j]? = some l → ∃ a m d b q, vs[j]? = some (.slice a m d) ∧ Rs a m d b q l w ∧ (0 < m → b < B)) :
    ∃ p c, v' = .slice p (n + 1) c ∧ RL w'.heap.size p (n + 1) c (l :: L) w' := by
  rcases hown.2 with ⟨_, e⟩ | ⟨g, cap, cur, rfl, hg, hb, hn, hm, _⟩
  · omega
  · rw [Nat.add_comm 1 n] at hn hown
    refine ⟨some ⟨g, 0, none⟩, cap, by rw [Nat.add_comm 1 n], by simp [hL], hn, hm, g, 0, fun _ => ⟨rfl, (Array.getElem?_eq_some_iff.1 hb).1⟩, fun j y hy => ?_⟩
    have hj : j < n + 1 := by have := (List.getElem?_eq_some_iff.1 hy).1; simp [hL] at this; omega
    have hcell := World.ownsRow.cellAt hown j (by omega)
    rw [Nat.zero_add]
    cases j with
    | zero =>
      simp at hy; subst hy
      refine ⟨x, xn, xc, xb, 0, hcell, hx.keep (fun h0 => hgrow.block xb (hx.addr h0).2 (fun e => hxR h0 (by cases e; rfl))) hgrow.size, fun h0 => Nat.lt_of_lt_of_le (hx.addr h0).2 hgrow.size⟩
    | succ j =>
      obtain ⟨a, m, d, b, q, e1, e2, e3⟩ := hvs j y (by simpa using hy)
      refine ⟨a, m, d, b, q, hcell.trans (by simpa using e1), e2.keep (fun h0 => hgrow.block b (e2.addr h0).2 (fun e => by cases e; have := e3 h0; omega)) hgrow.size, fun h0 => Nat.lt_of_lt_of_le (e2.addr h0).2 hgrow.size⟩
end Go.Proofs.Ytlnklpnldmcopaa
/-
  Rows that are parted into five lists. No condition.
-/
namespace Go.Proofs.Ytlnklpnldmcopaa
set_option maxRecDepth 100000
open Go.RowKit
/-- Lists that have just the rows of one are that one again. -/
theorem merge_parted {l : List Rw} (hl : SortedR l) {P : List (List Rw)} (hs : ∀ p ∈ P, p.Sublist l) (ha : ∀ x ∈ l, ∃ p ∈ P, x ∈ p) : mergeL P = l := by
  have hP : ∀ p ∈ P, SortedR p := fun p hp => hl.sublist (hs p hp)
  refine sorted_same (mergeL_sorted hP) hl fun x => ?_
  rw [mergeL_mem hP]
  constructor
  · intro h
    obtain ⟨p, h1, h2⟩ := FinL_in h
    exact (hs p h1).subset h2
  · intro h
    obtain ⟨p, h1, h2⟩ := ha x h
    obtain ⟨z, k1, k2⟩ := FinL_some h1 h2
    obtain ⟨q, h3, h4⟩ := FinL_in k1
    have hz := (hs q h3).subset h4
    have : z = x := by
      obtain ⟨i, hi⟩ := List.mem_iff_getElem?.1 hz
      obtain ⟨j, hj⟩ := List.mem_iff_getElem?.1 h
      obtain ⟨l1, e1⟩ := List.getElem?_eq_some_iff.1 hi
      obtain ⟨l2, e2⟩ := List.getElem?_eq_some_iff.1 hj
      rcases Nat.lt_trichotomy i j with c | c | c
      · have := List.pairwise_iff_getElem.1 hl i j l1 l2 c
        rw [e1, e2, ahd_no_same k2] at this; cases this
      · subst c; rw [hi] at hj; exact Option.some.inj hj
      · have := List.pairwise_iff_getElem.1 hl j i l2 l1 c
        rw [e1, e2, ahd_no_same (smpB_symm k2)] at this; cases this
    exact this ▸ k1
/-- Five lists of the call's own. -/
structure PL (B G : Nat) (P : Nat → List Rw) (vf : Nat → Value) (w : World) : Prop where
  blk : ∃ cs, w.heap[G]? = some (.cells cs 22 (0, 0)) ∧ ∀ k, k < 5 → cs[k]? = some (vf k)
  own : ∀ k, k < 5 → w.ownsRow B 38 4 (vf k) (P k).length (rowR (P k))
  dis : ∀ j k, j < 5 → k < 5 → j ≠ k → ∀ g, (vf j).ownBlock = some g → (vf k).ownBlock ≠ some g
  low : B ≤ G
theorem PL.below {B G : Nat} {P : Nat → List Rw} {vf : Nat → Value} {w w' : World} (h : PL B G P vf w) (hb : Below w.heap.size w w') : PL B G P vf w' := by
  obtain ⟨cs, h1, h2⟩ := h.blk
  exact ⟨⟨cs, (hb.block _ (Array.getElem?_eq_some_iff.1 h1).1).trans h1, h2⟩, fun k hk => own_below (h.own k hk) hb, h.dis, h.low⟩
theorem PL.cell {B G : Nat} {P : Nat → List Rw} {vf : Nat → Value} {w : World} (h : PL B G P vf w) {k : Nat} (hk : k < 5) : w.cell? ⟨G, k, none⟩ = some (vf k) ∧ w.frozen? ⟨G, k, none⟩ = false := by
  obtain ⟨cs, h1, h2⟩ := h.blk
  refine ⟨?_, ?_⟩
  · simp [World.cell?, h1, h2 k hk]
  · simp [World.frozen?, h1]
theorem PL.size {B G : Nat} {P : Nat → List Rw} {vf : Nat → Value} {w : World} (h : PL B G P vf w) : G < w.heap.size ∧ B ≤ w.heap.size := by
  obtain ⟨cs, h1, _⟩ := h.blk
  have := (Array.getElem?_eq_some_iff.1 h1).1
  have := h.low
  exact ⟨by omega, by omega⟩
theorem own_store {w : World} {B G k n size : Nat} {e : TypeId} {v u : Value} {xs : List Value} {cs : Array Value} {t : TypeId} (h : w.ownsRow B e size v n xs) (hG : w.heap[G]? = some (.cells cs t (0, 0))) (ht : t ≠ e) : (w.setCell ⟨G, k, none⟩ u).ownsRow B e size v n xs := by
  refine ⟨h.1, ?_⟩
  rcases h.2 with h2 | ⟨g, cap, cur, h2, h3, h4, h5⟩
  · exact .inl h2
  · exact .inr ⟨g, cap, cur, h2, h3, (heap_setCell_other _ _ _ _ (fun e2 => by
      have e2 : g = G := e2
      subst e2; rw [hG] at h4; cases h4; exact ht rfl)).trans h4, h5⟩
/-- One more row in one of them. -/
theorem PL.push {B G : Nat} {P : Nat → List Rw} {vf : Nat → Value} {w w' : World} (h : PL B G P vf w) {k : Nat} (hk : k < 5) {x : Rw} {tmp : Obj} {g cap : Nat} (hown : w'.ownsRow B 38 4 (.slice (some ⟨g, 0, none⟩) ((P k).length + 1) cap) ((P k).length + 1) (rowR (P k) ++ [.string x.key, .int .u64 (x.seq : Int), .int .i64 x.kind, .string x.val]))
    (hgrow : (w.alloc tmp).grownBy w' (vf k).ownBlock) (hat : (vf k).ownBlock = some g ∨ g = (w.alloc tmp).heap.size) :
    PL B G (fun j => if j = k then P k ++ [x] else P j) (fun j => if j = k then .slice (some ⟨g, 0, none⟩) ((P k).length + 1) cap else vf j) (w'.setCell ⟨G, k, none⟩ (.slice (some ⟨g, 0, none⟩) ((P k).length + 1) cap)) ∧ Below B w (w'.setCell ⟨G, k, none⟩ (.slice (some ⟨g, 0, none⟩) ((P k).length + 1) cap)) := by
  obtain ⟨cs, h1, h2⟩ := h.blk
  have hlt : ∀ j, j < 5 → ∀ r, (vf j).ownBlock = some r → B ≤ r ∧ r < w.heap.size := fun j hj r hr => World.ownsRow.lt (h.own j hj) r hr
  have hA := h.below (below_alloc w tmp)
  obtain ⟨cs1, k1, k2⟩ := hA.blk
  have hGA : w'.heap[G]? = some (.cells cs1 22 (0, 0)) := by
    refine (hgrow.block G (by rw [World.size_alloc]; have := h.size.1; omega) (fun e => ?_)).trans k1
    obtain ⟨_, cs', hc'⟩ := own_block (hA.own k hk) G e.symm
    rw [k1] at hc'; cases hc'
  have hbA : Below B w w' := ((below_alloc w tmp).mono h.size.2).trans ⟨hgrow.os, hgrow.tape, hgrow.output, hgrow.size, fun r hr => hgrow.block r (by rw [World.size_alloc]; have := h.size.2; omega) (fun e => by have := (hlt k hk _ e.symm).1; omega)⟩
  refine ⟨⟨⟨_, heap_setCell_same _ _ k _ _ _ hGA, fun j hj => ?_⟩, fun j hj => ?_, fun i j hi hj hne r hr => ?_, h.low⟩, hbA.trans ((Below.refl B w').setCell (p := ⟨G, k, none⟩) h.low _)⟩
  · by_cases e : j = k
    · subst e
      have : j < cs1.size := (Array.getElem?_eq_some_iff.1 (k2 j hj)).1
      simp [this]
    · have := k2 j hj
      simp only [if_neg e]
      rw [Array.getElem?_setIfInBounds_ne (fun e2 => e e2.symm)]
      exact this
  · by_cases e : j = k
    · subst e
      simp only [if_pos]
      rw [rowR_snoc, List.length_append]
      exact own_store hown hGA (by decide)
    · simp only [if_neg e]
      refine own_store ((hA.own j hj).kept hgrow ?_) hGA (by decide)
      cases hv : (vf j).ownBlock with
      | none => exact .inl rfl
      | some r => exact .inr (fun e2 => h.dis j k hj hk e r hv e2.symm)
  · have hnew : ∀ j, j < 5 → j ≠ k → ∀ r, (vf j).ownBlock = some r → r ≠ g := fun j hj hjk r hr e => by
      rcases hat with h4 | h4
      · exact h.dis j k hj hk hjk r hr (by rw [h4, e])
      · have := (hlt j hj r hr).2; rw [World.size_alloc] at h4; omega
    by_cases e : i = k
    · subst e
      have hjk : j ≠ i := fun e => hne e.symm
      simp only [if_pos, if_neg hjk, Value.ownBlock, Option.some.injEq] at hr ⊢
      intro e2
      exact hnew j hj hjk r e2 hr.symm
    · simp only [if_neg e] at hr
      by_cases e2 : j = k
      · subst e2
        simp only [if_pos, Value.ownBlock, ne_eq, Option.some.injEq]
        exact fun e3 => hnew i hi e r hr e3.symm
      · simp only [if_neg e2]
        exact h.dis i j hi hj hne r hr
/-- As lists that are handed in. -/
theorem PL.rl {B G cap : Nat} {P : Nat → List Rw} {vf : Nat → Value} {w : World} (h : PL B G P vf w) (hc : 5 ≤ cap) (hm : cap ≤ 9223372036854775807) : RL w.heap.size (some ⟨G, 0, none⟩) 5 cap [P 0, P 1, P 2, P 3, P 4] w := by
  refine ⟨rfl, hc, hm, G, 0, fun _ => ⟨rfl, h.size.1⟩, fun j l hl => ?_⟩
  have hj : j < 5 := (List.getElem?_eq_some_iff.1 hl).1
  have hP : l = P j := by
    match j, hj, hl with
    | 0, _, hl => simpa using hl.symm
    | 1, _, hl => simpa using hl.symm
    | 2, _, hl => simpa using hl.symm
    | 3, _, hl => simpa using hl.symm
    | 4, _, hl => simpa using hl.symm
  subst hP
  obtain ⟨a, c, b, e, hR, _⟩ := rs_of_row (h.own j hj)
  rw [Nat.zero_add]
  exact ⟨a, _, c, b, 0, by rw [(h.cell hj).1, e], hR, fun h0 => (hR.addr h0).2⟩
/-- What has been parted so far. -/
structure Pt (l : List Rw) (P : Nat → List Rw) : Prop where
  sub : ∀ k, k < 5 → (P k).Sublist l
  all : ∀ x ∈ l, ∃ k, k < 5 ∧ x ∈ P k
theorem Pt.nil : Pt [] (fun _ => []) := ⟨fun _ _ => List.Sublist.slnil, fun x hx => by cases hx⟩
theorem Pt.push {l : List Rw} {P : Nat → List Rw} (h : Pt l P) {k : Nat} (hk : k < 5) (x : Rw) : Pt (l ++ [x]) (fun j => if j = k then P k ++ [x] else P j) := by
  refine ⟨fun j hj => ?_, fun y hy => ?_⟩
  · by_cases e : j = k
    · simp only [if_pos e]; exact (h.sub k hk).append (List.Sublist.refl _)
    · simp only [if_neg e]; exact (h.sub j hj).trans (List.sublist_append_left _ _)
  · rcases List.mem_append.1 hy with h1 | h1
    · obtain ⟨j, h2, h3⟩ := h.all y h1
      refine ⟨j, h2, ?_⟩
      by_cases e : j = k
      · subst e; simp only [if_pos]; exact List.mem_append_left _ h3
      · simp only [if_neg e]; exact h3
    · exact ⟨k, hk, by simp only [if_pos]; exact List.mem_append_right _ h1⟩
theorem Pt.merge {l : List Rw} {P : Nat → List Rw} (h : Pt l P) (hl : SortedR l) : mergeL [P 0, P 1, P 2, P 3, P 4] = l ∧ mergeL [P 4, P 3, P 2, P 1, P 0] = l := by
  have hk : ∀ x ∈ l, x ∈ P 0 ∨ x ∈ P 1 ∨ x ∈ P 2 ∨ x ∈ P 3 ∨ x ∈ P 4 := fun x hx => by
    obtain ⟨k, h1, h2⟩ := h.all x hx
    match k, h1, h2 with
    | 0, _, h2 => exact .inl h2
    | 1, _, h2 => exact .inr (.inl h2)
    | 2, _, h2 => exact .inr (.inr (.inl h2))
    | 3, _, h2 => exact .inr (.inr (.inr (.inl h2)))
    | 4, _, h2 => exact .inr (.inr (.inr (.inr h2)))
  have hs : ∀ p, p = P 0 ∨ p = P 1 ∨ p = P 2 ∨ p = P 3 ∨ p = P 4 → p.Sublist l := fun p hp => by
    rcases hp with rfl | rfl | rfl | rfl | rfl <;> exact h.sub _ (by omega)
  constructor
  · refine merge_parted hl (fun p hp => hs p (by simpa using hp)) (fun x hx => ?_)
    rcases hk x hx with h1 | h1 | h1 | h1 | h1
    · exact ⟨_, by simp, h1⟩
    · exact ⟨P 1, by simp, h1⟩
    · exact ⟨P 2, by simp, h1⟩
    · exact ⟨P 3, by simp, h1⟩
    · exact ⟨P 4, by simp, h1⟩
  · refine merge_parted hl (fun p hp => hs p (by have : p = P 4 ∨ p = P 3 ∨ p = P 2 ∨ p = P 1 ∨ p = P 0 := by simpa using hp
                                                 rcases this with e | e | e | e | e <;> simp [e])) (fun x hx => ?_)
    rcases hk x hx with h1 | h1 | h1 | h1 | h1
    · exact ⟨P 0, by simp, h1⟩
    · exact ⟨P 1, by simp, h1⟩
    · exact ⟨P 2, by simp, h1⟩
    · exact ⟨P 3, by simp, h1⟩
    · exact ⟨P 4, by simp, h1⟩
end Go.Proofs.Ytlnklpnldmcopaa
/-
  A slice of structs that came in as an argument, whose elements hold what is told of them in memory, too. No condition.
-/
namespace Go.Proofs.Ytlnklpnldmcopaa
open Go Go.RowKit Go.ChangeShapes Go.WideShapes Go.Deep
set_option maxRecDepth 100000
theorem open_slice_in {α : Type} [Inhabited α] {H : Type} {enc : TypeId × Value → H} {W : World} {a0 : Option Addr} {len cap fuel : Nat} {x : DataW H × List MemPlace} {T E : TypeId} (k : Nat) (hT : Try.prog.underlying T = some (.slice E)) (hk : Try.prog.cellsOf E = k) (hk0 : 0 < k)
    (cells : α → List Value) (hcl : ∀ v, (cells v).length = k) (Good : α → Prop)
    (read : ∀ {fuel : Nat} {cs : List Value} {y : DataW H × List MemPlace}, DataW.trod enc Try.prog W 0 (fun _ => true) true fuel E cs = some y → (∀ n ∈ y.1.weights Try.prog E, n ≤ reachBytes) → ∃ v : α, cs = cells v ∧ Good v)
    (hf : DataW.trod enc Try.prog W 0 (fun _ => true) true fuel T [.slice a0 len cap] = some x) (hsz : ∀ n ∈ x.1.weights Try.prog T, n ≤ reachBytes) :
    ∃ b o l, SlOf k cells a0 len cap b o l W ∧ ∀ v ∈ l, Good v := by
  rcases DataW.trod_slice hT hf with ⟨hcs, _⟩ | ⟨a, len', cap', elems, rest, n, _, hcs, hx, _, hl, hm, hlen, hel, _, _⟩
  · simp at hcs
    obtain ⟨rfl, rfl, rfl⟩ := hcs
    exact ⟨0, 0, [], ⟨rfl, Nat.le_refl _, by omega, fun h => absurd h (by omega), fun j x hx => by simp at hx⟩, fun x hx => by cases hx⟩
  · simp at hcs
    obtain ⟨rfl, rfl, rfl⟩ := hcs
    obtain ⟨b, off, spot⟩ := a
    have el : ∀ i, i < len → ∃ v : α, (∀ m u, (cells v)[m]? = some u → W.cell? ((⟨b, off, spot⟩ : Addr).add (i * k + m)) = some u) ∧ Good v := by
      intro i hi
      have h1 := hel i hi
      rw [hk] at h1
      have hys : elems[i]? = some (elems[i]'(by omega)) := List.getElem?_eq_getElem (by omega)
      rw [hys] at h1
      obtain ⟨cs, hc, ht'⟩ := Option.bind_eq_some_iff.1 h1
      obtain ⟨v, rfl, hg⟩ := read ht' (fun n hn => hsz n (by rw [hx, DataW.weights, hT]; exact List.mem_cons_of_mem _ (List.mem_append_left _ (weights_of (List.mem_map.2 ⟨_, List.mem_of_getElem? hys, rfl⟩) hn))))
      obtain ⟨_, hcl', hat⟩ := World.cells?_some hc
      refine ⟨v, fun m u hu => ?_, hg⟩
      have hm5 : m < k := by have := (List.getElem?_eq_some_iff.1 hu).1; rw [hcl] at this; exact this
      rw [← Go.Deep.add_add, hat m hm5, hu]
    obtain ⟨vf, hvf⟩ : ∃ vf : Nat → α, ∀ i, i < len → (∀ m u, (cells (vf i))[m]? = some u → W.cell? ((⟨b, off, spot⟩ : Addr).add (i * k + m)) = some u) ∧ Good (vf i) := by
      refine ⟨fun i => if h : i < len then (el i h).choose else default, fun i hi => ?_⟩
      simp only [dif_pos hi]
      exact (el i hi).choose_spec
    have hspot : 0 < len → spot = none := fun h0 => by
      obtain ⟨hcell, _⟩ := hvf 0 h0
      have := hcell 0 _ (List.getElem?_eq_getElem (by rw [hcl]; exact hk0))
      simpa [Addr.add] using World.cell?_spot this
    unfold maxLen at hm
    refine ⟨b, off, (List.range len).map vf, ⟨by simp, hl, by omega, fun h0 => ?_, fun j v hj m u hu => ?_⟩, fun v hv => ?_⟩
    · have hs := hspot h0
      subst hs
      obtain ⟨hcell, _⟩ := hvf 0 h0
      have hb := World.block_lt_of_cell? _ _ (hcell 0 _ (List.getElem?_eq_getElem (by rw [hcl]; exact hk0)))
      exact ⟨rfl, by simpa [Addr.add] using hb⟩
    · have hjl : j < len := by have := (List.getElem?_eq_some_iff.1 hj).1; simpa using this
      have hvj : v = vf j := by simpa [hjl] using hj.symm
      subst hvj
      have hs := hspot (by omega)
      subst hs
      obtain ⟨hcell, _⟩ := hvf j hjl
      have := hcell m u hu
      have e1 : (⟨b, off, none⟩ : Addr).add (j * k + m) = ⟨b, off + j * k + m, none⟩ := by
        unfold Addr.add
        split
        · rename_i h0
          rw [show off + j * k + m = off by omega]
        · simp only [Addr.mk.injEq, true_and, and_true]; omega
      rw [e1] at this
      exact this
    · obtain ⟨i, hi, rfl⟩ := List.mem_map.1 hv
      have hil : i < len := List.mem_range.1 hi
      exact (hvf i hil).2
end Go.Proofs.Ytlnklpnldmcopaa
/-
  An argument of the type [][]api.Row: opened. No condition.
-/
namespace Go.Proofs.Ytlnklpnldmcopaa
open Go Go.RowKit Go.ChangeShapes Go.WideShapes Go.Deep
set_option maxRecDepth 100000
theorem open_rowsW {H : Type} {enc : TypeId × Value → H} {W : World} {a0 : Option Addr} {len cap fuel : Nat} {x : DataW H × List MemPlace}
    (hf : DataW.trod enc Try.prog W 0 (fun _ => true) true fuel 22 [.slice a0 len cap] = some x) (hsz : ∀ n ∈ x.1.weights Try.prog 22, n ≤ reachBytes) :
    ∃ b o l, Rs a0 len cap b o l W ∧ ∀ v ∈ l, RwIn v := by
  have oc : Try.prog.cellsOf 38 = 4 := by kernel_rfl
  obtain ⟨b, o, l, hs, hg⟩ := open_slice_of (α := Rw) 4 Try.underlying22 oc (by omega) cellsR (fun _ => rfl) (fun v => v.seq ≤ 18446744073709551615) (fun v => [v.key.size, v.val.size]) rw_read hf hsz
  refine ⟨b, o, l, ⟨hs.len, hs.cap, hs.most, hs.addr, fun j v hj => ?_⟩, fun v hv => rwIn_of (hg v hv).1 (hg v hv).2⟩
  exact ⟨hs.at' j v hj 0 _ rfl, hs.at' j v hj 1 _ rfl, hs.at' j v hj 2 _ rfl, hs.at' j v hj 3 _ rfl⟩
/-- A list of rows, and where it lies. -/
structure Lr where
  a : Option Addr
  n : Nat
  c : Nat
  b : Nat
  o : Nat
  l : List Rw
  deriving Inhabited
def cellsLr (v : Lr) : List Value := [.slice v.a v.n v.c]
def LrAt (v : Lr) (W : World) : Prop := Rs v.a v.n v.c v.b v.o v.l W ∧ ∀ x ∈ v.l, RwIn x
theorem lr_read {H : Type} {enc : TypeId × Value → H} {W : World} {fuel : Nat} {cs : List Value} {y : DataW H × List MemPlace} (h : DataW.trod enc Try.prog W 0 (fun _ => true) true fuel 22 cs = some y)
    (hsz : ∀ n ∈ y.1.weights Try.prog 22, n ≤ reachBytes) : ∃ v : Lr, cs = cellsLr v ∧ LrAt v W := by
  have e4 : ∃ sa sn sc, cs = [.slice sa sn sc] := by
    rcases DataW.trod_slice Try.underlying22 h with ⟨hc, _⟩ | ⟨a, len, cap, _, _, _, _, hc, _⟩
    · exact ⟨none, 0, 0, hc⟩
    · exact ⟨some a, len, cap, hc⟩
  obtain ⟨sa, sn, sc, rfl⟩ := e4
  obtain ⟨b, o, l, hw⟩ := open_rowsW h hsz
  exact ⟨⟨sa, sn, sc, b, o, l⟩, rfl, hw⟩
theorem open_rls {H : Type} {enc : TypeId × Value → H} {W : World} {a0 : Option Addr} {len cap fuel : Nat} {x : DataW H × List MemPlace} {ts : List TypeId} {ds : List (DataW H)}
    (hf : DataW.trod enc Try.prog W 0 (fun _ => true) true fuel 36 [.slice a0 len cap] = some x) (hsz : (DataW.weightsEach Try.prog ts ds).all (· ≤ reachBytes) = true) {j : Nat} (ht : ts[j]? = some 36) (hd : ds[j]? = some x.1) :
    ∃ b o l, SlOf 1 cellsLr a0 len cap b o l W ∧ ∀ v ∈ l, LrAt v W := by
  have oc : Try.prog.cellsOf 22 = 1 := by kernel_rfl
  exact open_slice_in (α := Lr) 1 Try.underlying36 oc (by omega) cellsLr (fun _ => rfl) (fun v => LrAt v W) lr_read hf
    (fun m hm => by have := List.all_eq_true.1 hsz _ (DataW.weights_mem_each ht hd m hm); simpa using this)
theorem rl_of {a0 : Option Addr} {len cap b o : Nat} {l : List Lr} {W : World} (h : SlOf 1 cellsLr a0 len cap b o l W) (hg : ∀ v ∈ l, LrAt v W) : RL W.heap.size a0 len cap (l.map (·.l)) W := by
  refine ⟨by rw [List.length_map, h.len], h.cap, h.most, b, o, h.addr, fun j x hx => ?_⟩
  rw [List.getElem?_map] at hx
  cases hv : l[j]? with
  | none => rw [hv] at hx; cases hx
  | some v =>
    rw [hv] at hx
    obtain rfl : v.l = x := by simpa using hx
    have hR := (hg v (List.mem_of_getElem? hv)).1
    refine ⟨v.a, v.n, v.c, v.b, v.o, ?_, hR, fun h0 => (hR.addr h0).2⟩
    have := h.at' j v hv 0 _ rfl
    rwa [Nat.mul_one, Nat.add_zero] at this
theorem rl_in {l : List Lr} {W : World} (hg : ∀ v ∈ l, LrAt v W) : ∀ x ∈ l.map (·.l), ∀ y ∈ x, RwIn y := fun x hx y hy => by
  obtain ⟨v, hv, rfl⟩ := List.mem_map.1 hx
  exact (hg v hv).2 y hy
end Go.Proofs.Ytlnklpnldmcopaa
/-
  A loop over an iterator that would never end if the loop went on behind what it must stop at: what the iterator owes then, and the loop's rule, over the library's own steps; what a round leaves true may speak of the world. No condition.
-/
namespace Go.Proofs.Ytlnklpnldmcopaa
set_option maxRecDepth 100000
open Go.RowKit
theorem grown_of_belowW {w w' : World} (h : Below w.heap.size w w') : w.grownBy w' none := ⟨h.os, h.tape, h.output, h.size, fun k hk _ => h.block k hk⟩
/-- What the iterator's value owes to a loop whose rounds, where they go on, keep what lay below B, and go on behind nothing but what G says. Ok: what it hands over next; S: what has come when it ends by itself. -/
def SeqUntilW {α : Type} (P : Program) (gf : Nat) (lb : Array Value) (encs : α → Array Value) (B : Nat) (Ok : List α → α → Prop) (G : List α → World → Prop) (S : List α → Prop) (w : World) : Prop :=
  ∀ (l : Nat) (J Jx : List α → World → Prop) (W : World), Below w.heap.size w W → (∀ s A C, J s A → Below A.heap.size A C → J s C) → (∀ s A C, Jx s A → Below A.heap.size A C → Jx s C) → (∀ pre A, J pre A → G pre A) →
    (∀ pre x A, J pre A → Ok pre x → YieldAt Fence.wide 4 P l (encs x) A fun e C => (e = .returned (.bool true) ∧ J (pre ++ [x]) C ∧ Below B A C) ∨ (e = .returned (.bool false) ∧ Jx (pre ++ [x]) C)) →
    J [] W → CallsIn Fence.wide 5 P gf (#[.func (.yield l) #[] #[]] ++ lb) W fun e C => (∃ v, e = .returned v) ∧ ((∃ xs, S xs ∧ J xs C) ∨ (∃ pre, Jx pre C))
variable {α : Type} {P : Program}
/-- The rule for 'for x := range f' over such an iterator. -/
theorem wpIn_range_untilW {g : Operand} {ps : Array Tmp} {assign body : Code} {Q : Exit → Act → World → Prop} {a : Act} {w : World}
    {gf : Nat} {lb : Array Value} (hg : a.eval g = .func (.func gf) #[] lb) (eg : ∀ args v, (callFunc gf args).run P v = .ok (.enter gf args) v)
    {encs : α → Array Value} {B : Nat} (hB : B ≤ w.heap.size) {Ok : List α → α → Prop} {G : List α → World → Prop} {S : List α → Prop} (hseq : SeqUntilW P gf lb encs B Ok G S w) (hps : ∀ x, (encs x).size = ps.size)
    (I : List α → World → Prop) (Ix : Code → List α → World → Prop) (hI : OwnFrom w.heap.size I) (hIx : ∀ c, OwnFrom w.heap.size (Ix c)) (hG : ∀ pre W, I pre W → G pre W) (h0 : I [] w)
    (Ax : α → Act → World → Prop) (hAx : ∀ x a', OwnFrom w.heap.size (fun (_ : Unit) W => Ax x a' W))
    (hassign : ∀ (l : Nat) (pre : List α) (x : α) (W : World) (K : Act → World → Prop), I pre W → (∀ a' W', KeepsFrom w.heap.size W W' → Below B W W' → I pre W' → Ax x a' W' → K a' W') →
      assign.wpIn (Fence.wide.inRound l) 4 P (Exit.then K (fun _ _ _ => False)) { tmps := (ps.zip (encs x)).foldl (fun t (p, v) => t.setIfInBounds p v) a.tmps, defers := [] } W)
    (hbody : ∀ (l : Nat) (pre : List α) (x : α) (a' : Act) (W : World), Ok pre x → I pre W → Ax x a' W → body.wpIn (Fence.wide.inRound l) 4 P (ownPostG w.heap.size (Below B) I Ix (pre ++ [x]) W) a' W)
    (hdone : ∀ (D : Nat) (xs : List α) (W : World), w.heap.size ≤ D → S xs → I xs W → W.heap[D]? = some (.deferred (some [])) → Q .normal { a with defers := { target := .collected D, args := #[] } :: a.defers } W)
    (hstop : ∀ (D : Nat) (c : Code) (pre : List α) (W : World), w.heap.size ≤ D → Ix c pre W → W.heap[D]? = some (.deferred (some [])) → c.wpIn Fence.wide 6 P Q { a with defers := { target := .collected D, args := #[] } :: a.defers } W) :
    (Code.rangeFunc g ps assign body).wpIn Fence.wide 6 P Q a w := by
  refine wpIn_rangeFunc fun fn hfn => ?_
  -- the loop's record in its states, and the two blocks that the statement lays
  obtain ⟨L, hL⟩ : ∃ L : LoopState → Option Code → Loop, L = fun st pe => { state := st, pending := pe, fn, tmps := a.tmps, params := ps, assign, body, defers := w.heap.size } := ⟨_, rfl⟩
  obtain ⟨W1, hW1⟩ : ∃ W1, W1 = (w.alloc (.deferred (some []))).alloc (.loop (L .ready none)) := ⟨_, rfl⟩
  let Held (st : LoopState) (pe : Option Code) (W : World) : Prop := W.heap[w.heap.size + 1]? = some (.loop (L st pe)) ∧ W.heap[w.heap.size]? = some (.deferred (some []))
  have hz1 : W1.heap.size = w.heap.size + 2 := by rw [hW1]; simp
  have hheld1 : Held .ready none W1 := by
    constructor
    · rw [hW1]; have := World.alloc_heap_new (w.alloc (.deferred (some []))) (.loop (L .ready none)); rwa [World.size_alloc] at this
    · rw [hW1]; exact (Below.heap_alloc _ _ _ (by simp)).trans (World.alloc_heap_new w _)
  have hI1 : I [] W1 := by rw [hW1]; exact hI.alloc _ (hI.alloc _ h0)
  have hb1 : Below w.heap.size w W1 := by rw [hW1]; exact ((Below.refl _ w).alloc (Nat.le_refl _) _).alloc (by simp) _
  have hheldB : ∀ {st pe A C}, Held st pe A → Below A.heap.size A C → Held st pe C := fun h hb =>
    ⟨(hb.block _ (Array.getElem?_eq_some_iff.1 h.1).1).trans h.1, (hb.block _ (Array.getElem?_eq_some_iff.1 h.2).1).trans h.2⟩
  have hIB : ∀ {s A C}, I s A → Below A.heap.size A C → I s C := fun h hb => hI _ _ _ none h (grown_of_belowW hb) (fun r e => by cases e)
  have hIxB : ∀ {c s A C}, Ix c s A → Below A.heap.size A C → Ix c s C := fun h hb => hIx _ _ _ _ none h (grown_of_belowW hb) (fun r e => by cases e)
  refine ⟨w.heap.size + 1, [{ target := .collected w.heap.size, args := #[] }], W1, { target := .fn (.func gf) lb, args := #[.func (.yield (w.heap.size + 1)) #[] #[]] }, W1, gf,
    #[.func (.yield (w.heap.size + 1)) #[] #[]] ++ lb, W1, ?_, ?_, fun _ _ => trivial, ?_, fun _ => by decide, ?_⟩
  · rw [hW1, hL]; exact run_enterLoop_outer _ _ _ _ _
  · simp only [resolve, hg]
    simp [go_sem]
  · simp [invoke, go_sem, eg]
  refine (hseq (w.heap.size + 1) (fun pre W => I pre W ∧ Held .ready none W) (fun pre W => ∃ c, Ix c pre W ∧ Held .done (some c) W) W1 hb1
    (fun s A C h hb => ⟨hIB h.1 hb, hheldB h.2 hb⟩) (fun s A C h hb => by obtain ⟨c, h1, h2⟩ := h; exact ⟨c, hIxB h1 hb, hheldB h2 hb⟩) (fun pre A h => hG pre A h.1) ?_ ⟨hI1, hheld1⟩).mono ?_
  · -- one round
    rintro pre x W0 ⟨hi0, hh0⟩ hok
    have hy := run_yield (P := P) (args := encs x) hh0.1 (by rw [hL]; exact hps x)
    rw [hL] at hy
    refine ⟨fn, _, assign, body, hy, roundIn_of_wpIn hfn (hassign _ pre x W0 _ hi0 fun a' W hk0 hb0 hi hax => ?_)⟩
    clear hy
    have hh : Held .ready none W := ⟨hk0.same _ _ (by omega) hh0.1 rfl, hk0.same _ _ (Nat.le_refl _) hh0.2 rfl⟩
    have hlt : w.heap.size + 1 < W.heap.size := (Array.getElem?_eq_some_iff.1 hh.1).1
    refine ⟨_, run_beginRound hh.1 (by rw [hL]), ?_⟩
    obtain ⟨V, hV⟩ : ∃ V, V = W.putObj (w.heap.size + 1) (.loop { L .ready none with state := .busy }) := ⟨_, rfl⟩
    have hbusy : V.heap[w.heap.size + 1]? = some (.loop { L .ready none with state := .busy }) := by rw [hV]; exact World.putObj_heap_same hlt
    have hdef : V.heap[w.heap.size]? = some (.deferred (some [])) := by rw [hV]; exact (World.putObj_heap_other (by omega)).trans hh.2
    have hbV : Below B W V := by rw [hV]; exact belowK_b hB _ _ _ _ (by omega) hh.1 rfl rfl
    have hiV : I pre V := by rw [hV]; exact hI.putObj _ hi (by omega) hh.1 rfl
    have haV : Ax x a' V := by rw [hV]; exact (hAx x a').putObj (s := ()) _ hax (by omega) hh.1 rfl
    rw [← hV]
    refine wpIn_mono (hbody _ pre x a' V hok hiV haV) ?_
    -- the round's end, whatever the jump
    have fin : ∀ (jump : Option Code) (C : World), KeepsFrom w.heap.size V C → ∃ C', (Instr.endRound (w.heap.size + 1) jump).run P C = .ok (.bool jump.isNone) C' ∧ Held (if jump.isNone then .ready else .done) jump C' ∧
        Below B C C' ∧ (∀ s, I s C → I s C') ∧ (∀ c s, Ix c s C → Ix c s C') := fun jump C hk => by
      have h3 := hk.same _ _ (by omega) hbusy rfl
      have hr := run_endRound (P := P) jump h3
      refine ⟨C.putObj (w.heap.size + 1) (.loop (L (if jump.isNone then .ready else .done) jump)), by rw [hL] at hr ⊢; exact hr, ⟨World.putObj_heap_same (Array.getElem?_eq_some_iff.1 h3).1, (World.putObj_heap_other (by omega)).trans (hk.same _ _ (Nat.le_refl _) hdef rfl)⟩, belowK_b hB _ _ _ _ (by omega) h3 rfl rfl, fun s hs => hI.putObj _ hs (by omega) h3 rfl, fun c s hs => (hIx c).putObj _ hs (by omega) h3 rfl⟩
    have left : ∀ (c : Code) (C : World), KeepsFrom w.heap.size V C ∧ Ix c (pre ++ [x]) C → ∃ v C', (Instr.endRound (w.heap.size + 1) (some c)).run P C = .ok v C' ∧
        ((Ending.returned v = .returned (.bool true) ∧ (I (pre ++ [x]) C' ∧ Held .ready none C') ∧ Below B W0 C') ∨ (Ending.returned v = .returned (.bool false) ∧ ∃ c, Ix c (pre ++ [x]) C' ∧ Held .done (some c) C')) := fun c C h => by
      obtain ⟨C', hr, hh', _, _, hx⟩ := fin (some c) C h.1
      exact ⟨_, C', hr, .inr ⟨rfl, c, hx c _ h.2, hh'⟩⟩
    rintro e a3 C hp
    cases e with
    | normal =>
      obtain ⟨C', hr, hh', hb, hx, _⟩ := fin none C hp.1
      exact ⟨_, C', hr, .inl ⟨rfl, ⟨hx _ hp.2.2, hh'⟩, hb0.trans (hbV.trans (hp.2.1.trans hb))⟩⟩
    | ret => exact left .ret C hp
    | exit id => exact left (.exit id) C hp
    | goto t => exact left (.goto t) C hp
    | panic ch => exact hp.elim
    | outgrown => exact hp.elim
  · -- behind the iterator
    rintro e C ⟨⟨v, rfl⟩, (⟨xs, hS, hi, hh⟩ | ⟨pre, c, hi, hh⟩)⟩
    · exact ⟨none, _, by have := run_endLoop (P := P) hh.1 (by rw [hL]; simp); rw [hL] at this; exact this, hdone _ xs _ (Nat.le_refl _) hS (hI.putObj _ hi (by omega) hh.1 rfl) ((World.putObj_heap_other (by omega)).trans hh.2)⟩
    · exact ⟨some c, _, by have := run_endLoop (P := P) hh.1 (by rw [hL]; simp); rw [hL] at this; exact this, hstop _ c pre _ (Nat.le_refl _) ((hIx c).putObj _ hi (by omega) hh.1 rfl) ((World.putObj_heap_other (by omega)).trans hh.2)⟩
end Go.Proofs.Ytlnklpnldmcopaa
