/-
  Lists of rows, cut and put together; merging the first ones first. No condition.
-/
import Derived.Test.YtkkegdhnkefogaaMergeOwnL
import Derived.Test.YtkkegdhnkefogaaBlockSlices
namespace Go.Proofs.Ytkkegdhnkefogaa
set_option maxRecDepth 100000
open Go.RowKit
theorem FinL_app : ∀ {A B : List (List Rw)} {x : Rw}, FinL (A ++ B) x ↔ FinL A x ∨ (FinL B x ∧ ∀ l ∈ A, ∀ y ∈ l, smpB y x = false)
  | [], B, x => by simp [FinL]
  | a :: A, B, x => by
    show x ∈ a ∨ (FinL (A ++ B) x ∧ ∀ y ∈ a, smpB y x = false) ↔ (x ∈ a ∨ (FinL A x ∧ ∀ y ∈ a, smpB y x = false)) ∨ _
    rw [FinL_app]
    constructor
    · rintro (h | ⟨h | ⟨h, h2⟩, h3⟩)
      · exact .inl (.inl h)
      · exact .inl (.inr ⟨h, h3⟩)
      · refine .inr ⟨h, fun l hl y hy => ?_⟩
        rcases List.mem_cons.1 hl with rfl | hl
        · exact h3 y hy
        · exact h2 l hl y hy
    · rintro ((h | ⟨h, h3⟩) | ⟨h, h2⟩)
      · exact .inl h
      · exact .inr ⟨.inl h, h3⟩
      · exact .inr ⟨.inr ⟨h, fun l hl => h2 l (List.mem_cons_of_mem _ hl)⟩, h2 a (List.mem_cons_self ..)⟩
theorem FinL_in : ∀ {A : List (List Rw)} {x : Rw}, FinL A x → ∃ l ∈ A, x ∈ l
  | [], _, h => h.elim
  | a :: A, x, h => by
    rcases h with h | ⟨h, _⟩
    · exact ⟨a, List.mem_cons_self .., h⟩
    · obtain ⟨l, h1, h2⟩ := FinL_in h
      exact ⟨l, List.mem_cons_of_mem _ h1, h2⟩
theorem FinL_some : ∀ {A : List (List Rw)} {l : List Rw} {y : Rw}, l ∈ A → y ∈ l → ∃ z, FinL A z ∧ smpB z y = true
  | a :: A, l, y, hl, hy => by
    rcases List.mem_cons.1 hl with rfl | hl
    · exact ⟨y, .inl hy, smpB_refl y⟩
    · obtain ⟨z, h1, h2⟩ := FinL_some hl hy
      by_cases e : ∀ u ∈ a, smpB u z = false
      · exact ⟨z, .inr ⟨h1, e⟩, h2⟩
      · have e2 : ∃ u ∈ a, smpB u z = true := by
          by_cases e3 : ∃ u ∈ a, smpB u z = true
          · exact e3
          · exact absurd (fun u hu => by
              cases e4 : smpB u z with
              | false => rfl
              | true => exact absurd ⟨u, hu, e4⟩ e3) e
        obtain ⟨u, hu, h3⟩ := e2
        exact ⟨u, .inl hu, smpB_trans h3 h2⟩
theorem mergeL_first {A B : List (List Rw)} (hA : ∀ l ∈ A, SortedR l) (hB : ∀ l ∈ B, SortedR l) : mergeL (mergeL A :: B) = mergeL (A ++ B) := by
  have h1 : ∀ l ∈ mergeL A :: B, SortedR l := fun l hl => by
    rcases List.mem_cons.1 hl with rfl | hl
    · exact mergeL_sorted hA
    · exact hB l hl
  have h2 : ∀ l ∈ A ++ B, SortedR l := fun l hl => by
    rcases List.mem_append.1 hl with hl | hl
    · exact hA l hl
    · exact hB l hl
  refine sorted_same (mergeL_sorted h1) (mergeL_sorted h2) fun x => ?_
  rw [mergeL_mem h1, mergeL_mem h2, FinL_app]
  show x ∈ mergeL A ∨ (FinL B x ∧ ∀ y ∈ mergeL A, smpB y x = false) ↔ _
  rw [mergeL_mem hA]
  constructor
  · rintro (h | ⟨h, h3⟩)
    · exact .inl h
    · refine .inr ⟨h, fun l hl y hy => ?_⟩
      obtain ⟨z, k1, k2⟩ := FinL_some hl hy
      cases e : smpB y x with
      | false => rfl
      | true => have := h3 z ((mergeL_mem hA z).2 k1); rw [smpB_trans k2 e] at this; cases this
  · rintro (h | ⟨h, h3⟩)
    · exact .inl h
    · refine .inr ⟨h, fun y hy => ?_⟩
      obtain ⟨l, k1, k2⟩ := FinL_in ((mergeL_mem hA y).1 hy)
      exact h3 l k1 y k2
theorem size_listB (w : World) : (Go.sizeOf (Try.prog.elem 22)).run Try.prog w = .ok 1 w := by
  obtain ⟨i0, hi, hz0, hz1, hz2⟩ := info_parts (show (Try.prog.info? (Try.prog.elem 22)).map (fun i => (i.zero, i.size, i.bytes)) = some (some (.slice none 0 0), 1, 24) by kernel_rfl)
  simp [Go.sizeOf, typeInfo, hi, hz1]
def fromL (p : Option Addr) (c k : Nat) : Option Addr := if c = k then p else p.map (·.add (k * 1))
theorem sll_upto (p : Option Addr) (n c k : Nat) (hk : k ≤ c) (u : World) : (Instr.slice 22 (.slice p n c) none (some (.int .i64 (k : Int))) none).run Try.prog u = .ok (.slice p k c) u := by
  rw [run_slice_h u 22 p n c (by kernel_rfl) .i64 (k : Int) (by omega) (by omega), size_listB]
  cases p <;> simp [Result.andThen, sliced, Addr.add]
theorem sll_from (p : Option Addr) (n c k : Nat) (hk : k ≤ n) (u : World) : (Instr.slice 22 (.slice p n c) (some (.int .i64 (k : Int))) none none).run Try.prog u = .ok (.slice (fromL p c k) (n - k) (c - k)) u := by
  rw [run_slice_l u 22 p n c (by kernel_rfl) .i64 (k : Int) (by omega) (by omega), size_listB]
  simp only [Result.andThen, sliced, Int.toNat_natCast, fromL]
theorem RL.upto {B : Nat} {p : Option Addr} {n c : Nat} {L : List (List Rw)} {w : World} (h : RL B p n c L w) {k : Nat} (hk : k ≤ n) : RL B p k c (L.take k) w := by
  obtain ⟨g, o, h1, h2⟩ := h.addr
  refine ⟨by rw [List.length_take, h.len]; omega, by have := h.cap; omega, h.most, g, o, fun h0 => h1 (by omega), fun j l hl => ?_⟩
  rw [List.getElem?_take] at hl
  split at hl
  · exact h2 j l hl
  · cases hl
theorem RL.from {B : Nat} {p : Option Addr} {n c : Nat} {L : List (List Rw)} {w : World} (h : RL B p n c L w) {k : Nat} (hk : k ≤ n) : RL B (fromL p c k) (n - k) (c - k) (L.drop k) w := by
  obtain ⟨g, o, h1, h2⟩ := h.addr
  have hc := h.cap
  have hm := h.most
  refine ⟨by rw [List.length_drop, h.len], by omega, by omega, g, o + k, fun h0 => ?_, fun j l hl => ?_⟩
  · obtain ⟨rfl, hb⟩ := h1 (by omega)
    refine ⟨?_, hb⟩
    unfold fromL
    rw [if_neg (by omega)]
    simp [addr_add]
  · rw [List.getElem?_drop] at hl
    obtain ⟨a, m, d, b, q, e1, e2, e3⟩ := h2 (k + j) l hl
    exact ⟨a, m, d, b, q, by rw [Nat.add_assoc]; exact e1, e2, e3⟩
theorem RL.vals {B : Nat} {p : Option Addr} {n c : Nat} {L : List (List Rw)} {w : World} (h : RL B p n c L w) : ∃ vs : List Value, vs.length = n ∧ (∀ ad, p = some ad → ∀ j u, vs[j]? = some u → w.cell? (ad.add j) = some u) ∧ (∀ u ∈ vs, u.oneCell' = true) ∧ ∀ (j : Nat) l, L[j]? = some l → ∃ a m d b q, vs[j]? = some (.slice a m d) ∧ Rs a m d b q l w ∧ (0 < m → b < B) := by
  obtain ⟨g, o, h1, h2⟩ := h.addr
  have hat : ∀ j u, ((List.range n).map fun j => (w.cell? ⟨g, o + j, none⟩).getD (.slice none 0 0))[j]? = some u → j < n ∧ w.cell? ⟨g, o + j, none⟩ = some u ∧ u.oneCell' = true := fun j u hj => by
    rw [List.getElem?_map] at hj
    by_cases hjn : j < n
    · rw [List.getElem?_range hjn] at hj
      obtain ⟨l, hl⟩ : ∃ l, L[j]? = some l := ⟨_, List.getElem?_eq_getElem (by rw [h.len]; exact hjn)⟩
      obtain ⟨a, m, d, b, q, e1, _⟩ := h2 j l hl
      simp only [Option.map_some, e1, Option.getD_some, Option.some.injEq] at hj
      subst hj
      exact ⟨hjn, e1, rfl⟩
    · rw [List.getElem?_eq_none (by simp; omega)] at hj; cases hj
  refine ⟨(List.range n).map fun j => (w.cell? ⟨g, o + j, none⟩).getD (.slice none 0 0), by simp, fun ad e j u hj => ?_, fun u hu => ?_, fun j l hl => ?_⟩
  · obtain ⟨hjn, k1, _⟩ := hat j u hj
    obtain ⟨e2, _⟩ := h1 (by omega)
    rw [e] at e2
    cases e2
    rw [addr_add]; exact k1
  · obtain ⟨j, hj⟩ := List.mem_iff_getElem?.1 hu
    exact (hat j u hj).2.2
  · have hjn : j < n := by have := (List.getElem?_eq_some_iff.1 hl).1; have := h.len; omega
    obtain ⟨a, m, d, b, q, e1, e2, e3⟩ := h2 j l hl
    refine ⟨a, m, d, b, q, ?_, e2, e3⟩
    rw [List.getElem?_map, List.getElem?_range hjn]
    simp [e1]
/-- 'append(a, b...)' of lists, a the call's own, b a slice of them, nil or not. -/
theorem wpList_append_lists {ops : Array Oper} {rest : List Oper} {o : Oper} {a : Act} {Q : Exit → Act → World → Prop} {w : World} (hgd : o.guard = none) (s x : Operand)
    (ho : o.op = .call { callee := .builtin .append, args := #[s, x], argTypes := #[22, 22] })
    (base : Nat) (v : Value) (k : Nat) (xs : List Value) (p : Option Addr) (n c B : Nat) (L : List (List Rw)) (hs : a.eval s = v) (hx : a.eval x = .slice p n c) (hown : w.ownsRow base 25 1 v k xs) (hsrc : RL B p n c L w) (hk : k ≤ 1000) (hn : n ≤ 1000) (hbase : base ≤ w.heap.size)
    (h : ∀ v' w' vs, w'.ownsRow base 25 1 v' (k + n) (xs ++ vs) → w.grownBy w' v.ownBlock → (∀ (j : Nat) l, L[j]? = some l → ∃ a m d b q, vs[j]? = some (.slice a m d) ∧ Rs a m d b q l w ∧ (0 < m → b < B)) → (∃ va vc, v' = .slice va (k + n) vc) → wpList Try.prog ops Q rest (a.put o.dst v') w') : wpList Try.prog ops Q (o :: rest) a w := by
  obtain ⟨i0, hi, hz0, hz1, hz2⟩ := info_parts (show (Try.prog.info? 25).map (fun i => (i.zero, i.size, i.bytes)) = some (some (.slice none 0 0), 1, 24) by kernel_rfl)
  obtain ⟨vs, k1, k2, k3, k4⟩ := hsrc.vals
  have shape : ∀ {v' : Value} {w' : World} {ys : List Value}, w'.ownsRow base 25 1 v' (k + n) ys → ∃ va vc, v' = .slice va (k + n) vc := fun hr => by
    obtain ⟨p, c, e⟩ := row_shape hr
    exact ⟨p, c, e⟩
  cases p with
  | none =>
    have h0 : n = 0 := by
      obtain ⟨g, o, h1, _⟩ := hsrc.addr
      rcases Nat.eq_zero_or_pos n with e | e
      · exact e
      · have := (h1 e).1; cases this
    subst h0
    obtain rfl : vs = [] := List.length_eq_zero_iff.1 k1
    have hrun : (Builtin.append_ #[22, 22] o.type #[v, .slice none 0 c]).run Try.prog w = .ok v w := by
      rcases hown.2 with ⟨rfl, e0⟩ | ⟨g, cap, cur, rfl, _, _, hle, _⟩
      · exact run_append_nothing w _ _ _ 25 i0 Try.underlying22 hi none 0 0 (Nat.le_refl _) _ (Src.ofNil w Try.underlying22 c)
      · exact run_append_nothing w _ _ _ 25 i0 Try.underlying22 hi _ k cap hle _ (Src.ofNil w Try.underlying22 c)
    refine wpList_plain hgd fun K hK => ?_
    unfold Oper.wp
    simp [execOp, ho, resolve, invoke, builtin, hs, hx, hrun, Result.andThen]
    exact hK _ _ (h v w [] (by rw [List.append_nil]; exact hown) ⟨rfl, rfl, rfl, Nat.le_refl _, fun _ _ _ => rfl⟩ k4 (shape (by exact hown)))
  | some ad =>
    refine wpList_append_own w hgd s x 22 ho base 25 i0 _ 1 24 Try.underlying22 hi hz0 hz1 hz2 rfl (by decide) v k xs hs hown ad n c vs hx (by rw [k1, Nat.mul_one]) (k2 ad rfl) k3 (by unfold maxLen; omega) (by omega) hbase ?_
    intro v' w' h1 h2 h3
    exact h v' w' vs h1 h2 k4 (shape h1)
/-- Lists put together, one of them ahead. -/
theorem rl_cons {base B : Nat} {v' : Value} {R : Nat} {n : Nat} {L : List (List Rw)} {w w' : World} {x : Option Addr} {xn xc xb : Nat} {l : List Rw} {vs : List Value} (hx : Rs x xn xc xb 0 l w) (hxR : 0 < xn → xb ≠ R) (hRB : B ≤ R) (hwB : B ≤ w.heap.size) (hL : L.length = n) (hown : w'.ownsRow base 25 1 v' (1 + n) ([.slice x xn xc] ++ vs)) (hgrow : w.grownBy w' (some R)) (hvs : ∀ (j : Nat) l, L[j]? = some l → ∃ a m d b q, vs[j]? = some (.slice a m d) ∧ Rs a m d b q l w ∧ (0 < m → b < B)) :
    ∃ p c, v' = .slice p (n + 1) c ∧ RL w'.heap.size p (n + 1) c (l :: L) w' := by
  rcases hown.2 with ⟨_, e⟩ | ⟨g, cap, cur, rfl, hg, hb, hn, hm, _⟩
  · omega
  · rw [Nat.add_comm 1 n] at hn hown
    refine ⟨some ⟨g, 0, none⟩, cap, by rw [Nat.add_comm 1 n], by simp [hL], hn, hm, g, 0, fun _ => ⟨rfl, (Array.getElem?_eq_some_iff.1 hb).1⟩, fun j y hy => ?_⟩
    have hj : j < n + 1 := by have := (List.getElem?_eq_some_iff.1 hy).1; simp [hL] at this; omega
    have hcell := World.ownsRow.cellAt hown j (by omega)
    rw [Nat.zero_add]
    cases j with
    | zero =>
      simp at hy; subst hy
      refine ⟨x, xn, xc, xb, 0, hcell, hx.keep (fun h0 => hgrow.block xb (hx.addr h0).2 (fun e => hxR h0 (by cases e; rfl))) hgrow.size, fun h0 => Nat.lt_of_lt_of_le (hx.addr h0).2 hgrow.size⟩
    | succ j =>
      obtain ⟨a, m, d, b, q, e1, e2, e3⟩ := hvs j y (by simpa using hy)
      refine ⟨a, m, d, b, q, hcell.trans (by simpa using e1), e2.keep (fun h0 => hgrow.block b (e2.addr h0).2 (fun e => by cases e; have := e3 h0; omega)) hgrow.size, fun h0 => Nat.lt_of_lt_of_le (e2.addr h0).2 hgrow.size⟩
end Go.Proofs.Ytkkegdhnkefogaa
