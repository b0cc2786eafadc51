/-
  'append(a, b...)': a the call's own row, b any slice: one law for whatever element. No condition.
-/
import Derived.Test.YtkkedofbnmjgeaaKit
import Derived.Laws.OwnMore
import Derived.Deep.AppendLies
import Derived.Deep.Upon
namespace Go.Proofs.Ytkkedofbnmjgeaa
set_option maxRecDepth 100000
open Go.RowKit
theorem wp_append_src {P : Program} {o : Oper} {a : Act} {w : World} {K : Act → World → Prop} {Q : Exit → Act → World → Prop} (s x : Operand) (t : TypeId)
    (ho : o.op = .call { callee := .builtin .append, args := #[s, x], argTypes := #[t, t] }) (B : Nat) (e : TypeId) (size bytes : Nat) (z : Value) (ht : P.underlying t = some (.slice e))
    (hinf : (P.info? e).map (fun i => (i.zero, i.size, i.bytes)) = some (some z, size, bytes)) (hzs : z.cells.size = size) (hsz : 0 < size) (hby : bytes ≤ 1000)
    (v : Value) (k : Nat) (xs : List Value) (q : Option Addr) (n c : Nat) (ys : List Value) (hown : w.ownsRow B e size v k xs) (hq : q = none → n = 0 ∧ c = 0) (hl : ys.length = n * size) (hsrc : ∀ p, q = some p → ∀ j u, ys[j]? = some u → w.cell? (p.add j) = some u) (hs : a.eval s = v) (hx : a.eval x = .slice q n c) (h1 : ∀ u ∈ ys, u.oneCell' = true) (hk : k ≤ 1048576) (hn : n ≤ 1048576) (hB : B ≤ w.heap.size)
    (h : ∀ v' w', w'.ownsRow B e size v' (k + n) (xs ++ ys) → w.grownBy w' v.ownBlock → (∃ va vc, v' = .slice va (k + n) vc) → K (a.put o.dst v') w') : o.wp P a w K Q := by
  obtain ⟨i0, hi, hz0, hz1, hz2⟩ := info_parts hinf
  have shape : ∀ {v' : Value} {w' : World} {l : List Value}, w'.ownsRow B e size v' (k + n) l → ∃ va vc, v' = .slice va (k + n) vc := fun hr => by
    rcases hr.2 with ⟨e1, e0⟩ | ⟨g', cap, cur, e1, _⟩
    · exact ⟨none, 0, by rw [e1, e0]⟩
    · exact ⟨_, _, e1⟩
  cases q with
  | none =>
    obtain ⟨rfl, rfl⟩ := hq rfl
    have hy : ys = [] := List.length_eq_zero_iff.1 (by rw [hl, Nat.zero_mul])
    subst hy
    have hrun : (Builtin.append_ #[t, t] o.type #[v, .slice none 0 0]).run P w = .ok v w := by
      rcases hown.2 with ⟨rfl, _⟩ | ⟨g, cap, cur, rfl, _, _, hle, _⟩
      · exact run_append_nothing w _ _ _ e i0 ht hi none 0 0 (Nat.le_refl _) _ (Src.ofNil w ht 0)
      · exact run_append_nothing w _ _ _ e i0 ht hi _ k cap hle _ (Src.ofNil w ht 0)
    have h2 : w.ownsRow B e size v (k + 0) (xs ++ []) := by rw [Nat.add_zero, List.append_nil]; exact hown
    unfold Oper.wp
    simp [execOp, ho, resolve, invoke, builtin, hs, hx, hrun, Result.andThen]
    exact h v w h2 ⟨rfl, rfl, rfl, Nat.le_refl _, fun _ _ _ => rfl⟩ (shape h2)
  | some p =>
    have hb2 : (k + n) * bytes ≤ 140737488355328 := Nat.le_trans (Nat.mul_le_mul_left (k + n) hby) (by omega)
    exact wp_append_own w s x t ho B e i0 z size bytes ht hi hz0 hz1 hz2 hzs hsz v k xs hs hown p n c ys hx hl (hsrc p rfl) h1 (by unfold maxLen; omega) hb2 hB fun v' w' a1 a2 _ => h v' w' a1 a2 (shape a1)
theorem wpList_append_src {P : Program} {ops : Array Oper} {rest : List Oper} {o : Oper} {a : Act} {w : World} {Q : Exit → Act → World → Prop} (hgd : o.guard = none) (s x : Operand) (t : TypeId)
    (ho : o.op = .call { callee := .builtin .append, args := #[s, x], argTypes := #[t, t] }) (B : Nat) (e : TypeId) (size bytes : Nat) (z : Value) (ht : P.underlying t = some (.slice e))
    (hinf : (P.info? e).map (fun i => (i.zero, i.size, i.bytes)) = some (some z, size, bytes)) (hzs : z.cells.size = size) (hsz : 0 < size) (hby : bytes ≤ 1000)
    (v : Value) (k : Nat) (xs : List Value) (q : Option Addr) (n c : Nat) (ys : List Value) (hown : w.ownsRow B e size v k xs) (hq : q = none → n = 0 ∧ c = 0) (hl : ys.length = n * size) (hsrc : ∀ p, q = some p → ∀ j u, ys[j]? = some u → w.cell? (p.add j) = some u) (hs : a.eval s = v) (hx : a.eval x = .slice q n c) (h1 : ∀ u ∈ ys, u.oneCell' = true) (hk : k ≤ 1048576) (hn : n ≤ 1048576) (hB : B ≤ w.heap.size)
    (h : ∀ v' w', w'.ownsRow B e size v' (k + n) (xs ++ ys) → w.grownBy w' v.ownBlock → (∃ va vc, v' = .slice va (k + n) vc) → wpList P ops Q rest (a.put o.dst v') w') : wpList P ops Q (o :: rest) a w :=
  wpList_plain hgd fun _ hK => wp_append_src s x t ho B e size bytes z ht hinf hzs hsz hby v k xs q n c ys hown hq hl hsrc hs hx h1 hk hn hB fun v' w' a1 a2 a3 => hK _ _ (h v' w' a1 a2 a3)
theorem step_append_src {P : Program} {ops : Array Oper} {o : Oper} {a : Act} {w : World} {K : Act → World → Prop} {Q : Exit → Act → World → Prop} {E : Prop} (hgd : o.guard = none) (s x : Operand) (t : TypeId)
    (ho : o.op = .call { callee := .builtin .append, args := #[s, x], argTypes := #[t, t] }) (B : Nat) (e : TypeId) (size bytes : Nat) (z : Value) (ht : P.underlying t = some (.slice e))
    (hinf : (P.info? e).map (fun i => (i.zero, i.size, i.bytes)) = some (some z, size, bytes)) (hzs : z.cells.size = size) (hsz : 0 < size) (hby : bytes ≤ 1000)
    (v : Value) (k : Nat) (xs : List Value) (q : Option Addr) (n c : Nat) (ys : List Value) (hown : w.ownsRow B e size v k xs) (hq : q = none → n = 0 ∧ c = 0) (hl : ys.length = n * size) (hsrc : ∀ p, q = some p → ∀ j u, ys[j]? = some u → w.cell? (p.add j) = some u) (hs : a.eval s = v) (hx : a.eval x = .slice q n c) (h1 : ∀ u ∈ ys, u.oneCell' = true) (hk : k ≤ 1048576) (hn : n ≤ 1048576) (hB : B ≤ w.heap.size)
    (h : ∀ v' w', w'.ownsRow B e size v' (k + n) (xs ++ ys) → w.grownBy w' v.ownBlock → (∃ va vc, v' = .slice va (k + n) vc) → K (a.put o.dst v') w') :
    if Region.wanted o (yielded ops a.tmps) = true then Oper.wp P o a w K Q else E := by
  have hw : Region.wanted o (yielded ops a.tmps) = true := by simp [Region.wanted, hgd]
  rw [if_pos hw]
  exact wp_append_src s x t ho B e size bytes z ht hinf hzs hsz hby v k xs q n c ys hown hq hl hsrc hs hx h1 hk hn hB h
end Go.Proofs.Ytkkedofbnmjgeaa
