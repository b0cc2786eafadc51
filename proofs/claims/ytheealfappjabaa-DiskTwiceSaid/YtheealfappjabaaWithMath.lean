/-
  A rising directory's part, with one name more: mathematics alone. No condition.
-/
import Derived.Test.YtheealfappjabaaTwins
namespace Go.Proofs.Ytheealfappjabaa
open Go Go.RowKit Go.Maps
theorem ins_front (x : NameS × Nat) : ∀ l : Dir, (∀ e ∈ l, bytesBefore x.1 e.1 = true) → Dir.ins x l = x :: l
  | [], _ => rfl
  | y :: r, h => by unfold Dir.ins; rw [if_pos (h y (by simp))]
theorem bytes_anti {a b : NameS} (h : bytesBefore a b = true) : bytesBefore b a = false := by
  cases e : bytesBefore b a with
  | false => rfl
  | true =>
    have := WideShapes.bytes_trans _ _ _ h e
    exact absurd (before_lt _ _ this) (List.lt_irrefl a)
/-- A part of a rising directory, and one entry more of it: the greater part. -/
theorem part_put (q : NameS → Bool) (x : NameS × Nat) (hq : q x.1 = false) : ∀ d : Dir, d.Pairwise (fun a b => bytesBefore a.1 b.1 = true) → x ∈ d → Dir.ins x (d.filter fun e => q e.1) = d.filter fun e => q e.1 || e.1 == x.1
  | [], _, hx => by cases hx
  | y :: r, h, hx => by
    obtain ⟨h1, h2⟩ := List.pairwise_cons.1 h
    rcases List.mem_cons.1 hx with rfl | hx
    · have hne : ∀ e ∈ r, (e.1 == x.1) = false := fun e he => by
        have := h1 e he
        rw [beq_eq_false_iff_ne]
        intro e'
        rw [e'] at this
        exact absurd (before_lt _ _ this) (List.lt_irrefl _)
      have e1 : r.filter (fun e => q e.1 || e.1 == x.1) = r.filter fun e => q e.1 := List.filter_congr fun e he => by rw [hne e he, Bool.or_false]
      rw [List.filter_cons, if_neg (by rw [hq]; simp), List.filter_cons, if_pos (by simp), e1]
      exact ins_front _ _ fun e he => h1 e (List.mem_filter.1 he).1
    · have ih := part_put q x hq r h2 hx
      have hyx := h1 x hx
      have hne : (y.1 == x.1) = false := by
        rw [beq_eq_false_iff_ne]
        intro e'
        rw [e'] at hyx
        exact absurd (before_lt _ _ hyx) (List.lt_irrefl _)
      rw [List.filter_cons, List.filter_cons, hne, Bool.or_false]
      split
      · show Dir.ins x (y :: r.filter _) = _
        unfold Dir.ins
        rw [if_neg (by rw [bytes_anti hyx]; simp), ih]
      · exact ih
theorem part_no (q : NameS → Bool) {n : NameS} (hq : q n = false) (d : Dir) : Dir.del (d.filter fun e => q e.1) n = d.filter fun e => q e.1 := by
  unfold Dir.del
  rw [List.filter_eq_self]
  intro e he
  have := (List.mem_filter.1 he).2
  have hne : (e.1 == n) = false := by
    rw [beq_eq_false_iff_ne]
    intro e'
    rw [e', hq] at this
    cases this
  rw [hne]; rfl
theorem part_one (q : NameS → Bool) (n : NameS) (i : Nat) (hq : q n = false) (d : Dir) (h : d.Pairwise (fun a b => bytesBefore a.1 b.1 = true)) (hx : (n, i) ∈ d) : Dir.put (d.filter fun e => q e.1) n i = d.filter fun e => q e.1 || e.1 == n := by
  unfold Dir.put
  rw [part_no q hq]
  exact part_put q (n, i) hq d h hx
end Go.Proofs.Ytheealfappjabaa
