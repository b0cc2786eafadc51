/-
  A slice of texts that a call made and owns: what it holds, and that other calls leave it. No condition.
-/
import Derived.Test.YtdhomindchjoiaaRows
import Derived.Test.YtdhomindchjoiaaKit
import Derived.Laws.AppendOwn
import Derived.Laws.AppendOwnNone
import Derived.OwnWalk
import Derived.Deep.Draws
namespace Go.Proofs.Ytdhomindchjoiaa
open Go.RowKit
/-- The cells of a list of texts. -/
def textRow (l : List (List UInt8)) : List Value := l.map fun t => .string ⟨t.toArray⟩
theorem textRow_snoc (l : List (List UInt8)) (t : List UInt8) : textRow l ++ [.string ⟨t.toArray⟩] = textRow (l ++ [t]) := by simp [textRow]
/-- v is a slice, in blocks from base on, that owns just these texts. -/
abbrev Texts (w : World) (base : Nat) (v : Value) (l : List (List UInt8)) : Prop := w.ownsRow base 9 1 v l.length (textRow l)
theorem texts_keep {w w' : World} {base : Nat} {v : Value} {l : List (List UInt8)} (h : Texts w base v l) (hb : Below w.heap.size w w') : Texts w' base v l := by
  refine ⟨h.1, ?_⟩
  rcases h.2 with hn | ⟨g, cap, cur, rfl, hg, hh, rest⟩
  · exact .inl hn
  · exact .inr ⟨g, cap, cur, rfl, hg, by rw [hb.block g (Array.getElem?_eq_some_iff.1 hh).1]; exact hh, rest⟩
theorem texts_nil (w : World) (base : Nat) : Texts w base (.slice none 0 0) [] := World.ownsRow_nil _ _ _ _
theorem infoS : (Try.prog.info? 9).map (fun i => (i.zero, i.size, i.bytes)) = some (some (.string ⟨#[]⟩), 1, 16) := by kernel_rfl
theorem new_text (w : World) (x : ByteArray) (t : TypeId) (j : Nat) (u : Value) (hj : ([Value.string x])[j]? = some u) : (w.alloc (.cells #[.string x] t)).cell? ((⟨w.heap.size, 0, none⟩ : Addr).add j) = some u := by
  cases j with
  | zero => simp at hj; subst hj; simp [Addr.add]
  | succ j => simp at hj
/-- What a slice of texts holds at each place. -/
theorem texts_cell {w : World} {base : Nat} {v : Value} {l : List (List UInt8)} (h : Texts w base v l) :
    (v = .slice none 0 0 ∧ l = []) ∨ ∃ g cap, v = .slice (some ⟨g, 0, none⟩) l.length cap ∧ base ≤ g ∧ g < w.heap.size ∧ ∀ i (hi : i < l.length), w.cell? ⟨g, i, none⟩ = some (.string ⟨l[i].toArray⟩) := by
  rcases h.2 with ⟨h1, h2⟩ | ⟨g, cap, cur, h1, hg, hh, h3, h4, h5, h6⟩
  · exact .inl ⟨h1, List.length_eq_zero_iff.1 h2⟩
  · refine .inr ⟨g, cap, h1, hg, (Array.getElem?_eq_some_iff.1 hh).1, fun i hi => ?_⟩
    have e1 : (textRow l)[i]? = some (.string ⟨l[i].toArray⟩) := by unfold textRow; simp [hi]
    rw [← h6, List.getElem?_take] at e1
    split at e1
    · unfold World.cell?
      rw [hh]
      simpa using e1
    · cases e1
/-- 'append(a, b...)' of texts, a the call's own, b nil or not. -/
theorem wpList_append_texts {ops : Array Oper} {rest : List Oper} {o : Oper} {a : Act} {Q : Exit → Act → World → Prop} {w : World} (hgd : o.guard = none) (s x : Operand)
    (ho : o.op = .call { callee := .builtin .append, args := #[s, x], argTypes := #[31, 31] })
    (base base2 : Nat) (v v2 : Value) (l l2 : List (List UInt8)) (hs : a.eval s = v) (hx : a.eval x = v2) (hown : Texts w base v l) (hsrc : Texts w base2 v2 l2) (hlen : l.length + l2.length ≤ 1000000) (hbase : base ≤ w.heap.size)
    (h : ∀ v' w', Texts w' base v' (l ++ l2) → Below base w w' → wpList Try.prog ops Q rest (a.put o.dst v') w') : wpList Try.prog ops Q (o :: rest) a w := by
  obtain ⟨i0, hi, hz0, hz1, hz2⟩ := info_parts infoS
  rcases texts_cell hsrc with ⟨rfl, rfl⟩ | ⟨g, cap, rfl, _, _, hc⟩
  · refine wpList_append_own_none hgd s x 31 ho base 9 i0 1 Try.underlying31 hi v l.length (textRow l) hs hown hx ?_
    exact h v w (by rw [List.append_nil]; exact hown) (Below.refl _ _)
  · refine wpList_append_own w hgd s x 31 ho base 9 i0 (.string ⟨#[]⟩) 1 16 Try.underlying31 hi hz0 hz1 hz2 rfl (by decide) v l.length (textRow l) hs hown ⟨g, 0, none⟩ l2.length cap (textRow l2) hx (by simp [textRow]) ?_ ?_ (by unfold maxLen; omega) (by omega) hbase ?_
    · intro j u hj
      have hjl : j < l2.length := by have := (List.getElem?_eq_some_iff.1 hj).1; simpa [textRow] using this
      have e : (⟨g, 0, none⟩ : Addr).add j = ⟨g, j, none⟩ := by
        unfold Addr.add
        split
        · rename_i h0; rw [h0]
        · simp
      rw [e, hc j hjl]
      have e1 : (textRow l2)[j]? = some (.string ⟨l2[j].toArray⟩) := by unfold textRow; simp [hjl]
      exact e1.symm.trans hj
    · intro u hu
      obtain ⟨t, _, rfl⟩ := List.mem_map.1 hu
      rfl
    · intro v' w' h1 hgr _
      refine h v' w' ?_ ((Below.refl base w).grown hgr hbase fun r hr => (hown.lt r hr).1)
      have e : textRow l ++ textRow l2 = textRow (l ++ l2) := by simp [textRow]
      rw [e] at h1
      unfold Texts
      rw [List.length_append]
      exact h1
end Go.Proofs.Ytdhomindchjoiaa
