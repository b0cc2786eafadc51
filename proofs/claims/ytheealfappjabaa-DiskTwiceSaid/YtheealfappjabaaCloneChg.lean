/-
  A copy of the changes that wait. Condition: at most 2^20 changes.
-/
import Derived.Test.YtheealfappjabaaWith
namespace Go.Proofs.Ytheealfappjabaa
open Go Go.RowKit Go.Maps
theorem rows_length {own : Own} : ∀ {l : List Chg} {xs : List Value}, RowsAre own l xs → xs.length = l.length * 3
  | [], _, hx => by cases hx; rfl
  | c :: r, xs, ⟨v, ys, e, _, hr⟩ => by rw [e]; simp [rows_length hr]; omega
theorem rows_one {own : Own} : ∀ {l : List Chg} {xs : List Value}, RowsAre own l xs → ∀ u ∈ xs, u.oneCell' = true
  | [], _, hx, u, hu => by cases hx; cases hu
  | c :: r, xs, ⟨v, ys, e, hp, hr⟩, u, hu => by
    rw [e] at hu
    simp only [List.mem_cons] at hu
    rcases hu with rfl | rfl | rfl | hu
    · rfl
    · rfl
    · cases hf : c.file with
      | none => rw [hf] at hp; rw [show u = _ from hp]; rfl
      | some i => rw [hf] at hp; obtain ⟨b, hb, _⟩ := hp; rw [hb]; rfl
    · exact rows_one hr u hu
theorem clone_changes {own : Own} {v : Value} {l : List Chg} {xs : List Value} {w : World} (h : w.ownsRow 0 72 3 v l.length xs) (hr : RowsAre own l xs) (hl : l.length ≤ 1048576) :
    Calls Try.prog 49 #[v] w fun e w' => ∃ va vc, e = .returned (.slice va l.length vc) ∧ w'.ownsRow w.heap.size 72 3 (.slice va l.length vc) l.length xs ∧ Below w.heap.size w w' := by
  rcases h.2 with ⟨rfl, hz⟩ | ⟨g, cap, cur, rfl, _⟩
  · refine (AnyE.slices_Clone_nil Try.sclonechange 0 0 w).mono fun e w' ⟨he, hw⟩ => ?_
    subst hw
    exact ⟨none, 0, by rw [hz]; exact he, ⟨h.1, .inl ⟨by rw [hz], hz⟩⟩, Below.refl _ _⟩
  · obtain ⟨i0, hi, hz0, hz1, hz2⟩ := info_parts (show (Try.prog.info? 72).map (fun i => (i.zero, i.size, i.bytes)) = some (some (.agg #[.string .empty, .string .empty, .pointer none]), 3, 40) by kernel_rfl)
    have hlen := rows_length hr
    refine (AnyE.slices_Clone Try.sclonechange i0 _ 3 40 hi hz0 hz1 hz2 rfl (by decide) (fun w => by kernel_rfl) g 0 l.length cap xs w (by rw [hlen]) (by unfold maxLen; omega) (by omega) (fun j u hu => ?_) (rows_one hr)).mono fun e w' ⟨v', he, ho, _, hb⟩ => ?_
    · have hj : j < l.length * 3 := by have := (List.getElem?_eq_some_iff.1 hu).1; rwa [hlen] at this
      rw [Nat.zero_add, World.ownsRow.cellAt h j hj, hu]
    · rcases ho.2 with ⟨rfl, hz⟩ | ⟨g, cap, cur, rfl, _⟩
      · exact ⟨none, 0, by rw [hz]; exact he, by rw [hz] at ho ⊢; exact ho, hb⟩
      · exact ⟨_, _, he, ho, hb⟩
end Go.Proofs.Ytheealfappjabaa
