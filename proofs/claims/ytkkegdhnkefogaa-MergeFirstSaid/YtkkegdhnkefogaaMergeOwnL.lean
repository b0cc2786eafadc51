/-
  Copies of lists of rows, each with a mark behind it. No condition.
-/
import Derived.Test.YtkkegdhnkefogaaMergeMany
import Derived.Test.YtkkegdhnkefogaaMergeOwn
namespace Go.Proofs.Ytkkegdhnkefogaa
set_option maxRecDepth 100000
open Go.RowKit
structure OwnL (B : Nat) (v : Value) (vs : List Value) (L : List (List Rw)) (w : World) : Prop where
  row : w.ownsRow B 25 1 v L.length vs
  len : vs.length = L.length
  its : ∀ (j : Nat) l, L[j]? = some l → ∃ g c, vs[j]? = some (.slice (some ⟨g, 0, none⟩) l.length c) ∧ Rs (some ⟨g, 0, none⟩) (l.length + 1) c g 0 (l ++ [markM]) w ∧ v.ownBlock ≠ some g
theorem OwnL.nil (B : Nat) (w : World) : OwnL B (.slice none 0 0) [] [] w := ⟨World.ownsRow_nil _ _ _ _, rfl, fun j l h => by simp at h⟩
theorem OwnL.below {B : Nat} {v : Value} {vs : List Value} {L : List (List Rw)} {w w' : World} (h : OwnL B v vs L w) (hb : Below w.heap.size w w') : OwnL B v vs L w' :=
  ⟨own_below h.row hb, h.len, fun j l hl => by
    obtain ⟨g, c, h1, h2, h3⟩ := h.its j l hl
    exact ⟨g, c, h1, h2.below hb (Nat.le_refl _), h3⟩⟩
/-- One more. -/
theorem OwnL.push {B : Nat} {v : Value} {vs : List Value} {L : List (List Rw)} {w0 w w' : World} (h0 : OwnL B v vs L w0) (hb : Below w0.heap.size w0 w) {l : List Rw} {g c : Nat} (hg : w0.heap.size ≤ g) (hr : Rs (some ⟨g, 0, none⟩) (l.length + 1) c g 0 (l ++ [markM]) w) {tmp : Obj} {g' cap : Nat}
    (hown : w'.ownsRow B 25 1 (.slice (some ⟨g', 0, none⟩) (L.length + 1) cap) (L.length + 1) (vs ++ [.slice (some ⟨g, 0, none⟩) l.length c])) (hgrow : (w.alloc tmp).grownBy w' v.ownBlock) (hat : v.ownBlock = some g' ∨ g' = (w.alloc tmp).heap.size) :
    OwnL B (.slice (some ⟨g', 0, none⟩) (L.length + 1) cap) (vs ++ [.slice (some ⟨g, 0, none⟩) l.length c]) (L ++ [l]) w' := by
  have h := h0.below hb
  have hlt : ∀ k, v.ownBlock = some k → k < w0.heap.size := fun k hk => (World.ownsRow.lt h0.row k hk).2
  have hgl : g < w.heap.size := (hr.addr (Nat.succ_pos _)).2
  have keep : ∀ {x : List Rw} {a c : Nat}, Rs (some ⟨a, 0, none⟩) (x.length + 1) c a 0 (x ++ [markM]) w → v.ownBlock ≠ some a → Rs (some ⟨a, 0, none⟩) (x.length + 1) c a 0 (x ++ [markM]) w' ∧ (Value.slice (some ⟨g', 0, none⟩) (L.length + 1) cap).ownBlock ≠ some a := fun {x a c} h1 h2 => by
    have hal := (h1.addr (Nat.succ_pos _)).2
    have h3 := h1.below (below_alloc w tmp) (Nat.le_refl _)
    refine ⟨h3.keep (fun _ => hgrow.block a (by rw [World.size_alloc]; omega) (fun e => h2 e.symm)) hgrow.size, fun e => ?_⟩
    have e : g' = a := by simpa [Value.ownBlock] using e
    rcases hat with h4 | h4
    · exact h2 (by rw [h4, e])
    · rw [World.size_alloc] at h4; omega
  refine ⟨by rw [List.length_append, List.length_singleton]; exact hown, by simp [h.len], fun j x hx => ?_⟩
  by_cases hj : j < L.length
  · rw [List.getElem?_append_left hj] at hx
    obtain ⟨a, c2, k1, k2, k3⟩ := h.its j x hx
    exact ⟨a, c2, by rw [List.getElem?_append_left (by rw [h.len]; exact hj)]; exact k1, (keep k2 k3).1, (keep k2 k3).2⟩
  · rw [List.getElem?_append_right (by omega)] at hx
    have hj2 : j = L.length := by
      have := (List.getElem?_eq_some_iff.1 hx).1
      simp at this; omega
    subst hj2
    simp at hx
    subst hx
    have hne : v.ownBlock ≠ some g := fun e => by have := hlt g e; omega
    exact ⟨g, c, by rw [List.getElem?_append_right (by rw [h.len]; exact Nat.le_refl _), h.len, Nat.sub_self]; rfl, (keep hr hne).1, (keep hr hne).2⟩
/-- As lists that are handed in. -/
theorem OwnL.rl {B : Nat} {v : Value} {vs : List Value} {L : List (List Rw)} {w : World} (h : OwnL B v vs L w) : ∃ p c, v = .slice p L.length c ∧ RL w.heap.size p L.length c L w := by
  rcases h.row.2 with ⟨rfl, e⟩ | ⟨g, cap, cur, rfl, hg, hb, hn, hm, _⟩
  · have : L = [] := List.length_eq_zero_iff.1 e
    subst this
    exact ⟨none, 0, rfl, rfl, Nat.le_refl _, by omega, 0, 0, fun h0 => absurd h0 (by simp), fun j l hl => by simp at hl⟩
  · refine ⟨_, cap, rfl, rfl, hn, hm, g, 0, fun _ => ⟨rfl, (Array.getElem?_eq_some_iff.1 hb).1⟩, fun j l hl => ?_⟩
    obtain ⟨a, c, k1, k2, _⟩ := h.its j l hl
    have hj := (List.getElem?_eq_some_iff.1 hl).1
    have hu := k2.upto (k := l.length) (by omega)
    rw [markR_takeM] at hu
    refine ⟨_, _, _, a, 0, ?_, hu, fun _ => (k2.addr (Nat.succ_pos _)).2⟩
    rw [Nat.zero_add]
    exact (World.ownsRow.cellAt h.row j (by omega)).trans k1
/-- Where one of them lies. -/
theorem OwnL.one {B : Nat} {p : Option Addr} {n c : Nat} {vs : List Value} {L : List (List Rw)} {w : World} (h : OwnL B (.slice p n c) vs L w) {j : Nat} {l : List Rw} (hl : L[j]? = some l) : ∃ r g d, p = some ⟨r, 0, none⟩ ∧ w.cell? ⟨r, j, none⟩ = some (.slice (some ⟨g, 0, none⟩) l.length d) ∧ Rs (some ⟨g, 0, none⟩) (l.length + 1) d g 0 (l ++ [markM]) w := by
  obtain ⟨a, d, k1, k2, _⟩ := h.its j l hl
  have hj := (List.getElem?_eq_some_iff.1 hl).1
  rcases h.row.2 with ⟨_, e⟩ | ⟨g, cap, cur, e, _⟩
  · omega
  · simp only [Value.slice.injEq] at e
    obtain ⟨rfl, rfl, rfl⟩ := e
    exact ⟨g, a, d, rfl, (World.ownsRow.cellAt h.row j (by omega)).trans k1, k2⟩
theorem MergeD.both {L : List (List Rw)} : ∃ (M : List Rw) (E : Nat), (L.all ordR = true → M = mergeL L ∧ E = 0) ∧ (L.all ordR = false → M = [] ∧ E = 2) ∧ ∀ w e w', MergeD L w e w' → ∃ v, e = .returned (.tuple #[v, .int .i64 (E : Int)]) ∧ w'.ownsRow w.heap.size 42 4 v M.length (rowR M) ∧ Below w.heap.size w w' := by
  cases ho : L.all ordR with
  | true =>
    refine ⟨mergeL L, 0, fun _ => ⟨rfl, rfl⟩, fun e => (by cases e), fun w e w' h => ?_⟩
    rcases h with ⟨h1, _⟩ | ⟨_, h2⟩
    · rw [ho] at h1; cases h1
    · exact h2
  | false =>
    refine ⟨[], 2, fun e => (by cases e), fun _ => ⟨rfl, rfl⟩, fun w e w' h => ?_⟩
    rcases h with ⟨_, h1, h2⟩ | ⟨h1, _⟩
    · exact ⟨_, h1, World.ownsRow_nil _ _ _ _, h2⟩
    · rw [ho] at h1; cases h1
end Go.Proofs.Ytkkegdhnkefogaa
