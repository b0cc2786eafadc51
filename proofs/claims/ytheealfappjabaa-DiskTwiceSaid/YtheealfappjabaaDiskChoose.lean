/-
  What takes the next choice: chooser, and the function that it hands back. Condition: at most 2^40 to choose from.
-/
import Derived.Test.YtheealfappjabaaDiskSorted
namespace Go.Proofs.Ytheealfappjabaa
open Go.RowKit Go.Maps Go.WideMaps
attribute [local go_sem] make_func
/-- The next choice among 0 to most. -/
def pick (cs : List Int) (most : Nat) : Nat := match cs with | [] => 0 | c :: _ => (c.emod ((most : Int) + 1)).toNat
theorem pick_le (cs : List Int) (most : Nat) : pick cs most ≤ most := by
  unfold pick
  split
  · exact Nat.zero_le _
  · have h1 := Int.emod_lt_of_pos ‹Int› (show (0 : Int) < (most : Int) + 1 by omega)
    have h0 := Int.emod_nonneg ‹Int› (show (most : Int) + 1 ≠ 0 by omega)
    show (_ % _ : Int).toNat ≤ most
    omega
theorem pick_cons (x : Int) (r : List Int) (most : Nat) : (pick (x :: r) most : Int) = x.tmod ((most : Int) + 1) % ((most : Int) + 1) := by
  have h0 := Int.emod_nonneg x (show (most : Int) + 1 ≠ 0 by omega)
  have e : x.tmod ((most : Int) + 1) % ((most : Int) + 1) = x % ((most : Int) + 1) := by
    conv => rhs; rw [← Int.mul_tdiv_add_tmod x ((most : Int) + 1)]
    rw [Int.mul_add_emod_self_left]
  rw [e]
  show ((x % ((most : Int) + 1)).toNat : Int) = _
  omega
/-- A slice of ints in block cb, as it reads. -/
def IntsAt (cb : Nat) (v : Value) (cs : List Int) (w : World) : Prop :=
  ∃ a n c, v = .slice a n c ∧ n = cs.length ∧ n ≤ c ∧ c ≤ 9223372036854775807 ∧ (∀ x ∈ cs, -9223372036854775808 ≤ x ∧ x ≤ 9223372036854775807) ∧ (cs ≠ [] → ∃ o, a = some ⟨cb, o, none⟩ ∧ ∀ (j : Nat) x, cs[j]? = some x → w.cell? ⟨cb, o + j, none⟩ = some (.int .i64 x))
theorem IntsAt.keep {cb : Nat} {v : Value} {cs : List Int} {w w' : World} (h : IntsAt cb v cs w) (hk : cs ≠ [] → w'.heap[cb]? = w.heap[cb]?) : IntsAt cb v cs w' := by
  obtain ⟨a, n, c, h1, h2, h3, h3', hr, h4⟩ := h
  refine ⟨a, n, c, h1, h2, h3, h3', hr, fun hne => ?_⟩
  obtain ⟨o, h5, h7⟩ := h4 hne
  exact ⟨o, h5, fun j x hx => (World.cell?_of_block (a := ⟨cb, o + j, none⟩) (hk hne)).trans (h7 j x hx)⟩
theorem IntsAt.lt {cb : Nat} {v : Value} {cs : List Int} {w : World} (h : IntsAt cb v cs w) (hne : cs ≠ []) : cb < w.heap.size := by
  obtain ⟨a, n, c, _, _, _, _, _, h4⟩ := h
  obtain ⟨o, _, h7⟩ := h4 hne
  cases cs with
  | nil => exact absurd rfl hne
  | cons x r => exact World.block_lt_of_cell? _ _ (h7 0 x rfl)
/-- The choices that are left lie in box B. -/
def Chooses (cb B : Nat) (cs : List Int) (w : World) : Prop := (cs ≠ [] → cb ≠ B) ∧ ∃ v, w.heap[B]? = some (.cells #[v] 23 (0, 0)) ∧ IntsAt cb v cs w
theorem Chooses.keep {cb B : Nat} {cs : List Int} {w w' : World} (h : Chooses cb B cs w) (hB : w'.heap[B]? = w.heap[B]?) (hk : cs ≠ [] → w'.heap[cb]? = w.heap[cb]?) : Chooses cb B cs w' := by
  obtain ⟨h1, v, h2, h3⟩ := h
  exact ⟨h1, v, hB.trans h2, h3.keep hk⟩
theorem Chooses.lt {cb B : Nat} {cs : List Int} {w : World} (h : Chooses cb B cs w) (hne : cs ≠ []) : cb < w.heap.size := by
  obtain ⟨_, v, _, h3⟩ := h
  exact h3.lt hne
theorem tail_ne {cs : List Int} (h : cs.tail ≠ []) : cs ≠ [] := fun e => h (by rw [e]; rfl)
/-- What the function chooses, and what is left. -/
def Chose (cb B : Nat) (cs : List Int) (most : Nat) (w : World) (e : Ending) (w' : World) : Prop := e = .returned (.int .i64 (pick cs most : Int)) ∧ Chooses cb B cs.tail w' ∧ But B w w'
set_option maxRecDepth 100000 in
set_option maxHeartbeats 1000000 in
theorem choose_any {cb B : Nat} {cs : List Int} {w : World} (h : Chooses cb B cs w) (most : Nat) (hm : most ≤ 1099511627776) :
    Calls Try.prog 58 #[.int .i64 (most : Int), at0 B] w (Chose cb B cs most w) := by
  obtain ⟨hb, v, hB, a, n, c, rfl, hn, hc, hc2, hr, h4⟩ := h
  have c0 : w.cell? ⟨B, 0, none⟩ = some (.slice a n c) := cell_of hB rfl
  have f0 : w.frozen? ⟨B, 0, none⟩ = false := frozen_of_row _ _ _ _ _ hB
  cases cs with
  | nil =>
    obtain rfl : n = 0 := hn
    have H : Hid (Chose cb B [] most w (.returned (.int .i64 0)) w) := Lib.hid ⟨rfl, ⟨hb, _, hB, _, _, _, rfl, rfl, hc, hc2, hr, h4⟩, But.refl _ _⟩
    clear h4 hB hr
    go_enter Try.func58, Try.ntmps58
    go_wp2
    go_returns
    exact H.out
  | cons x r =>
    obtain ⟨o, rfl, hcel⟩ := h4 (by simp)
    obtain ⟨hx1, hx2⟩ := hr x (by simp)
    have e0 : w.cell? ⟨cb, o, none⟩ = some (.int .i64 x) := by have := hcel 0 x rfl; simpa using this
    obtain rfl : n = r.length + 1 := by simpa using hn
    have hs1 := IntWalk.i64_in ((most : Int) + 1) ⟨by omega, by omega⟩
    have hpos : (0 : Int) < (most : Int) + 1 := by omega
    have hne : ((most : Int) + 1 == 0) = false := by rw [beq_eq_false_iff_ne]; omega
    have ht1 := Int.tmod_lt_of_pos x hpos
    have ht2 : -((most : Int) + 1) < x.tmod ((most : Int) + 1) := Int.lt_tmod_of_pos x hpos
    have hpk := Lib.hid (pick_cons x r most)
    have hH := Lib.hid hcel
    have hB' := Lib.hid hB
    have hr' := Lib.hid hr
    clear hcel hB hr h4 hn
    go_enter Try.func58, Try.ntmps58
    go_wp2
    all_goals
      go_returns
      refine ⟨by rw [hpk.out]; rfl, ⟨fun hne => hb (tail_ne hne), _, (heap_setCell_same _ _ _ _ _ _ hB'.out).trans rfl, ?_⟩, (But.refl B w).setCell rfl _⟩
      refine IntsAt.keep (w := w) ⟨_, _, _, rfl, rfl, by omega, by omega, fun y hy => hr'.out y (by simp [show y ∈ r from hy]), fun hne => ?_⟩ (fun hne => heap_setCell_other _ _ _ _ (fun e => hb (tail_ne hne) e))
      first
        | (exfalso; apply hne; show r = []; apply List.length_eq_zero_iff.1; omega)
        | (refine ⟨o + 1, rfl, fun j y hy => ?_⟩
           have := hH.out (j + 1) y (by simpa using hy)
           rw [show o + 1 + j = o + (j + 1) by omega]; exact this)
set_option maxRecDepth 100000 in
theorem chooser_any {cb : Nat} {cs : List Int} {w : World} {v : Value} (h : IntsAt cb v cs w) : Calls Try.prog 39 #[v] w fun e w' => e = .returned (.func (.func 58) #[] #[at0 w.heap.size]) ∧ Chooses cb w.heap.size cs w' ∧ Below w.heap.size w w' ∧ w.heap.size < w'.heap.size := by
  have H : Hid (Chooses cb w.heap.size cs (w.alloc (.cells #[v] 23))) := Lib.hid ⟨fun hne e => by have := h.lt hne; omega, v, by rw [heap_alloc_new], h.keep fun hne => Below.heap_alloc _ _ _ (h.lt hne)⟩
  obtain ⟨a, n, c, rfl, hrest⟩ := h
  clear hrest
  go_enter Try.func39, Try.ntmps39
  go_wp2
  go_ret
  exact ⟨rfl, H.out, (Below.refl _ w).alloc (Nat.le_refl _) _, by simp⟩
end Go.Proofs.Ytheealfappjabaa
