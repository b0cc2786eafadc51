/-
  The law's own answers that the document fixes: true; SamePairs. No condition.
-/
import Derived.Test.YtkkegdhnkefogaaMergeAt
import Derived.Test.YtkkegdhnkefogaaMergeDrop
namespace Go.Proofs.Ytkkegdhnkefogaa
set_option maxRecDepth 100000
open Go.RowKit
def mw1 : Rw := ⟨⟨#[97]⟩, 3, 2, ⟨#[]⟩⟩
def mw2 : Rw := ⟨⟨#[97]⟩, 1, 1, ⟨#[120]⟩⟩
def mw3 : Rw := ⟨⟨#[98]⟩, 2, 1, ⟨#[121]⟩⟩
theorem mw_k1 : mw1.key.toList = [97] := toL [97]
theorem mw_k2 : mw2.key.toList = [97] := toL [97]
theorem mw_k3 : mw3.key.toList = [98] := toL [98]
theorem mw_ord : ordR [mw1, mw2, mw3] = true := by
  have e1 : ahd mw1 mw2.key mw2.seq = true := by unfold ahd; rw [mw_k1, mw_k2, if_pos rfl]; rfl
  have e2 : ahd mw2 mw3.key mw3.seq = true := by unfold ahd; rw [mw_k2, mw_k3, if_neg (by decide)]; decide
  simp [ordR, e1, e2]
theorem mw_at : atL 2 [mw1, mw2, mw3] = [(⟨#[97]⟩, ⟨#[120]⟩), (⟨#[98]⟩, ⟨#[121]⟩)] := by
  have s1 : sees 2 none mw1 = false := rfl
  have s2 : sees 2 (some mw1) mw2 = true := by unfold sees; simp only [mw_k1, mw_k2]; rfl
  have s3 : sees 2 (some mw2) mw3 = true := by unfold sees; simp only [mw_k2, mw_k3]; rfl
  unfold atL
  rw [selL, if_neg (by rw [s1]; simp), selL, if_pos s2, selL, if_pos s3, selL]
  rfl
theorem mw_drop : dropL [] true [mw1, mw2, mw3] = [mw3] := by
  have s1 : need [topM] none mw1 = true := rfl
  have s2 : need [topM] (some mw1) mw2 = false := by
    rw [need_same (by rw [mw_k1, mw_k2])]; rfl
  have s3 : need [topM] (some mw2) mw3 = true := by
    rw [need_other (by rw [mw_k2, mw_k3]; decide)]; rfl
  unfold dropL
  rw [List.nil_append, if_pos rfl, selL, if_pos s1, selL, if_neg (by rw [s2]; simp), selL, if_pos s3, selL]
  have p1 : putA [mw1, mw3] = false := by
    show (isPut mw1 || (decide (mw3.key.toList = mw1.key.toList) && putA [mw3])) = false
    rw [mw_k1, mw_k3]; rfl
  rw [botL, if_neg (by rw [p1]; simp)]
  rfl
theorem mw_rs (w : World) : Rs (some ⟨w.heap.size, 0, none⟩) 3 3 w.heap.size 0 [mw1, mw2, mw3] (w.alloc (.cells #[.string ⟨#[97]⟩, .int .u64 3, .int .i64 2, .string ⟨#[]⟩, .string ⟨#[97]⟩, .int .u64 1, .int .i64 1, .string ⟨#[120]⟩, .string ⟨#[98]⟩, .int .u64 2, .int .i64 1, .string ⟨#[121]⟩] 42)) := by
  refine ⟨rfl, Nat.le_refl _, by omega, fun _ => ⟨rfl, by simp⟩, fun j x hx => ?_⟩
  have hj : j < 3 := (List.getElem?_eq_some_iff.1 hx).1
  rcases (show j = 0 ∨ j = 1 ∨ j = 2 by omega) with rfl | rfl | rfl
  all_goals (
    simp only [List.getElem?_cons_zero, List.getElem?_cons_succ, Option.some.injEq] at hx
    subst hx
    refine ⟨?_, ?_, ?_, ?_⟩ <;> (rw [World.cell?_alloc_new]; rfl))
theorem eq_pr (a x b y : ByteArray) (h : a.toList = b.toList ∧ x.toList = y.toList) (u : World) : (binOp .eql 47 (.agg #[.string a, .string x]) (.agg #[.string b, .string y])).run Try.prog u = .ok (.bool true) u := by
  obtain ⟨h1, h2⟩ := h
  go_simp
theorem pair_cells_of {w : World} {B : Nat} {v : Value} {x y : ByteArray × ByteArray} (h : w.ownsRow B 47 2 v 2 (rowP [x, y])) : ∃ g c, v = .slice (some ⟨g, 0, none⟩) 2 c ∧ w.cell? ⟨g, 0, none⟩ = some (.string x.1) ∧ w.cell? ⟨g, 1, none⟩ = some (.string x.2) := by
  rcases h.2 with ⟨_, h0⟩ | ⟨g, cap, cur, rfl, _⟩
  · cases h0
  · exact ⟨g, cap, rfl, (World.ownsRow.cellAt h 0 (by omega)).trans rfl, (World.ownsRow.cellAt h 1 (by omega)).trans rfl⟩
set_option maxRecDepth 100000 in
set_option maxHeartbeats 4000000 in
theorem mawake_any (w : World) : Calls Try.prog 11 #[] w fun e w' => e = .returned (.bool true) ∧ Below w.heap.size w w' := by
  have RS := Lib.hid (mw_rs w)
  have W0 := Lib.hid (below_alloc w (.cells #[.string ⟨#[97]⟩, .int .u64 3, .int .i64 2, .string ⟨#[]⟩, .string ⟨#[97]⟩, .int .u64 1, .int .i64 1, .string ⟨#[120]⟩, .string ⟨#[98]⟩, .int .u64 2, .int .i64 1, .string ⟨#[121]⟩] 42))
  have hsm : ∀ x ∈ [mw1, mw2, mw3], x.key.size ≤ 281474976710656 ∧ x.val.size ≤ 281474976710656 ∧ x.seq ≤ topM := by
    intro x hx
    simp only [List.mem_cons, List.not_mem_nil, or_false] at hx
    rcases hx with rfl | rfl | rfl <;> exact ⟨by decide, by decide, by decide⟩
  have AC : Hid (Calls Try.prog 17 #[.slice (some ⟨w.heap.size, 0, none⟩) 3 3, .int .u64 2] (w.alloc (.cells #[.string ⟨#[97]⟩, .int .u64 3, .int .i64 2, .string ⟨#[]⟩, .string ⟨#[97]⟩, .int .u64 1, .int .i64 1, .string ⟨#[120]⟩, .string ⟨#[98]⟩, .int .u64 2, .int .i64 1, .string ⟨#[121]⟩] 42)) (AtD [mw1, mw2, mw3] 2 (w.alloc (.cells #[.string ⟨#[97]⟩, .int .u64 3, .int .i64 2, .string ⟨#[]⟩, .string ⟨#[97]⟩, .int .u64 1, .int .i64 1, .string ⟨#[120]⟩, .string ⟨#[98]⟩, .int .u64 2, .int .i64 1, .string ⟨#[121]⟩] 42)))) := Lib.hid (mat_any RS.out (by omega) (fun x hx => ⟨(hsm x hx).1, (hsm x hx).2.1⟩) 2)
  have DC : Hid (∀ u, Rs (some ⟨w.heap.size, 0, none⟩) 3 3 w.heap.size 0 [mw1, mw2, mw3] u → Calls Try.prog 20 #[.slice (some ⟨w.heap.size, 0, none⟩) 3 3, .slice none 0 0, .bool true] u (DropD [] true [mw1, mw2, mw3] u)) := Lib.hid (fun u h => mdrop_any h (by omega) hsm (show SlOf 1 cellsU none 0 0 0 0 [] u from ⟨rfl, Nat.le_refl _, by omega, fun h => absurd h (by omega), fun j x h => by simp at h⟩) (fun _ => rfl) (by omega) sort_one true)
  have EQ : ∀ u : World, (binOp .eql 47 (.agg #[.string ⟨#[97]⟩, .string ⟨#[120]⟩]) (.agg #[.string ⟨#[97]⟩, .string ⟨#[120]⟩])).run Try.prog u = .ok (.bool true) u := fun u => eq_pr _ _ _ _ ⟨rfl, rfl⟩ u
  go_enter Try.func11, Try.ntmps11
  go_wp2_with (first
    | (go_at_call 17; ((with_reducible refine AC.out.mono ?_); rintro e w1 hh; obtain ⟨v1, rfl, hv1, hb1⟩ := hh.yes mw_ord; rw [mw_at] at hv1; obtain ⟨g1, c1, rfl, p0, p1⟩ := pair_cells_of hv1; have R1 := Lib.hid (RS.out.below hb1 (Nat.le_refl _)); have W1 := Lib.hid (below_of W0.out hb1); clear hb1 hv1))
    | (go_at_call 20; ((with_reducible refine (DC.out _ R1.out).mono ?_); rintro e w2 hh; obtain ⟨v2, rfl, hv2, hb2⟩ := hh.yes mw_ord; rw [mw_drop] at hv2; obtain ⟨a2, c2, b2, rfl, hr2, _⟩ := rs_of_row hv2; obtain ⟨x2, hx2, rfl, d0, _, _, _⟩ := hr2.at4 (show 0 < 1 by omega); have p0' := cell_keep hb2 p0; have p1' := cell_keep hb2 p1; have ex : x2 = mw3 := (Option.some.inj hx2).symm; subst ex; rw [Nat.zero_add, Nat.zero_mul] at d0; have W2 := Lib.hid (below_of W1.out hb2); have d0' : w2.cell? ⟨b2, 0, none⟩ = some (.string ⟨#[98]⟩) := d0; clear d0 hb2 hv2 hr2 hx2)))
  go_returns
  exact ⟨rfl, W2.out⟩
end Go.Proofs.Ytkkegdhnkefogaa
