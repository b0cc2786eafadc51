/-
  Reading one builder leaves the other one. No condition.
-/
import Derived.Test.YtnmlifagchdphaaBuilder2
import Derived.Test.YtnmlifagchdphaaHeld
import Derived.Deep.DrawnRows
import Derived.Deep.RegionHeld
import Derived.BigRegion
import Derived.Deep.Cut
import Derived.Deep.DeepCutAuto
namespace Go.Proofs.Ytnmlifagchdphaa
set_option maxRecDepth 100000
open Go.RowKit
/-- What a reading of a builder leaves: all blocks but that of its bytes. -/
def Rd (b : Nat) (w w' : World) : Prop := w.heap.size ≤ w'.heap.size ∧ ∀ v, w.cell? ⟨b, 1, none⟩ = some v → ∀ k, k < w.heap.size → v.ownBlock ≠ some k → w'.heap[k]? = w.heap[k]?
theorem rd_drew (b : Nat) (w : World) : Rd b w w.drew := ⟨Nat.le_refl _, fun _ _ _ _ _ => rfl⟩
theorem rd_freeze {b g : Nat} (w : World) (h : ∀ v, w.cell? ⟨b, 1, none⟩ = some v → v.ownBlock = some g) (n : Nat) : Rd b w (w.drew.freeze ⟨g, 0, none⟩ n) := by
  unfold World.freeze
  split
  · exact rd_drew b w
  · refine ⟨by simp, fun v hv k hk hne => ?_⟩
    have : k ≠ g := fun e => hne (by rw [h v hv, e])
    simp only [Array.getElem?_modify]
    rw [if_neg (by simpa using fun e => this e.symm)]
    rfl
set_option maxRecDepth 100000 in
set_option maxHeartbeats 4000000 in
theorem bld_read {B b : Nat} {l : List UInt8} {w : World} (h : Bld B b l w) (hBw : B ≤ w.heap.size) :
    Calls Try.prog 28 #[.pointer (some ⟨b, 0, none⟩)] w fun e w' => e = .returned (.string ⟨l.toArray⟩) ∧ Below B w w' ∧ Rd b w w' := by
  have hbl := Lib.byteCells_length l
  have K : ∃ v, w.cell? ⟨b, 1, none⟩ = some v ∧ w.ownsRow B 5 1 v l.length (Lib.byteCells l) := by
    rcases h with h | h
    all_goals (
      obtain ⟨hB, v, hbk, hown, hne⟩ := h
      rw [hbl] at hown
      exact ⟨v, by rw [Lib.cell_of_heap hbk]; rfl, hown⟩)
  obtain ⟨v, c1, hown⟩ := K
  have hp : Try.prog.underlying 78 = some (.pointer 5) := Try.underlying78
  have hc : Try.prog.cellsOf 5 = 1 := by kernel_rfl
  clear h
  rcases hown.2 with ⟨rfl, hz⟩ | ⟨g, cap, cur, rfl, hbg, hg, hnc, hcm, hcs, htake⟩
  · have hl : l = [] := List.length_eq_zero_iff.1 hz
    subst hl
    have R1 := fun (u : World) ts ty => Lib.run_unsafeSliceData_nil (P := Try.prog) u ts ty 0 0
    have R2 := fun (u : World) pt it ty => Lib.run_unsafeString_none (P := Try.prog) u pt it ty none
    clear hown hbl
    go_enter Try.func28, Try.ntmps28
    go_upto_region 1 with fail
    go_region
    all_goals go_wp2_with fail
    all_goals go_returns
    all_goals exact ⟨rfl, (Below.refl B w).drew, rd_drew b w⟩
  · have c1g : ∀ v, w.cell? ⟨b, 1, none⟩ = some v → v.ownBlock = some g := fun v hv => by rw [c1] at hv; cases hv; rfl
    by_cases hl : l = []
    · subst hl
      have R2 := fun (u : World) pt it ty p => Lib.run_unsafeString_none (P := Try.prog) u pt it ty p
      by_cases hcap : cap = 0
      · subst hcap
        have sh : w.shape? g = some (5, cur.size) := by simp [World.shape?, hg]
        have R1 := Lib.run_unsafeSliceData_zero (P := Try.prog) w.drew #[51] 78 5 hp ⟨g, 0, none⟩ 0 (5, cur.size) sh
        have e2 : Hid (Below B w (w.drew.alloc (.view ⟨g, 0, none⟩ 5)) ∧ Rd b w (w.drew.alloc (.view ⟨g, 0, none⟩ 5))) := Lib.hid ⟨(Below.refl B w).drew.alloc hBw _, by simp, fun v _ k hk _ => heap_alloc_old _ _ hk⟩
        have d1 : (w.alloc (.view ⟨g, 0, none⟩ 5)).drew.cell? ⟨b, 1, none⟩ = some (.slice (some ⟨g, 0, none⟩) 0 0) := ((below_alloc w (.view ⟨g, 0, none⟩ 5)).cell (p := ⟨b, 1, none⟩) (World.block_lt_of_cell? _ _ c1)).trans c1
        clear hown hbl c1g hcs htake hg hcm hnc
        go_enter Try.func28, Try.ntmps28
        go_upto_region 1 with fail
        go_region
        all_goals go_wp2_with fail
        all_goals go_returns
        all_goals exact ⟨rfl, e2.out⟩
      · have R1 := fun (u : World) ts ty => Lib.run_unsafeSliceData_row (P := Try.prog) u ts ty ⟨g, 0, none⟩ 0 cap hcap
        clear hown hbl c1g hcs htake hg hcm hnc
        go_enter Try.func28, Try.ntmps28
        go_upto_region 1 with fail
        go_region
        all_goals go_wp2_with fail
        all_goals go_returns
        all_goals exact ⟨rfl, (Below.refl B w).drew, rd_drew b w⟩
    · have hl0 : 0 < l.length := List.length_pos_iff.2 hl
      have R1 := fun (u : World) ts ty => Lib.run_unsafeSliceData_row (P := Try.prog) u ts ty ⟨g, 0, none⟩ l.length cap (by omega)
      have sh : w.shape? g = some (5, cur.size) := by simp [World.shape?, hg]
      have R2 := fun it ty => Lib.run_unsafeString_row (P := Try.prog) w.drew 78 it ty 5 hp hc g cur.size sh l hl (by omega) (by unfold maxLen at hcm; omega) (fun j x hx => by
        have := hown.cells (g := g) rfl j (.int .u8 (x.toNat : Int)) (by unfold Lib.byteCells; rw [List.getElem?_map, hx]; rfl)
        exact this)
      have e2 : Hid (Below B w (w.drew.freeze ⟨g, 0, none⟩ l.length) ∧ Rd b w (w.drew.freeze ⟨g, 0, none⟩ l.length)) := Lib.hid ⟨Lib.below_freeze (Below.refl B w).drew hbg _, rd_freeze w c1g l.length⟩
      clear hown hbl c1g hcs htake hg hcm hnc sh
      go_enter Try.func28, Try.ntmps28
      go_upto_region 1 with fail
      go_region
      all_goals go_wp2_with fail
      all_goals go_returns
      all_goals exact ⟨rfl, e2.out⟩
/-- The other builder stands. -/
theorem Pr.read {B b1 b2 : Nat} {l1 l2 : List UInt8} {w w' : World} (h : Pr B b1 b2 l1 l2 w) (hr : Rd b1 w w') : Bld B b2 l2 w' := by
  obtain ⟨v1, c1, _, o1⟩ := h.one.own
  obtain ⟨v2, c2, _, o2⟩ := h.two.own
  obtain ⟨ds, hd⟩ := h.two.at'
  refine h.two.keep (hr.2 v1 c1 b2 (Array.getElem?_eq_some_iff.1 hd).1 (h.types c1)) (fun v g hv hg => ?_)
  rw [c2] at hv
  cases hv
  refine hr.2 v1 c1 g (o2 g hg).1 (fun e => ?_)
  rcases h.apart v1 v2 c1 c2 with k | k
  · rw [k] at e; cases e
  · exact k (e.trans hg.symm)
end Go.Proofs.Ytnmlifagchdphaa
