/-
  The contract of the program's copied (package merge). Condition: texts of less than 2^48 bytes.
-/
import Derived.Test.YtkkegdhnkefogaaRowAt
import Derived.Test.YtkkegdhnkefogaaShelf
import Derived.Handy
import Derived.Deep.DrawnRows
import Derived.Deep.RegionHeld
import Derived.Deep.RegionWith
namespace Go.Proofs.Ytkkegdhnkefogaa
set_option maxRecDepth 100000
open Go.RowKit
theorem clone_str (s : ByteArray) (hs : s.size ≤ 281474976710656) (w : World) : Calls Try.prog 45 #[.string s] w fun e w' => e = .returned (.string s) ∧ Below w.heap.size w w' := by
  have C := fun u => Lib.hid (Try.stringslite_Clone s u hs)
  clear hs
  go_enter Try.func45, Try.ntmps45
  go_wp2_with fail
  refine (C _).out.mono ?_
  rintro e w' ⟨rfl, hb⟩
  go_wp2_with fail
  go_returns
  exact ⟨rfl, hb⟩
/-- The two boxes of copied: the argument's and the result's. -/
structure Cpy (w : World) (xk xv : ByteArray) (xs : Nat) (xi : Int) (v : World) : Prop where
  arg : RowAt w.heap.size ⟨xk, xs, xi, xv⟩ v
  res : RowAt (w.heap.size + 1) ⟨⟨#[]⟩, 0, 0, ⟨#[]⟩⟩ v
  blw : Below w.heap.size w v
theorem Cpy.below {w : World} {xk xv : ByteArray} {xs : Nat} {xi : Int} {v v' : World} (h : Cpy w xk xv xs xi v) (hb : Below v.heap.size v v') : Cpy w xk xv xs xi v' := ⟨h.arg.below hb, h.res.below hb, below_of h.blw hb⟩
theorem Cpy.new (w : World) (xk xv : ByteArray) (xs : Nat) (xi : Int) : Cpy w xk xv xs xi ((w.alloc (.cells #[.string xk, .int .u64 (xs : Int), .int .i64 xi, .string xv] 42)).alloc (.cells #[.string ⟨#[]⟩, .int .u64 0, .int .i64 0, .string ⟨#[]⟩] 42)) := by
  refine ⟨(RowAt.new ⟨xk, xs, xi, xv⟩ w).below (below_alloc _ _), ?_, (below_alloc _ _).alloc (by simp) _⟩
  have := RowAt.new ⟨⟨#[]⟩, 0, 0, ⟨#[]⟩⟩ (w.alloc (.cells #[.string xk, .int .u64 (xs : Int), .int .i64 xi, .string xv] 42))
  rw [World.size_alloc] at this
  exact this
theorem Cpy.cells {w : World} {xk xv : ByteArray} {xs : Nat} {xi : Int} {v : World} (h : Cpy w xk xv xs xi v) : (v.cell? ⟨w.heap.size, 0, none⟩ = some (.string xk) ∧ v.cell? ⟨w.heap.size, 1, none⟩ = some (.int .u64 (xs : Int)) ∧ v.cell? ⟨w.heap.size, 2, none⟩ = some (.int .i64 xi) ∧ v.cell? ⟨w.heap.size, 3, none⟩ = some (.string xv)) ∧ (∀ o, v.frozen? ⟨w.heap.size, o, none⟩ = false) ∧
    v.cell? ⟨w.heap.size + 1, 0, none⟩ = some (.string ⟨#[]⟩) ∧ v.cell? ⟨w.heap.size + 1, 1, none⟩ = some (.int .u64 0) ∧ v.cell? ⟨w.heap.size + 1, 2, none⟩ = some (.int .i64 0) ∧ v.cell? ⟨w.heap.size + 1, 3, none⟩ = some (.string ⟨#[]⟩) ∧ ∀ o, v.frozen? ⟨w.heap.size + 1, o, none⟩ = false := by
  obtain ⟨h1, h2⟩ := h.arg.cells
  obtain ⟨⟨k0, k1, k2, k3⟩, k4⟩ := h.res.cells
  exact ⟨h1, h2, k0, k1, k2, k3, k4⟩
set_option maxRecDepth 100000 in
set_option maxHeartbeats 8000000 in
theorem copied_any (x : Rw) (hk : x.key.size ≤ 281474976710656) (hv : x.val.size ≤ 281474976710656) (w : World) :
    Calls Try.prog 28 #[rowV x] w fun e w' => e = .returned (rowV x) ∧ Below w.heap.size w w' := by
  have C1 := Lib.hid (clone_str x.key hk)
  have C2 := Lib.hid (clone_str x.val hv)
  obtain ⟨xk, xs, xi, xv⟩ := x
  simp only at C1 C2
  have D := Cpy.new w xk xv xs xi
  clear hk hv
  go_enter Try.func28, Try.ntmps28
  go_wp2_with fail
  generalize (w.alloc (.cells #[.string xk, .int .u64 (xs : Int), .int .i64 xi, .string xv] 42)).alloc (.cells #[.string ⟨#[]⟩, .int .u64 0, .int .i64 0, .string ⟨#[]⟩] 42) = W0 at *
  obtain ⟨⟨a0, a1, a2, a3⟩, a4, b0, b1, b2, b3, b4⟩ := D.cells
  have D1 : Cpy w xk xv xs xi W0.drew := ⟨D.arg, D.res, D.blw.drew⟩
  go_region_with (go_at_call 45; (first | ((with_reducible refine (C1.out _).mono ?_); rintro e w1 ⟨rfl, hb⟩; have d := Cpy.below (by assumption) hb; obtain ⟨⟨c0, c1, c2, c3⟩, c4, d0, d1, d2, d3, d4⟩ := d.cells) | ((with_reducible refine (C2.out _).mono ?_); rintro e w1 ⟨rfl, hb⟩; have d := Cpy.below (by assumption) hb; obtain ⟨⟨c0, c1, c2, c3⟩, c4, d0, d1, d2, d3, d4⟩ := d.cells) | fail "no arm"))
  all_goals (
    go_wp2_with fail
    refine bodyPost_ret (v := rowV ⟨xk, xs, xi, xv⟩) (by simp [results, Try.results28, go_sem, c0, c1, c2, c3, d0, d1, d2, d3]) rfl ⟨rfl, ?_⟩
    exact ((((((d.blw.setCell (p := ⟨w.heap.size, 0, none⟩) (Nat.le_refl _) _).setCell (p := ⟨w.heap.size, 3, none⟩) (Nat.le_refl _) _).setCell (p := ⟨w.heap.size + 1, 0, none⟩) (Nat.le_succ _) _).setCell (p := ⟨w.heap.size + 1, 1, none⟩) (Nat.le_succ _) _).setCell (p := ⟨w.heap.size + 1, 2, none⟩) (Nat.le_succ _) _).setCell (p := ⟨w.heap.size + 1, 3, none⟩) (Nat.le_succ _) _))
end Go.Proofs.Ytkkegdhnkefogaa
