/-
  The contract of the program's copied. Condition: texts of less than 2^48 bytes.
-/
import Derived.Test.YtkkedofbnmjgeaaEditMeta
import Derived.Test.YtkkedofbnmjgeaaEditMake
import Derived.Test.YtkkedofbnmjgeaaHeld
import Derived.Test.YtkkedofbnmjgeaaHeldE
import Derived.Test.YtkkedofbnmjgeaaShelf
namespace Go.Proofs.Ytkkedofbnmjgeaa
set_option maxRecDepth 100000
open Go.RowKit
theorem clone_str (s : ByteArray) (hs : s.size ≤ 281474976710656) (w : World) : Calls Try.prog 63 #[.string s] w fun e w' => e = .returned (.string s) ∧ Below w.heap.size w w' := by
  have C := fun u => Lib.hid (Try.stringslite_Clone s u hs)
  clear hs
  go_enter Try.func63, Try.ntmps63
  go_wp2_with fail
  refine (C _).out.mono ?_
  rintro e w' ⟨rfl, hb⟩
  go_wp2_with fail
  go_returns
  exact ⟨rfl, hb⟩
/-- The two boxes of copied. -/
structure CpM (w : World) (x : Mt) (v : World) : Prop where
  arg : v.heap[w.heap.size]? = some (rmO x)
  res : v.heap[w.heap.size + 1]? = some rzO
  blw : Below w.heap.size w v
theorem CpM.below {w : World} {x : Mt} {v v' : World} (h : CpM w x v) (hb : Below v.heap.size v v') : CpM w x v' := by
  have l2 := (Array.getElem?_eq_some_iff.1 h.res).1
  exact ⟨(hb.block _ (by omega)).trans h.arg, (hb.block _ l2).trans h.res, below_of h.blw hb⟩
theorem CpM.new (w : World) (x : Mt) : CpM w x ((w.alloc (rmO x)).alloc rzO) := by
  refine ⟨(Below.heap_alloc _ _ _ (by rw [World.size_alloc]; omega)).trans (heap_alloc_new _ _), ?_, (below_alloc _ _).alloc (by simp) _⟩
  have := heap_alloc_new (w.alloc (rmO x)) rzO
  rwa [World.size_alloc] at this
theorem CpM.put3 {w : World} {x : Mt} {v : World} (h : CpM w x v) : CpM w x (v.setCell ⟨w.heap.size, 3, none⟩ (.string x.fst)) :=
  ⟨(heap_setCell_same _ _ 3 _ _ _ h.arg).trans rfl, (heap_setCell_other _ _ _ _ (by show w.heap.size + 1 ≠ w.heap.size; omega)).trans h.res, h.blw.setCell (p := ⟨w.heap.size, 3, none⟩) (Nat.le_refl _) _⟩
theorem CpM.put4 {w : World} {x : Mt} {v : World} (h : CpM w x v) : CpM w x (v.setCell ⟨w.heap.size, 4, none⟩ (.string x.lst)) :=
  ⟨(heap_setCell_same _ _ 4 _ _ _ h.arg).trans rfl, (heap_setCell_other _ _ _ _ (by show w.heap.size + 1 ≠ w.heap.size; omega)).trans h.res, h.blw.setCell (p := ⟨w.heap.size, 4, none⟩) (Nat.le_refl _) _⟩
theorem CpM.two {w : World} {x : Mt} {v : World} (h : CpM w x v) : v.cell? ⟨w.heap.size, 3, none⟩ = some (.string x.fst) ∧ v.cell? ⟨w.heap.size, 4, none⟩ = some (.string x.lst) := ⟨(rm_cells h.arg).2.2.2.1, (rm_cells h.arg).2.2.2.2.1⟩
theorem rm_frozen {p : Nat} {w : World} {x : Mt} (h : w.heap[p]? = some (rmO x)) : ∀ o, w.frozen? ⟨p, o, none⟩ = false := fun o => by simp [World.frozen?, h]
set_option maxRecDepth 100000 in
set_option maxHeartbeats 8000000 in
theorem mcopied_any (x : Mt) (hk : x.fst.size ≤ 281474976710656) (hv : x.lst.size ≤ 281474976710656) (w : World) :
    Calls Try.prog 36 #[.agg #[.int .u64 (x.num : Int), .int .i64 x.size, .int .i64 x.rows, .string x.fst, .string x.lst, .int .u64 (x.least : Int), .int .u64 (x.gr : Int)]] w fun e w' => e = .returned (.agg #[.int .u64 (x.num : Int), .int .i64 x.size, .int .i64 x.rows, .string x.fst, .string x.lst, .int .u64 (x.least : Int), .int .u64 (x.gr : Int)]) ∧ Below w.heap.size w w' := by
  have C1 := Lib.hid (clone_str x.fst hk)
  have C2 := Lib.hid (clone_str x.lst hv)
  have D0 := Lib.hid ((CpM.new w x).below (Below.refl _ _).drew)
  have SC : Hid (∀ v, CpM w x v → v.cell? ⟨w.heap.size, 3, none⟩ = some (.string x.fst) ∧ v.cell? ⟨w.heap.size, 4, none⟩ = some (.string x.lst)) := Lib.hid (fun v h => h.two)
  have S0 := Lib.hid (SC.out _ D0.out)
  clear hk hv
  go_enter Try.func36, Try.ntmps36
  go_upto_region 1 with fail

  refine wp_region_held_drew (S := (fun v => v.cell? ⟨w.heap.size, 3, none⟩ = some (.string x.fst) ∧ v.cell? ⟨w.heap.size, 4, none⟩ = some (.string x.lst))) (by kernel_rfl) (S0.out) (fun hHeld => ?_)
  refine held_take (i := 0) (v := ?_) rfl (by kernel_rfl) (by kernel_rfl) (by kernel_rfl) (fun _ _ _ h => h) (by rfl) (fun w hSw => ?_) (by assumption) ?_; rotate_left 1; focus (((try dsimp only at hSw); first | (go_simp; done) | (go_simp; with_reducible rfl)))
  try simp only [Act.put, List.setIfInBounds_toArray, List.set_cons_zero, List.set_cons_succ]
  refine held_take (i := 1) (v := ?_) rfl (by kernel_rfl) (by kernel_rfl) (by kernel_rfl) (fun _ _ _ h => h) (by rfl) (fun w hSw => ?_) (by assumption) ?_; rotate_left 1; focus (((try dsimp only at hSw); first | (go_simp; done) | (go_simp; with_reducible rfl)))
  try simp only [Act.put, List.setIfInBounds_toArray, List.set_cons_zero, List.set_cons_succ]
  refine held_take (i := 3) (v := ?_) rfl (by kernel_rfl) (by kernel_rfl) (by kernel_rfl) (fun _ _ _ h => h) (by rfl) (fun w hSw => ?_) (by assumption) ?_; rotate_left 1; focus (((try dsimp only at hSw); first | (go_simp; done) | (go_simp; with_reducible rfl)))
  try simp only [Act.put, List.setIfInBounds_toArray, List.set_cons_zero, List.set_cons_succ]
  refine held_take (i := 4) (v := ?_) rfl (by kernel_rfl) (by kernel_rfl) (by kernel_rfl) (fun _ _ _ h => h) (by rfl) (fun w hSw => ?_) (by assumption) ?_; rotate_left 1; focus (((try dsimp only at hSw); first | (go_simp; done) | (go_simp; with_reducible rfl)))
  try simp only [Act.put, List.setIfInBounds_toArray, List.set_cons_zero, List.set_cons_succ]
  refine held_call (i := 2) (by kernel_rfl) rfl (by rfl) (fun K hK => ?_)
  go_simp
  refine (C1.out _).mono ?_
  rintro e w1 ⟨rfl, hb1⟩
  have D1 := Lib.hid (D0.out.below hb1)
  clear hb1
  refine hK.out _ _ (SC.out _ D1.out) (fun hHeld => ?_)
  try simp only [Act.put, List.setIfInBounds_toArray, List.set_cons_zero, List.set_cons_succ]
  refine held_take (i := 6) (v := ?_) rfl (by kernel_rfl) (by kernel_rfl) (by kernel_rfl) (fun _ _ _ h => h) (by rfl) (fun w hSw => ?_) (by assumption) ?_; rotate_left 1; focus (((try dsimp only at hSw); first | (go_simp; done) | (go_simp; with_reducible rfl)))
  try simp only [Act.put, List.setIfInBounds_toArray, List.set_cons_zero, List.set_cons_succ]
  refine held_call (i := 5) (by kernel_rfl) rfl (by rfl) (fun K hK => ?_)
  go_simp
  refine (C2.out _).mono ?_
  rintro e w2 ⟨rfl, hb2⟩
  have D2 := Lib.hid (D1.out.below hb2)
  clear hb2
  refine hK.out _ _ (SC.out _ D2.out) (fun hHeld => ?_)
  try simp only [Act.put, List.setIfInBounds_toArray, List.set_cons_zero, List.set_cons_succ]
  refine held_call (i := 7) (by kernel_rfl) rfl (by rfl) (fun K hK => ?_)
  have f3 := rm_frozen D2.out.arg
  obtain ⟨y0, y1, y2, y3, y4, y5, y6⟩ := rm_cells D2.out.arg
  go_simp
  have D3 := Lib.hid D2.out.put3
  clear y0 y1 y2 y3 y4 y5 y6 f3
  refine hK.out _ _ (SC.out _ D3.out) (fun hHeld => ?_)
  try simp only [Act.put, List.setIfInBounds_toArray, List.set_cons_zero, List.set_cons_succ]
  refine held_take (i := 8) (v := ?_) rfl (by kernel_rfl) (by kernel_rfl) (by kernel_rfl) (fun _ _ _ h => h) (by rfl) (fun w hSw => ?_) (by assumption) ?_; rotate_left 1; focus (((try dsimp only at hSw); first | (go_simp; done) | (go_simp; with_reducible rfl)))
  try simp only [Act.put, List.setIfInBounds_toArray, List.set_cons_zero, List.set_cons_succ]
  refine held_call (i := 9) (by kernel_rfl) rfl (by rfl) (fun K hK => ?_)
  have f4 := rm_frozen D3.out.arg
  obtain ⟨y0, y1, y2, y3, y4, y5, y6⟩ := rm_cells D3.out.arg
  go_simp
  have D4 := Lib.hid D3.out.put4
  clear y0 y1 y2 y3 y4 y5 y6 f4
  refine hK.out _ _ (SC.out _ D4.out) (fun hHeld => ?_)
  try simp only [Act.put, List.setIfInBounds_toArray, List.set_cons_zero, List.set_cons_succ]
  refine wpAnyH_done (by kernel_rfl) ?_ _
  obtain ⟨u, hu⟩ := named ((w2.setCell ⟨w.heap.size, 3, none⟩ (.string x.fst)).setCell ⟨w.heap.size, 4, none⟩ (.string x.lst))
  rw [← hu.out] at D4
  rw [← hu.out]
  replace hu := Lib.hid trivial
  obtain ⟨y0, y1, y2, y3, y4, y5, y6⟩ := rm_cells D4.out.arg
  obtain ⟨z0, z1, z2, z3, z4, z5, z6⟩ := rz_cells D4.out.res
  have zf := rz_frozen D4.out.res
  go_wp2_with fail
  obtain ⟨g0, g1, g2, g3, g4, g5, g6⟩ := rm_cells (rm_put D4.out.res x)
  refine bodyPost_ret (v := .agg #[.int .u64 (x.num : Int), .int .i64 x.size, .int .i64 x.rows, .string x.fst, .string x.lst, .int .u64 (x.least : Int), .int .u64 (x.gr : Int)]) (by simp [results, Try.results36, go_sem, g0, g1, g2, g3, g4, g5, g6]) rfl ⟨rfl, ?_⟩
  have g := Nat.le_succ w.heap.size
  exact ((((((D4.out.blw.setCell (p := ⟨w.heap.size + 1, 0, none⟩) g _).setCell (p := ⟨w.heap.size + 1, 1, none⟩) g _).setCell (p := ⟨w.heap.size + 1, 2, none⟩) g _).setCell (p := ⟨w.heap.size + 1, 3, none⟩) g _).setCell (p := ⟨w.heap.size + 1, 4, none⟩) g _).setCell (p := ⟨w.heap.size + 1, 5, none⟩) g _).setCell (p := ⟨w.heap.size + 1, 6, none⟩) g _
end Go.Proofs.Ytkkedofbnmjgeaa
