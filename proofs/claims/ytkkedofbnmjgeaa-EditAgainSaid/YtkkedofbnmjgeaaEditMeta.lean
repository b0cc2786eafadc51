/-
  The program's meta: it reads what the document reads. Condition: a text that came in.
-/
import Derived.Test.YtkkedofbnmjgeaaEditDecMath
import Derived.Test.YtkkedofbnmjgeaaEditReadMeta
namespace Go.Proofs.Ytkkedofbnmjgeaa
set_option maxRecDepth 100000
open Go.RowKit
theorem But.setHi {b : Nat} {w w' : World} (h : But b w w') {p : Addr} (hp : w.heap.size ≤ p.block) (u : Value) : But b w (w'.setCell p u) :=
  have g : Below 0 w' (w'.setCell p u) := (Below.refl 0 w').setCell (Nat.zero_le _) u
  ⟨g.os.trans h.os, g.tape.trans h.tape, g.output.trans h.output, Nat.le_trans h.size g.size, fun k hk hb => (Below.heap_setCell w' p u k (by omega)).trans (h.block k hk hb)⟩
theorem RO.keep {b : Nat} {w w' : World} {l : List UInt8} {o : Option Nat} (h : RO w b l o) (hk : w'.heap[b]? = w.heap[b]?) : RO w' b l o := by
  obtain ⟨t, f, ⟨h0, h1, h2, h3⟩, h4⟩ := h
  have e : ∀ a, w'.cell? ⟨b, a, none⟩ = w.cell? ⟨b, a, none⟩ := fun a => World.cell?_of_block (a := ⟨b, a, none⟩) hk
  have e2 : ∀ a, w'.frozen? ⟨b, a, none⟩ = w.frozen? ⟨b, a, none⟩ := fun a => by unfold World.frozen?; rw [hk]
  exact ⟨t, f, ⟨(e 0).trans h0, (e 1).trans h1, (e2 0).trans h2, (e2 1).trans h3⟩, h4⟩
theorem RO.set {b : Nat} {w : World} {l : List UInt8} {o : Option Nat} (h : RO w b l o) {p : Addr} (hp : b ≠ p.block) (u : Value) : RO (w.setCell p u) b l o := h.keep (heap_setCell_other _ _ _ _ hp)
set_option maxRecDepth 100000 in
set_option maxHeartbeats 8000000 in
theorem meta_o {l : List UInt8} {o : Option Nat} {b : Nat} {w : World} (h : RO w b l o) : Calls Try.prog 40 #[.pointer (some ⟨b, 0, none⟩)] w fun e w' => e = .returned (.agg #[.int .u64 ((dmeta l o).1.num : Int), .int .i64 (dmeta l o).1.size, .int .i64 (dmeta l o).1.rows, .string (dmeta l o).1.fst, .string (dmeta l o).1.lst, .int .u64 ((dmeta l o).1.least : Int), .int .u64 ((dmeta l o).1.gr : Int)]) ∧ RO w' b l (dmeta l o).2 ∧ But b w w' := by
  have hlt := h.lt
  have R0 : Hid (RO (w.alloc rzO) b l o) := Lib.hid (h.below (below_alloc w rzO) hlt)
  have B0 : Hid (But b w (w.alloc rzO)) := Lib.hid ((But.refl b w).alloc rzO)
  have M0 : Hid ((w.alloc rzO).heap[w.heap.size]? = some rzO) := Lib.hid (heap_alloc_new _ _)
  have KM : Hid (∀ u, But b (w.alloc rzO) u → u.heap[w.heap.size]? = some rzO) := Lib.hid (fun u hu => (hu.block w.heap.size (by rw [World.size_alloc]; omega) (by omega)).trans M0.out)
  have FIN : Hid (∀ u x r, But b (w.alloc rzO) u → RO u b l r → RO (rmPut w.heap.size x u) b l r ∧ But b w (rmPut w.heap.size x u)) := Lib.hid (fun u x r hu hr => by
    have hne : b ≠ w.heap.size := by omega
    refine ⟨((((((hr.set hne _).set hne _).set hne _).set hne _).set hne _).set hne _).set hne _, ?_⟩
    have hu0 := B0.out.trans hu
    exact ((((((hu0.setHi (Nat.le_refl _) _).setHi (Nat.le_refl _) _).setHi (Nat.le_refl _) _).setHi (Nat.le_refl _) _).setHi (Nat.le_refl _) _).setHi (Nat.le_refl _) _).setHi (Nat.le_refl _) _)
  have CN : Hid (∀ u r, RO u b l r → Calls Try.prog 37 #[.pointer (some ⟨b, 0, none⟩)] u fun e w' => e = .returned (.int .u64 ((dnum l r mostN).1 : Int)) ∧ RO w' b l (dnum l r mostN).2 ∧ But b u w') := Lib.hid (fun u r hu => number_o hu)
  have CU : Hid (∀ u r, RO u b l r → Calls Try.prog 38 #[.pointer (some ⟨b, 0, none⟩), .int .i64 262144] u fun e w' => e = .returned (.int .i64 ((dnum l r 262144).1 : Int)) ∧ RO w' b l (dnum l r 262144).2 ∧ But b u w') := Lib.hid (fun u r hu => by
    have hh := upto_o hu 262144 (by omega)
    rw [show ((262144 : Nat) : Int) = 262144 by decide] at hh
    exact hh)
  have CK : Hid (∀ u r, RO u b l r → Calls Try.prog 66 #[.pointer (some ⟨b, 0, none⟩)] u fun e w' => e = .returned (.string ⟨(dtxt l r).1.toArray⟩) ∧ RO w' b l (dtxt l r).2 ∧ But b u w') := Lib.hid (fun u r hu => key_o hu)
  unfold dmeta
  simp only
  obtain ⟨r1, h1⟩ := named (dnum l o mostN)
  have C1 : Hid (∀ u, RO u b l o → Calls Try.prog 37 #[.pointer (some ⟨b, 0, none⟩)] u fun e w' => e = .returned (.int .u64 (r1.1 : Int)) ∧ RO w' b l r1.2 ∧ But b u w') := Lib.hid (fun u hu => by rw [h1.out]; exact CN.out u o hu)
  rw [← h1.out]
  replace h1 := Lib.hid trivial
  obtain ⟨r2, h2⟩ := named (dnum l r1.2 262144)
  have C2 : Hid (∀ u, RO u b l r1.2 → Calls Try.prog 38 #[.pointer (some ⟨b, 0, none⟩), .int .i64 262144] u fun e w' => e = .returned (.int .i64 (r2.1 : Int)) ∧ RO w' b l r2.2 ∧ But b u w') := Lib.hid (fun u hu => by rw [h2.out]; exact CU.out u r1.2 hu)
  rw [← h2.out]
  replace h2 := Lib.hid trivial
  obtain ⟨r3, h3⟩ := named (dnum l r2.2 262144)
  have C3 : Hid (∀ u, RO u b l r2.2 → Calls Try.prog 38 #[.pointer (some ⟨b, 0, none⟩), .int .i64 262144] u fun e w' => e = .returned (.int .i64 (r3.1 : Int)) ∧ RO w' b l r3.2 ∧ But b u w') := Lib.hid (fun u hu => by rw [h3.out]; exact CU.out u r2.2 hu)
  rw [← h3.out]
  replace h3 := Lib.hid trivial
  obtain ⟨r4, h4⟩ := named (dtxt l r3.2)
  have C4 : Hid (∀ u, RO u b l r3.2 → Calls Try.prog 66 #[.pointer (some ⟨b, 0, none⟩)] u fun e w' => e = .returned (.string ⟨r4.1.toArray⟩) ∧ RO w' b l r4.2 ∧ But b u w') := Lib.hid (fun u hu => by rw [h4.out]; exact CK.out u r3.2 hu)
  rw [← h4.out]
  replace h4 := Lib.hid trivial
  obtain ⟨r5, h5⟩ := named (dtxt l r4.2)
  have C5 : Hid (∀ u, RO u b l r4.2 → Calls Try.prog 66 #[.pointer (some ⟨b, 0, none⟩)] u fun e w' => e = .returned (.string ⟨r5.1.toArray⟩) ∧ RO w' b l r5.2 ∧ But b u w') := Lib.hid (fun u hu => by rw [h5.out]; exact CK.out u r4.2 hu)
  rw [← h5.out]
  replace h5 := Lib.hid trivial
  obtain ⟨r6, h6⟩ := named (dnum l r5.2 mostN)
  have C6 : Hid (∀ u, RO u b l r5.2 → Calls Try.prog 37 #[.pointer (some ⟨b, 0, none⟩)] u fun e w' => e = .returned (.int .u64 (r6.1 : Int)) ∧ RO w' b l r6.2 ∧ But b u w') := Lib.hid (fun u hu => by rw [h6.out]; exact CN.out u r5.2 hu)
  rw [← h6.out]
  replace h6 := Lib.hid trivial
  obtain ⟨r7, h7⟩ := named (dnum l r6.2 mostN)
  have C7 : Hid (∀ u, RO u b l r6.2 → Calls Try.prog 37 #[.pointer (some ⟨b, 0, none⟩)] u fun e w' => e = .returned (.int .u64 (r7.1 : Int)) ∧ RO w' b l r7.2 ∧ But b u w') := Lib.hid (fun u hu => by rw [h7.out]; exact CN.out u r6.2 hu)
  rw [← h7.out]
  replace h7 := Lib.hid trivial
  obtain ⟨n1, o1⟩ := r1
  obtain ⟨n2, o2⟩ := r2
  obtain ⟨n3, o3⟩ := r3
  obtain ⟨n4, o4⟩ := r4
  obtain ⟨n5, o5⟩ := r5
  obtain ⟨n6, o6⟩ := r6
  obtain ⟨n7, o7⟩ := r7
  simp only at C1 C2 C3 C4 C5 C6 C7 ⊢
  clear CN CU CK h
  go_enter Try.func40, Try.ntmps40
  go_wp2_with (first
    | (go_at_call 37; ((with_reducible refine (C1.out _ R0.out).mono ?_); rintro r w1 ⟨rfl, hr, hb⟩; have R1 := Lib.hid hr; have B1 := Lib.hid hb; clear hr hb))
    | (go_at_call 38; ((with_reducible refine (C2.out _ R1.out).mono ?_); rintro r w2 ⟨rfl, hr, hb⟩; have R2 := Lib.hid hr; have B2 := Lib.hid (B1.out.trans hb); clear hr hb))
    | (go_at_call 38; ((with_reducible refine (C3.out _ R2.out).mono ?_); rintro r w3 ⟨rfl, hr, hb⟩; have R3 := Lib.hid hr; have B3 := Lib.hid (B2.out.trans hb); clear hr hb))
    | (go_at_call 66; ((with_reducible refine (C4.out _ R3.out).mono ?_); rintro r w4 ⟨rfl, hr, hb⟩; have R4 := Lib.hid hr; have B4 := Lib.hid (B3.out.trans hb); clear hr hb))
    | (go_at_call 66; ((with_reducible refine (C5.out _ R4.out).mono ?_); rintro r w5 ⟨rfl, hr, hb⟩; have R5 := Lib.hid hr; have B5 := Lib.hid (B4.out.trans hb); clear hr hb))
    | (go_at_call 37; ((with_reducible refine (C6.out _ R5.out).mono ?_); rintro r w6 ⟨rfl, hr, hb⟩; have R6 := Lib.hid hr; have B6 := Lib.hid (B5.out.trans hb); clear hr hb))
    | (go_at_call 37; ((with_reducible refine (C7.out _ R6.out).mono ?_); rintro r w7 ⟨rfl, hr, hb⟩; have R7 := Lib.hid hr; have B7 := Lib.hid (B6.out.trans hb); obtain ⟨y0, y1, y2, y3, y4, y5, y6⟩ := rz_cells (KM.out _ B7.out); have fz := rz_frozen (KM.out _ B7.out); clear hr hb)))
  obtain ⟨g0, g1, g2, g3, g4, g5, g6⟩ := rm_cells (rm_put (KM.out _ B7.out) ⟨n1, (n2 : Int), (n3 : Int), ⟨n4.toArray⟩, ⟨n5.toArray⟩, n6, n7⟩)
  have F := FIN.out _ ⟨n1, (n2 : Int), (n3 : Int), ⟨n4.toArray⟩, ⟨n5.toArray⟩, n6, n7⟩ _ B7.out R7.out
  exact bodyPost_ret (v := .agg #[.int .u64 (n1 : Int), .int .i64 (n2 : Int), .int .i64 (n3 : Int), .string ⟨n4.toArray⟩, .string ⟨n5.toArray⟩, .int .u64 (n6 : Int), .int .u64 (n7 : Int)]) (by simp [results, Try.results40, go_sem, g0, g1, g2, g3, g4, g5, g6]) rfl ⟨rfl, F.1, F.2⟩
end Go.Proofs.Ytkkedofbnmjgeaa
