/-
  The contract of keys.Decode: it answers what the plain mathematics reads. Condition: a text of at most 4096 bytes.
-/
import Derived.Test.YtpobfheioondaaaDoorKeysRange
import Derived.Test.YtpobfheioondaaaDoorKeysMath2
namespace Go.Proofs.YtpobfheioondaaaDoor
open Go.RowKit
theorem clone_small (s : ByteArray) (hs : s.size ≤ 281474976710656) (w : World) : Calls Tryd.prog 34 #[.string s] w fun e w' => e = .returned (.string s) ∧ Below w.heap.size w w' := by
  go_enter Tryd.func34, Tryd.ntmps34
  go_wp2_with (go_at_call 45; refine (Any.stringslite_Clone Tryd.laysM316 s _ hs).mono ?_; rintro e w' ⟨rfl, hb⟩)
  go_ret
  exact ⟨rfl, hb⟩
theorem slice_from (s : ByteArray) (n : Nat) (h : n ≤ s.size) (u : World) :
    (Instr.slice 9 (.string s) (some (.int .i64 (n : Int))) none none).run Tryd.prog u = .ok (.string ⟨(s.data.toList.drop n).toArray⟩) u := by
  rw [run_slice_string_from_if u 9 s .i64 _ Tryd.underlying9, if_pos ⟨by omega, by omega⟩]
  congr 2
  apply ByteArray.ext
  apply Array.toList_inj.1
  rw [ByteArray.data_extract, Array.toList_extract]
  rw [List.extract_eq_take_drop, List.take_of_length_le (by rw [List.length_drop, size_len]; omega)]
  simp
theorem index_at (s : ByteArray) (n : Nat) (c : UInt8) (h : s.data.toList[n]? = some c) (u : World) :
    (Instr.index 9 (.string s) (.int .i64 (n : Int))).run Tryd.prog u = .ok (.int .u8 (c.toNat : Int)) u := by
  have hl : n < s.data.toList.length := (List.getElem?_eq_some_iff.1 h).1
  rw [size_len] at hl
  rw [run_index_string u 9 s .i64 _ Tryd.underlying9, dif_pos ⟨by omega, by omega⟩]
  have e : ∀ h', s[(n : Int).toNat]'h' = c := fun h' => by
    have h3 : s.data.toList[n]? = some s[n] := Lib.data_getElem? s n (by omega)
    exact Option.some.inj (h3.symm.trans h)
  rw [e]
/-- What the three blocks hold that Decode makes: the result, the key that it reads, and the pointers to two of its fields. -/
structure DecAt (v : World) (N : Nat) (a b k p u : Value) : Prop where
  r0 : v.cell? ⟨N, 0, none⟩ = some (.int .i64 0)
  r1 : v.cell? ⟨N, 1, none⟩ = some (.int .i64 0)
  r2 : v.cell? ⟨N, 2, none⟩ = some (.string noText)
  r3 : v.cell? ⟨N, 3, none⟩ = some (.string noText)
  r4 : v.cell? ⟨N, 4, none⟩ = some (.string noText)
  k0 : v.cell? ⟨N + 1, 0, none⟩ = some a
  k1 : v.cell? ⟨N + 1, 1, none⟩ = some b
  k2 : v.cell? ⟨N + 1, 2, none⟩ = some k
  k3 : v.cell? ⟨N + 1, 3, none⟩ = some p
  k4 : v.cell? ⟨N + 1, 4, none⟩ = some u
  p0 : v.cell? ⟨N + 1 + 1, 0, none⟩ = some (.pointer (some ⟨N + 1, 2, none⟩))
  p1 : v.cell? ⟨N + 1 + 1, 1, none⟩ = some (.pointer (some ⟨N + 1, 3, none⟩))
  fr : ∀ i, v.frozen? ⟨N, i, none⟩ = false
  fk : ∀ i, v.frozen? ⟨N + 1, i, none⟩ = false
theorem DecAt.below {v v' : World} {N : Nat} {a b k p u : Value} (h : DecAt v N a b k p u) (hb : Below v.heap.size v v') : DecAt v' N a b k p u := by
  have hlt : N + 1 + 1 < v.heap.size := World.block_lt_of_cell? _ _ h.p0
  have c : ∀ b' i, b' < v.heap.size → v'.cell? ⟨b', i, none⟩ = v.cell? ⟨b', i, none⟩ := fun b' i hb' => hb.cell (p := ⟨b', i, none⟩) hb'
  have f : ∀ b' i, b' < v.heap.size → v'.frozen? ⟨b', i, none⟩ = v.frozen? ⟨b', i, none⟩ := fun b' i hb' => hb.frozen (p := ⟨b', i, none⟩) hb'
  obtain ⟨r0, r1, r2, r3, r4, k0, k1, k2, k3, k4, p0, p1, fr, fk⟩ := h
  refine ⟨(c _ _ (by omega)).trans r0, (c _ _ (by omega)).trans r1, (c _ _ (by omega)).trans r2, (c _ _ (by omega)).trans r3, (c _ _ (by omega)).trans r4, (c _ _ (by omega)).trans k0, (c _ _ (by omega)).trans k1, (c _ _ (by omega)).trans k2, (c _ _ (by omega)).trans k3, (c _ _ (by omega)).trans k4, (c _ _ hlt).trans p0, (c _ _ hlt).trans p1, fun i => (f _ _ (by omega)).trans (fr i), fun i => (f _ _ (by omega)).trans (fk i)⟩
theorem DecAt.set2 {v : World} {N : Nat} {a b k p u : Value} (h : DecAt v N a b k p u) (x : Value) : DecAt (v.setCell ⟨N + 1, 2, none⟩ x).drew N a b x p u := by
  have c : ∀ b' i, ¬ (b' = N + 1 ∧ i = 2) → (v.setCell ⟨N + 1, 2, none⟩ x).drew.cell? ⟨b', i, none⟩ = v.cell? ⟨b', i, none⟩ := fun b' i hb' => World.cell?_setCell_other _ _ _ _ (by simp; omega)
  have f : ∀ b' i, (v.setCell ⟨N + 1, 2, none⟩ x).drew.frozen? ⟨b', i, none⟩ = v.frozen? ⟨b', i, none⟩ := fun b' i => World.frozen?_setCell _ _ _ _
  obtain ⟨r0, r1, r2, r3, r4, k0, k1, k2, k3, k4, p0, p1, fr, fk⟩ := h
  exact ⟨(c _ _ (by omega)).trans r0, (c _ _ (by omega)).trans r1, (c _ _ (by omega)).trans r2, (c _ _ (by omega)).trans r3, (c _ _ (by omega)).trans r4, (c _ _ (by omega)).trans k0, (c _ _ (by omega)).trans k1, World.cell?_setCell_same _ _ _ k2, (c _ _ (by omega)).trans k3, (c _ _ (by omega)).trans k4, (c _ _ (by omega)).trans p0, (c _ _ (by omega)).trans p1, fun i => (f _ _).trans (fr i), fun i => (f _ _).trans (fk i)⟩
theorem DecAt.set3 {v : World} {N : Nat} {a b k p u : Value} (h : DecAt v N a b k p u) (x : Value) : DecAt (v.setCell ⟨N + 1, 3, none⟩ x).drew N a b k x u := by
  have c : ∀ b' i, ¬ (b' = N + 1 ∧ i = 3) → (v.setCell ⟨N + 1, 3, none⟩ x).drew.cell? ⟨b', i, none⟩ = v.cell? ⟨b', i, none⟩ := fun b' i hb' => World.cell?_setCell_other _ _ _ _ (by simp; omega)
  have f : ∀ b' i, (v.setCell ⟨N + 1, 3, none⟩ x).drew.frozen? ⟨b', i, none⟩ = v.frozen? ⟨b', i, none⟩ := fun b' i => World.frozen?_setCell _ _ _ _
  obtain ⟨r0, r1, r2, r3, r4, k0, k1, k2, k3, k4, p0, p1, fr, fk⟩ := h
  exact ⟨(c _ _ (by omega)).trans r0, (c _ _ (by omega)).trans r1, (c _ _ (by omega)).trans r2, (c _ _ (by omega)).trans r3, (c _ _ (by omega)).trans r4, (c _ _ (by omega)).trans k0, (c _ _ (by omega)).trans k1, (c _ _ (by omega)).trans k2, World.cell?_setCell_same _ _ _ k3, (c _ _ (by omega)).trans k4, (c _ _ (by omega)).trans p0, (c _ _ (by omega)).trans p1, fun i => (f _ _).trans (fr i), fun i => (f _ _).trans (fk i)⟩
theorem DecAt.set4 {v : World} {N : Nat} {a b k p u : Value} (h : DecAt v N a b k p u) (x : Value) : DecAt (v.setCell ⟨N + 1, 4, none⟩ x) N a b k p x := by
  have c : ∀ b' i, ¬ (b' = N + 1 ∧ i = 4) → (v.setCell ⟨N + 1, 4, none⟩ x).cell? ⟨b', i, none⟩ = v.cell? ⟨b', i, none⟩ := fun b' i hb' => World.cell?_setCell_other _ _ _ _ (by simp; omega)
  have f : ∀ b' i, (v.setCell ⟨N + 1, 4, none⟩ x).frozen? ⟨b', i, none⟩ = v.frozen? ⟨b', i, none⟩ := fun b' i => World.frozen?_setCell _ _ _ _
  obtain ⟨r0, r1, r2, r3, r4, k0, k1, k2, k3, k4, p0, p1, fr, fk⟩ := h
  exact ⟨(c _ _ (by omega)).trans r0, (c _ _ (by omega)).trans r1, (c _ _ (by omega)).trans r2, (c _ _ (by omega)).trans r3, (c _ _ (by omega)).trans r4, (c _ _ (by omega)).trans k0, (c _ _ (by omega)).trans k1, (c _ _ (by omega)).trans k2, (c _ _ (by omega)).trans k3, World.cell?_setCell_same _ _ _ k4, (c _ _ (by omega)).trans p0, (c _ _ (by omega)).trans p1, fun i => (f _ _).trans (fr i), fun i => (f _ _).trans (fk i)⟩
theorem DecAt.born (w : World) (a b : Value) : DecAt ((((w.alloc (.cells #[.int .i64 0, .int .i64 0, .string noText, .string noText, .string noText] 23)).alloc (.cells #[a, b, .string noText, .string noText, .string noText] 23)).alloc (.cells #[.pointer (some ⟨w.heap.size + 1, 2, none⟩), .pointer (some ⟨w.heap.size + 1, 3, none⟩)] 49)).drew) w.heap.size a b (.string noText) (.string noText) (.string noText) := by
  obtain ⟨o0, h0⟩ : ∃ o, o = Obj.cells #[.int .i64 0, .int .i64 0, .string noText, .string noText, .string noText] 23 := ⟨_, rfl⟩
  obtain ⟨o1, h1⟩ : ∃ o, o = Obj.cells #[a, b, .string noText, .string noText, .string noText] 23 := ⟨_, rfl⟩
  obtain ⟨o2, h2⟩ : ∃ o, o = Obj.cells #[.pointer (some ⟨w.heap.size + 1, 2, none⟩), .pointer (some ⟨w.heap.size + 1, 3, none⟩)] 49 := ⟨_, rfl⟩
  rw [← h0, ← h1, ← h2]
  have z1 : (w.alloc o0).heap.size = w.heap.size + 1 := by simp
  have z2 : ((w.alloc o0).alloc o1).heap.size = w.heap.size + 1 + 1 := by simp
  have c0 : ∀ i : Nat, ((((w.alloc o0).alloc o1).alloc o2).drew).cell? ⟨w.heap.size, i, none⟩ = (#[.int .i64 0, .int .i64 0, .string noText, .string noText, .string noText] : Array Value)[i]? := fun i =>
    (World.cell?_alloc_lt _ _ _ (by rw [z2]; exact Nat.lt_succ_of_lt (Nat.lt_succ_self _))).trans ((World.cell?_alloc_lt _ _ _ (by rw [z1]; exact Nat.lt_succ_self _)).trans (by rw [h0]; exact World.cell?_alloc_new _ _ _ _))
  have c1 : ∀ i : Nat, ((((w.alloc o0).alloc o1).alloc o2).drew).cell? ⟨w.heap.size + 1, i, none⟩ = (#[a, b, .string noText, .string noText, .string noText] : Array Value)[i]? := fun i =>
    (World.cell?_alloc_lt _ _ _ (by rw [z2]; exact Nat.lt_succ_self _)).trans (by rw [h1, ← z1]; exact World.cell?_alloc_new _ _ _ _)
  have c2 : ∀ i : Nat, ((((w.alloc o0).alloc o1).alloc o2).drew).cell? ⟨w.heap.size + 1 + 1, i, none⟩ = (#[.pointer (some ⟨w.heap.size + 1, 2, none⟩), .pointer (some ⟨w.heap.size + 1, 3, none⟩)] : Array Value)[i]? := fun i => by
    rw [h2, ← z2]; exact World.cell?_alloc_new _ _ _ _
  have f0 : ∀ i : Nat, ((((w.alloc o0).alloc o1).alloc o2).drew).frozen? ⟨w.heap.size, i, none⟩ = false := fun i =>
    (World.frozen?_alloc_old _ _ _ (Nat.ne_of_lt (by rw [z2]; exact Nat.lt_succ_of_lt (Nat.lt_succ_self _)))).trans ((World.frozen?_alloc_old _ _ _ (Nat.ne_of_lt (by rw [z1]; exact Nat.lt_succ_self _))).trans (by rw [h0]; exact World.frozen?_alloc_new _ _ _ _))
  have f1 : ∀ i : Nat, ((((w.alloc o0).alloc o1).alloc o2).drew).frozen? ⟨w.heap.size + 1, i, none⟩ = false := fun i =>
    (World.frozen?_alloc_old _ _ _ (Nat.ne_of_lt (by rw [z2]; exact Nat.lt_succ_self _))).trans (by rw [h1, ← z1]; exact World.frozen?_alloc_new _ _ _ _)
  exact ⟨c0 0, c0 1, c0 2, c0 3, c0 4, c1 0, c1 1, c1 2, c1 3, c1 4, c2 0, c2 1, f0, f1⟩
theorem below3 {w w' : World} {o o1 o2 : Obj} (h : Below (((w.alloc o).alloc o1).alloc o2).drew.heap.size (((w.alloc o).alloc o1).alloc o2).drew w') : Below w.heap.size w w' :=
  ((((below_alloc w o).alloc (by simp) o1).alloc (by simp; omega) o2).drew).trans (h.mono (by show w.heap.size ≤ (((w.alloc o).alloc o1).alloc o2).heap.size; simp; omega))
theorem below_res {w w' : World} (h : Below w.heap.size w w') (x0 x1 x2 x3 x4 : Value) :
    Below w.heap.size w (((((w'.setCell ⟨w.heap.size, 0, none⟩ x0).setCell ⟨w.heap.size, 1, none⟩ x1).setCell ⟨w.heap.size, 2, none⟩ x2).setCell ⟨w.heap.size, 3, none⟩ x3).setCell ⟨w.heap.size, 4, none⟩ x4) :=
  ((((h.setCell (p := ⟨w.heap.size, 0, none⟩) (Nat.le_refl _) x0).setCell (p := ⟨w.heap.size, 1, none⟩) (Nat.le_refl _) x1).setCell (p := ⟨w.heap.size, 2, none⟩) (Nat.le_refl _) x2).setCell (p := ⟨w.heap.size, 3, none⟩) (Nat.le_refl _) x3).setCell (p := ⟨w.heap.size, 4, none⟩) (Nat.le_refl _) x4
theorem res_cells (v : World) (N : Nat) {y0 y1 y2 y3 y4 : Value} (h0 : v.cell? ⟨N, 0, none⟩ = some y0) (h1 : v.cell? ⟨N, 1, none⟩ = some y1) (h2 : v.cell? ⟨N, 2, none⟩ = some y2) (h3 : v.cell? ⟨N, 3, none⟩ = some y3) (h4 : v.cell? ⟨N, 4, none⟩ = some y4) (x0 x1 x2 x3 x4 : Value) :
    (v.setCell ⟨N, 0, none⟩ x0).cell? ⟨N, 0, none⟩ = some x0 ∧ ((v.setCell ⟨N, 0, none⟩ x0).setCell ⟨N, 1, none⟩ x1).cell? ⟨N, 1, none⟩ = some x1 ∧ (((v.setCell ⟨N, 0, none⟩ x0).setCell ⟨N, 1, none⟩ x1).setCell ⟨N, 2, none⟩ x2).cell? ⟨N, 2, none⟩ = some x2 ∧
    ((((v.setCell ⟨N, 0, none⟩ x0).setCell ⟨N, 1, none⟩ x1).setCell ⟨N, 2, none⟩ x2).setCell ⟨N, 3, none⟩ x3).cell? ⟨N, 3, none⟩ = some x3 ∧
    (((((v.setCell ⟨N, 0, none⟩ x0).setCell ⟨N, 1, none⟩ x1).setCell ⟨N, 2, none⟩ x2).setCell ⟨N, 3, none⟩ x3).setCell ⟨N, 4, none⟩ x4).cell? ⟨N, 4, none⟩ = some x4 := by
  have o : ∀ (u : World) (i j : Nat) (x : Value), i ≠ j → (u.setCell ⟨N, i, none⟩ x).cell? ⟨N, j, none⟩ = u.cell? ⟨N, j, none⟩ := fun u i j x h => World.cell?_setCell_other _ _ _ _ (by first | (simp; done) | (simp; omega) | simpa using h)
  refine ⟨World.cell?_setCell_same _ _ _ h0, World.cell?_setCell_same _ _ _ (u := y1) ?_, World.cell?_setCell_same _ _ _ (u := y2) ?_, World.cell?_setCell_same _ _ _ (u := y3) ?_, World.cell?_setCell_same _ _ _ (u := y4) ?_⟩
  · rw [o _ _ _ _ (by omega)]; exact h1
  · rw [o _ _ _ _ (by omega), o _ _ _ _ (by omega)]; exact h2
  · rw [o _ _ _ _ (by omega), o _ _ _ _ (by omega), o _ _ _ _ (by omega)]; exact h3
  · rw [o _ _ _ _ (by omega), o _ _ _ _ (by omega), o _ _ _ _ (by omega), o _ _ _ _ (by omega)]; exact h4
theorem decode_short (s : ByteArray) (hs : (s.size : Int) < 2) (w : World) :
    Calls Tryd.prog 19 #[.string s] w fun e w' => e = .returned (.tuple #[keyVal 0 0 noText noText noText, .int .i64 7]) ∧ Below w.heap.size w w' := by
  go_enter Tryd.func19, Tryd.ntmps19
  go_wp2
  go_returns
  exact ⟨rfl, below_alloc _ _⟩
/-- What Decode meets on its way. -/
structure DecWay (s : ByteArray) (A B : Int) (T T1 T2 : ByteArray) (n1 E1 : Nat) : Prop where
  sz : 2 ≤ (s.size : Int)
  i0 : ∀ u, (Instr.index 9 (.string s) (.int .i64 0)).run Tryd.prog u = .ok (.int .u8 A) u
  i1 : ∀ u, (Instr.index 9 (.string s) (.int .i64 1)).run Tryd.prog u = .ok (.int .u8 B) u
  wa : wrap64 A = A
  wb : wrap64 B = B
  cut : ∀ u, (Instr.slice 9 (.string s) (some (.int .i64 2)) none none).run Tryd.prog u = .ok (.string T) u
  text : ∀ v, Calls Tryd.prog 33 #[.string T] v fun e v' => e = .returned (.tuple #[.string T1, .int .i64 (n1 : Int), .int .i64 (E1 : Int)]) ∧ Below v.heap.size v v'
  rest : ∀ u, (Instr.slice 9 (.string T) (some (.int .i64 (n1 : Int))) none none).run Tryd.prog u = .ok (.string T2) u
set_option maxHeartbeats 4000000 in
theorem decode_bad1 (s : ByteArray) (A B : Int) (T T1 T2 : ByteArray) (n1 E1 : Nat) (h : DecWay s A B T T1 T2 n1 E1) (hE : ((E1 : Int) != 0) = true) (w : World) :
    Calls Tryd.prog 19 #[.string s] w fun e w' => e = .returned (.tuple #[keyVal 0 0 noText noText noText, .int .i64 7]) ∧ Below w.heap.size w w' := by
  obtain ⟨sz, i0, i1, wa, wb, f3, c1, _⟩ := h
  have C1 := Lib.hid c1
  clear c1
  go_enter Tryd.func19, Tryd.ntmps19
  go_wp2
  go_region
  go_wp2
  refine wp_loop_rounds 3 ?_
  rw [rounds_succ]
  go_wp2_with (go_at_call 33; ((with_reducible refine (C1.out _).mono ?_); rintro e w1 ⟨rfl, hb⟩; have D1 := (DecAt.born w (.int .i64 A) (.int .i64 B)).below hb; have hB1 := below3 hb; obtain ⟨r0, r1, r2, r3, r4, k0, k1, k2, k3, k4, p0, p1, fr, fk⟩ := id D1))
  obtain ⟨g0, g1, g2, g3, g4⟩ := res_cells w1 w.heap.size r0 r1 r2 r3 r4 (.int .i64 0) (.int .i64 0) (.string noText) (.string noText) (.string noText)
  refine bodyPost_ret (v := .tuple #[keyVal 0 0 noText noText noText, .int .i64 7]) (by simp [results, Tryd.results19, go_sem, g0, g1, g2, g3, g4]) rfl ⟨rfl, below_res hB1 _ _ _ _ _⟩
set_option maxHeartbeats 4000000 in
theorem decode_bad2 (s : ByteArray) (A B : Int) (T T1 T2 T3 : ByteArray) (n1 n2 E2 : Nat) (h : DecWay s A B T T1 T2 n1 0)
    (h2 : ∀ v, Calls Tryd.prog 33 #[.string T2] v fun e v' => e = .returned (.tuple #[.string T3, .int .i64 (n2 : Int), .int .i64 (E2 : Int)]) ∧ Below v.heap.size v v')
    (hE : ((E2 : Int) != 0) = true) (w : World) :
    Calls Tryd.prog 19 #[.string s] w fun e w' => e = .returned (.tuple #[keyVal 0 0 noText noText noText, .int .i64 7]) ∧ Below w.heap.size w w' := by
  obtain ⟨sz, i0, i1, wa, wb, f3, c1, f4⟩ := h
  have C1 := Lib.hid c1
  have C2 := Lib.hid h2
  clear c1 h2
  go_enter Tryd.func19, Tryd.ntmps19
  go_wp2
  go_region
  go_wp2
  refine wp_loop_rounds 3 ?_
  rw [rounds_succ]
  go_wp2_with (go_at_call 33; ((with_reducible refine (C1.out _).mono ?_); rintro e w1 ⟨rfl, hb⟩; have D1 := (DecAt.born w (.int .i64 A) (.int .i64 B)).below hb; have hB1 := below3 hb; obtain ⟨r0, r1, r2, r3, r4, k0, k1, k2, k3, k4, p0, p1, fr, fk⟩ := id D1))
  go_region
  go_wp2
  rw [rounds_succ]
  obtain ⟨r0, r1, r2, r3, r4, k0, k1, k2, k3, k4, p0, p1, fr, fk⟩ := id (D1.set2 (.string T1))
  go_wp2_with (first
    | (go_at_call 33; ((with_reducible refine (C2.out _).mono ?_); rintro e w2 ⟨rfl, hb⟩; have D2 := (D1.set2 (.string T1)).below hb; have hB2 := below_of (w := w) ((hB1.setCell (p := ⟨w.heap.size + 1, 2, none⟩) (Nat.le_succ _) (.string T1)).drew) hb; obtain ⟨r0, r1, r2, r3, r4, k0, k1, k2, k3, k4, p0, p1, fr, fk⟩ := id D2)))
  obtain ⟨g0, g1, g2, g3, g4⟩ := res_cells w2 w.heap.size r0 r1 r2 r3 r4 (.int .i64 0) (.int .i64 0) (.string noText) (.string noText) (.string noText)
  refine bodyPost_ret (v := .tuple #[keyVal 0 0 noText noText noText, .int .i64 7]) (by simp [results, Tryd.results19, go_sem, g0, g1, g2, g3, g4]) rfl ⟨rfl, below_res hB2 _ _ _ _ _⟩
set_option maxHeartbeats 8000000 in
theorem decode_bad3 (s : ByteArray) (A B : Int) (T T1 T2 T3 T4 : ByteArray) (n1 n2 E3 : Nat) (h : DecWay s A B T T1 T2 n1 0)
    (h2 : ∀ v, Calls Tryd.prog 33 #[.string T2] v fun e v' => e = .returned (.tuple #[.string T3, .int .i64 (n2 : Int), .int .i64 0]) ∧ Below v.heap.size v v')
    (h3 : ∀ u, (Instr.slice 9 (.string T2) (some (.int .i64 (n2 : Int))) none none).run Tryd.prog u = .ok (.string T4) u) (hz : T4.size ≤ 281474976710656)
    (h4 : ∀ v, Calls Tryd.prog 16 #[keyVal A B T1 T3 T4] v fun e v' => e = .returned (.int .i64 (E3 : Int)) ∧ Below v.heap.size v v') (hE : ((E3 : Int) != 0) = true) (w : World) :
    Calls Tryd.prog 19 #[.string s] w fun e w' => e = .returned (.tuple #[keyVal 0 0 noText noText noText, .int .i64 7]) ∧ Below w.heap.size w w' := by
  obtain ⟨sz, i0, i1, wa, wb, f3, c1, f4⟩ := h
  have C1 := Lib.hid c1
  have C2 := Lib.hid h2
  have C3 := Lib.hid fun v => clone_small T4 hz v
  have C4 := Lib.hid h4
  clear c1 h2 h4 hz
  go_enter Tryd.func19, Tryd.ntmps19
  go_wp2
  go_region
  go_wp2
  refine wp_loop_rounds 3 ?_
  rw [rounds_succ]
  go_wp2_with (go_at_call 33; ((with_reducible refine (C1.out _).mono ?_); rintro e w1 ⟨rfl, hb⟩; have D1 := (DecAt.born w (.int .i64 A) (.int .i64 B)).below hb; have hB1 := below3 hb; obtain ⟨r0, r1, r2, r3, r4, k0, k1, k2, k3, k4, p0, p1, fr, fk⟩ := id D1))
  go_region
  go_wp2
  rw [rounds_succ]
  obtain ⟨r0, r1, r2, r3, r4, k0, k1, k2, k3, k4, p0, p1, fr, fk⟩ := id (D1.set2 (.string T1))
  go_wp2_with (first
    | (go_at_call 33; ((with_reducible refine (C2.out _).mono ?_); rintro e w2 ⟨rfl, hb⟩; have D2 := (D1.set2 (.string T1)).below hb; have hB2 := below_of (w := w) ((hB1.setCell (p := ⟨w.heap.size + 1, 2, none⟩) (Nat.le_succ _) (.string T1)).drew) hb; obtain ⟨r0, r1, r2, r3, r4, k0, k1, k2, k3, k4, p0, p1, fr, fk⟩ := id D2)))
  go_region
  go_wp2
  rw [rounds_succ]
  obtain ⟨r0, r1, r2, r3, r4, k0, k1, k2, k3, k4, p0, p1, fr, fk⟩ := id (D2.set3 (.string T3))
  go_wp2_with (first
    | (go_at_call 34; ((with_reducible refine (C3.out _).mono ?_); rintro e w3 ⟨rfl, hb⟩; have D3 := (D2.set3 (.string T3)).below hb; have hB3 := below_of (w := w) ((hB2.setCell (p := ⟨w.heap.size + 1, 3, none⟩) (Nat.le_succ _) (.string T3)).drew) hb; obtain ⟨r0, r1, r2, r3, r4, k0, k1, k2, k3, k4, p0, p1, fr, fk⟩ := id D3))
    | (go_at_call 16; ((with_reducible refine (C4.out _).mono ?_); rintro e w4 ⟨rfl, hb⟩; have D4 := (D3.set4 (.string T4)).below hb; have hB4 := below_of (w := w) (hB3.setCell (p := ⟨w.heap.size + 1, 4, none⟩) (Nat.le_succ _) (.string T4)) hb; obtain ⟨r0, r1, r2, r3, r4, k0, k1, k2, k3, k4, p0, p1, fr, fk⟩ := id D4)))
  obtain ⟨g0, g1, g2, g3, g4⟩ := res_cells w4 w.heap.size r0 r1 r2 r3 r4 (.int .i64 0) (.int .i64 0) (.string noText) (.string noText) (.string noText)
  refine bodyPost_ret (v := .tuple #[keyVal 0 0 noText noText noText, .int .i64 7]) (by simp [results, Tryd.results19, go_sem, g0, g1, g2, g3, g4]) rfl ⟨rfl, below_res hB4 _ _ _ _ _⟩
set_option maxHeartbeats 8000000 in
theorem decode_ok (s : ByteArray) (A B : Int) (T T1 T2 T3 T4 : ByteArray) (n1 n2 : Nat) (h : DecWay s A B T T1 T2 n1 0)
    (h2 : ∀ v, Calls Tryd.prog 33 #[.string T2] v fun e v' => e = .returned (.tuple #[.string T3, .int .i64 (n2 : Int), .int .i64 0]) ∧ Below v.heap.size v v')
    (h3 : ∀ u, (Instr.slice 9 (.string T2) (some (.int .i64 (n2 : Int))) none none).run Tryd.prog u = .ok (.string T4) u) (hz : T4.size ≤ 281474976710656)
    (h4 : ∀ v, Calls Tryd.prog 16 #[keyVal A B T1 T3 T4] v fun e v' => e = .returned (.int .i64 0) ∧ Below v.heap.size v v') (w : World) :
    Calls Tryd.prog 19 #[.string s] w fun e w' => e = .returned (.tuple #[keyVal A B T1 T3 T4, .int .i64 0]) ∧ Below w.heap.size w w' := by
  obtain ⟨sz, i0, i1, wa, wb, f3, c1, f4⟩ := h
  have C1 := Lib.hid c1
  have C2 := Lib.hid h2
  have C3 := Lib.hid fun v => clone_small T4 hz v
  have C4 := Lib.hid h4
  clear c1 h2 h4 hz
  go_enter Tryd.func19, Tryd.ntmps19
  go_wp2
  go_region
  go_wp2
  refine wp_loop_rounds 3 ?_
  rw [rounds_succ]
  go_wp2_with (go_at_call 33; ((with_reducible refine (C1.out _).mono ?_); rintro e w1 ⟨rfl, hb⟩; have D1 := (DecAt.born w (.int .i64 A) (.int .i64 B)).below hb; have hB1 := below3 hb; obtain ⟨r0, r1, r2, r3, r4, k0, k1, k2, k3, k4, p0, p1, fr, fk⟩ := id D1))
  go_region
  go_wp2
  rw [rounds_succ]
  obtain ⟨r0, r1, r2, r3, r4, k0, k1, k2, k3, k4, p0, p1, fr, fk⟩ := id (D1.set2 (.string T1))
  go_wp2_with (first
    | (go_at_call 33; ((with_reducible refine (C2.out _).mono ?_); rintro e w2 ⟨rfl, hb⟩; have D2 := (D1.set2 (.string T1)).below hb; have hB2 := below_of (w := w) ((hB1.setCell (p := ⟨w.heap.size + 1, 2, none⟩) (Nat.le_succ _) (.string T1)).drew) hb; obtain ⟨r0, r1, r2, r3, r4, k0, k1, k2, k3, k4, p0, p1, fr, fk⟩ := id D2)))
  go_region
  go_wp2
  rw [rounds_succ]
  obtain ⟨r0, r1, r2, r3, r4, k0, k1, k2, k3, k4, p0, p1, fr, fk⟩ := id (D2.set3 (.string T3))
  go_wp2_with (first
    | (go_at_call 34; ((with_reducible refine (C3.out _).mono ?_); rintro e w3 ⟨rfl, hb⟩; have D3 := (D2.set3 (.string T3)).below hb; have hB3 := below_of (w := w) ((hB2.setCell (p := ⟨w.heap.size + 1, 3, none⟩) (Nat.le_succ _) (.string T3)).drew) hb; obtain ⟨r0, r1, r2, r3, r4, k0, k1, k2, k3, k4, p0, p1, fr, fk⟩ := id D3))
    | (go_at_call 16; ((with_reducible refine (C4.out _).mono ?_); rintro e w4 ⟨rfl, hb⟩; have D4 := (D3.set4 (.string T4)).below hb; have hB4 := below_of (w := w) (hB3.setCell (p := ⟨w.heap.size + 1, 4, none⟩) (Nat.le_succ _) (.string T4)) hb; obtain ⟨r0, r1, r2, r3, r4, k0, k1, k2, k3, k4, p0, p1, fr, fk⟩ := id D4)))
  obtain ⟨g0, g1, g2, g3, g4⟩ := res_cells w4 w.heap.size r0 r1 r2 r3 r4 (.int .i64 A) (.int .i64 B) (.string T1) (.string T3) (.string T4)
  refine bodyPost_ret (v := .tuple #[keyVal A B T1 T3 T4, .int .i64 0]) (by simp [results, Tryd.results19, go_sem, g0, g1, g2, g3, g4]) rfl ⟨rfl, below_res hB4 _ _ _ _ _⟩
theorem dec_cons (a b : UInt8) (t : List UInt8) : Keys.dec (a :: b :: t) =
    if (Code.untxt t).2.2 ≠ 0 then (Keys.none5, 7) else
    if (Code.untxt (t.drop (Code.untxt t).2.1)).2.2 ≠ 0 then (Keys.none5, 7) else
    if Keys.check ⟨a.toNat, b.toNat, (Code.untxt t).1, (Code.untxt (t.drop (Code.untxt t).2.1)).1, (t.drop (Code.untxt t).2.1).drop (Code.untxt (t.drop (Code.untxt t).2.1)).2.1⟩ ≠ 0 then (Keys.none5, 7) else
    (⟨a.toNat, b.toNat, (Code.untxt t).1, (Code.untxt (t.drop (Code.untxt t).2.1)).1, (t.drop (Code.untxt t).2.1).drop (Code.untxt (t.drop (Code.untxt t).2.1)).2.1⟩, 0) := rfl
theorem untxt_size (l : List UInt8) : (Code.untxt l).2.1 ≤ l.length := by
  rcases Code.untxt_err l with h | ⟨_, _, h⟩
  · exact (Code.txt_untxt l h).2.1
  · rw [h]; omega
theorem slice_list (l : List UInt8) (n : Nat) (h : n ≤ l.length) (u : World) :
    (Instr.slice 9 (.string ⟨l.toArray⟩) (some (.int .i64 (n : Int))) none none).run Tryd.prog u = .ok (.string ⟨(l.drop n).toArray⟩) u :=
  slice_from ⟨l.toArray⟩ n (by show n ≤ l.toArray.size; rw [List.size_toArray]; exact h) u
theorem byte_64 (c : UInt8) : wrap64 (c.toNat : Int) = (c.toNat : Int) := by have := UInt8.toNat_lt c; unfold wrap64; omega
theorem list_size (l : List UInt8) : (⟨l.toArray⟩ : ByteArray).size = l.length := by show l.toArray.size = _; simp
/-- Whatever the text, Decode answers what the plain mathematics reads of it. -/
theorem decode_any (s : ByteArray) (hs : s.size ≤ 4096) (w : World) :
    Calls Tryd.prog 19 #[.string s] w fun e w' => e = .returned (.tuple #[keyVal (Keys.dec s.data.toList).1.st (Keys.dec s.data.toList).1.gr ⟨(Keys.dec s.data.toList).1.key.toArray⟩ ⟨(Keys.dec s.data.toList).1.space.toArray⟩ ⟨(Keys.dec s.data.toList).1.sub.toArray⟩, .int .i64 ((Keys.dec s.data.toList).2 : Int)]) ∧ Below w.heap.size w w' := by
  have hl := size_len s
  by_cases h2 : s.size < 2
  · have e : Keys.dec s.data.toList = (Keys.none5, 7) := by
      rcases hq : s.data.toList with _ | ⟨a, _ | ⟨b, t⟩⟩
      · rfl
      · rfl
      · rw [hq] at hl; simp at hl; omega
    rw [e]
    exact decode_short s (by omega) w
  obtain ⟨a, b, t, hq⟩ : ∃ a b t, s.data.toList = a :: b :: t := by
    rcases hq : s.data.toList with _ | ⟨a, _ | ⟨b, t⟩⟩
    · rw [hq] at hl; simp at hl; omega
    · rw [hq] at hl; simp at hl; omega
    · exact ⟨a, b, t, rfl⟩
  have ht : t.length ≤ 4094 := by rw [hq] at hl; simp at hl; omega
  have hn1 := untxt_size t
  have hw : DecWay s (a.toNat : Int) (b.toNat : Int) ⟨t.toArray⟩ ⟨(Code.untxt t).1.toArray⟩ ⟨(t.drop (Code.untxt t).2.1).toArray⟩ (Code.untxt t).2.1 (Code.untxt t).2.2 :=
    ⟨by omega, index_at s 0 a (by rw [hq]; rfl), index_at s 1 b (by rw [hq]; rfl), byte_64 a, byte_64 b,
      fun u => by have := slice_from s 2 (by omega) u; rw [hq] at this; exact this,
      fun v => text_any ⟨t.toArray⟩ (by rw [list_size]; unfold reachBytes; omega) v, slice_list t _ hn1⟩
  rw [hq, dec_cons]
  by_cases e1 : (Code.untxt t).2.2 = 0
  · rw [if_neg (by simpa using e1)]
    rw [e1] at hw
    obtain ⟨t2, h2'⟩ : ∃ t2, t2 = t.drop (Code.untxt t).2.1 := ⟨_, rfl⟩
    rw [← h2'] at hw ⊢
    have ht2 : t2.length ≤ 4094 := by rw [h2', List.length_drop]; omega
    have hn2 := untxt_size t2
    have ht4 : (⟨(t2.drop (Code.untxt t2).2.1).toArray⟩ : ByteArray).size ≤ 281474976710656 := by rw [list_size, List.length_drop]; omega
    have c2 := fun v => text_any ⟨t2.toArray⟩ (by rw [list_size]; unfold reachBytes; omega) v
    by_cases e2 : (Code.untxt t2).2.2 = 0
    · rw [if_neg (by simpa using e2)]
      have c2' : ∀ v, Calls Tryd.prog 33 #[.string ⟨t2.toArray⟩] v fun e v' => e = .returned (.tuple #[.string ⟨(Code.untxt t2).1.toArray⟩, .int .i64 ((Code.untxt t2).2.1 : Int), .int .i64 0]) ∧ Below v.heap.size v v' := fun v => by
        have := c2 v
        have h0 : (Code.untxt (⟨t2.toArray⟩ : ByteArray).data.toList).2.2 = 0 := e2
        rw [h0] at this; exact this
      have c4 := fun v => check_any (a.toNat : Int) (b.toNat : Int) ⟨(Code.untxt t).1.toArray⟩ ⟨(Code.untxt t2).1.toArray⟩ ⟨(t2.drop (Code.untxt t2).2.1).toArray⟩ v
      by_cases e3 : Keys.check ⟨(a.toNat : Int), (b.toNat : Int), (Code.untxt t).1, (Code.untxt t2).1, t2.drop (Code.untxt t2).2.1⟩ = 0
      · rw [if_neg (by simpa using e3)]
        exact decode_ok s _ _ _ _ _ _ _ _ _ hw c2' (slice_list t2 _ hn2) ht4 (fun v => by
          have := c4 v
          have h0 : Keys.check (skOf (a.toNat : Int) (b.toNat : Int) ⟨(Code.untxt t).1.toArray⟩ ⟨(Code.untxt t2).1.toArray⟩ ⟨(t2.drop (Code.untxt t2).2.1).toArray⟩) = 0 := e3
          rw [h0] at this; exact this) w
      · rw [if_pos e3]
        exact decode_bad3 s _ _ _ _ _ _ _ _ _ _ hw c2' (slice_list t2 _ hn2) ht4 c4 (bne_iff_ne.2 (fun h => e3 (by exact_mod_cast h))) w
    · rw [if_pos e2]
      exact decode_bad2 s _ _ _ _ _ _ _ _ _ hw c2 (bne_iff_ne.2 (fun h => e2 (by exact_mod_cast h))) w
  · rw [if_pos e1]
    exact decode_bad1 s _ _ _ _ _ _ _ hw (bne_iff_ne.2 (fun h => e1 (by exact_mod_cast h))) w
end Go.Proofs.YtpobfheioondaaaDoor
