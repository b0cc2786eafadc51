/-
  The contract of the document's own Range: it answers the plain mathematics' range of the first fields. No condition.
-/
import Derived.Test.YtpobfheioondaaaDoorKeysEncodeRef
import Derived.Test.YtpobfheioondaaaDoorKeysDecode
namespace Go.Proofs.YtpobfheioondaaaDoor
open Go.RowKit
theorem refrange_lo (st gr : Int) (k p u : ByteArray) (n : Int) (h : n < 1) (w : World) :
    Calls Tryd.prog 24 #[keyVal st gr k p u, .int .i64 n] w fun e w' => e = .returned (.tuple #[.string noText, .string noText, .int .i64 2]) ∧ Below w.heap.size w w' := by
  go_enter Tryd.func24, Tryd.ntmps24
  go_wp2
  go_returns
  exact ⟨rfl, below_alloc _ _⟩
theorem refrange_hi (st gr : Int) (k p u : ByteArray) (n : Int) (h : 4 < n) (w : World) :
    Calls Tryd.prog 24 #[keyVal st gr k p u, .int .i64 n] w fun e w' => e = .returned (.tuple #[.string noText, .string noText, .int .i64 2]) ∧ Below w.heap.size w w' := by
  have h1 : 1 ≤ n := by omega
  go_enter Tryd.func24, Tryd.ntmps24
  go_wp2
  go_returns
  exact ⟨rfl, below_alloc _ _⟩
theorem refrange_1_0 (st gr : Int) (k p u : ByteArray)  (h0 : st < 0) (w : World) :
    Calls Tryd.prog 24 #[keyVal st gr k p u, .int .i64 1] w fun e w' => e = .returned (.tuple #[.string noText, .string noText, .int .i64 2]) ∧ Below w.heap.size w w' := by
  go_enter Tryd.func24, Tryd.ntmps24
  go_wp2
  go_returns
  exact ⟨rfl, below_alloc _ _⟩
theorem refrange_1_1 (st gr : Int) (k p u : ByteArray) (h0 : 0 ≤ st) (h1 : 63 < st) (w : World) :
    Calls Tryd.prog 24 #[keyVal st gr k p u, .int .i64 1] w fun e w' => e = .returned (.tuple #[.string noText, .string noText, .int .i64 2]) ∧ Below w.heap.size w w' := by
  go_enter Tryd.func24, Tryd.ntmps24
  go_wp2
  go_returns
  exact ⟨rfl, below_alloc _ _⟩
theorem refrange_2_0 (st gr : Int) (k p u : ByteArray)  (h0 : st < 0) (w : World) :
    Calls Tryd.prog 24 #[keyVal st gr k p u, .int .i64 2] w fun e w' => e = .returned (.tuple #[.string noText, .string noText, .int .i64 2]) ∧ Below w.heap.size w w' := by
  go_enter Tryd.func24, Tryd.ntmps24
  go_wp2
  go_returns
  exact ⟨rfl, below_alloc _ _⟩
theorem refrange_2_1 (st gr : Int) (k p u : ByteArray) (h0 : 0 ≤ st) (h1 : 63 < st) (w : World) :
    Calls Tryd.prog 24 #[keyVal st gr k p u, .int .i64 2] w fun e w' => e = .returned (.tuple #[.string noText, .string noText, .int .i64 2]) ∧ Below w.heap.size w w' := by
  go_enter Tryd.func24, Tryd.ntmps24
  go_wp2
  go_returns
  exact ⟨rfl, below_alloc _ _⟩
theorem refrange_2_2 (st gr : Int) (k p u : ByteArray) (h0 : 0 ≤ st) (h1 : st ≤ 63) (h2 : gr < 0) (w : World) :
    Calls Tryd.prog 24 #[keyVal st gr k p u, .int .i64 2] w fun e w' => e = .returned (.tuple #[.string noText, .string noText, .int .i64 2]) ∧ Below w.heap.size w w' := by
  go_enter Tryd.func24, Tryd.ntmps24
  go_wp2
  go_returns
  exact ⟨rfl, below_alloc _ _⟩
theorem refrange_2_3 (st gr : Int) (k p u : ByteArray) (h0 : 0 ≤ st) (h1 : st ≤ 63) (h2 : 0 ≤ gr) (h3 : 63 < gr) (w : World) :
    Calls Tryd.prog 24 #[keyVal st gr k p u, .int .i64 2] w fun e w' => e = .returned (.tuple #[.string noText, .string noText, .int .i64 2]) ∧ Below w.heap.size w w' := by
  go_enter Tryd.func24, Tryd.ntmps24
  go_wp2
  go_returns
  exact ⟨rfl, below_alloc _ _⟩
theorem refrange_3_0 (st gr : Int) (k p u : ByteArray)  (h0 : st < 0) (w : World) :
    Calls Tryd.prog 24 #[keyVal st gr k p u, .int .i64 3] w fun e w' => e = .returned (.tuple #[.string noText, .string noText, .int .i64 2]) ∧ Below w.heap.size w w' := by
  go_enter Tryd.func24, Tryd.ntmps24
  go_wp2
  go_returns
  exact ⟨rfl, below_alloc _ _⟩
theorem refrange_3_1 (st gr : Int) (k p u : ByteArray) (h0 : 0 ≤ st) (h1 : 63 < st) (w : World) :
    Calls Tryd.prog 24 #[keyVal st gr k p u, .int .i64 3] w fun e w' => e = .returned (.tuple #[.string noText, .string noText, .int .i64 2]) ∧ Below w.heap.size w w' := by
  go_enter Tryd.func24, Tryd.ntmps24
  go_wp2
  go_returns
  exact ⟨rfl, below_alloc _ _⟩
theorem refrange_3_2 (st gr : Int) (k p u : ByteArray) (h0 : 0 ≤ st) (h1 : st ≤ 63) (h2 : gr < 0) (w : World) :
    Calls Tryd.prog 24 #[keyVal st gr k p u, .int .i64 3] w fun e w' => e = .returned (.tuple #[.string noText, .string noText, .int .i64 2]) ∧ Below w.heap.size w w' := by
  go_enter Tryd.func24, Tryd.ntmps24
  go_wp2
  go_returns
  exact ⟨rfl, below_alloc _ _⟩
theorem refrange_3_3 (st gr : Int) (k p u : ByteArray) (h0 : 0 ≤ st) (h1 : st ≤ 63) (h2 : 0 ≤ gr) (h3 : 63 < gr) (w : World) :
    Calls Tryd.prog 24 #[keyVal st gr k p u, .int .i64 3] w fun e w' => e = .returned (.tuple #[.string noText, .string noText, .int .i64 2]) ∧ Below w.heap.size w w' := by
  go_enter Tryd.func24, Tryd.ntmps24
  go_wp2
  go_returns
  exact ⟨rfl, below_alloc _ _⟩
theorem refrange_3_4 (st gr : Int) (k p u : ByteArray) (h0 : 0 ≤ st) (h1 : st ≤ 63) (h2 : 0 ≤ gr) (h3 : gr ≤ 63) (h4 : 64 < (k.size : Int)) (w : World) :
    Calls Tryd.prog 24 #[keyVal st gr k p u, .int .i64 3] w fun e w' => e = .returned (.tuple #[.string noText, .string noText, .int .i64 3]) ∧ Below w.heap.size w w' := by
  go_enter Tryd.func24, Tryd.ntmps24
  go_wp2
  go_returns
  exact ⟨rfl, below_alloc _ _⟩
theorem refrange_4_0 (st gr : Int) (k p u : ByteArray)  (h0 : st < 0) (w : World) :
    Calls Tryd.prog 24 #[keyVal st gr k p u, .int .i64 4] w fun e w' => e = .returned (.tuple #[.string noText, .string noText, .int .i64 2]) ∧ Below w.heap.size w w' := by
  go_enter Tryd.func24, Tryd.ntmps24
  go_wp2
  go_returns
  exact ⟨rfl, below_alloc _ _⟩
theorem refrange_4_1 (st gr : Int) (k p u : ByteArray) (h0 : 0 ≤ st) (h1 : 63 < st) (w : World) :
    Calls Tryd.prog 24 #[keyVal st gr k p u, .int .i64 4] w fun e w' => e = .returned (.tuple #[.string noText, .string noText, .int .i64 2]) ∧ Below w.heap.size w w' := by
  go_enter Tryd.func24, Tryd.ntmps24
  go_wp2
  go_returns
  exact ⟨rfl, below_alloc _ _⟩
theorem refrange_4_2 (st gr : Int) (k p u : ByteArray) (h0 : 0 ≤ st) (h1 : st ≤ 63) (h2 : gr < 0) (w : World) :
    Calls Tryd.prog 24 #[keyVal st gr k p u, .int .i64 4] w fun e w' => e = .returned (.tuple #[.string noText, .string noText, .int .i64 2]) ∧ Below w.heap.size w w' := by
  go_enter Tryd.func24, Tryd.ntmps24
  go_wp2
  go_returns
  exact ⟨rfl, below_alloc _ _⟩
theorem refrange_4_3 (st gr : Int) (k p u : ByteArray) (h0 : 0 ≤ st) (h1 : st ≤ 63) (h2 : 0 ≤ gr) (h3 : 63 < gr) (w : World) :
    Calls Tryd.prog 24 #[keyVal st gr k p u, .int .i64 4] w fun e w' => e = .returned (.tuple #[.string noText, .string noText, .int .i64 2]) ∧ Below w.heap.size w w' := by
  go_enter Tryd.func24, Tryd.ntmps24
  go_wp2
  go_returns
  exact ⟨rfl, below_alloc _ _⟩
theorem refrange_4_4 (st gr : Int) (k p u : ByteArray) (h0 : 0 ≤ st) (h1 : st ≤ 63) (h2 : 0 ≤ gr) (h3 : gr ≤ 63) (h4 : 64 < (k.size : Int)) (w : World) :
    Calls Tryd.prog 24 #[keyVal st gr k p u, .int .i64 4] w fun e w' => e = .returned (.tuple #[.string noText, .string noText, .int .i64 3]) ∧ Below w.heap.size w w' := by
  go_enter Tryd.func24, Tryd.ntmps24
  go_wp2
  go_returns
  exact ⟨rfl, below_alloc _ _⟩
theorem refrange_4_5 (st gr : Int) (k p u : ByteArray) (h0 : 0 ≤ st) (h1 : st ≤ 63) (h2 : 0 ≤ gr) (h3 : gr ≤ 63) (h4 : (k.size : Int) ≤ 64) (h5 : 64 < (p.size : Int)) (w : World) :
    Calls Tryd.prog 24 #[keyVal st gr k p u, .int .i64 4] w fun e w' => e = .returned (.tuple #[.string noText, .string noText, .int .i64 3]) ∧ Below w.heap.size w w' := by
  go_enter Tryd.func24, Tryd.ntmps24
  go_wp2
  go_returns
  exact ⟨rfl, below_alloc _ _⟩
theorem below_made3 (w : World) (a b c : Obj) : Below w.heap.size w (((w.alloc a).alloc b).alloc c).drew := (((below_alloc w a).alloc (by simp) b).alloc (by simp; omega) c).drew
theorem below_made4 (w : World) (a b c d : Obj) : Below w.heap.size w ((((w.alloc a).alloc b).alloc c).alloc d).drew := ((((below_alloc w a).alloc (by simp) b).alloc (by simp; omega) c).alloc (by simp; omega) d).drew
/-- What the range's end is made of: the last byte, and what stands ahead of it. -/
structure UpWay (F H D : ByteArray) (n x : Int) : Prop where
  n0 : 0 ≤ n
  n1 : n ≤ 4096
  len : (F.size : Int) - 1 = n
  sz : (F.size : Int) ≤ 4096
  x0 : 0 ≤ x
  x1 : x < 255
  ix : ∀ u, (Instr.index 9 (.string F) (.int .i64 n)).run Tryd.prog u = .ok (.int .u8 x) u
  sl : ∀ u, (Instr.slice 9 (.string F) none (some (.int .i64 n)) none).run Tryd.prog u = .ok (.string H) u
  cv : ∀ (u : World) (g : Nat), u.cell? ⟨g, 0, none⟩ = some (.int .u8 (x + 1)) → (convert 45 9 (.slice (some ⟨g, 0, none⟩) 1 1)).run Tryd.prog u = .ok (.string D) u
  hh : (H.size : Int) ≤ 4096
  hd : (D.size : Int) = 1
set_option maxHeartbeats 8000000 in
theorem refrange_ok1 (st gr : Int) (k p u : ByteArray) (A H D : ByteArray) (n x : Int) (h0 : 0 ≤ st) (h1 : st ≤ 63)
    (ca : ∀ (u : World) (g : Nat), u.cell? ⟨g, 0, none⟩ = some (.int .u8 st) → (convert 45 9 (.slice (some ⟨g, 0, none⟩) 1 1)).run Tryd.prog u = .ok (.string A) u)
    (h : UpWay A H D n x) (w : World) :
    Calls Tryd.prog 24 #[keyVal st gr k p u, .int .i64 1] w fun e w' => e = .returned (.tuple #[.string A, .string (H ++ D), .int .i64 0]) ∧ Below w.heap.size w w' := by
  obtain ⟨n0, n1, len, sz, x0, x1, ix, sl, cv, hh, hd⟩ := h
  have hne : (x == 255) = false := beq_eq_false_iff_ne.2 (by omega)
  have wx : IntKind.u8.wrap (x + 1) = x + 1 := by rw [IntKind.wrap_u8]; omega
  go_enter Tryd.func24, Tryd.ntmps24
  go_wp2
  refine wp_loop_rounds 1 ?_
  rw [rounds_succ]
  go_wp2
  go_region
  all_goals go_wp2
  all_goals go_returns
  all_goals exact ⟨rfl, below_made3 _ _ _ _⟩
set_option maxHeartbeats 8000000 in
theorem refrange_ok2 (st gr : Int) (k p u : ByteArray) (A H D B F2 : ByteArray) (n x : Int) (h0 : 0 ≤ st) (h1 : st ≤ 63) (h2 : 0 ≤ gr) (h3 : gr ≤ 63)
    (ca : ∀ (u : World) (g : Nat), u.cell? ⟨g, 0, none⟩ = some (.int .u8 st) → (convert 45 9 (.slice (some ⟨g, 0, none⟩) 1 1)).run Tryd.prog u = .ok (.string A) u) (hA : (A.size : Int) = 1)
    (cb : ∀ (u : World) (g : Nat), u.cell? ⟨g, 0, none⟩ = some (.int .u8 gr) → (convert 45 9 (.slice (some ⟨g, 0, none⟩) 1 1)).run Tryd.prog u = .ok (.string B) u) (hB : (B.size : Int) = 1) (e2 : A ++ B = F2)
    (h : UpWay F2 H D n x) (w : World) :
    Calls Tryd.prog 24 #[keyVal st gr k p u, .int .i64 2] w fun e w' => e = .returned (.tuple #[.string F2, .string (H ++ D), .int .i64 0]) ∧ Below w.heap.size w w' := by
  obtain ⟨n0, n1, len, sz, x0, x1, ix, sl, cv, hh, hd⟩ := h
  have hne : (x == 255) = false := beq_eq_false_iff_ne.2 (by omega)
  have wx : IntKind.u8.wrap (x + 1) = x + 1 := by rw [IntKind.wrap_u8]; omega
  go_enter Tryd.func24, Tryd.ntmps24
  go_wp2
  refine wp_loop_rounds 1 ?_
  rw [rounds_succ]
  go_wp2
  go_region
  all_goals go_wp2
  all_goals go_returns
  all_goals exact ⟨rfl, below_made4 _ _ _ _ _⟩
set_option maxHeartbeats 8000000 in
theorem refrange_ok3 (st gr : Int) (k p u : ByteArray) (A H D B F2 K F3 : ByteArray) (n x : Int) (h0 : 0 ≤ st) (h1 : st ≤ 63) (h2 : 0 ≤ gr) (h3 : gr ≤ 63) (h4 : (k.size : Int) ≤ 64)
    (ca : ∀ (u : World) (g : Nat), u.cell? ⟨g, 0, none⟩ = some (.int .u8 st) → (convert 45 9 (.slice (some ⟨g, 0, none⟩) 1 1)).run Tryd.prog u = .ok (.string A) u) (hA : (A.size : Int) = 1)
    (cb : ∀ (u : World) (g : Nat), u.cell? ⟨g, 0, none⟩ = some (.int .u8 gr) → (convert 45 9 (.slice (some ⟨g, 0, none⟩) 1 1)).run Tryd.prog u = .ok (.string B) u) (hB : (B.size : Int) = 1) (e2 : A ++ B = F2)
    (c2 : ∀ v, Calls Tryd.prog 29 #[.string k] v fun e v' => e = .returned (.string K) ∧ v' = v) (hF2 : (F2.size : Int) = 2) (hK : (K.size : Int) ≤ 130) (e3 : F2 ++ K = F3)
    (h : UpWay F3 H D n x) (w : World) :
    Calls Tryd.prog 24 #[keyVal st gr k p u, .int .i64 3] w fun e w' => e = .returned (.tuple #[.string F3, .string (H ++ D), .int .i64 0]) ∧ Below w.heap.size w w' := by
  obtain ⟨n0, n1, len, sz, x0, x1, ix, sl, cv, hh, hd⟩ := h
  have hne : (x == 255) = false := beq_eq_false_iff_ne.2 (by omega)
  have wx : IntKind.u8.wrap (x + 1) = x + 1 := by rw [IntKind.wrap_u8]; omega
  have C2 := Lib.hid c2
  clear c2
  go_enter Tryd.func24, Tryd.ntmps24
  go_wp2_with (first
    | (go_at_call 29; ((with_reducible refine (C2.out _).mono ?_); rintro e w' ⟨rfl, rfl⟩)))
  refine wp_loop_rounds 1 ?_
  rw [rounds_succ]
  go_wp2
  go_region
  all_goals go_wp2
  all_goals go_returns
  all_goals exact ⟨rfl, below_made4 _ _ _ _ _⟩
set_option maxHeartbeats 8000000 in
theorem refrange_ok4 (st gr : Int) (k p u : ByteArray) (A H D B F2 K F3 P F4 : ByteArray) (n x : Int) (h0 : 0 ≤ st) (h1 : st ≤ 63) (h2 : 0 ≤ gr) (h3 : gr ≤ 63) (h4 : (k.size : Int) ≤ 64) (h5 : (p.size : Int) ≤ 64)
    (ca : ∀ (u : World) (g : Nat), u.cell? ⟨g, 0, none⟩ = some (.int .u8 st) → (convert 45 9 (.slice (some ⟨g, 0, none⟩) 1 1)).run Tryd.prog u = .ok (.string A) u) (hA : (A.size : Int) = 1)
    (cb : ∀ (u : World) (g : Nat), u.cell? ⟨g, 0, none⟩ = some (.int .u8 gr) → (convert 45 9 (.slice (some ⟨g, 0, none⟩) 1 1)).run Tryd.prog u = .ok (.string B) u) (hB : (B.size : Int) = 1) (e2 : A ++ B = F2)
    (c2 : ∀ v, Calls Tryd.prog 29 #[.string k] v fun e v' => e = .returned (.string K) ∧ v' = v) (hF2 : (F2.size : Int) = 2) (hK : (K.size : Int) ≤ 130) (e3 : F2 ++ K = F3)
    (c3 : ∀ v, Calls Tryd.prog 29 #[.string p] v fun e v' => e = .returned (.string P) ∧ v' = v) (hF3 : (F3.size : Int) ≤ 132) (hP : (P.size : Int) ≤ 130) (e4 : F3 ++ P = F4)
    (h : UpWay F4 H D n x) (w : World) :
    Calls Tryd.prog 24 #[keyVal st gr k p u, .int .i64 4] w fun e w' => e = .returned (.tuple #[.string F4, .string (H ++ D), .int .i64 0]) ∧ Below w.heap.size w w' := by
  obtain ⟨n0, n1, len, sz, x0, x1, ix, sl, cv, hh, hd⟩ := h
  have hne : (x == 255) = false := beq_eq_false_iff_ne.2 (by omega)
  have wx : IntKind.u8.wrap (x + 1) = x + 1 := by rw [IntKind.wrap_u8]; omega
  have C2 := Lib.hid c2
  have C3 := Lib.hid c3
  clear c2 c3
  go_enter Tryd.func24, Tryd.ntmps24
  go_wp2_with (first
    | (go_at_call 29; ((with_reducible refine (C2.out _).mono ?_); rintro e w' ⟨rfl, rfl⟩))
    | (go_at_call 29; ((with_reducible refine (C3.out _).mono ?_); rintro e w' ⟨rfl, rfl⟩)))
  refine wp_loop_rounds 1 ?_
  rw [rounds_succ]
  go_wp2
  go_region
  all_goals go_wp2
  all_goals go_returns
  all_goals exact ⟨rfl, below_made4 _ _ _ _ _⟩
theorem upWay (l : List UInt8) (hl : l.length ≤ 262) (a : List UInt8) (c : UInt8) (e1 : l = a ++ [c]) (e2 : c.toNat < 255) : UpWay ⟨l.toArray⟩ ⟨a.toArray⟩ ⟨#[c + 1]⟩ (a.length : Int) (c.toNat : Int) := by
  have hz : (⟨l.toArray⟩ : ByteArray).size = a.length + 1 := by rw [list_size, e1]; simp
  have hz2 : a.length + 1 ≤ 262 := by rw [e1] at hl; simpa using hl
  have hc1 := Keys.add_one e2
  refine ⟨by omega, by omega, by omega, by omega, by omega, by omega, index_last _ a c e1, slice_head _ a c e1, text_at _ _ (by omega), by rw [list_size]; omega, rfl⟩
theorem cat_list (a b : List UInt8) : (⟨a.toArray⟩ : ByteArray) ++ ⟨b.toArray⟩ = ⟨(a ++ b).toArray⟩ := by
  apply ByteArray.ext; rw [ByteArray.data_append]; apply Array.toList_inj.1; simp
theorem refrange_any (st gr : Int) (k p u : ByteArray) (n : Int) (w : World) :
    Calls Tryd.prog 24 #[keyVal st gr k p u, .int .i64 n] w fun e w' => e = .returned (.tuple #[.string ⟨(Keys.rng (skOf st gr k p u) n).1.toArray⟩, .string ⟨(Keys.rng (skOf st gr k p u) n).2.1.toArray⟩, .int .i64 ((Keys.rng (skOf st gr k p u) n).2.2 : Int)]) ∧ Below w.heap.size w w' := by
  by_cases hlo : n < 1
  · have e : Keys.rng (skOf st gr k p u) n = ([], [], 2) := by unfold Keys.rng; rw [if_pos (by omega)]
    rw [e]; exact refrange_lo st gr k p u n hlo w
  by_cases hhi : 4 < n
  · have e : Keys.rng (skOf st gr k p u) n = ([], [], 2) := by unfold Keys.rng; rw [if_pos (by omega)]
    rw [e]; exact refrange_hi st gr k p u n hhi w
  have hn : 1 ≤ n ∧ n ≤ 4 := by omega
  have hr : ∀ E : Nat, E ≠ 0 → Keys.check (Keys.cut (skOf st gr k p u) n) = E → Keys.rng (skOf st gr k p u) n = ([], [], E) := fun E h0 h => by
    unfold Keys.rng; rw [if_neg (by omega), if_pos (by omega), h]
  have hck : ∀ (g : Int) (x y : List UInt8), Keys.check ⟨st, g, x, y, []⟩ = if ¬ (0 ≤ st ∧ st < 64) ∨ ¬ (0 ≤ g ∧ g < 64) then 2 else if 64 < x.length ∨ 64 < y.length then 3 else 0 := fun g x y => by
    unfold Keys.check
    have : ∀ a b : Prop, (a ∨ b ∨ 64 < ([] : List UInt8).length) = (a ∨ b) := fun a b => by simp
    simp only [this]
  have hk := size_len k
  have hp := size_len p
  by_cases h0 : st < 0
  · rw [hr 2 (by omega) (by show Keys.check ⟨st, _, _, _, []⟩ = 2; rw [hck, if_pos (by omega)])]
    rcases (show n = 1 ∨ n = 2 ∨ n = 3 ∨ n = 4 by omega) with rfl | rfl | rfl | rfl
    · exact refrange_1_0 st gr k p u h0 w
    · exact refrange_2_0 st gr k p u h0 w
    · exact refrange_3_0 st gr k p u h0 w
    · exact refrange_4_0 st gr k p u h0 w
  replace h0 : 0 ≤ st := by omega
  by_cases h1 : 63 < st
  · rw [hr 2 (by omega) (by show Keys.check ⟨st, _, _, _, []⟩ = 2; rw [hck, if_pos (by omega)])]
    rcases (show n = 1 ∨ n = 2 ∨ n = 3 ∨ n = 4 by omega) with rfl | rfl | rfl | rfl
    · exact refrange_1_1 st gr k p u h0 h1 w
    · exact refrange_2_1 st gr k p u h0 h1 w
    · exact refrange_3_1 st gr k p u h0 h1 w
    · exact refrange_4_1 st gr k p u h0 h1 w
  replace h1 : st ≤ 63 := by omega
  have fin : Keys.check (Keys.cut (skOf st gr k p u) n) = 0 → ∃ a c, Keys.first (skOf st gr k p u) n = a ++ [c] ∧ Keys.rng (skOf st gr k p u) n = (Keys.first (skOf st gr k p u) n, a ++ [c + 1], 0) ∧ UpWay ⟨(Keys.first (skOf st gr k p u) n).toArray⟩ ⟨a.toArray⟩ ⟨#[c + 1]⟩ (a.length : Int) (c.toNat : Int) := fun hc => by
    have hv := Keys.valid_check hc
    have hl := Keys.first_len hv.key hv.space n
    rw [Keys.first_of_cut] at hl
    obtain ⟨a, c, e1, e2, e3⟩ := Keys.low_split _ (Keys.fit_of hn hc).low
    refine ⟨a, c, e1, ?_, upWay _ hl a c e1 e2⟩
    unfold Keys.rng
    rw [if_neg (by omega), if_neg (by simpa using hc), e3]
  have hst : 0 ≤ st ∧ st < 64 := ⟨h0, by omega⟩
  have bst := (Keys.byteOf_nat hst).symm
  rcases (show n = 1 ∨ 2 ≤ n by omega) with rfl | hn2
  · obtain ⟨a, c, e1, e2, e3⟩ := fin (by show Keys.check ⟨st, 0, [], [], []⟩ = 0; rw [hck, if_neg (by omega), if_neg (by simp)])
    rw [e2]
    have hA : (⟨(Keys.first (skOf st gr k p u) 1).toArray⟩ : ByteArray) = ⟨#[Keys.byteOf st]⟩ := by rw [Keys.first1]
    rw [hA] at e3
    have := refrange_ok1 st gr k p u _ _ _ _ _ h0 h1 (text_at st _ bst) e3 w
    rw [show (⟨a.toArray⟩ : ByteArray) ++ ⟨#[c + 1]⟩ = ⟨(a ++ [c + 1]).toArray⟩ from cat_list a [c + 1]] at this
    rw [hA]; exact this
  have hgc : (if (2 : Int) ≤ n then gr else 0) = gr := if_pos hn2
  by_cases h2 : gr < 0
  · rw [hr 2 (by omega) (by show Keys.check ⟨st, if 2 ≤ n then gr else 0, _, _, []⟩ = 2; rw [hgc, hck, if_pos (by omega)])]
    rcases (show n = 2 ∨ n = 3 ∨ n = 4 by omega) with rfl | rfl | rfl
    · exact refrange_2_2 st gr k p u h0 h1 h2 w
    · exact refrange_3_2 st gr k p u h0 h1 h2 w
    · exact refrange_4_2 st gr k p u h0 h1 h2 w
  replace h2 : 0 ≤ gr := by omega
  by_cases h3 : 63 < gr
  · rw [hr 2 (by omega) (by show Keys.check ⟨st, if 2 ≤ n then gr else 0, _, _, []⟩ = 2; rw [hgc, hck, if_pos (by omega)])]
    rcases (show n = 2 ∨ n = 3 ∨ n = 4 by omega) with rfl | rfl | rfl
    · exact refrange_2_3 st gr k p u h0 h1 h2 h3 w
    · exact refrange_3_3 st gr k p u h0 h1 h2 h3 w
    · exact refrange_4_3 st gr k p u h0 h1 h2 h3 w
  replace h3 : gr ≤ 63 := by omega
  have hgr : 0 ≤ gr ∧ gr < 64 := ⟨h2, by omega⟩
  have bgr := (Keys.byteOf_nat hgr).symm
  have hAB : (⟨#[Keys.byteOf st]⟩ : ByteArray) ++ ⟨#[Keys.byteOf gr]⟩ = ⟨#[Keys.byteOf st, Keys.byteOf gr]⟩ := cat_list [Keys.byteOf st] [Keys.byteOf gr]
  rcases (show n = 2 ∨ 3 ≤ n by omega) with rfl | hn3
  · obtain ⟨a, c, e1, e2, e3⟩ := fin (by show Keys.check ⟨st, gr, [], [], []⟩ = 0; rw [hck, if_neg (by omega), if_neg (by simp)])
    rw [e2]
    have hA : (⟨(Keys.first (skOf st gr k p u) 2).toArray⟩ : ByteArray) = ⟨#[Keys.byteOf st, Keys.byteOf gr]⟩ := by rw [Keys.first2]
    rw [hA] at e3
    have := refrange_ok2 st gr k p u _ _ _ _ _ _ _ h0 h1 h2 h3 (text_at st _ bst) rfl (text_at gr _ bgr) rfl hAB e3 w
    rw [show (⟨a.toArray⟩ : ByteArray) ++ ⟨#[c + 1]⟩ = ⟨(a ++ [c + 1]).toArray⟩ from cat_list a [c + 1]] at this
    rw [hA]; exact this
  have hkc : (if (3 : Int) ≤ n then k.data.toList else []) = k.data.toList := if_pos hn3
  by_cases h4 : 64 < (k.size : Int)
  · rw [hr 3 (by omega) (by show Keys.check ⟨st, if 2 ≤ n then gr else 0, if 3 ≤ n then k.data.toList else [], _, []⟩ = 3; rw [hgc, hkc, hck, if_neg (by omega), if_pos (by omega)])]
    rcases (show n = 3 ∨ n = 4 by omega) with rfl | rfl
    · exact refrange_3_4 st gr k p u h0 h1 h2 h3 h4 w
    · exact refrange_4_4 st gr k p u h0 h1 h2 h3 h4 w
  replace h4 : (k.size : Int) ≤ 64 := by omega
  have hABK : (⟨#[Keys.byteOf st, Keys.byteOf gr]⟩ : ByteArray) ++ ⟨(Code.txt k.data.toList).toArray⟩ = ⟨(Keys.byteOf st :: Keys.byteOf gr :: Code.txt k.data.toList).toArray⟩ := cat_list [Keys.byteOf st, Keys.byteOf gr] _
  rcases (show n = 3 ∨ n = 4 by omega) with rfl | rfl
  · obtain ⟨a, c, e1, e2, e3⟩ := fin (by show Keys.check ⟨st, gr, k.data.toList, [], []⟩ = 0; rw [hck, if_neg (by omega), if_neg (by rw [hk]; simp; omega)])
    rw [e2]
    have hA : (⟨(Keys.first (skOf st gr k p u) 3).toArray⟩ : ByteArray) = ⟨(Keys.byteOf st :: Keys.byteOf gr :: Code.txt k.data.toList).toArray⟩ := by rw [Keys.first3]
    rw [hA] at e3
    have := refrange_ok3 st gr k p u _ _ _ _ _ _ _ _ _ h0 h1 h2 h3 h4 (text_at st _ bst) rfl (text_at gr _ bgr) rfl hAB (fun v => refputtext_any k (by omega) v) rfl (txt_small k (by omega)) hABK e3 w
    rw [show (⟨a.toArray⟩ : ByteArray) ++ ⟨#[c + 1]⟩ = ⟨(a ++ [c + 1]).toArray⟩ from cat_list a [c + 1]] at this
    rw [hA]; exact this
  by_cases h5 : 64 < (p.size : Int)
  · rw [hr 3 (by omega) (by show Keys.check ⟨st, gr, k.data.toList, p.data.toList, []⟩ = 3; rw [hck, if_neg (by omega), if_pos (by omega)])]
    exact refrange_4_5 st gr k p u h0 h1 h2 h3 h4 h5 w
  replace h5 : (p.size : Int) ≤ 64 := by omega
  obtain ⟨a, c, e1, e2, e3⟩ := fin (by show Keys.check ⟨st, gr, k.data.toList, p.data.toList, []⟩ = 0; rw [hck, if_neg (by omega), if_neg (by omega)])
  rw [e2]
  have hA : (⟨(Keys.first (skOf st gr k p u) 4).toArray⟩ : ByteArray) = ⟨(Keys.byteOf st :: Keys.byteOf gr :: (Code.txt k.data.toList ++ Code.txt p.data.toList)).toArray⟩ := by rw [Keys.first4]
  rw [hA] at e3
  have hF3 : ((⟨(Keys.byteOf st :: Keys.byteOf gr :: Code.txt k.data.toList).toArray⟩ : ByteArray).size : Int) ≤ 132 := by
    have := txt_len k (by omega)
    rw [list_size]; simp only [List.length_cons]; omega
  have := refrange_ok4 st gr k p u _ _ _ _ _ _ _ _ _ _ _ h0 h1 h2 h3 h4 h5 (text_at st _ bst) rfl (text_at gr _ bgr) rfl hAB (fun v => refputtext_any k (by omega) v) rfl (txt_small k (by omega)) hABK (fun v => refputtext_any p (by omega) v) hF3 (txt_small p (by omega)) (cat_list _ _) e3 w
  rw [show (⟨a.toArray⟩ : ByteArray) ++ ⟨#[c + 1]⟩ = ⟨(a ++ [c + 1]).toArray⟩ from cat_list a [c + 1]] at this
  rw [hA]; exact this
end Go.Proofs.YtpobfheioondaaaDoor
