/-
  The contract of the document's write: the write with which bytes begin. Condition: a text within reach.
-/
import Derived.Test.YtaanclnppfpocaaBatchDecode
import Derived.Test.YtaanclnppfpocaaCodeFieldRef
import Derived.Deep.DrawnRows
namespace Go.Proofs.Ytaanclnppfpocaa
open Go.RowKit
def zeroWr : Value := .agg #[.int .i64 0, .string ⟨#[]⟩, .string ⟨#[]⟩]
theorem new3 (w : World) (x0 x1 x2 : Value) : (w.alloc (.cells #[x0, x1, x2] 44)).cell? ⟨w.heap.size, 0, none⟩ = some x0 ∧ (w.alloc (.cells #[x0, x1, x2] 44)).cell? ⟨w.heap.size, 1, none⟩ = some x1 ∧ (w.alloc (.cells #[x0, x1, x2] 44)).cell? ⟨w.heap.size, 2, none⟩ = some x2 ∧ Below w.heap.size w (w.alloc (.cells #[x0, x1, x2] 44)) := by
  refine ⟨?_, ?_, ?_, below_alloc _ _⟩ <;> (rw [World.cell?_alloc_new]; rfl)
theorem new3b (w : World) (x0 x1 x2 : Value) (o : Obj) : ((w.alloc (.cells #[x0, x1, x2] 44)).alloc o).cell? ⟨w.heap.size, 0, none⟩ = some x0 ∧ ((w.alloc (.cells #[x0, x1, x2] 44)).alloc o).cell? ⟨w.heap.size, 1, none⟩ = some x1 ∧ ((w.alloc (.cells #[x0, x1, x2] 44)).alloc o).cell? ⟨w.heap.size, 2, none⟩ = some x2 ∧ Below w.heap.size w ((w.alloc (.cells #[x0, x1, x2] 44)).alloc o) := by
  obtain ⟨h0, h1, h2, hb⟩ := new3 w x0 x1 x2
  exact ⟨(World.cell?_alloc_lt _ _ _ (by simp)).trans h0, (World.cell?_alloc_lt _ _ _ (by simp)).trans h1, (World.cell?_alloc_lt _ _ _ (by simp)).trans h2, hb.alloc (by simp) _⟩
/-- What write answers. -/
def Wrote (x : Wr) (k : Nat) (w : World) (e : Ending) (w' : World) : Prop := e = .returned (.tuple #[.agg #[.int .i64 x.kind, .string x.key, .string x.val], .int .i64 (k : Int)]) ∧ Below w.heap.size w w'
theorem res_new (w : World) (x0 x1 x2 : Value) : ∀ V : World, V.heap[w.heap.size]? = some (.cells #[.int .i64 0, .string ⟨#[]⟩, .string ⟨#[]⟩] 44 (0, 0)) → Below w.heap.size w V →
    ((((V.setCell ⟨w.heap.size, 0, none⟩ x0).setCell ⟨w.heap.size, 1, none⟩ x1).setCell ⟨w.heap.size, 2, none⟩ x2).heap[w.heap.size]? = some (.cells #[x0, x1, x2] 44 (0, 0)) ∧ Below w.heap.size w (((V.setCell ⟨w.heap.size, 0, none⟩ x0).setCell ⟨w.heap.size, 1, none⟩ x1).setCell ⟨w.heap.size, 2, none⟩ x2)) :=
  fun _ h hb => ⟨res3 h x0 x1 x2, below3c hb (Nat.le_refl _) x0 x1 x2⟩
set_option maxRecDepth 100000 in
set_option maxHeartbeats 4000000 in
theorem write_empty (s : ByteArray) (h0 : s.size = 0) (w : World) : Calls Try.prog 35 #[.string s] w (Wrote ⟨0, ⟨#[]⟩, ⟨#[]⟩⟩ 0 w) := by
  have z : ((s.size : Int) == 0) = true := by rw [h0]; rfl
  have K := Lib.hid (res_new w)
  have Z0 : Hid ((w.alloc (.cells #[.int .i64 0, .string ⟨#[]⟩, .string ⟨#[]⟩] 44)).heap[w.heap.size]? = some (.cells #[.int .i64 0, .string ⟨#[]⟩, .string ⟨#[]⟩] 44 (0, 0))) := Lib.hid (heap_alloc_new w _)
  have ZB := Lib.hid (below_alloc w (.cells #[.int .i64 0, .string ⟨#[]⟩, .string ⟨#[]⟩] 44))
  go_enter Try.func35, Try.ntmps35
  go_wp2_with fail
  obtain ⟨a0, a1, a2, ab⟩ := new3 w (.int .i64 0) (.string ⟨#[]⟩) (.string ⟨#[]⟩)
  generalize w.alloc (.cells #[.int .i64 0, .string ⟨#[]⟩, .string ⟨#[]⟩] 44) = V at *
  refine bodyPost_ret (v := .tuple #[.agg #[.int .i64 0, .string ⟨#[]⟩, .string ⟨#[]⟩], .int .i64 0]) (by simp [results, Try.results35, go_sem, a0, a1, a2]) rfl ⟨rfl, ab⟩
set_option maxRecDepth 100000 in
set_option maxHeartbeats 4000000 in
theorem write_kind (s : ByteArray) (_hs : s.size ≤ reachBytes) (h0 : 1 ≤ s.size) (kb : Int) (I0 : ∀ u, (Instr.index 9 (.string s) (.int .i64 0)).run Try.prog u = .ok (.int .u8 kb) u) (k1 : kb ≠ 1) (k2 : kb ≠ 2) (w : World) : Calls Try.prog 35 #[.string s] w (Wrote ⟨0, ⟨#[]⟩, ⟨#[]⟩⟩ 0 w) := by
  have z : ((s.size : Int) == 0) = false := by rw [beq_eq_false_iff_ne]; omega
  have q1 : (kb != 1) = true := by rw [bne_iff_ne]; exact k1
  have q2 : (kb != 2) = true := by rw [bne_iff_ne]; exact k2
  have K := Lib.hid (res_new w)
  have Z0 : Hid ((w.alloc (.cells #[.int .i64 0, .string ⟨#[]⟩, .string ⟨#[]⟩] 44)).heap[w.heap.size]? = some (.cells #[.int .i64 0, .string ⟨#[]⟩, .string ⟨#[]⟩] 44 (0, 0))) := Lib.hid (heap_alloc_new w _)
  have ZB := Lib.hid (below_alloc w (.cells #[.int .i64 0, .string ⟨#[]⟩, .string ⟨#[]⟩] 44))
  go_enter Try.func35, Try.ntmps35
  go_wp2_with fail
  obtain ⟨a0, a1, a2, ab⟩ := new3 w (.int .i64 0) (.string ⟨#[]⟩) (.string ⟨#[]⟩)
  generalize w.alloc (.cells #[.int .i64 0, .string ⟨#[]⟩, .string ⟨#[]⟩] 44) = V at *
  refine bodyPost_ret (v := .tuple #[.agg #[.int .i64 0, .string ⟨#[]⟩, .string ⟨#[]⟩], .int .i64 0]) (by simp [results, Try.results35, go_sem, a0, a1, a2]) rfl ⟨rfl, ab⟩
set_option maxRecDepth 100000 in
set_option maxHeartbeats 4000000 in
theorem write_bad1 (s : ByteArray) (hs : s.size ≤ reachBytes) (h0 : 1 ≤ s.size) (I0 : ∀ u, (Instr.index 9 (.string s) (.int .i64 0)).run Try.prog u = .ok (.int .u8 1) u) (T1 KEY : ByteArray) (n1 e1 : Nat) (S1 : ∀ u, (Instr.slice 9 (.string s) (some (.int .i64 1)) none none).run Try.prog u = .ok (.string T1) u) (C1 : Hid (∀ u, Calls Try.prog 43 #[.string T1, .int .i64 520] u fun e u' => e = .returned (.tuple #[.string KEY, .int .i64 (n1 : Int), .int .i64 (e1 : Int)]) ∧ u' = u)) (he : e1 ≠ 0) (w : World) : Calls Try.prog 35 #[.string s] w (Wrote ⟨0, ⟨#[]⟩, ⟨#[]⟩⟩ 0 w) := by
  have z : ((s.size : Int) == 0) = false := by rw [beq_eq_false_iff_ne]; omega
  have zz : s.size ≤ 9223372036854775807 := by unfold reachBytes at hs; omega
  have zz1 : decide ((s.size : Int) < 1) = false := by rw [decide_eq_false_iff_not]; omega
  have q3 : ((e1 : Int) != 0) = true := by rw [bne_iff_ne]; omega
  have K := Lib.hid (res_new w)
  have Z0 : Hid ((w.alloc (.cells #[.int .i64 0, .string ⟨#[]⟩, .string ⟨#[]⟩] 44)).heap[w.heap.size]? = some (.cells #[.int .i64 0, .string ⟨#[]⟩, .string ⟨#[]⟩] 44 (0, 0))) := Lib.hid (heap_alloc_new w _)
  have ZB := Lib.hid (below_alloc w (.cells #[.int .i64 0, .string ⟨#[]⟩, .string ⟨#[]⟩] 44))
  go_enter Try.func35, Try.ntmps35
  go_wp2_with (go_at_call 43; ((with_reducible refine (C1.out _).mono ?_); rintro e u1 ⟨rfl, rfl⟩))
  obtain ⟨a0, a1, a2, ab⟩ := new3b w (.int .i64 0) (.string ⟨#[]⟩) (.string ⟨#[]⟩) (.cells #[.int .i64 1, .string ⟨#[]⟩, .string ⟨#[]⟩] 44)
  generalize (w.alloc (.cells #[.int .i64 0, .string ⟨#[]⟩, .string ⟨#[]⟩] 44)).alloc (.cells #[.int .i64 1, .string ⟨#[]⟩, .string ⟨#[]⟩] 44) = V at *
  refine bodyPost_ret (v := .tuple #[.agg #[.int .i64 0, .string ⟨#[]⟩, .string ⟨#[]⟩], .int .i64 (0)]) (by simp [results, Try.results35, go_sem, a0, a1, a2]) rfl ⟨by simp, ab⟩
set_option maxRecDepth 100000 in
set_option maxHeartbeats 4000000 in
theorem write_bad2 (s : ByteArray) (hs : s.size ≤ reachBytes) (h0 : 1 ≤ s.size) (I0 : ∀ u, (Instr.index 9 (.string s) (.int .i64 0)).run Try.prog u = .ok (.int .u8 2) u) (T1 KEY : ByteArray) (n1 e1 : Nat) (S1 : ∀ u, (Instr.slice 9 (.string s) (some (.int .i64 1)) none none).run Try.prog u = .ok (.string T1) u) (C1 : Hid (∀ u, Calls Try.prog 43 #[.string T1, .int .i64 520] u fun e u' => e = .returned (.tuple #[.string KEY, .int .i64 (n1 : Int), .int .i64 (e1 : Int)]) ∧ u' = u)) (he : e1 ≠ 0) (w : World) : Calls Try.prog 35 #[.string s] w (Wrote ⟨0, ⟨#[]⟩, ⟨#[]⟩⟩ 0 w) := by
  have z : ((s.size : Int) == 0) = false := by rw [beq_eq_false_iff_ne]; omega
  have zz : s.size ≤ 9223372036854775807 := by unfold reachBytes at hs; omega
  have zz1 : decide ((s.size : Int) < 1) = false := by rw [decide_eq_false_iff_not]; omega
  have q3 : ((e1 : Int) != 0) = true := by rw [bne_iff_ne]; omega
  have K := Lib.hid (res_new w)
  have Z0 : Hid ((w.alloc (.cells #[.int .i64 0, .string ⟨#[]⟩, .string ⟨#[]⟩] 44)).heap[w.heap.size]? = some (.cells #[.int .i64 0, .string ⟨#[]⟩, .string ⟨#[]⟩] 44 (0, 0))) := Lib.hid (heap_alloc_new w _)
  have ZB := Lib.hid (below_alloc w (.cells #[.int .i64 0, .string ⟨#[]⟩, .string ⟨#[]⟩] 44))
  go_enter Try.func35, Try.ntmps35
  go_wp2_with (go_at_call 43; ((with_reducible refine (C1.out _).mono ?_); rintro e u1 ⟨rfl, rfl⟩))
  obtain ⟨a0, a1, a2, ab⟩ := new3b w (.int .i64 0) (.string ⟨#[]⟩) (.string ⟨#[]⟩) (.cells #[.int .i64 2, .string ⟨#[]⟩, .string ⟨#[]⟩] 44)
  generalize (w.alloc (.cells #[.int .i64 0, .string ⟨#[]⟩, .string ⟨#[]⟩] 44)).alloc (.cells #[.int .i64 2, .string ⟨#[]⟩, .string ⟨#[]⟩] 44) = V at *
  refine bodyPost_ret (v := .tuple #[.agg #[.int .i64 0, .string ⟨#[]⟩, .string ⟨#[]⟩], .int .i64 (0)]) (by simp [results, Try.results35, go_sem, a0, a1, a2]) rfl ⟨by simp, ab⟩
set_option maxRecDepth 100000 in
set_option maxHeartbeats 4000000 in
theorem write_two (s : ByteArray) (hs : s.size ≤ reachBytes) (h0 : 1 ≤ s.size) (I0 : ∀ u, (Instr.index 9 (.string s) (.int .i64 0)).run Try.prog u = .ok (.int .u8 2) u) (T1 KEY : ByteArray) (n1 : Nat) (S1 : ∀ u, (Instr.slice 9 (.string s) (some (.int .i64 1)) none none).run Try.prog u = .ok (.string T1) u) (C1 : Hid (∀ u, Calls Try.prog 43 #[.string T1, .int .i64 520] u fun e u' => e = .returned (.tuple #[.string KEY, .int .i64 (n1 : Int), .int .i64 0]) ∧ u' = u)) (hn1 : 1 + n1 ≤ s.size) (w : World) : Calls Try.prog 35 #[.string s] w (Wrote ⟨2, KEY, ⟨#[]⟩⟩ (1 + n1) w) := by
  have z : ((s.size : Int) == 0) = false := by rw [beq_eq_false_iff_ne]; omega
  have zz : s.size ≤ 9223372036854775807 := by unfold reachBytes at hs; omega
  have zz1 : decide ((s.size : Int) < 1) = false := by rw [decide_eq_false_iff_not]; omega
  have wa : IntKind.i64.wrap (1 + (n1 : Int)) = 1 + (n1 : Int) := by rw [IntWalk.i64_in _ ⟨by unfold reachBytes at hs; omega, by unfold reachBytes at hs; omega⟩]
  have K := Lib.hid (res_new w)
  have Z0 : Hid ((w.alloc (.cells #[.int .i64 0, .string ⟨#[]⟩, .string ⟨#[]⟩] 44)).heap[w.heap.size]? = some (.cells #[.int .i64 0, .string ⟨#[]⟩, .string ⟨#[]⟩] 44 (0, 0))) := Lib.hid (heap_alloc_new w _)
  have ZB := Lib.hid (below_alloc w (.cells #[.int .i64 0, .string ⟨#[]⟩, .string ⟨#[]⟩] 44))
  go_enter Try.func35, Try.ntmps35
  go_wp2_with (go_at_call 43; ((with_reducible refine (C1.out _).mono ?_); rintro e u1 ⟨rfl, rfl⟩))
  obtain ⟨a0, a1, a2, ab⟩ := new3b w (.int .i64 2) (.string KEY) (.string ⟨#[]⟩) (.cells #[.int .i64 2, .string KEY, .string ⟨#[]⟩] 44)
  generalize (w.alloc (.cells #[.int .i64 2, .string KEY, .string ⟨#[]⟩] 44)).alloc (.cells #[.int .i64 2, .string KEY, .string ⟨#[]⟩] 44) = V at *
  refine bodyPost_ret (v := .tuple #[.agg #[.int .i64 2, .string KEY, .string ⟨#[]⟩], .int .i64 (1 + (n1 : Int))]) (by simp [results, Try.results35, go_sem, a0, a1, a2]) rfl ⟨by simp, ab⟩
set_option maxRecDepth 100000 in
set_option maxHeartbeats 4000000 in
theorem write_badv (s : ByteArray) (hs : s.size ≤ reachBytes) (h0 : 1 ≤ s.size) (I0 : ∀ u, (Instr.index 9 (.string s) (.int .i64 0)).run Try.prog u = .ok (.int .u8 1) u) (T1 KEY : ByteArray) (n1 : Nat) (S1 : ∀ u, (Instr.slice 9 (.string s) (some (.int .i64 1)) none none).run Try.prog u = .ok (.string T1) u) (C1 : Hid (∀ u, Calls Try.prog 43 #[.string T1, .int .i64 520] u fun e u' => e = .returned (.tuple #[.string KEY, .int .i64 (n1 : Int), .int .i64 0]) ∧ u' = u)) (hn1 : 1 + n1 ≤ s.size) (T2 VAL : ByteArray) (n2 e2 : Nat) (S2 : ∀ u, (Instr.slice 9 (.string s) (some (.int .i64 (1 + (n1 : Int)))) none none).run Try.prog u = .ok (.string T2) u) (C2 : Hid (∀ u, Calls Try.prog 43 #[.string T2, .int .i64 2048] u fun e u' => e = .returned (.tuple #[.string VAL, .int .i64 (n2 : Int), .int .i64 (e2 : Int)]) ∧ u' = u)) (he : e2 ≠ 0) (w : World) : Calls Try.prog 35 #[.string s] w (Wrote ⟨0, ⟨#[]⟩, ⟨#[]⟩⟩ 0 w) := by
  have z : ((s.size : Int) == 0) = false := by rw [beq_eq_false_iff_ne]; omega
  have zz : s.size ≤ 9223372036854775807 := by unfold reachBytes at hs; omega
  have zz1 : decide ((s.size : Int) < 1) = false := by rw [decide_eq_false_iff_not]; omega
  have wa : IntKind.i64.wrap (1 + (n1 : Int)) = 1 + (n1 : Int) := by rw [IntWalk.i64_in _ ⟨by unfold reachBytes at hs; omega, by unfold reachBytes at hs; omega⟩]
  have zz2 : decide ((s.size : Int) < 1 + (n1 : Int)) = false := by rw [decide_eq_false_iff_not]; omega
  have q3 : ((e2 : Int) != 0) = true := by rw [bne_iff_ne]; omega
  have K := Lib.hid (res_new w)
  have Z0 : Hid ((w.alloc (.cells #[.int .i64 0, .string ⟨#[]⟩, .string ⟨#[]⟩] 44)).heap[w.heap.size]? = some (.cells #[.int .i64 0, .string ⟨#[]⟩, .string ⟨#[]⟩] 44 (0, 0))) := Lib.hid (heap_alloc_new w _)
  have ZB := Lib.hid (below_alloc w (.cells #[.int .i64 0, .string ⟨#[]⟩, .string ⟨#[]⟩] 44))
  go_enter Try.func35, Try.ntmps35
  go_wp2_with (first | (go_at_call 43; ((with_reducible refine (C1.out _).mono ?_); rintro e u1 ⟨rfl, rfl⟩)) | (go_at_call 43; ((with_reducible refine (C2.out _).mono ?_); rintro e u1 ⟨rfl, rfl⟩)))
  obtain ⟨a0, a1, a2, ab⟩ := new3b w (.int .i64 0) (.string ⟨#[]⟩) (.string ⟨#[]⟩) (.cells #[.int .i64 1, .string KEY, .string ⟨#[]⟩] 44)
  generalize (w.alloc (.cells #[.int .i64 0, .string ⟨#[]⟩, .string ⟨#[]⟩] 44)).alloc (.cells #[.int .i64 1, .string KEY, .string ⟨#[]⟩] 44) = V at *
  refine bodyPost_ret (v := .tuple #[.agg #[.int .i64 0, .string ⟨#[]⟩, .string ⟨#[]⟩], .int .i64 (0)]) (by simp [results, Try.results35, go_sem, a0, a1, a2]) rfl ⟨by simp, ab⟩
set_option maxRecDepth 100000 in
set_option maxHeartbeats 4000000 in
theorem write_one (s : ByteArray) (hs : s.size ≤ reachBytes) (h0 : 1 ≤ s.size) (I0 : ∀ u, (Instr.index 9 (.string s) (.int .i64 0)).run Try.prog u = .ok (.int .u8 1) u) (T1 KEY : ByteArray) (n1 : Nat) (S1 : ∀ u, (Instr.slice 9 (.string s) (some (.int .i64 1)) none none).run Try.prog u = .ok (.string T1) u) (C1 : Hid (∀ u, Calls Try.prog 43 #[.string T1, .int .i64 520] u fun e u' => e = .returned (.tuple #[.string KEY, .int .i64 (n1 : Int), .int .i64 0]) ∧ u' = u)) (hn1 : 1 + n1 ≤ s.size) (T2 VAL : ByteArray) (n2 : Nat) (S2 : ∀ u, (Instr.slice 9 (.string s) (some (.int .i64 (1 + (n1 : Int)))) none none).run Try.prog u = .ok (.string T2) u) (C2 : Hid (∀ u, Calls Try.prog 43 #[.string T2, .int .i64 2048] u fun e u' => e = .returned (.tuple #[.string VAL, .int .i64 (n2 : Int), .int .i64 0]) ∧ u' = u)) (hn2 : 1 + n1 + n2 ≤ s.size) (w : World) : Calls Try.prog 35 #[.string s] w (Wrote ⟨1, KEY, VAL⟩ (1 + n1 + n2) w) := by
  have z : ((s.size : Int) == 0) = false := by rw [beq_eq_false_iff_ne]; omega
  have zz : s.size ≤ 9223372036854775807 := by unfold reachBytes at hs; omega
  have zz1 : decide ((s.size : Int) < 1) = false := by rw [decide_eq_false_iff_not]; omega
  have wa : IntKind.i64.wrap (1 + (n1 : Int)) = 1 + (n1 : Int) := by rw [IntWalk.i64_in _ ⟨by unfold reachBytes at hs; omega, by unfold reachBytes at hs; omega⟩]
  have zz2 : decide ((s.size : Int) < 1 + (n1 : Int)) = false := by rw [decide_eq_false_iff_not]; omega
  have wd : IntKind.i64.wrap (1 + (n1 : Int) + (n2 : Int)) = 1 + (n1 : Int) + (n2 : Int) := by rw [IntWalk.i64_in _ ⟨by unfold reachBytes at hs; omega, by unfold reachBytes at hs; omega⟩]
  have K := Lib.hid (res_new w)
  have Z0 : Hid ((w.alloc (.cells #[.int .i64 0, .string ⟨#[]⟩, .string ⟨#[]⟩] 44)).heap[w.heap.size]? = some (.cells #[.int .i64 0, .string ⟨#[]⟩, .string ⟨#[]⟩] 44 (0, 0))) := Lib.hid (heap_alloc_new w _)
  have ZB := Lib.hid (below_alloc w (.cells #[.int .i64 0, .string ⟨#[]⟩, .string ⟨#[]⟩] 44))
  go_enter Try.func35, Try.ntmps35
  go_wp2_with (first | (go_at_call 43; ((with_reducible refine (C1.out _).mono ?_); rintro e u1 ⟨rfl, rfl⟩)) | (go_at_call 43; ((with_reducible refine (C2.out _).mono ?_); rintro e u1 ⟨rfl, rfl⟩)))
  obtain ⟨a0, a1, a2, ab⟩ := new3b w (.int .i64 1) (.string KEY) (.string VAL) (.cells #[.int .i64 1, .string KEY, .string VAL] 44)
  generalize (w.alloc (.cells #[.int .i64 1, .string KEY, .string VAL] 44)).alloc (.cells #[.int .i64 1, .string KEY, .string VAL] 44) = V at *
  refine bodyPost_ret (v := .tuple #[.agg #[.int .i64 1, .string KEY, .string VAL], .int .i64 (1 + (n1 : Int) + (n2 : Int))]) (by simp [results, Try.results35, go_sem, a0, a1, a2]) rfl ⟨by simp, ab⟩
theorem field_fits {l : List UInt8} {x : Int} : (Code.rdField l x).2.1 ≤ l.length := field_size l x
theorem refwrite_any (s : ByteArray) (hs : s.size ≤ reachBytes) (w : World) : Calls Try.prog 35 #[.string s] w fun e w' => (match decW s.data.toList with
    | none => e = .returned (.tuple #[.agg #[.int .i64 0, .string ⟨#[]⟩, .string ⟨#[]⟩], .int .i64 0])
    | some (x, k) => e = .returned (.tuple #[.agg #[.int .i64 x.kind, .string x.key, .string x.val], .int .i64 (k : Int)])) ∧ Below w.heap.size w w' := by
  have hl : s.data.toList.length = s.size := size_list s
  cases e : s.data.toList with
  | nil =>
    rw [e] at hl
    exact (write_empty s (by simpa using hl.symm) w)
  | cons k r =>
    rw [e, List.length_cons] at hl
    have I0 : ∀ u, (Instr.index 9 (.string s) (.int .i64 0)).run Try.prog u = .ok (.int .u8 (k.toNat : Int)) u := index_byte s 0 k (by rw [e]; rfl)
    have hT1 : (s.extract 1 s.size).data.toList = r := by rw [drop_list, e]; rfl
    have z1 : (s.extract 1 s.size).size = s.size - 1 := drop_size s 1
    have S1 : ∀ u, (Instr.slice 9 (.string s) (some (.int .i64 1)) none none).run Try.prog u = .ok (.string (s.extract 1 s.size)) u := fun u => run_slice_string_l u 9 s Try.underlying9 .i64 1 (by omega) (by omega)
    have C1 := Lib.hid fun u => reffield_any (s.extract 1 s.size) (by rw [z1]; unfold reachBytes at hs ⊢; omega) 520 (by omega) u
    rw [hT1] at C1
    have hf := field_fits (l := r) (x := 520)
    simp only [decW]
    by_cases k1 : k = 1
    · subst k1
      rw [if_pos rfl]
      by_cases he : (Code.rdField r 520).2.2 = 0
      · rw [if_neg (by simpa using he)]
        have S2 : ∀ u, (Instr.slice 9 (.string s) (some (.int .i64 (1 + ((Code.rdField r 520).2.1 : Int)))) none none).run Try.prog u = .ok (.string (s.extract (1 + (Code.rdField r 520).2.1) s.size)) u := fun u => by
          have := run_slice_string_l u 9 s Try.underlying9 .i64 (1 + ((Code.rdField r 520).2.1 : Int)) (by omega) (by omega)
          rw [this]
          congr 3
        have hT2 : (s.extract (1 + (Code.rdField r 520).2.1) s.size).data.toList = r.drop (Code.rdField r 520).2.1 := by rw [drop_list, e, Nat.add_comm 1, List.drop_succ_cons]
        have z2 : (s.extract (1 + (Code.rdField r 520).2.1) s.size).size = s.size - (1 + (Code.rdField r 520).2.1) := drop_size s _
        have C2 := Lib.hid fun u => reffield_any (s.extract (1 + (Code.rdField r 520).2.1) s.size) (by rw [z2]; unfold reachBytes at hs ⊢; omega) 2048 (by omega) u
        rw [hT2] at C2
        have hf2 := field_fits (l := r.drop (Code.rdField r 520).2.1) (x := 2048)
        rw [List.length_drop] at hf2
        rw [he] at C1
        by_cases he2 : (Code.rdField (r.drop (Code.rdField r 520).2.1) 2048).2.2 = 0
        · rw [if_neg (by simpa using he2)]
          rw [he2] at C2
          have := write_one s hs (by omega) I0 _ _ _ S1 C1 (by omega) _ _ _ S2 C2 (by omega) w
          rw [Nat.add_assoc] at this
          exact this
        · rw [if_pos he2]
          exact write_badv s hs (by omega) I0 _ _ _ S1 C1 (by omega) _ _ _ _ S2 C2 he2 w
      · rw [if_pos he]
        exact write_bad1 s hs (by omega) I0 _ _ _ _ S1 C1 he w
    · rw [if_neg k1]
      by_cases k2 : k = 2
      · subst k2
        rw [if_pos rfl]
        by_cases he : (Code.rdField r 520).2.2 = 0
        · rw [if_neg (by simpa using he)]
          rw [he] at C1
          exact write_two s hs (by omega) I0 _ _ _ S1 C1 (by omega) w
        · rw [if_pos he]
          exact write_bad2 s hs (by omega) I0 _ _ _ _ S1 C1 he w
      · rw [if_neg k2]
        exact write_kind s hs (by omega) _ I0 (fun h => k1 (UInt8.toNat_inj.1 (show k.toNat = 1 by omega))) (fun h => k2 (UInt8.toNat_inj.1 (show k.toNat = 2 by omega))) w
end Go.Proofs.Ytaanclnppfpocaa
