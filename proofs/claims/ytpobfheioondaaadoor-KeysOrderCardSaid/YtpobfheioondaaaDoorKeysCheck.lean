/-
  The contracts of keys.Check, whatever its key, and of the document's own: each answers the plain mathematics' error number. No condition.
-/
import Derived.Test.YtpobfheioondaaaDoorKeyArg
import Derived.Test.YtpobfheioondaaaDoorKeysMath
import Derived.WalkKit
import Derived.IntWalk
import Derived.WalkMore
import Derived.Defers
import Derived.Recover
import Derived.Outline
import Derived.BigQuiet
import Derived.Deep.QuietTactic
import Derived.WalkLawsBesides
namespace Go.Proofs.YtpobfheioondaaaDoor
open Go.RowKit
/-- A state's key's value, as it is said in plain mathematics. -/
abbrev skOf (st gr : Int) (k p u : ByteArray) : Keys.SK := ⟨st, gr, k.data.toList, p.data.toList, u.data.toList⟩
theorem below_in (x : Int) (h0 : 0 ≤ x) (h1 : x < 64) (w : World) : Calls Tryd.prog 31 #[.int .i64 x, .int .i64 64] w fun e w' => e = .returned (.bool true) ∧ w' = w := by
  go_enter Tryd.func31, Tryd.ntmps31
  go_wp2
  go_ret
  exact ⟨rfl, rfl⟩
theorem below_out (x : Int) (h : ¬ (0 ≤ x ∧ x < 64)) (w : World) : Calls Tryd.prog 31 #[.int .i64 x, .int .i64 64] w fun e w' => e = .returned (.bool false) ∧ w' = w := by
  by_cases h0 : 0 ≤ x
  · have h1 : ¬ x < 64 := fun k => h ⟨h0, k⟩
    clear h
    go_enter Tryd.func31, Tryd.ntmps31
    go_wp2
    go_ret
    exact ⟨rfl, rfl⟩
  · clear h
    go_enter Tryd.func31, Tryd.ntmps31
    go_wp2
    go_ret
    exact ⟨rfl, rfl⟩
theorem fit_in (s : ByteArray) (h : (s.size : Int) ≤ 64) (w : World) : Calls Tryd.prog 32 #[.string s] w fun e w' => e = .returned (.tuple #[]) ∧ w' = w := by
  go_enter Tryd.func32, Tryd.ntmps32
  go_wp2
  go_end0
  exact ⟨rfl, rfl⟩
theorem fit_out (s : ByteArray) (h : 64 < (s.size : Int)) (w : World) : Calls Tryd.prog 32 #[.string s] w fun e w' => e = .panicked [{ v := .iface 24 (.int .i64 3), recovered := false }] ∧ w' = w := by
  go_enter Tryd.func32, Tryd.ntmps32
  go_wp2
  exact ⟨rfl, rfl, rfl⟩
theorem catch_panicking (p : Addr) (x : Int) (u : TypeId) (pv : Value) (older : List PanicEntry) (w : World) (hc : w.cell? p = some (.int .i64 x)) (hz : w.frozen? p = false) :
    CallsD Tryd.prog 30 #[.pointer (some p)] (.panicking ({ v := .iface u pv, recovered := false } :: older)) w fun e u' w' =>
      e = .returned (.tuple #[]) ∧ u' = .panicking ({ v := .iface u pv, recovered := true } :: older) ∧ w' = w.setCell p (.int .i64 3) := by
  refine callsD_of_wpS Tryd.func30 rfl fun c₀ cs hu => ?_
  apply wpS_seq
  apply wpS_region
  simp [wpOpsS, go_sem, recoverD, hu, Tryd.ntmps30, Exit.thenS]
  refine wpS_cond (t := true) (by simp [Act.eval, Array.replicate]) ?_
  simp only [if_true]
  apply wpS_region
  simp [wpOpsS, go_sem, hc, hz, bodyPostS, results, Tryd.results30]
theorem catch_idle (p : Addr) (w : World) :
    CallsD Tryd.prog 30 #[.pointer (some p)] .returning w fun e u' w' => e = .returned (.tuple #[]) ∧ u' = .returning ∧ w' = w := by
  refine callsD_of_wpS Tryd.func30 rfl fun c₀ cs hu => ?_
  apply wpS_seq
  apply wpS_region
  simp [wpOpsS, go_sem, recoverD, hu, Tryd.ntmps30, Exit.thenS]
  refine wpS_cond (t := false) (by simp [Act.eval, Array.replicate]) ?_
  simp only [Bool.false_eq_true, if_false]
  refine wpS_of_wp (wp_skip ?_)
  cases c₀
  simp_all [bodyPostS, results, Tryd.results30]
theorem key_block (w : World) (o o' : Obj) : Below w.heap.size w ((w.alloc o).alloc o') := (below_alloc w o).alloc (by simp) o'
theorem check_st (st gr : Int) (k p u : ByteArray) (h0 : ¬ (0 ≤ st ∧ st < 64)) (w : World) :
    Calls Tryd.prog 16 #[keyVal st gr k p u] w fun e w' => e = .returned (.int .i64 2) ∧ Below w.heap.size w w' := by
  have hmf : ∀ (fn : Fn) (first cap : Array Value) (w : World), (Instr.makeFunc fn first cap).run Tryd.prog w = .ok (.func fn first cap) w := fun _ _ _ _ => rfl
  have C1 := Lib.hid fun v => below_out st h0 v
  clear h0
  go_enter_defers Tryd.func16, Tryd.ntmps16
  go_wp2_with (first
    | (go_at_call 31; ((with_reducible refine (C1.out _).mono ?_); rintro e w' ⟨rfl, rfl⟩)))
  refine leaves_cons (f := 30) (args := #[.pointer (some ⟨w.heap.size + 1, 0, none⟩)]) (by simp) (by simp [go_sem]) ?_
  refine (catch_idle _ _).mono ?_
  rintro e u' w'' ⟨rfl, rfl, rfl⟩
  simp [Leaves, settle, results, Tryd.results16, go_sem]
  exact key_block _ _ _
theorem check_gr (st gr : Int) (k p u : ByteArray) (h0 : 0 ≤ st ∧ st < 64) (h1 : ¬ (0 ≤ gr ∧ gr < 64)) (w : World) :
    Calls Tryd.prog 16 #[keyVal st gr k p u] w fun e w' => e = .returned (.int .i64 2) ∧ Below w.heap.size w w' := by
  have hmf : ∀ (fn : Fn) (first cap : Array Value) (w : World), (Instr.makeFunc fn first cap).run Tryd.prog w = .ok (.func fn first cap) w := fun _ _ _ _ => rfl
  have C1 := Lib.hid fun v => below_in st h0.1 h0.2 v
  have C2 := Lib.hid fun v => below_out gr h1 v
  clear h0 h1
  go_enter_defers Tryd.func16, Tryd.ntmps16
  go_wp2_with (first
    | (go_at_call 31; ((with_reducible refine (C1.out _).mono ?_); rintro e w' ⟨rfl, rfl⟩))
    | (go_at_call 31; ((with_reducible refine (C2.out _).mono ?_); rintro e w' ⟨rfl, rfl⟩)))
  refine leaves_cons (f := 30) (args := #[.pointer (some ⟨w.heap.size + 1, 0, none⟩)]) (by simp) (by simp [go_sem]) ?_
  refine (catch_idle _ _).mono ?_
  rintro e u' w'' ⟨rfl, rfl, rfl⟩
  simp [Leaves, settle, results, Tryd.results16, go_sem]
  exact key_block _ _ _
theorem check_k (st gr : Int) (k p u : ByteArray) (h0 : 0 ≤ st ∧ st < 64) (h1 : 0 ≤ gr ∧ gr < 64) (h2 : 64 < (k.size : Int)) (w : World) :
    Calls Tryd.prog 16 #[keyVal st gr k p u] w fun e w' => e = .returned (.int .i64 3) ∧ Below w.heap.size w w' := by
  have hmf : ∀ (fn : Fn) (first cap : Array Value) (w : World), (Instr.makeFunc fn first cap).run Tryd.prog w = .ok (.func fn first cap) w := fun _ _ _ _ => rfl
  have C1 := Lib.hid fun v => below_in st h0.1 h0.2 v
  have C2 := Lib.hid fun v => below_in gr h1.1 h1.2 v
  have C3 := Lib.hid fun v => fit_out k h2 v
  clear h0 h1 h2
  go_enter_defers Tryd.func16, Tryd.ntmps16
  go_wp2_with (first
    | (go_at_call 31; ((with_reducible refine (C1.out _).mono ?_); rintro e w' ⟨rfl, rfl⟩))
    | (go_at_call 31; ((with_reducible refine (C2.out _).mono ?_); rintro e w' ⟨rfl, rfl⟩))
    | (go_at_call 32; ((with_reducible refine (C3.out _).mono ?_); rintro e w' ⟨rfl, rfl⟩)))
  refine leaves_cons (f := 30) (args := #[.pointer (some ⟨w.heap.size + 1, 0, none⟩)]) (by simp) (by simp [go_sem]) ?_
  refine (catch_panicking ⟨w.heap.size + 1, 0, none⟩ 0 _ _ [] _ ?_ ?_).mono ?_
  · simp [go_sem]
  · simp [go_sem]
  rintro e u' w'' ⟨rfl, rfl, rfl⟩
  simp [Leaves, settle, results, Tryd.results16, go_sem]
  exact key_block _ _ _
theorem check_p (st gr : Int) (k p u : ByteArray) (h0 : 0 ≤ st ∧ st < 64) (h1 : 0 ≤ gr ∧ gr < 64) (h2 : (k.size : Int) ≤ 64) (h3 : 64 < (p.size : Int)) (w : World) :
    Calls Tryd.prog 16 #[keyVal st gr k p u] w fun e w' => e = .returned (.int .i64 3) ∧ Below w.heap.size w w' := by
  have hmf : ∀ (fn : Fn) (first cap : Array Value) (w : World), (Instr.makeFunc fn first cap).run Tryd.prog w = .ok (.func fn first cap) w := fun _ _ _ _ => rfl
  have C1 := Lib.hid fun v => below_in st h0.1 h0.2 v
  have C2 := Lib.hid fun v => below_in gr h1.1 h1.2 v
  have C3 := Lib.hid fun v => fit_in k h2 v
  have C4 := Lib.hid fun v => fit_out p h3 v
  clear h0 h1 h2 h3
  go_enter_defers Tryd.func16, Tryd.ntmps16
  go_wp2_with (first
    | (go_at_call 31; ((with_reducible refine (C1.out _).mono ?_); rintro e w' ⟨rfl, rfl⟩))
    | (go_at_call 31; ((with_reducible refine (C2.out _).mono ?_); rintro e w' ⟨rfl, rfl⟩))
    | (go_at_call 32; ((with_reducible refine (C3.out _).mono ?_); rintro e w' ⟨rfl, rfl⟩))
    | (go_at_call 32; ((with_reducible refine (C4.out _).mono ?_); rintro e w' ⟨rfl, rfl⟩)))
  refine leaves_cons (f := 30) (args := #[.pointer (some ⟨w.heap.size + 1, 0, none⟩)]) (by simp) (by simp [go_sem]) ?_
  refine (catch_panicking ⟨w.heap.size + 1, 0, none⟩ 0 _ _ [] _ ?_ ?_).mono ?_
  · simp [go_sem]
  · simp [go_sem]
  rintro e u' w'' ⟨rfl, rfl, rfl⟩
  simp [Leaves, settle, results, Tryd.results16, go_sem]
  exact key_block _ _ _
theorem check_u (st gr : Int) (k p u : ByteArray) (h0 : 0 ≤ st ∧ st < 64) (h1 : 0 ≤ gr ∧ gr < 64) (h2 : (k.size : Int) ≤ 64) (h3 : (p.size : Int) ≤ 64) (h4 : 64 < (u.size : Int)) (w : World) :
    Calls Tryd.prog 16 #[keyVal st gr k p u] w fun e w' => e = .returned (.int .i64 3) ∧ Below w.heap.size w w' := by
  have hmf : ∀ (fn : Fn) (first cap : Array Value) (w : World), (Instr.makeFunc fn first cap).run Tryd.prog w = .ok (.func fn first cap) w := fun _ _ _ _ => rfl
  have C1 := Lib.hid fun v => below_in st h0.1 h0.2 v
  have C2 := Lib.hid fun v => below_in gr h1.1 h1.2 v
  have C3 := Lib.hid fun v => fit_in k h2 v
  have C4 := Lib.hid fun v => fit_in p h3 v
  have C5 := Lib.hid fun v => fit_out u h4 v
  clear h0 h1 h2 h3 h4
  go_enter_defers Tryd.func16, Tryd.ntmps16
  go_wp2_with (first
    | (go_at_call 31; ((with_reducible refine (C1.out _).mono ?_); rintro e w' ⟨rfl, rfl⟩))
    | (go_at_call 31; ((with_reducible refine (C2.out _).mono ?_); rintro e w' ⟨rfl, rfl⟩))
    | (go_at_call 32; ((with_reducible refine (C3.out _).mono ?_); rintro e w' ⟨rfl, rfl⟩))
    | (go_at_call 32; ((with_reducible refine (C4.out _).mono ?_); rintro e w' ⟨rfl, rfl⟩))
    | (go_at_call 32; ((with_reducible refine (C5.out _).mono ?_); rintro e w' ⟨rfl, rfl⟩)))
  refine leaves_cons (f := 30) (args := #[.pointer (some ⟨w.heap.size + 1, 0, none⟩)]) (by simp) (by simp [go_sem]) ?_
  refine (catch_panicking ⟨w.heap.size + 1, 0, none⟩ 0 _ _ [] _ ?_ ?_).mono ?_
  · simp [go_sem]
  · simp [go_sem]
  rintro e u' w'' ⟨rfl, rfl, rfl⟩
  simp [Leaves, settle, results, Tryd.results16, go_sem]
  exact key_block _ _ _
theorem check_ok (st gr : Int) (k p u : ByteArray) (h0 : 0 ≤ st ∧ st < 64) (h1 : 0 ≤ gr ∧ gr < 64) (h2 : (k.size : Int) ≤ 64) (h3 : (p.size : Int) ≤ 64) (h4 : (u.size : Int) ≤ 64) (w : World) :
    Calls Tryd.prog 16 #[keyVal st gr k p u] w fun e w' => e = .returned (.int .i64 0) ∧ Below w.heap.size w w' := by
  have hmf : ∀ (fn : Fn) (first cap : Array Value) (w : World), (Instr.makeFunc fn first cap).run Tryd.prog w = .ok (.func fn first cap) w := fun _ _ _ _ => rfl
  have C1 := Lib.hid fun v => below_in st h0.1 h0.2 v
  have C2 := Lib.hid fun v => below_in gr h1.1 h1.2 v
  have C3 := Lib.hid fun v => fit_in k h2 v
  have C4 := Lib.hid fun v => fit_in p h3 v
  have C5 := Lib.hid fun v => fit_in u h4 v
  clear h0 h1 h2 h3 h4
  go_enter_defers Tryd.func16, Tryd.ntmps16
  go_wp2_with (first
    | (go_at_call 31; ((with_reducible refine (C1.out _).mono ?_); rintro e w' ⟨rfl, rfl⟩))
    | (go_at_call 31; ((with_reducible refine (C2.out _).mono ?_); rintro e w' ⟨rfl, rfl⟩))
    | (go_at_call 32; ((with_reducible refine (C3.out _).mono ?_); rintro e w' ⟨rfl, rfl⟩))
    | (go_at_call 32; ((with_reducible refine (C4.out _).mono ?_); rintro e w' ⟨rfl, rfl⟩))
    | (go_at_call 32; ((with_reducible refine (C5.out _).mono ?_); rintro e w' ⟨rfl, rfl⟩)))
  refine leaves_cons (f := 30) (args := #[.pointer (some ⟨w.heap.size + 1, 0, none⟩)]) (by simp) (by simp [go_sem]) ?_
  refine (catch_idle _ _).mono ?_
  rintro e u' w'' ⟨rfl, rfl, rfl⟩
  simp [Leaves, settle, results, Tryd.results16, go_sem]
  exact key_block _ _ _
theorem size_len (x : ByteArray) : x.data.toList.length = x.size := by simp
/-- Whatever the key, Check answers the plain mathematics' number. -/
theorem check_any (st gr : Int) (k p u : ByteArray) (w : World) :
    Calls Tryd.prog 16 #[keyVal st gr k p u] w fun e w' => e = .returned (.int .i64 (Keys.check (skOf st gr k p u) : Int)) ∧ Below w.heap.size w w' := by
  have hv : Keys.check (skOf st gr k p u) = if ¬ (0 ≤ st ∧ st < 64) ∨ ¬ (0 ≤ gr ∧ gr < 64) then 2 else if 64 < k.size ∨ 64 < p.size ∨ 64 < u.size then 3 else 0 := by
    unfold Keys.check; simp only [size_len]
  rw [hv]
  by_cases h0 : 0 ≤ st ∧ st < 64
  · by_cases h1 : 0 ≤ gr ∧ gr < 64
    · rw [if_neg (by omega)]
      by_cases h2 : (k.size : Int) ≤ 64
      · by_cases h3 : (p.size : Int) ≤ 64
        · by_cases h4 : (u.size : Int) ≤ 64
          · rw [if_neg (by omega)]; exact check_ok st gr k p u h0 h1 h2 h3 h4 w
          · rw [if_pos (by omega)]; exact check_u st gr k p u h0 h1 h2 h3 (by omega) w
        · rw [if_pos (by omega)]; exact check_p st gr k p u h0 h1 h2 (by omega) w
      · rw [if_pos (by omega)]; exact check_k st gr k p u h0 h1 (by omega) w
    · rw [if_pos (Or.inr h1)]; exact check_gr st gr k p u h0 h1 w
  · rw [if_pos (Or.inl h0)]; exact check_st st gr k p u h0 w
end Go.Proofs.YtpobfheioondaaaDoor
