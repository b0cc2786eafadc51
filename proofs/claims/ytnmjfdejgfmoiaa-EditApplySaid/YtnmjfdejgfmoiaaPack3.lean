/-
  isNumber, isKey, isLevel, isBelow, isValid; the document's May. No condition.
-/
import Derived.Test.YtnmjfdejgfmoiaaPack2
import Derived.Deep.DrawnRows
import Derived.Deep.RegionHeld
import Derived.Deep.RegionWith
import Derived.Deep.Cut
import Derived.Deep.DeepCutAuto
import Derived.Deep.QuietTactic
import Derived.BigQuiet
import Derived.Laws.EntriesVeiled
import Derived.Maps.OwnSet
namespace Go.Proofs.Ytnmjfdejgfmoiaa
set_option maxRecDepth 100000
open Go.RowKit
/-- May a table be? -/
def MayP (x : Mt) : Prop := 1 ≤ x.num ∧ x.num ≤ 99999998 ∧ 1 ≤ x.size ∧ x.size ≤ 262144 ∧ 1 ≤ x.rows ∧ x.rows ≤ 262144 ∧ 1 ≤ x.fst.size ∧ x.fst.size ≤ 520 ∧ 1 ≤ x.lst.size ∧ x.lst.size ≤ 520 ∧ Op.bytesLess x.lst.toList x.fst.toList = false ∧ 1 ≤ x.least ∧ x.least ≤ x.gr ∧ x.gr < 72057594037927936
instance (x : Mt) : Decidable (MayP x) := by unfold MayP; infer_instance
def NumP (n : Nat) : Prop := 1 ≤ n ∧ n ≤ 99999999
instance (n : Nat) : Decidable (NumP n) := by unfold NumP; infer_instance
def KeyP (s : ByteArray) : Prop := 1 ≤ s.size ∧ s.size ≤ 520
instance (s : ByteArray) : Decidable (KeyP s) := by unfold KeyP; infer_instance
def LevP (i : Int) : Prop := 0 ≤ i ∧ i < 4
instance (i : Int) : Decidable (LevP i) := by unfold LevP; infer_instance
theorem less_or {a b : List UInt8} : (Op.bytesLess b a = false → Op.bytesLess a b = true ∨ (a == b) = true) ∧ (Op.bytesLess b a = true → Op.bytesLess a b = false ∧ (a == b) = false) := by
  rw [less_before, less_before]
  refine ⟨fun h => ?_, fun h => ⟨?_, ?_⟩⟩
  · by_cases e : a = b
    · right; simpa using e
    · left
      rcases WideAt.bytes_total a b e with h1 | h1
      · exact h1
      · rw [h] at h1; cases h1
  · rcases hx : bytesBefore a b with _ | _
    · rfl
    · have := WideShapes.bytes_trans _ _ _ h hx; rw [WideAt.bytes_irrefl] at this; cases this
  · rw [beq_eq_false_iff_ne]; rintro rfl; rw [WideAt.bytes_irrefl] at h; cases h

set_option maxRecDepth 100000 in
set_option maxHeartbeats 2000000 in
theorem isnum_0 (n : Nat) (h0 : ¬ (1 : Int) ≤ (n : Int)) (w : World) : Calls Try.prog 30 #[.int .u64 (n : Int)] w fun e w' => e = .returned (.bool false) ∧ w' = w := by
  go_enter Try.func30, Try.ntmps30
  go_wp2_with fail
  go_returns
  exact ⟨rfl, rfl⟩
set_option maxRecDepth 100000 in
set_option maxHeartbeats 2000000 in
theorem isnum_1 (n : Nat) (h0 : (1 : Int) ≤ (n : Int)) (h1 : ¬ (n : Int) ≤ 99999999) (w : World) : Calls Try.prog 30 #[.int .u64 (n : Int)] w fun e w' => e = .returned (.bool false) ∧ w' = w := by
  go_enter Try.func30, Try.ntmps30
  go_wp2_with fail
  go_returns
  exact ⟨rfl, rfl⟩
set_option maxRecDepth 100000 in
set_option maxHeartbeats 2000000 in
theorem isnum_2 (n : Nat) (h0 : (1 : Int) ≤ (n : Int)) (h1 : (n : Int) ≤ 99999999) (w : World) : Calls Try.prog 30 #[.int .u64 (n : Int)] w fun e w' => e = .returned (.bool true) ∧ w' = w := by
  go_enter Try.func30, Try.ntmps30
  go_wp2_with fail
  go_returns
  exact ⟨rfl, rfl⟩
theorem isnum_any (n : Nat) (w : World) : Calls Try.prog 30 #[.int .u64 (n : Int)] w fun e w' => e = .returned (.bool (decide (NumP n))) ∧ w' = w := by
  by_cases h0 : (1 : Int) ≤ (n : Int)
  · by_cases h1 : (n : Int) ≤ 99999999
    · rw [decide_eq_true (show NumP n by unfold NumP; omega)]; exact isnum_2 n h0 h1 w
    · rw [decide_eq_false (show ¬ NumP n by unfold NumP; omega)]; exact isnum_1 n h0 h1 w
  · rw [decide_eq_false (show ¬ NumP n by unfold NumP; omega)]; exact isnum_0 n h0 w
set_option maxRecDepth 100000 in
set_option maxHeartbeats 2000000 in
theorem islev_0 (i : Int) (h0 : ¬ (0 : Int) ≤ i) (w : World) : Calls Try.prog 36 #[.int .i64 i] w fun e w' => e = .returned (.bool false) ∧ w' = w := by
  go_enter Try.func36, Try.ntmps36
  go_wp2_with fail
  go_returns
  exact ⟨rfl, rfl⟩
set_option maxRecDepth 100000 in
set_option maxHeartbeats 2000000 in
theorem islev_1 (i : Int) (h0 : (0 : Int) ≤ i) (h1 : ¬ i < 4) (w : World) : Calls Try.prog 36 #[.int .i64 i] w fun e w' => e = .returned (.bool false) ∧ w' = w := by
  go_enter Try.func36, Try.ntmps36
  go_wp2_with fail
  go_returns
  exact ⟨rfl, rfl⟩
set_option maxRecDepth 100000 in
set_option maxHeartbeats 2000000 in
theorem islev_2 (i : Int) (h0 : (0 : Int) ≤ i) (h1 : i < 4) (w : World) : Calls Try.prog 36 #[.int .i64 i] w fun e w' => e = .returned (.bool true) ∧ w' = w := by
  go_enter Try.func36, Try.ntmps36
  go_wp2_with fail
  go_returns
  exact ⟨rfl, rfl⟩
theorem islev_any (i : Int) (w : World) : Calls Try.prog 36 #[.int .i64 i] w fun e w' => e = .returned (.bool (decide (LevP i))) ∧ w' = w := by
  by_cases h0 : (0 : Int) ≤ i
  · by_cases h1 : i < 4
    · rw [decide_eq_true (show LevP i from And.intro h0 h1)]; exact islev_2 i h0 h1 w
    · rw [decide_eq_false (show ¬ LevP i from fun h => h1 h.2)]; exact islev_1 i h0 h1 w
  · rw [decide_eq_false (show ¬ LevP i from fun h => h0 h.1)]; exact islev_0 i h0 w
set_option maxRecDepth 100000 in
set_option maxHeartbeats 2000000 in
theorem isbel_0 (x y : Nat) (h0 : ((x : Int) != 0) = false) (w : World) : Calls Try.prog 15 #[.int .u64 (x : Int), .int .u64 (y : Int)] w fun e w' => e = .returned (.bool false) ∧ w' = w := by
  go_enter Try.func15, Try.ntmps15
  go_wp2_with fail
  go_returns
  exact ⟨rfl, rfl⟩
set_option maxRecDepth 100000 in
set_option maxHeartbeats 2000000 in
theorem isbel_1 (x y : Nat) (h0 : ((x : Int) != 0) = true) (h1 : ¬ (x : Int) < (y : Int)) (w : World) : Calls Try.prog 15 #[.int .u64 (x : Int), .int .u64 (y : Int)] w fun e w' => e = .returned (.bool false) ∧ w' = w := by
  go_enter Try.func15, Try.ntmps15
  go_wp2_with fail
  go_returns
  exact ⟨rfl, rfl⟩
set_option maxRecDepth 100000 in
set_option maxHeartbeats 2000000 in
theorem isbel_2 (x y : Nat) (h0 : ((x : Int) != 0) = true) (h1 : (x : Int) < (y : Int)) (w : World) : Calls Try.prog 15 #[.int .u64 (x : Int), .int .u64 (y : Int)] w fun e w' => e = .returned (.bool true) ∧ w' = w := by
  go_enter Try.func15, Try.ntmps15
  go_wp2_with fail
  go_returns
  exact ⟨rfl, rfl⟩
/-- An edit's number is below. -/
def BelP (x y : Nat) : Prop := x ≠ 0 ∧ x < y
instance (x y : Nat) : Decidable (BelP x y) := by unfold BelP; infer_instance
theorem isbel_any (x y : Nat) (w : World) : Calls Try.prog 15 #[.int .u64 (x : Int), .int .u64 (y : Int)] w fun e w' => e = .returned (.bool (decide (BelP x y))) ∧ w' = w := by
  by_cases h0 : x = 0
  · rw [decide_eq_false (show ¬ BelP x y from fun h => h.1 h0)]; exact isbel_0 x y (by subst h0; rfl) w
  · have h2 : ((x : Int) != 0) = true := by rw [bne_iff_ne]; omega
    by_cases h1 : (x : Int) < (y : Int)
    · rw [decide_eq_true (show BelP x y by unfold BelP; omega)]; exact isbel_2 x y h2 h1 w
    · rw [decide_eq_false (show ¬ BelP x y by unfold BelP; omega)]; exact isbel_1 x y h2 h1 w
set_option maxRecDepth 100000 in
set_option maxHeartbeats 2000000 in
theorem iskey_0 (s : ByteArray) (h0 : (s.toList == []) = true) (w : World) : Calls Try.prog 46 #[.string s] w fun e w' => e = .returned (.bool false) ∧ w' = w := by
  go_enter Try.func46, Try.ntmps46
  go_wp2_with fail
  go_returns
  exact ⟨rfl, rfl⟩
set_option maxRecDepth 100000 in
set_option maxHeartbeats 2000000 in
theorem iskey_1 (s : ByteArray) (h0 : (s.toList == []) = false) (h1 : ¬ (s.size : Int) ≤ 520) (w : World) : Calls Try.prog 46 #[.string s] w fun e w' => e = .returned (.bool false) ∧ w' = w := by
  go_enter Try.func46, Try.ntmps46
  go_wp2_with fail
  go_returns
  exact ⟨rfl, rfl⟩
set_option maxRecDepth 100000 in
set_option maxHeartbeats 2000000 in
theorem iskey_2 (s : ByteArray) (h0 : (s.toList == []) = false) (h1 : (s.size : Int) ≤ 520) (w : World) : Calls Try.prog 46 #[.string s] w fun e w' => e = .returned (.bool true) ∧ w' = w := by
  go_enter Try.func46, Try.ntmps46
  go_wp2_with fail
  go_returns
  exact ⟨rfl, rfl⟩
theorem empty_size (s : ByteArray) : (s.toList == []) = decide (s.size = 0) := by
  have e : s.toList.length = s.size := by rw [ByteArray.toList_eq]; simp
  cases h : s.toList with
  | nil => rw [h] at e; simp at e; simp [← e]
  | cons x r => rw [h] at e; simp at e; have : ¬ s.size = 0 := by omega
                simp [this]
theorem iskey_any (s : ByteArray) (w : World) : Calls Try.prog 46 #[.string s] w fun e w' => e = .returned (.bool (decide (KeyP s))) ∧ w' = w := by
  by_cases h0 : s.size = 0
  · rw [decide_eq_false (show ¬ KeyP s by unfold KeyP; omega)]; exact iskey_0 s (by rw [empty_size, decide_eq_true h0]) w
  · have h2 : (s.toList == []) = false := by rw [empty_size, decide_eq_false h0]
    by_cases h1 : (s.size : Int) ≤ 520
    · rw [decide_eq_true (show KeyP s by unfold KeyP; omega)]; exact iskey_2 s h2 h1 w
    · rw [decide_eq_false (show ¬ KeyP s by unfold KeyP; omega)]; exact iskey_1 s h2 h1 w
theorem leq_str (a b : ByteArray) (B : Bool) (h : (Op.bytesLess a.toList b.toList || a.toList == b.toList) = B) (u : World) : (binOp .leq 9 (.string a) (.string b)).run Try.prog u = .ok (.bool B) u := by
  have e : binOp .leq 9 (.string a) (.string b) = pure (.bool (Op.bytesLess a.toList b.toList || a.toList == b.toList)) := by simp [binOp, Op.stringOp]
  rw [e, h]
  rfl
theorem gtr_str (a b : ByteArray) (B : Bool) (h : (!(Op.bytesLess a.toList b.toList || a.toList == b.toList)) = B) (u : World) : (binOp .gtr 9 (.string a) (.string b)).run Try.prog u = .ok (.bool B) u := by
  have e : binOp .gtr 9 (.string a) (.string b) = pure (.bool (!(Op.bytesLess a.toList b.toList || a.toList == b.toList))) := by simp [binOp, Op.stringOp]
  rw [e, h]
  rfl
/-- A table as a value. -/
abbrev mtV (x : Mt) : Value := .agg #[.int .u64 (x.num : Int), .int .i64 x.size, .int .i64 x.rows, .string x.fst, .string x.lst, .int .u64 (x.least : Int), .int .u64 (x.gr : Int)]
abbrev mtO (x : Mt) : Obj := .cells #[.int .u64 (x.num : Int), .int .i64 x.size, .int .i64 x.rows, .string x.fst, .string x.lst, .int .u64 (x.least : Int), .int .u64 (x.gr : Int)] 40 (0, 0)
set_option maxRecDepth 100000 in
set_option maxHeartbeats 2000000 in
theorem valid_0 (num : Nat) (size rows : Int) (fst lst : ByteArray) (least gr : Nat) (h0 : ¬ NumP num) (w : World) : Calls Try.prog 37 #[.agg #[.int .u64 (num : Int), .int .i64 size, .int .i64 rows, .string fst, .string lst, .int .u64 (least : Int), .int .u64 (gr : Int)]] w fun e w' => e = .returned (.bool false) ∧ Below w.heap.size w w' := by
  have NC := Lib.hid (fun u => isnum_any num u)
  rw [decide_eq_false h0] at NC
  have W1 := Lib.hid (below_alloc w (mtO ⟨num, size, rows, fst, lst, least, gr⟩))
  go_enter Try.func37, Try.ntmps37
  go_wp2_with (first
    | (go_at_call 30; ((with_reducible refine (NC.out _).mono ?_); rintro e w1 ⟨rfl, rfl⟩)))
  go_returns
  exact ⟨rfl, W1.out⟩
set_option maxRecDepth 100000 in
set_option maxHeartbeats 2000000 in
theorem valid_1 (num : Nat) (size rows : Int) (fst lst : ByteArray) (least gr : Nat) (h0 : NumP num) (h1 : decide ((num : Int) < 99999999) = false) (w : World) : Calls Try.prog 37 #[.agg #[.int .u64 (num : Int), .int .i64 size, .int .i64 rows, .string fst, .string lst, .int .u64 (least : Int), .int .u64 (gr : Int)]] w fun e w' => e = .returned (.bool false) ∧ Below w.heap.size w w' := by
  have NC := Lib.hid (fun u => isnum_any num u)
  rw [decide_eq_true h0] at NC
  have W1 := Lib.hid (below_alloc w (mtO ⟨num, size, rows, fst, lst, least, gr⟩))
  go_enter Try.func37, Try.ntmps37
  go_wp2_with (first
    | (go_at_call 30; ((with_reducible refine (NC.out _).mono ?_); rintro e w1 ⟨rfl, rfl⟩)))
  go_returns
  exact ⟨rfl, W1.out⟩
set_option maxRecDepth 100000 in
set_option maxHeartbeats 2000000 in
theorem valid_2 (num : Nat) (size rows : Int) (fst lst : ByteArray) (least gr : Nat) (h0 : NumP num) (h1 : decide ((num : Int) < 99999999) = true) (h2 : decide ((1 : Int) ≤ size) = false) (w : World) : Calls Try.prog 37 #[.agg #[.int .u64 (num : Int), .int .i64 size, .int .i64 rows, .string fst, .string lst, .int .u64 (least : Int), .int .u64 (gr : Int)]] w fun e w' => e = .returned (.bool false) ∧ Below w.heap.size w w' := by
  have NC := Lib.hid (fun u => isnum_any num u)
  rw [decide_eq_true h0] at NC
  have W1 := Lib.hid (below_alloc w (mtO ⟨num, size, rows, fst, lst, least, gr⟩))
  go_enter Try.func37, Try.ntmps37
  go_wp2_with (first
    | (go_at_call 30; ((with_reducible refine (NC.out _).mono ?_); rintro e w1 ⟨rfl, rfl⟩)))
  go_returns
  exact ⟨rfl, W1.out⟩
set_option maxRecDepth 100000 in
set_option maxHeartbeats 2000000 in
theorem valid_3 (num : Nat) (size rows : Int) (fst lst : ByteArray) (least gr : Nat) (h0 : NumP num) (h1 : decide ((num : Int) < 99999999) = true) (h2 : decide ((1 : Int) ≤ size) = true) (h3 : decide (size ≤ 262144) = false) (w : World) : Calls Try.prog 37 #[.agg #[.int .u64 (num : Int), .int .i64 size, .int .i64 rows, .string fst, .string lst, .int .u64 (least : Int), .int .u64 (gr : Int)]] w fun e w' => e = .returned (.bool false) ∧ Below w.heap.size w w' := by
  have NC := Lib.hid (fun u => isnum_any num u)
  rw [decide_eq_true h0] at NC
  have W1 := Lib.hid (below_alloc w (mtO ⟨num, size, rows, fst, lst, least, gr⟩))
  go_enter Try.func37, Try.ntmps37
  go_wp2_with (first
    | (go_at_call 30; ((with_reducible refine (NC.out _).mono ?_); rintro e w1 ⟨rfl, rfl⟩)))
  go_returns
  exact ⟨rfl, W1.out⟩
set_option maxRecDepth 100000 in
set_option maxHeartbeats 2000000 in
theorem valid_4 (num : Nat) (size rows : Int) (fst lst : ByteArray) (least gr : Nat) (h0 : NumP num) (h1 : decide ((num : Int) < 99999999) = true) (h2 : decide ((1 : Int) ≤ size) = true) (h3 : decide (size ≤ 262144) = true) (h4 : decide ((1 : Int) ≤ rows) = false) (w : World) : Calls Try.prog 37 #[.agg #[.int .u64 (num : Int), .int .i64 size, .int .i64 rows, .string fst, .string lst, .int .u64 (least : Int), .int .u64 (gr : Int)]] w fun e w' => e = .returned (.bool false) ∧ Below w.heap.size w w' := by
  have NC := Lib.hid (fun u => isnum_any num u)
  rw [decide_eq_true h0] at NC
  have W1 := Lib.hid (below_alloc w (mtO ⟨num, size, rows, fst, lst, least, gr⟩))
  go_enter Try.func37, Try.ntmps37
  go_wp2_with (first
    | (go_at_call 30; ((with_reducible refine (NC.out _).mono ?_); rintro e w1 ⟨rfl, rfl⟩)))
  go_returns
  exact ⟨rfl, W1.out⟩
set_option maxRecDepth 100000 in
set_option maxHeartbeats 2000000 in
theorem valid_5 (num : Nat) (size rows : Int) (fst lst : ByteArray) (least gr : Nat) (h0 : NumP num) (h1 : decide ((num : Int) < 99999999) = true) (h2 : decide ((1 : Int) ≤ size) = true) (h3 : decide (size ≤ 262144) = true) (h4 : decide ((1 : Int) ≤ rows) = true) (h5 : decide (rows ≤ 262144) = false) (w : World) : Calls Try.prog 37 #[.agg #[.int .u64 (num : Int), .int .i64 size, .int .i64 rows, .string fst, .string lst, .int .u64 (least : Int), .int .u64 (gr : Int)]] w fun e w' => e = .returned (.bool false) ∧ Below w.heap.size w w' := by
  have NC := Lib.hid (fun u => isnum_any num u)
  rw [decide_eq_true h0] at NC
  have W1 := Lib.hid (below_alloc w (mtO ⟨num, size, rows, fst, lst, least, gr⟩))
  go_enter Try.func37, Try.ntmps37
  go_wp2_with (first
    | (go_at_call 30; ((with_reducible refine (NC.out _).mono ?_); rintro e w1 ⟨rfl, rfl⟩)))
  go_returns
  exact ⟨rfl, W1.out⟩
set_option maxRecDepth 100000 in
set_option maxHeartbeats 2000000 in
theorem valid_6 (num : Nat) (size rows : Int) (fst lst : ByteArray) (least gr : Nat) (h0 : NumP num) (h1 : decide ((num : Int) < 99999999) = true) (h2 : decide ((1 : Int) ≤ size) = true) (h3 : decide (size ≤ 262144) = true) (h4 : decide ((1 : Int) ≤ rows) = true) (h5 : decide (rows ≤ 262144) = true) (h6 : ¬ KeyP fst) (w : World) : Calls Try.prog 37 #[.agg #[.int .u64 (num : Int), .int .i64 size, .int .i64 rows, .string fst, .string lst, .int .u64 (least : Int), .int .u64 (gr : Int)]] w fun e w' => e = .returned (.bool false) ∧ Below w.heap.size w w' := by
  have NC := Lib.hid (fun u => isnum_any num u)
  rw [decide_eq_true h0] at NC
  have KF := Lib.hid (fun u => iskey_any fst u)
  rw [decide_eq_false h6] at KF
  have W1 := Lib.hid (below_alloc w (mtO ⟨num, size, rows, fst, lst, least, gr⟩))
  go_enter Try.func37, Try.ntmps37
  go_wp2_with (first
    | (go_at_call 30; ((with_reducible refine (NC.out _).mono ?_); rintro e w1 ⟨rfl, rfl⟩))
    | (go_at_call 46; ((with_reducible refine (KF.out _).mono ?_); rintro e w1 ⟨rfl, rfl⟩)))
  go_returns
  exact ⟨rfl, W1.out⟩
set_option maxRecDepth 100000 in
set_option maxHeartbeats 2000000 in
theorem valid_7 (num : Nat) (size rows : Int) (fst lst : ByteArray) (least gr : Nat) (h0 : NumP num) (h1 : decide ((num : Int) < 99999999) = true) (h2 : decide ((1 : Int) ≤ size) = true) (h3 : decide (size ≤ 262144) = true) (h4 : decide ((1 : Int) ≤ rows) = true) (h5 : decide (rows ≤ 262144) = true) (h6 : KeyP fst) (h7 : ¬ KeyP lst) (w : World) : Calls Try.prog 37 #[.agg #[.int .u64 (num : Int), .int .i64 size, .int .i64 rows, .string fst, .string lst, .int .u64 (least : Int), .int .u64 (gr : Int)]] w fun e w' => e = .returned (.bool false) ∧ Below w.heap.size w w' := by
  have NC := Lib.hid (fun u => isnum_any num u)
  rw [decide_eq_true h0] at NC
  have KF := Lib.hid (fun u => iskey_any fst u)
  rw [decide_eq_true h6] at KF
  have KL := Lib.hid (fun u => iskey_any lst u)
  rw [decide_eq_false h7] at KL
  have W1 := Lib.hid (below_alloc w (mtO ⟨num, size, rows, fst, lst, least, gr⟩))
  go_enter Try.func37, Try.ntmps37
  go_wp2_with (first
    | (go_at_call 30; ((with_reducible refine (NC.out _).mono ?_); rintro e w1 ⟨rfl, rfl⟩))
    | (go_at_call 46; ((with_reducible refine (KF.out _).mono ?_); rintro e w1 ⟨rfl, rfl⟩))
    | (go_at_call 46; ((with_reducible refine (KL.out _).mono ?_); rintro e w1 ⟨rfl, rfl⟩)))
  go_returns
  exact ⟨rfl, W1.out⟩
set_option maxRecDepth 100000 in
set_option maxHeartbeats 2000000 in
theorem valid_8 (num : Nat) (size rows : Int) (fst lst : ByteArray) (least gr : Nat) (h0 : NumP num) (h1 : decide ((num : Int) < 99999999) = true) (h2 : decide ((1 : Int) ≤ size) = true) (h3 : decide (size ≤ 262144) = true) (h4 : decide ((1 : Int) ≤ rows) = true) (h5 : decide (rows ≤ 262144) = true) (h6 : KeyP fst) (h7 : KeyP lst) (h8 : (Op.bytesLess fst.toList lst.toList || fst.toList == lst.toList) = false) (w : World) : Calls Try.prog 37 #[.agg #[.int .u64 (num : Int), .int .i64 size, .int .i64 rows, .string fst, .string lst, .int .u64 (least : Int), .int .u64 (gr : Int)]] w fun e w' => e = .returned (.bool false) ∧ Below w.heap.size w w' := by
  have NC := Lib.hid (fun u => isnum_any num u)
  rw [decide_eq_true h0] at NC
  have KF := Lib.hid (fun u => iskey_any fst u)
  rw [decide_eq_true h6] at KF
  have KL := Lib.hid (fun u => iskey_any lst u)
  rw [decide_eq_true h7] at KL
  have LQ : ∀ u : World, (binOp .leq 9 (.string fst) (.string lst)).run Try.prog u = .ok (.bool false) u := fun u => leq_str _ _ _ h8 u
  clear h8
  have W1 := Lib.hid (below_alloc w (mtO ⟨num, size, rows, fst, lst, least, gr⟩))
  go_enter Try.func37, Try.ntmps37
  go_wp2_with (first
    | (go_at_call 30; ((with_reducible refine (NC.out _).mono ?_); rintro e w1 ⟨rfl, rfl⟩))
    | (go_at_call 46; ((with_reducible refine (KF.out _).mono ?_); rintro e w1 ⟨rfl, rfl⟩))
    | (go_at_call 46; ((with_reducible refine (KL.out _).mono ?_); rintro e w1 ⟨rfl, rfl⟩)))
  go_returns
  exact ⟨rfl, W1.out⟩
set_option maxRecDepth 100000 in
set_option maxHeartbeats 2000000 in
theorem valid_9 (num : Nat) (size rows : Int) (fst lst : ByteArray) (least gr : Nat) (h0 : NumP num) (h1 : decide ((num : Int) < 99999999) = true) (h2 : decide ((1 : Int) ≤ size) = true) (h3 : decide (size ≤ 262144) = true) (h4 : decide ((1 : Int) ≤ rows) = true) (h5 : decide (rows ≤ 262144) = true) (h6 : KeyP fst) (h7 : KeyP lst) (h8 : (Op.bytesLess fst.toList lst.toList || fst.toList == lst.toList) = true) (h9 : decide ((1 : Int) ≤ (least : Int)) = false) (w : World) : Calls Try.prog 37 #[.agg #[.int .u64 (num : Int), .int .i64 size, .int .i64 rows, .string fst, .string lst, .int .u64 (least : Int), .int .u64 (gr : Int)]] w fun e w' => e = .returned (.bool false) ∧ Below w.heap.size w w' := by
  have NC := Lib.hid (fun u => isnum_any num u)
  rw [decide_eq_true h0] at NC
  have KF := Lib.hid (fun u => iskey_any fst u)
  rw [decide_eq_true h6] at KF
  have KL := Lib.hid (fun u => iskey_any lst u)
  rw [decide_eq_true h7] at KL
  have LQ : ∀ u : World, (binOp .leq 9 (.string fst) (.string lst)).run Try.prog u = .ok (.bool true) u := fun u => leq_str _ _ _ h8 u
  clear h8
  have W1 := Lib.hid (below_alloc w (mtO ⟨num, size, rows, fst, lst, least, gr⟩))
  go_enter Try.func37, Try.ntmps37
  go_wp2_with (first
    | (go_at_call 30; ((with_reducible refine (NC.out _).mono ?_); rintro e w1 ⟨rfl, rfl⟩))
    | (go_at_call 46; ((with_reducible refine (KF.out _).mono ?_); rintro e w1 ⟨rfl, rfl⟩))
    | (go_at_call 46; ((with_reducible refine (KL.out _).mono ?_); rintro e w1 ⟨rfl, rfl⟩)))
  go_returns
  exact ⟨rfl, W1.out⟩
set_option maxRecDepth 100000 in
set_option maxHeartbeats 2000000 in
theorem valid_10 (num : Nat) (size rows : Int) (fst lst : ByteArray) (least gr : Nat) (h0 : NumP num) (h1 : decide ((num : Int) < 99999999) = true) (h2 : decide ((1 : Int) ≤ size) = true) (h3 : decide (size ≤ 262144) = true) (h4 : decide ((1 : Int) ≤ rows) = true) (h5 : decide (rows ≤ 262144) = true) (h6 : KeyP fst) (h7 : KeyP lst) (h8 : (Op.bytesLess fst.toList lst.toList || fst.toList == lst.toList) = true) (h9 : decide ((1 : Int) ≤ (least : Int)) = true) (h10 : decide (least ≤ gr) = false) (w : World) : Calls Try.prog 37 #[.agg #[.int .u64 (num : Int), .int .i64 size, .int .i64 rows, .string fst, .string lst, .int .u64 (least : Int), .int .u64 (gr : Int)]] w fun e w' => e = .returned (.bool false) ∧ Below w.heap.size w w' := by
  have NC := Lib.hid (fun u => isnum_any num u)
  rw [decide_eq_true h0] at NC
  have KF := Lib.hid (fun u => iskey_any fst u)
  rw [decide_eq_true h6] at KF
  have KL := Lib.hid (fun u => iskey_any lst u)
  rw [decide_eq_true h7] at KL
  have LQ : ∀ u : World, (binOp .leq 9 (.string fst) (.string lst)).run Try.prog u = .ok (.bool true) u := fun u => leq_str _ _ _ h8 u
  clear h8
  have W1 := Lib.hid (below_alloc w (mtO ⟨num, size, rows, fst, lst, least, gr⟩))
  go_enter Try.func37, Try.ntmps37
  go_wp2_with (first
    | (go_at_call 30; ((with_reducible refine (NC.out _).mono ?_); rintro e w1 ⟨rfl, rfl⟩))
    | (go_at_call 46; ((with_reducible refine (KF.out _).mono ?_); rintro e w1 ⟨rfl, rfl⟩))
    | (go_at_call 46; ((with_reducible refine (KL.out _).mono ?_); rintro e w1 ⟨rfl, rfl⟩)))
  go_returns
  exact ⟨rfl, W1.out⟩
set_option maxRecDepth 100000 in
set_option maxHeartbeats 2000000 in
theorem valid_11 (num : Nat) (size rows : Int) (fst lst : ByteArray) (least gr : Nat) (h0 : NumP num) (h1 : decide ((num : Int) < 99999999) = true) (h2 : decide ((1 : Int) ≤ size) = true) (h3 : decide (size ≤ 262144) = true) (h4 : decide ((1 : Int) ≤ rows) = true) (h5 : decide (rows ≤ 262144) = true) (h6 : KeyP fst) (h7 : KeyP lst) (h8 : (Op.bytesLess fst.toList lst.toList || fst.toList == lst.toList) = true) (h9 : decide ((1 : Int) ≤ (least : Int)) = true) (h10 : decide (least ≤ gr) = true) (h11 : decide ((gr : Int) < 72057594037927936) = false) (w : World) : Calls Try.prog 37 #[.agg #[.int .u64 (num : Int), .int .i64 size, .int .i64 rows, .string fst, .string lst, .int .u64 (least : Int), .int .u64 (gr : Int)]] w fun e w' => e = .returned (.bool false) ∧ Below w.heap.size w w' := by
  have NC := Lib.hid (fun u => isnum_any num u)
  rw [decide_eq_true h0] at NC
  have KF := Lib.hid (fun u => iskey_any fst u)
  rw [decide_eq_true h6] at KF
  have KL := Lib.hid (fun u => iskey_any lst u)
  rw [decide_eq_true h7] at KL
  have LQ : ∀ u : World, (binOp .leq 9 (.string fst) (.string lst)).run Try.prog u = .ok (.bool true) u := fun u => leq_str _ _ _ h8 u
  clear h8
  have W1 := Lib.hid (below_alloc w (mtO ⟨num, size, rows, fst, lst, least, gr⟩))
  go_enter Try.func37, Try.ntmps37
  go_wp2_with (first
    | (go_at_call 30; ((with_reducible refine (NC.out _).mono ?_); rintro e w1 ⟨rfl, rfl⟩))
    | (go_at_call 46; ((with_reducible refine (KF.out _).mono ?_); rintro e w1 ⟨rfl, rfl⟩))
    | (go_at_call 46; ((with_reducible refine (KL.out _).mono ?_); rintro e w1 ⟨rfl, rfl⟩)))
  go_returns
  exact ⟨rfl, W1.out⟩
set_option maxRecDepth 100000 in
set_option maxHeartbeats 2000000 in
theorem valid_12 (num : Nat) (size rows : Int) (fst lst : ByteArray) (least gr : Nat) (h0 : NumP num) (h1 : decide ((num : Int) < 99999999) = true) (h2 : decide ((1 : Int) ≤ size) = true) (h3 : decide (size ≤ 262144) = true) (h4 : decide ((1 : Int) ≤ rows) = true) (h5 : decide (rows ≤ 262144) = true) (h6 : KeyP fst) (h7 : KeyP lst) (h8 : (Op.bytesLess fst.toList lst.toList || fst.toList == lst.toList) = true) (h9 : decide ((1 : Int) ≤ (least : Int)) = true) (h10 : decide (least ≤ gr) = true) (h11 : decide ((gr : Int) < 72057594037927936) = true) (w : World) : Calls Try.prog 37 #[.agg #[.int .u64 (num : Int), .int .i64 size, .int .i64 rows, .string fst, .string lst, .int .u64 (least : Int), .int .u64 (gr : Int)]] w fun e w' => e = .returned (.bool true) ∧ Below w.heap.size w w' := by
  have NC := Lib.hid (fun u => isnum_any num u)
  rw [decide_eq_true h0] at NC
  have KF := Lib.hid (fun u => iskey_any fst u)
  rw [decide_eq_true h6] at KF
  have KL := Lib.hid (fun u => iskey_any lst u)
  rw [decide_eq_true h7] at KL
  have LQ : ∀ u : World, (binOp .leq 9 (.string fst) (.string lst)).run Try.prog u = .ok (.bool true) u := fun u => leq_str _ _ _ h8 u
  clear h8
  have W1 := Lib.hid (below_alloc w (mtO ⟨num, size, rows, fst, lst, least, gr⟩))
  go_enter Try.func37, Try.ntmps37
  go_wp2_with (first
    | (go_at_call 30; ((with_reducible refine (NC.out _).mono ?_); rintro e w1 ⟨rfl, rfl⟩))
    | (go_at_call 46; ((with_reducible refine (KF.out _).mono ?_); rintro e w1 ⟨rfl, rfl⟩))
    | (go_at_call 46; ((with_reducible refine (KL.out _).mono ?_); rintro e w1 ⟨rfl, rfl⟩)))
  go_returns
  exact ⟨rfl, W1.out⟩
theorem mayP_iff {num : Nat} {size rows : Int} {fst lst : ByteArray} {least gr : Nat} : MayP ⟨num, size, rows, fst, lst, least, gr⟩ ↔ NumP num ∧ (num : Int) < 99999999 ∧ (1 : Int) ≤ size ∧ size ≤ 262144 ∧ (1 : Int) ≤ rows ∧ rows ≤ 262144 ∧ KeyP fst ∧ KeyP lst ∧ (Op.bytesLess fst.toList lst.toList || fst.toList == lst.toList) = true ∧ (1 : Int) ≤ (least : Int) ∧ least ≤ gr ∧ (gr : Int) < 72057594037927936 := by
  have hl : (Op.bytesLess fst.toList lst.toList || fst.toList == lst.toList) = true ↔ Op.bytesLess lst.toList fst.toList = false := by
    rw [Bool.or_eq_true]
    constructor
    · intro h
      rcases hx : Op.bytesLess lst.toList fst.toList with _ | _
      · rfl
      · obtain ⟨h1, h2⟩ := less_or.2 hx
        rcases h with h | h
        · rw [h1] at h; cases h
        · rw [h2] at h; cases h
    · exact less_or.1
  unfold MayP NumP KeyP
  simp only
  rw [hl]
  constructor
  · rintro ⟨a0, a1, a2, a3, a4, a5, a6, a7, a8, a9, a10, a11, a12, a13⟩
    exact ⟨by omega, by omega, a2, a3, a4, a5, by omega, by omega, a10, by omega, by omega, by omega⟩
  · rintro ⟨a0, a1, a2, a3, a4, a5, a6, a7, a8, a9, a10, a11⟩
    exact ⟨by omega, by omega, a2, a3, a4, a5, by omega, by omega, by omega, by omega, a8, by omega, by omega, by omega⟩
theorem valid_any (x : Mt) (w : World) : Calls Try.prog 37 #[mtV x] w fun e w' => e = .returned (.bool (decide (MayP x))) ∧ Below w.heap.size w w' := by
  obtain ⟨num, size, rows, fst, lst, least, gr⟩ := x
  by_cases h0 : NumP num
  rotate_left 1
  · rw [decide_eq_false (fun h => h0 (mayP_iff.1 h).1)]
    exact valid_0 num size rows fst lst least gr h0 w
  by_cases h1 : (num : Int) < 99999999
  rotate_left 1
  · rw [decide_eq_false (fun h => h1 (mayP_iff.1 h).2.1)]
    exact valid_1 num size rows fst lst least gr h0 (decide_eq_false h1) w
  by_cases h2 : (1 : Int) ≤ size
  rotate_left 1
  · rw [decide_eq_false (fun h => h2 (mayP_iff.1 h).2.2.1)]
    exact valid_2 num size rows fst lst least gr h0 (decide_eq_true h1) (decide_eq_false h2) w
  by_cases h3 : size ≤ 262144
  rotate_left 1
  · rw [decide_eq_false (fun h => h3 (mayP_iff.1 h).2.2.2.1)]
    exact valid_3 num size rows fst lst least gr h0 (decide_eq_true h1) (decide_eq_true h2) (decide_eq_false h3) w
  by_cases h4 : (1 : Int) ≤ rows
  rotate_left 1
  · rw [decide_eq_false (fun h => h4 (mayP_iff.1 h).2.2.2.2.1)]
    exact valid_4 num size rows fst lst least gr h0 (decide_eq_true h1) (decide_eq_true h2) (decide_eq_true h3) (decide_eq_false h4) w
  by_cases h5 : rows ≤ 262144
  rotate_left 1
  · rw [decide_eq_false (fun h => h5 (mayP_iff.1 h).2.2.2.2.2.1)]
    exact valid_5 num size rows fst lst least gr h0 (decide_eq_true h1) (decide_eq_true h2) (decide_eq_true h3) (decide_eq_true h4) (decide_eq_false h5) w
  by_cases h6 : KeyP fst
  rotate_left 1
  · rw [decide_eq_false (fun h => h6 (mayP_iff.1 h).2.2.2.2.2.2.1)]
    exact valid_6 num size rows fst lst least gr h0 (decide_eq_true h1) (decide_eq_true h2) (decide_eq_true h3) (decide_eq_true h4) (decide_eq_true h5) h6 w
  by_cases h7 : KeyP lst
  rotate_left 1
  · rw [decide_eq_false (fun h => h7 (mayP_iff.1 h).2.2.2.2.2.2.2.1)]
    exact valid_7 num size rows fst lst least gr h0 (decide_eq_true h1) (decide_eq_true h2) (decide_eq_true h3) (decide_eq_true h4) (decide_eq_true h5) h6 h7 w
  by_cases h8 : (Op.bytesLess fst.toList lst.toList || fst.toList == lst.toList) = true
  rotate_left 1
  · rw [decide_eq_false (fun h => h8 (mayP_iff.1 h).2.2.2.2.2.2.2.2.1)]
    exact valid_8 num size rows fst lst least gr h0 (decide_eq_true h1) (decide_eq_true h2) (decide_eq_true h3) (decide_eq_true h4) (decide_eq_true h5) h6 h7 (by simpa using h8) w
  by_cases h9 : (1 : Int) ≤ (least : Int)
  rotate_left 1
  · rw [decide_eq_false (fun h => h9 (mayP_iff.1 h).2.2.2.2.2.2.2.2.2.1)]
    exact valid_9 num size rows fst lst least gr h0 (decide_eq_true h1) (decide_eq_true h2) (decide_eq_true h3) (decide_eq_true h4) (decide_eq_true h5) h6 h7 h8 (decide_eq_false h9) w
  by_cases h10 : least ≤ gr
  rotate_left 1
  · rw [decide_eq_false (fun h => h10 (mayP_iff.1 h).2.2.2.2.2.2.2.2.2.2.1)]
    exact valid_10 num size rows fst lst least gr h0 (decide_eq_true h1) (decide_eq_true h2) (decide_eq_true h3) (decide_eq_true h4) (decide_eq_true h5) h6 h7 h8 (decide_eq_true h9) (decide_eq_false h10) w
  by_cases h11 : (gr : Int) < 72057594037927936
  rotate_left 1
  · rw [decide_eq_false (fun h => h11 (mayP_iff.1 h).2.2.2.2.2.2.2.2.2.2.2)]
    exact valid_11 num size rows fst lst least gr h0 (decide_eq_true h1) (decide_eq_true h2) (decide_eq_true h3) (decide_eq_true h4) (decide_eq_true h5) h6 h7 h8 (decide_eq_true h9) (decide_eq_true h10) (decide_eq_false h11) w
  rw [decide_eq_true (mayP_iff.2 ⟨h0, h1, h2, h3, h4, h5, h6, h7, h8, h9, h10, h11⟩)]
  exact valid_12 num size rows fst lst least gr h0 (decide_eq_true h1) (decide_eq_true h2) (decide_eq_true h3) (decide_eq_true h4) (decide_eq_true h5) h6 h7 h8 (decide_eq_true h9) (decide_eq_true h10) (decide_eq_true h11) w
set_option maxRecDepth 100000 in
set_option maxHeartbeats 2000000 in
theorem rmay_0 (num : Nat) (size rows : Int) (fst lst : ByteArray) (least gr : Nat) (h0 : (num : Int) < 1) (w : World) : Calls Try.prog 44 #[.agg #[.int .u64 (num : Int), .int .i64 size, .int .i64 rows, .string fst, .string lst, .int .u64 (least : Int), .int .u64 (gr : Int)]] w fun e w' => e = .returned (.bool false) ∧ Below w.heap.size w w' := by
  have W1 := Lib.hid (below_alloc w (mtO ⟨num, size, rows, fst, lst, least, gr⟩))
  go_enter Try.func44, Try.ntmps44
  go_wp2_with fail
  go_returns
  exact ⟨rfl, W1.out⟩
set_option maxRecDepth 100000 in
set_option maxHeartbeats 2000000 in
theorem rmay_1 (num : Nat) (size rows : Int) (fst lst : ByteArray) (least gr : Nat) (h0 : ¬ (num : Int) < 1) (h1 : (99999998 : Int) < (num : Int)) (w : World) : Calls Try.prog 44 #[.agg #[.int .u64 (num : Int), .int .i64 size, .int .i64 rows, .string fst, .string lst, .int .u64 (least : Int), .int .u64 (gr : Int)]] w fun e w' => e = .returned (.bool false) ∧ Below w.heap.size w w' := by
  have W1 := Lib.hid (below_alloc w (mtO ⟨num, size, rows, fst, lst, least, gr⟩))
  go_enter Try.func44, Try.ntmps44
  go_wp2_with fail
  go_returns
  exact ⟨rfl, W1.out⟩
set_option maxRecDepth 100000 in
set_option maxHeartbeats 2000000 in
theorem rmay_2 (num : Nat) (size rows : Int) (fst lst : ByteArray) (least gr : Nat) (h0 : ¬ (num : Int) < 1) (h1 : ¬ (99999998 : Int) < (num : Int)) (h2 : size < 1) (w : World) : Calls Try.prog 44 #[.agg #[.int .u64 (num : Int), .int .i64 size, .int .i64 rows, .string fst, .string lst, .int .u64 (least : Int), .int .u64 (gr : Int)]] w fun e w' => e = .returned (.bool false) ∧ Below w.heap.size w w' := by
  have W1 := Lib.hid (below_alloc w (mtO ⟨num, size, rows, fst, lst, least, gr⟩))
  go_enter Try.func44, Try.ntmps44
  go_wp2_with fail
  go_returns
  exact ⟨rfl, W1.out⟩
set_option maxRecDepth 100000 in
set_option maxHeartbeats 2000000 in
theorem rmay_3 (num : Nat) (size rows : Int) (fst lst : ByteArray) (least gr : Nat) (h0 : ¬ (num : Int) < 1) (h1 : ¬ (99999998 : Int) < (num : Int)) (h2 : ¬ size < 1) (h3 : (262144 : Int) < size) (w : World) : Calls Try.prog 44 #[.agg #[.int .u64 (num : Int), .int .i64 size, .int .i64 rows, .string fst, .string lst, .int .u64 (least : Int), .int .u64 (gr : Int)]] w fun e w' => e = .returned (.bool false) ∧ Below w.heap.size w w' := by
  have W1 := Lib.hid (below_alloc w (mtO ⟨num, size, rows, fst, lst, least, gr⟩))
  go_enter Try.func44, Try.ntmps44
  go_wp2_with fail
  go_returns
  exact ⟨rfl, W1.out⟩
set_option maxRecDepth 100000 in
set_option maxHeartbeats 2000000 in
theorem rmay_4 (num : Nat) (size rows : Int) (fst lst : ByteArray) (least gr : Nat) (h0 : ¬ (num : Int) < 1) (h1 : ¬ (99999998 : Int) < (num : Int)) (h2 : ¬ size < 1) (h3 : ¬ (262144 : Int) < size) (h4 : rows < 1) (w : World) : Calls Try.prog 44 #[.agg #[.int .u64 (num : Int), .int .i64 size, .int .i64 rows, .string fst, .string lst, .int .u64 (least : Int), .int .u64 (gr : Int)]] w fun e w' => e = .returned (.bool false) ∧ Below w.heap.size w w' := by
  have W1 := Lib.hid (below_alloc w (mtO ⟨num, size, rows, fst, lst, least, gr⟩))
  go_enter Try.func44, Try.ntmps44
  go_wp2_with fail
  go_returns
  exact ⟨rfl, W1.out⟩
set_option maxRecDepth 100000 in
set_option maxHeartbeats 2000000 in
theorem rmay_5 (num : Nat) (size rows : Int) (fst lst : ByteArray) (least gr : Nat) (h0 : ¬ (num : Int) < 1) (h1 : ¬ (99999998 : Int) < (num : Int)) (h2 : ¬ size < 1) (h3 : ¬ (262144 : Int) < size) (h4 : ¬ rows < 1) (h5 : (262144 : Int) < rows) (w : World) : Calls Try.prog 44 #[.agg #[.int .u64 (num : Int), .int .i64 size, .int .i64 rows, .string fst, .string lst, .int .u64 (least : Int), .int .u64 (gr : Int)]] w fun e w' => e = .returned (.bool false) ∧ Below w.heap.size w w' := by
  have W1 := Lib.hid (below_alloc w (mtO ⟨num, size, rows, fst, lst, least, gr⟩))
  go_enter Try.func44, Try.ntmps44
  go_wp2_with fail
  go_returns
  exact ⟨rfl, W1.out⟩
set_option maxRecDepth 100000 in
set_option maxHeartbeats 2000000 in
theorem rmay_6 (num : Nat) (size rows : Int) (fst lst : ByteArray) (least gr : Nat) (h0 : ¬ (num : Int) < 1) (h1 : ¬ (99999998 : Int) < (num : Int)) (h2 : ¬ size < 1) (h3 : ¬ (262144 : Int) < size) (h4 : ¬ rows < 1) (h5 : ¬ (262144 : Int) < rows) (h6 : (fst.size : Int) < 1) (w : World) : Calls Try.prog 44 #[.agg #[.int .u64 (num : Int), .int .i64 size, .int .i64 rows, .string fst, .string lst, .int .u64 (least : Int), .int .u64 (gr : Int)]] w fun e w' => e = .returned (.bool false) ∧ Below w.heap.size w w' := by
  have W1 := Lib.hid (below_alloc w (mtO ⟨num, size, rows, fst, lst, least, gr⟩))
  go_enter Try.func44, Try.ntmps44
  go_wp2_with fail
  go_returns
  exact ⟨rfl, W1.out⟩
set_option maxRecDepth 100000 in
set_option maxHeartbeats 2000000 in
theorem rmay_7 (num : Nat) (size rows : Int) (fst lst : ByteArray) (least gr : Nat) (h0 : ¬ (num : Int) < 1) (h1 : ¬ (99999998 : Int) < (num : Int)) (h2 : ¬ size < 1) (h3 : ¬ (262144 : Int) < size) (h4 : ¬ rows < 1) (h5 : ¬ (262144 : Int) < rows) (h6 : ¬ (fst.size : Int) < 1) (h7 : (520 : Int) < (fst.size : Int)) (w : World) : Calls Try.prog 44 #[.agg #[.int .u64 (num : Int), .int .i64 size, .int .i64 rows, .string fst, .string lst, .int .u64 (least : Int), .int .u64 (gr : Int)]] w fun e w' => e = .returned (.bool false) ∧ Below w.heap.size w w' := by
  have W1 := Lib.hid (below_alloc w (mtO ⟨num, size, rows, fst, lst, least, gr⟩))
  go_enter Try.func44, Try.ntmps44
  go_wp2_with fail
  go_returns
  exact ⟨rfl, W1.out⟩
set_option maxRecDepth 100000 in
set_option maxHeartbeats 2000000 in
theorem rmay_8 (num : Nat) (size rows : Int) (fst lst : ByteArray) (least gr : Nat) (h0 : ¬ (num : Int) < 1) (h1 : ¬ (99999998 : Int) < (num : Int)) (h2 : ¬ size < 1) (h3 : ¬ (262144 : Int) < size) (h4 : ¬ rows < 1) (h5 : ¬ (262144 : Int) < rows) (h6 : ¬ (fst.size : Int) < 1) (h7 : ¬ (520 : Int) < (fst.size : Int)) (h8 : (lst.size : Int) < 1) (w : World) : Calls Try.prog 44 #[.agg #[.int .u64 (num : Int), .int .i64 size, .int .i64 rows, .string fst, .string lst, .int .u64 (least : Int), .int .u64 (gr : Int)]] w fun e w' => e = .returned (.bool false) ∧ Below w.heap.size w w' := by
  have W1 := Lib.hid (below_alloc w (mtO ⟨num, size, rows, fst, lst, least, gr⟩))
  go_enter Try.func44, Try.ntmps44
  go_wp2_with fail
  go_returns
  exact ⟨rfl, W1.out⟩
set_option maxRecDepth 100000 in
set_option maxHeartbeats 2000000 in
theorem rmay_9 (num : Nat) (size rows : Int) (fst lst : ByteArray) (least gr : Nat) (h0 : ¬ (num : Int) < 1) (h1 : ¬ (99999998 : Int) < (num : Int)) (h2 : ¬ size < 1) (h3 : ¬ (262144 : Int) < size) (h4 : ¬ rows < 1) (h5 : ¬ (262144 : Int) < rows) (h6 : ¬ (fst.size : Int) < 1) (h7 : ¬ (520 : Int) < (fst.size : Int)) (h8 : ¬ (lst.size : Int) < 1) (h9 : (520 : Int) < (lst.size : Int)) (w : World) : Calls Try.prog 44 #[.agg #[.int .u64 (num : Int), .int .i64 size, .int .i64 rows, .string fst, .string lst, .int .u64 (least : Int), .int .u64 (gr : Int)]] w fun e w' => e = .returned (.bool false) ∧ Below w.heap.size w w' := by
  have W1 := Lib.hid (below_alloc w (mtO ⟨num, size, rows, fst, lst, least, gr⟩))
  go_enter Try.func44, Try.ntmps44
  go_wp2_with fail
  go_returns
  exact ⟨rfl, W1.out⟩
set_option maxRecDepth 100000 in
set_option maxHeartbeats 2000000 in
theorem rmay_10 (num : Nat) (size rows : Int) (fst lst : ByteArray) (least gr : Nat) (h0 : ¬ (num : Int) < 1) (h1 : ¬ (99999998 : Int) < (num : Int)) (h2 : ¬ size < 1) (h3 : ¬ (262144 : Int) < size) (h4 : ¬ rows < 1) (h5 : ¬ (262144 : Int) < rows) (h6 : ¬ (fst.size : Int) < 1) (h7 : ¬ (520 : Int) < (fst.size : Int)) (h8 : ¬ (lst.size : Int) < 1) (h9 : ¬ (520 : Int) < (lst.size : Int)) (h10 : (!(Op.bytesLess fst.toList lst.toList || fst.toList == lst.toList)) = true) (w : World) : Calls Try.prog 44 #[.agg #[.int .u64 (num : Int), .int .i64 size, .int .i64 rows, .string fst, .string lst, .int .u64 (least : Int), .int .u64 (gr : Int)]] w fun e w' => e = .returned (.bool false) ∧ Below w.heap.size w w' := by
  have GQ : ∀ u : World, (binOp .gtr 9 (.string fst) (.string lst)).run Try.prog u = .ok (.bool true) u := fun u => gtr_str _ _ _ h10 u
  clear h10
  have W1 := Lib.hid (below_alloc w (mtO ⟨num, size, rows, fst, lst, least, gr⟩))
  go_enter Try.func44, Try.ntmps44
  go_wp2_with fail
  go_returns
  exact ⟨rfl, W1.out⟩
set_option maxRecDepth 100000 in
set_option maxHeartbeats 2000000 in
theorem rmay_11 (num : Nat) (size rows : Int) (fst lst : ByteArray) (least gr : Nat) (h0 : ¬ (num : Int) < 1) (h1 : ¬ (99999998 : Int) < (num : Int)) (h2 : ¬ size < 1) (h3 : ¬ (262144 : Int) < size) (h4 : ¬ rows < 1) (h5 : ¬ (262144 : Int) < rows) (h6 : ¬ (fst.size : Int) < 1) (h7 : ¬ (520 : Int) < (fst.size : Int)) (h8 : ¬ (lst.size : Int) < 1) (h9 : ¬ (520 : Int) < (lst.size : Int)) (h10 : (!(Op.bytesLess fst.toList lst.toList || fst.toList == lst.toList)) = false) (h11 : ¬ (1 : Int) ≤ (least : Int)) (w : World) : Calls Try.prog 44 #[.agg #[.int .u64 (num : Int), .int .i64 size, .int .i64 rows, .string fst, .string lst, .int .u64 (least : Int), .int .u64 (gr : Int)]] w fun e w' => e = .returned (.bool false) ∧ Below w.heap.size w w' := by
  have GQ : ∀ u : World, (binOp .gtr 9 (.string fst) (.string lst)).run Try.prog u = .ok (.bool false) u := fun u => gtr_str _ _ _ h10 u
  clear h10
  have W1 := Lib.hid (below_alloc w (mtO ⟨num, size, rows, fst, lst, least, gr⟩))
  go_enter Try.func44, Try.ntmps44
  go_wp2_with fail
  go_returns
  exact ⟨rfl, W1.out⟩
set_option maxRecDepth 100000 in
set_option maxHeartbeats 2000000 in
theorem rmay_12 (num : Nat) (size rows : Int) (fst lst : ByteArray) (least gr : Nat) (h0 : ¬ (num : Int) < 1) (h1 : ¬ (99999998 : Int) < (num : Int)) (h2 : ¬ size < 1) (h3 : ¬ (262144 : Int) < size) (h4 : ¬ rows < 1) (h5 : ¬ (262144 : Int) < rows) (h6 : ¬ (fst.size : Int) < 1) (h7 : ¬ (520 : Int) < (fst.size : Int)) (h8 : ¬ (lst.size : Int) < 1) (h9 : ¬ (520 : Int) < (lst.size : Int)) (h10 : (!(Op.bytesLess fst.toList lst.toList || fst.toList == lst.toList)) = false) (h11 : (1 : Int) ≤ (least : Int)) (h12 : ¬ (least : Int) ≤ (gr : Int)) (w : World) : Calls Try.prog 44 #[.agg #[.int .u64 (num : Int), .int .i64 size, .int .i64 rows, .string fst, .string lst, .int .u64 (least : Int), .int .u64 (gr : Int)]] w fun e w' => e = .returned (.bool false) ∧ Below w.heap.size w w' := by
  have GQ : ∀ u : World, (binOp .gtr 9 (.string fst) (.string lst)).run Try.prog u = .ok (.bool false) u := fun u => gtr_str _ _ _ h10 u
  clear h10
  have W1 := Lib.hid (below_alloc w (mtO ⟨num, size, rows, fst, lst, least, gr⟩))
  go_enter Try.func44, Try.ntmps44
  go_wp2_with fail
  go_returns
  exact ⟨rfl, W1.out⟩
set_option maxRecDepth 100000 in
set_option maxHeartbeats 2000000 in
theorem rmay_13 (num : Nat) (size rows : Int) (fst lst : ByteArray) (least gr : Nat) (h0 : ¬ (num : Int) < 1) (h1 : ¬ (99999998 : Int) < (num : Int)) (h2 : ¬ size < 1) (h3 : ¬ (262144 : Int) < size) (h4 : ¬ rows < 1) (h5 : ¬ (262144 : Int) < rows) (h6 : ¬ (fst.size : Int) < 1) (h7 : ¬ (520 : Int) < (fst.size : Int)) (h8 : ¬ (lst.size : Int) < 1) (h9 : ¬ (520 : Int) < (lst.size : Int)) (h10 : (!(Op.bytesLess fst.toList lst.toList || fst.toList == lst.toList)) = false) (h11 : (1 : Int) ≤ (least : Int)) (h12 : (least : Int) ≤ (gr : Int)) (h13 : ¬ (gr : Int) < 72057594037927936) (w : World) : Calls Try.prog 44 #[.agg #[.int .u64 (num : Int), .int .i64 size, .int .i64 rows, .string fst, .string lst, .int .u64 (least : Int), .int .u64 (gr : Int)]] w fun e w' => e = .returned (.bool false) ∧ Below w.heap.size w w' := by
  have GQ : ∀ u : World, (binOp .gtr 9 (.string fst) (.string lst)).run Try.prog u = .ok (.bool false) u := fun u => gtr_str _ _ _ h10 u
  clear h10
  have W1 := Lib.hid (below_alloc w (mtO ⟨num, size, rows, fst, lst, least, gr⟩))
  go_enter Try.func44, Try.ntmps44
  go_wp2_with fail
  go_returns
  exact ⟨rfl, W1.out⟩
set_option maxRecDepth 100000 in
set_option maxHeartbeats 2000000 in
theorem rmay_14 (num : Nat) (size rows : Int) (fst lst : ByteArray) (least gr : Nat) (h0 : ¬ (num : Int) < 1) (h1 : ¬ (99999998 : Int) < (num : Int)) (h2 : ¬ size < 1) (h3 : ¬ (262144 : Int) < size) (h4 : ¬ rows < 1) (h5 : ¬ (262144 : Int) < rows) (h6 : ¬ (fst.size : Int) < 1) (h7 : ¬ (520 : Int) < (fst.size : Int)) (h8 : ¬ (lst.size : Int) < 1) (h9 : ¬ (520 : Int) < (lst.size : Int)) (h10 : (!(Op.bytesLess fst.toList lst.toList || fst.toList == lst.toList)) = false) (h11 : (1 : Int) ≤ (least : Int)) (h12 : (least : Int) ≤ (gr : Int)) (h13 : (gr : Int) < 72057594037927936) (w : World) : Calls Try.prog 44 #[.agg #[.int .u64 (num : Int), .int .i64 size, .int .i64 rows, .string fst, .string lst, .int .u64 (least : Int), .int .u64 (gr : Int)]] w fun e w' => e = .returned (.bool true) ∧ Below w.heap.size w w' := by
  have GQ : ∀ u : World, (binOp .gtr 9 (.string fst) (.string lst)).run Try.prog u = .ok (.bool false) u := fun u => gtr_str _ _ _ h10 u
  clear h10
  have W1 := Lib.hid (below_alloc w (mtO ⟨num, size, rows, fst, lst, least, gr⟩))
  go_enter Try.func44, Try.ntmps44
  go_wp2_with fail
  go_returns
  exact ⟨rfl, W1.out⟩
theorem rmay_any (x : Mt) (w : World) : Calls Try.prog 44 #[mtV x] w fun e w' => e = .returned (.bool (decide (MayP x))) ∧ Below w.heap.size w w' := by
  obtain ⟨num, size, rows, fst, lst, least, gr⟩ := x
  by_cases h0 : (num : Int) < 1
  · rw [decide_eq_false (show ¬ MayP ⟨num, size, rows, fst, lst, least, gr⟩ from fun h => (by have := (mayP_iff.1 h).1; unfold NumP at this; omega : False))]
    exact rmay_0 num size rows fst lst least gr h0 w
  by_cases h1 : (99999998 : Int) < (num : Int)
  · rw [decide_eq_false (show ¬ MayP ⟨num, size, rows, fst, lst, least, gr⟩ from fun h => (by have := (mayP_iff.1 h).2.1; omega : False))]
    exact rmay_1 num size rows fst lst least gr h0 h1 w
  by_cases h2 : size < 1
  · rw [decide_eq_false (show ¬ MayP ⟨num, size, rows, fst, lst, least, gr⟩ from fun h => (by have := (mayP_iff.1 h).2.2.1; omega : False))]
    exact rmay_2 num size rows fst lst least gr h0 h1 h2 w
  by_cases h3 : (262144 : Int) < size
  · rw [decide_eq_false (show ¬ MayP ⟨num, size, rows, fst, lst, least, gr⟩ from fun h => (by have := (mayP_iff.1 h).2.2.2.1; omega : False))]
    exact rmay_3 num size rows fst lst least gr h0 h1 h2 h3 w
  by_cases h4 : rows < 1
  · rw [decide_eq_false (show ¬ MayP ⟨num, size, rows, fst, lst, least, gr⟩ from fun h => (by have := (mayP_iff.1 h).2.2.2.2.1; omega : False))]
    exact rmay_4 num size rows fst lst least gr h0 h1 h2 h3 h4 w
  by_cases h5 : (262144 : Int) < rows
  · rw [decide_eq_false (show ¬ MayP ⟨num, size, rows, fst, lst, least, gr⟩ from fun h => (by have := (mayP_iff.1 h).2.2.2.2.2.1; omega : False))]
    exact rmay_5 num size rows fst lst least gr h0 h1 h2 h3 h4 h5 w
  by_cases h6 : (fst.size : Int) < 1
  · rw [decide_eq_false (show ¬ MayP ⟨num, size, rows, fst, lst, least, gr⟩ from fun h => (by have := (mayP_iff.1 h).2.2.2.2.2.2.1; unfold KeyP at this; omega : False))]
    exact rmay_6 num size rows fst lst least gr h0 h1 h2 h3 h4 h5 h6 w
  by_cases h7 : (520 : Int) < (fst.size : Int)
  · rw [decide_eq_false (show ¬ MayP ⟨num, size, rows, fst, lst, least, gr⟩ from fun h => (by have := (mayP_iff.1 h).2.2.2.2.2.2.1; unfold KeyP at this; omega : False))]
    exact rmay_7 num size rows fst lst least gr h0 h1 h2 h3 h4 h5 h6 h7 w
  by_cases h8 : (lst.size : Int) < 1
  · rw [decide_eq_false (show ¬ MayP ⟨num, size, rows, fst, lst, least, gr⟩ from fun h => (by have := (mayP_iff.1 h).2.2.2.2.2.2.2.1; unfold KeyP at this; omega : False))]
    exact rmay_8 num size rows fst lst least gr h0 h1 h2 h3 h4 h5 h6 h7 h8 w
  by_cases h9 : (520 : Int) < (lst.size : Int)
  · rw [decide_eq_false (show ¬ MayP ⟨num, size, rows, fst, lst, least, gr⟩ from fun h => (by have := (mayP_iff.1 h).2.2.2.2.2.2.2.1; unfold KeyP at this; omega : False))]
    exact rmay_9 num size rows fst lst least gr h0 h1 h2 h3 h4 h5 h6 h7 h8 h9 w
  by_cases h10 : (!(Op.bytesLess fst.toList lst.toList || fst.toList == lst.toList)) = true
  · rw [decide_eq_false (show ¬ MayP ⟨num, size, rows, fst, lst, least, gr⟩ from fun h => (by rw [(mayP_iff.1 h).2.2.2.2.2.2.2.2.1] at h10; simp at h10 : False))]
    exact rmay_10 num size rows fst lst least gr h0 h1 h2 h3 h4 h5 h6 h7 h8 h9 h10 w
  replace h10 : (!(Op.bytesLess fst.toList lst.toList || fst.toList == lst.toList)) = false := by simpa using h10
  by_cases h11 : (1 : Int) ≤ (least : Int)
  rotate_left 1
  · rw [decide_eq_false (show ¬ MayP ⟨num, size, rows, fst, lst, least, gr⟩ from fun h => (by have := (mayP_iff.1 h).2.2.2.2.2.2.2.2.2.1; omega : False))]
    exact rmay_11 num size rows fst lst least gr h0 h1 h2 h3 h4 h5 h6 h7 h8 h9 h10 h11 w
  by_cases h12 : (least : Int) ≤ (gr : Int)
  rotate_left 1
  · rw [decide_eq_false (show ¬ MayP ⟨num, size, rows, fst, lst, least, gr⟩ from fun h => (by have := (mayP_iff.1 h).2.2.2.2.2.2.2.2.2.2.1; omega : False))]
    exact rmay_12 num size rows fst lst least gr h0 h1 h2 h3 h4 h5 h6 h7 h8 h9 h10 h11 h12 w
  by_cases h13 : (gr : Int) < 72057594037927936
  rotate_left 1
  · rw [decide_eq_false (show ¬ MayP ⟨num, size, rows, fst, lst, least, gr⟩ from fun h => (by have := (mayP_iff.1 h).2.2.2.2.2.2.2.2.2.2.2; omega : False))]
    exact rmay_13 num size rows fst lst least gr h0 h1 h2 h3 h4 h5 h6 h7 h8 h9 h10 h11 h12 h13 w
  rw [decide_eq_true (mayP_iff.2 ⟨by unfold NumP; omega, by omega, by omega, by omega, by omega, by omega, by unfold KeyP; omega, by unfold KeyP; omega, by revert h10; cases (Op.bytesLess fst.toList lst.toList || fst.toList == lst.toList) <;> simp, h11, by omega, h13⟩)]
  exact rmay_14 num size rows fst lst least gr h0 h1 h2 h3 h4 h5 h6 h7 h8 h9 h10 h11 h12 h13 w
end Go.Proofs.Ytnmjfdejgfmoiaa
/-
  A set of numbers as a map; what one holds of tables in a list. No condition.
-/
namespace Go.Proofs.Ytnmjfdejgfmoiaa
set_option maxRecDepth 100000
open Go Go.RowKit
noncomputable def tf (p : Prop) : Bool := @decide p (Classical.propDecidable p)
theorem tf_true {p : Prop} (h : p) : tf p = true := @decide_eq_true p (Classical.propDecidable p) h
theorem tf_false {p : Prop} (h : ¬ p) : tf p = false := @decide_eq_false p (Classical.propDecidable p) h
theorem tf_iff {p : Prop} : tf p = true ↔ p := @decide_eq_true_iff p (Classical.propDecidable p)
theorem tf_not {p : Prop} : tf p = false ↔ ¬ p := @decide_eq_false_iff_not p (Classical.propDecidable p)
theorem tf_congr {p q : Prop} (h : p ↔ q) : tf p = tf q := by rw [show p = q from propext h]
theorem tf_dec {p : Prop} [d : Decidable p] : decide p = tf p := by
  by_cases h : p
  · rw [tf_true h, decide_eq_true h]
  · rw [tf_false h, decide_eq_false h]
theorem But.of_grown {b : Nat} {w w' : World} (h : w.grownBy w' (some b)) : But b w w' :=
  ⟨h.os, h.tape, h.output, h.size, fun k hk hb => h.block k hk (fun e => hb (Option.some.inj e))⟩
theorem lawU : Maps.Keyed Try.prog 22 := Maps.int_keyed Try.underlying22
theorem zeroS (w : World) : (zeroValue 81).run Try.prog w = .ok (.agg #[]) w := by kernel_rfl
theorem keyU {x : Nat} (h : x ≤ 18446744073709551615) : keyOf Try.prog 22 (.int .u64 (x : Int)) = some (.int .u64 (x : Int)) := Maps.keyOf_int_mk Try.underlying22 (by simp [Lit.wf, IntKind.min, IntKind.max, IntKind.signed, IntKind.bits]; omega)
/-- Block b is a map of at most n entries; its keys are the numbers of S. -/
def SetAt (b n : Nat) (S : List Nat) (w : World) : Prop := ∃ D : DataW Unit, w.ownsMap Try.prog 22 (unitElem (H := Unit)) b n D ∧ ∀ x : Nat, Maps.has D (.int .u64 (x : Int)) = tf (x ∈ S)
theorem SetAt.new (w : World) : SetAt w.heap.size 0 [] (w.alloc (.map #[] 0)) := ⟨_, World.ownsMap_made w Try.prog _ _, fun x => by rw [tf_false (by simp)]; rfl⟩
theorem SetAt.lt {b n : Nat} {S : List Nat} {w : World} (h : SetAt b n S w) : b < w.heap.size := by obtain ⟨D, h1, _⟩ := h; exact h1.lt
theorem SetAt.keep {b n : Nat} {S : List Nat} {w w' : World} (h : SetAt b n S w) (hk : w'.heap[b]? = w.heap[b]?) : SetAt b n S w' := by
  obtain ⟨D, ⟨es, c, h1, h2⟩, h3⟩ := h
  exact ⟨D, ⟨es, c, hk.trans h1, h2⟩, h3⟩
theorem SetAt.below {b n : Nat} {S : List Nat} {w w' : World} (h : SetAt b n S w) (hb : Below w.heap.size w w') : SetAt b n S w' := h.keep (hb.block b h.lt)
theorem SetAt.put {b n : Nat} {S : List Nat} {w' : World} {D : DataW Unit} {x : Nat} {v : DataW Unit} (h : w'.ownsMap Try.prog 22 (unitElem (H := Unit)) b n (D.put (.int .u64 (x : Int)) v)) (hm : Maps.IsMap D) (hs : ∀ x : Nat, Maps.has D (.int .u64 (x : Int)) = tf (x ∈ S)) : SetAt b n (x :: S) w' := by
  refine ⟨_, h, fun y => ?_⟩
  by_cases e : y = x
  · subst e
    rw [Maps.has_put_same hm (by trivial), tf_true (by simp)]
  · rw [Maps.has_put_other (by simp; omega), hs y]
    exact tf_congr (by simp [e])
theorem SetAt.congr {b n : Nat} {S T : List Nat} {w : World} (h : SetAt b n S w) (e : ∀ x, x ∈ S ↔ x ∈ T) : SetAt b n T w := by
  obtain ⟨D, h1, h2⟩ := h
  exact ⟨D, h1, fun x => by rw [h2 x]; exact tf_congr (e x)⟩
/-- A map is no block of cells. -/
theorem SetAt.ne {b n : Nat} {S : List Nat} {w : World} (h : SetAt b n S w) {p o : Nat} {v : Value} (hc : w.cell? ⟨p, o, none⟩ = some v) : p ≠ b := by
  rintro rfl
  obtain ⟨D, ⟨es, c, h1, _⟩, _⟩ := h
  simp [World.cell?, h1] at hc
theorem SetAt.nem {b n : Nat} {S : List Nat} {w : World} (h : SetAt b n S w) {hd : Hd} {l : List Mt} (k : Ms hd l w) : 0 < hd.n → hd.b ≠ b := fun h0 => by
  obtain ⟨x, _, _, _, c0, _⟩ := k.at7 h0
  exact h.ne c0
theorem SetAt.nep {b n : Nat} {S : List Nat} {w : World} (h : SetAt b n S w) {hd : Hd} {l : List Pl} (k : Ps hd l w) : 0 < hd.n → hd.b ≠ b := fun h0 => by
  obtain ⟨x, _, _, _, c0, _⟩ := k.at8 h0
  exact h.ne c0
theorem Ms.but {h : Hd} {l : List Mt} {w w' : World} {b : Nat} (k : Ms h l w) (hb : But b w w') (hne : 0 < h.n → h.b ≠ b) : Ms h l w' := ⟨k.sl.keep (fun h0 => hb.block _ (k.sl.addr h0).2 (hne h0)) hb.size, k.none'⟩
theorem Ps.but {h : Hd} {l : List Pl} {w w' : World} {b : Nat} (k : Ps h l w) (hb : But b w w') (hne : 0 < h.n → h.b ≠ b) : Ps h l w' := ⟨k.sl.keep (fun h0 => hb.block _ (k.sl.addr h0).2 (hne h0)) hb.size, k.none'⟩
theorem Gs.but {h : Hd} {l : List Gn} {w w' : World} {b : Nat} (k : Gs h l w) (hb : But b w w') (hne : 0 < h.n → h.b ≠ b) : Gs h l w' := ⟨k.sl.keep (fun h0 => hb.block _ (k.sl.addr h0).2 (hne h0)) hb.size, k.none'⟩
/-- What one holds of each of a list's elements, up to j. -/
def AllTo {α : Type} (P : α → Prop) (l : List α) (j : Nat) : Prop := ∀ i x, i < j → l[i]? = some x → P x
theorem AllTo.zero {α : Type} {P : α → Prop} {l : List α} : AllTo P l 0 := fun i x hi => absurd hi (Nat.not_lt_zero i)
theorem AllTo.succ {α : Type} {P : α → Prop} {l : List α} {j : Nat} {x : α} (h : AllTo P l j) (hx : l[j]? = some x) (hp : P x) : AllTo P l (j + 1) := fun i y hi hy => by
  rcases Nat.lt_or_ge i j with h1 | h1
  · exact h i y h1 hy
  · obtain rfl : i = j := by omega
    rw [hx] at hy; cases hy; exact hp
theorem AllTo.all {α : Type} {P : α → Prop} {l : List α} {n : Nat} (h : AllTo P l n) (hl : l.length = n) : ∀ x ∈ l, P x := fun x hx => by
  obtain ⟨i, hi, rfl⟩ := List.mem_iff_getElem.1 hx
  exact h i _ (by omega) (List.getElem?_eq_getElem hi)
theorem not_all {α : Type} {P : α → Prop} {l : List α} {j : Nat} {x : α} (hx : l[j]? = some x) (hp : ¬ P x) : ¬ ∀ x ∈ l, P x := fun h => hp (h x (List.mem_of_getElem? hx))
theorem mt_mem {l : List Mt} {j : Nat} {x : Mt} (hx : l[j]? = some x) : x ∈ l := List.mem_of_getElem? hx
/-- No number stands twice, nor among those of S. -/
def NewP (S : List Nat) (l : List Mt) : Prop := (l.map Mt.num).Nodup ∧ ∀ x ∈ l, x.num ∉ S
theorem newP_step {S : List Nat} {l : List Mt} {j : Nat} {x : Mt} (h : NewP S (l.take j)) (hx : l[j]? = some x) (hn : x.num ∉ (l.take j).map Mt.num ++ S) : NewP S (l.take (j + 1)) := by
  have e : l.take (j + 1) = l.take j ++ [x] := by rw [List.take_add_one, hx]; rfl
  rw [e]
  refine ⟨?_, fun y hy => ?_⟩
  · rw [List.map_append, List.nodup_append]
    refine ⟨h.1, by simp, fun a ha b hb => ?_⟩
    simp at hb
    subst hb
    rintro rfl
    exact hn (List.mem_append_left _ ha)
  · rcases List.mem_append.1 hy with hy | hy
    · exact h.2 y hy
    · simp at hy; subst hy
      exact fun hs => hn (List.mem_append_right _ hs)
theorem newP_no {S : List Nat} {l : List Mt} {j : Nat} {x : Mt} (hx : l[j]? = some x) (hn : x.num ∈ (l.take j).map Mt.num ++ S) : ¬ NewP S l := by
  rintro ⟨h1, h2⟩
  rcases List.mem_append.1 hn with h | h
  · obtain ⟨y, hy, he⟩ := List.mem_map.1 h
    obtain ⟨i, hi⟩ := List.mem_iff_getElem?.1 hy
    have hij : i < j := by
      have := (List.getElem?_eq_some_iff.1 hi).1
      rw [List.length_take] at this; omega
    rw [List.getElem?_take, if_pos hij] at hi
    have hl := (List.getElem?_eq_some_iff.1 hx).1
    have a1 : (l.map Mt.num)[i]? = some x.num := by rw [List.getElem?_map, hi]; simp [he]
    have a2 : (l.map Mt.num)[j]? = some x.num := by rw [List.getElem?_map, hx]; rfl
    obtain ⟨b1, c1⟩ := List.getElem?_eq_some_iff.1 a1
    obtain ⟨b2, c2⟩ := List.getElem?_eq_some_iff.1 a2
    exact (List.pairwise_iff_getElem.1 h1 i j b1 b2 hij) (c1.trans c2.symm)
  · exact h2 x (mt_mem hx) h
/-- The order of a level. -/
def ordP (bn : Bool) (x y : Mt) : Prop := if bn = true then x.num < y.num else Op.bytesLess x.lst.toList y.fst.toList = true
def OrdP (bn : Bool) (l : List Mt) : Prop := ∀ i x y, l[i]? = some x → l[i + 1]? = some y → ordP bn x y
end Go.Proofs.Ytnmjfdejgfmoiaa
