/-
  What sorting numbers owes; the contract of slices.Sort at one number; slices.Clone at numbers. Condition: at most 1000000 numbers.
-/
import Derived.Test.YtkkegdhnkefogaaMergeLook
import Derived.Test.YtkkegdhnkefogaaShelf
import Derived.Test.YtkkegdhnkefogaaRefWith
import Derived.Laws.Cover3
namespace Go.Proofs.Ytkkegdhnkefogaa
set_option maxRecDepth 100000
open Go.RowKit
/-- Sort does its work at so many numbers. -/
def SortOK (n : Nat) : Prop := ∀ (B : Nat) (v : Value) (D : List Nat) (u : World), D.length = n → B ≤ u.heap.size → u.ownsRow B 31 1 v n (rowU D) →
  Calls Try.prog 37 #[v] u fun e u' => e = .returned (.tuple #[]) ∧ ∃ D' : List Nat, D'.Perm D ∧ D'.Pairwise (· ≤ ·) ∧ u'.ownsRow B 31 1 v n (rowU D') ∧ u.grownBy u' v.ownBlock
set_option maxRecDepth 100000 in
set_option maxHeartbeats 2000000 in
theorem ins_one (p : Option Addr) (n c : Nat) (w : World) : Calls Try.prog 55 #[.slice p n c, .int .i64 0, .int .i64 1] w fun e w' => e = .returned (.tuple #[]) ∧ w' = w := by
  go_enter Try.func55, Try.ntmps55
  go_wp2_with fail
  go_loopw [6] (fun i wr => i = .int .i64 1 ∧ wr = w) (fun _ _ => 0)
  case atStart => exact ⟨rfl, rfl⟩
  case round =>
    obtain ⟨rfl, rfl⟩ := hrel
    go_wp2_with fail
    go_returns
    exact ⟨rfl, rfl⟩
set_option maxRecDepth 100000 in
set_option maxHeartbeats 4000000 in
theorem pdq_one (p : Option Addr) (n c : Nat) (lim : Int) (w : World) : Calls Try.prog 49 #[.slice p n c, .int .i64 0, .int .i64 1, .int .i64 lim] w fun e w' => e = .returned (.tuple #[]) ∧ w' = w := by
  have IC := Lib.hid (fun u => ins_one p n c u)
  go_enter Try.func49, Try.ntmps49
  go_wp2_with fail
  go_loopw [1, 2, 3] (fun a b l wr => a = .int .i64 0 ∧ b = .int .i64 1 ∧ l = .int .i64 lim ∧ wr = w) (fun _ _ _ _ => 0)
  case atStart => exact ⟨rfl, rfl, rfl, rfl⟩
  case round =>
    obtain ⟨rfl, rfl, rfl, rfl⟩ := hrel
    go_wp2_with (go_at_call 55; ((with_reducible refine (IC.out _).mono ?_); rintro e w1 ⟨rfl, rfl⟩))
    go_returns
    exact ⟨rfl, rfl⟩
set_option maxRecDepth 100000 in
set_option maxHeartbeats 4000000 in
theorem sort_one : SortOK 1 := by
  intro B v D u hD hB hrow
  obtain ⟨x, rfl⟩ : ∃ x, D = [x] := by
    match D, hD with
    | [x], _ => exact ⟨x, rfl⟩
  obtain ⟨p, c, hv⟩ : ∃ p c, v = .slice p 1 c := by
    rcases hrow.2 with ⟨_, h0⟩ | ⟨g, cap, cur, h1, _⟩
    · cases h0
    · exact ⟨_, _, h1⟩
  have hres : u.grownBy u v.ownBlock := ⟨rfl, rfl, rfl, Nat.le_refl _, fun _ _ _ => rfl⟩
  subst hv
  have LN := Lib.hid (fun w => Try.bits_Len 1 w (by omega) (by omega))
  have PC := Lib.hid (fun l w => pdq_one p 1 c l w)
  have hrow := Lib.hid hrow
  go_enter Try.func37, Try.ntmps37
  go_wp2_with (first
    | (go_at_call 50; ((with_reducible refine (LN.out _).mono ?_); rintro e w1 ⟨rfl, rfl⟩))
    | (go_at_call 49; ((with_reducible refine (PC.out _ _).mono ?_); rintro e w1 ⟨rfl, rfl⟩)))
  go_returns
  exact ⟨rfl, [x], List.Perm.refl _, List.pairwise_singleton _ _, hrow.out, hres⟩
theorem infoU : (Try.prog.info? 31).map (fun i => (i.zero, i.size, i.bytes)) = some (some (.int .u64 0), 1, 8) := by kernel_rfl
theorem u_one (l : List Nat) : ∀ u ∈ rowU l, u.oneCell' = true := by
  intro u hu
  unfold rowU cellsU at hu
  obtain ⟨x, _, hx⟩ := List.mem_flatMap.1 hu
  rw [List.mem_singleton] at hx
  rw [hx]; rfl
theorem slu_src {a : Option Addr} {n c b o : Nat} {D : List Nat} {w : World} (h : SlOf 1 cellsU a n c b o D w) : ∀ p, a = some p → ∀ j u, (rowU D)[j]? = some u → w.cell? (p.add j) = some u := by
  intro p hp j u hu
  have hj := (List.getElem?_eq_some_iff.1 hu).1
  rw [rowU_len, h.len] at hj
  obtain ⟨x, hx, ha, hc⟩ := h.at1 hj
  rw [ha] at hp
  obtain rfl := Option.some.inj hp
  rw [rowU_at D j hx] at hu
  obtain rfl := Option.some.inj hu
  rw [addr_plus]; exact hc
theorem eql_nilU (a : Option Addr) (n c : Nat) (w : World) : (binOp .eql 37 (.slice a n c) (.slice none 0 0)).run Try.prog w = .ok (.bool a.isNone) w := by
  simp only [binOp]
  simp [run_equal_slice_nil w 37 31 a n c Try.underlying37]
attribute [local go_sem] eql_nilU
set_option maxRecDepth 100000 in
set_option maxHeartbeats 4000000 in
theorem clone_any {a : Option Addr} {n c b o : Nat} {D : List Nat} {w : World} (h : SlOf 1 cellsU a n c b o D w) (hnil : a = none → c = 0) (hn : n ≤ 1000000) :
    Calls Try.prog 36 #[.slice a n c] w fun e w' => ∃ v, e = .returned v ∧ w'.ownsRow w.heap.size 31 1 v D.length (rowU D) ∧ Below w.heap.size w w' := by
  have hlen := h.len
  have hcap := h.cap
  cases a with
  | none =>
    have hc := hnil rfl
    subst hc
    obtain rfl : n = 0 := by omega
    obtain rfl : D = [] := List.length_eq_zero_iff.1 hlen
    clear h
    go_enter Try.func36, Try.ntmps36
    go_wp2_with fail
    go_returns
    exact ⟨_, rfl, World.ownsRow_nil _ _ _ _, Below.refl _ _⟩
  | some ad =>
    have H0 := Lib.hid (row_zero (w := w.alloc (.cells #[] 31)) (g := w.heap.size) (B := w.heap.size) (size := 1) (e := 31) (heap_alloc_new _ _) (Nat.le_refl _))
    have h1 := Lib.hid (h.below (below_alloc w (.cells #[] 31)) (Nat.le_refl _))
    have B1 := Lib.hid (below_alloc w (.cells #[] 31))
    clear h
    go_enter Try.func36, Try.ntmps36
    go_wp2_with (at_builtin; refine wpList_append_src rfl _ _ 37 rfl w.heap.size 31 1 8 (.int .u64 0) Try.underlying37 infoU rfl (by decide) (by decide) _ 0 [] (some ad) n c (rowU D) H0.out (fun e => by cases e) (by rw [rowU_len, hlen, Nat.mul_one]) (slu_src h1.out) rfl rfl (u_one D) (by omega) (by omega) B1.out.size ?_; intro v4 w4 own4 grow4 sh4; obtain ⟨va4, vc4, rfl⟩ := sh4; have B4 := Lib.hid (B1.out.grown grow4 B1.out.size (fun k hk => by cases hk; exact Nat.le_refl _)); rw [Nat.zero_add, List.nil_append] at own4; have P4 := Lib.hid own4; rw [Nat.zero_add]; clear own4 grow4)
    go_returns
    exact ⟨_, rfl, by rw [hlen]; exact P4.out, B4.out⟩
end Go.Proofs.Ytkkegdhnkefogaa
