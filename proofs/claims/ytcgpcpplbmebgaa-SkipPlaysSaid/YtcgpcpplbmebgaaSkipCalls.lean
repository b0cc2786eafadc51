/-
  The contracts of the list's Len, Height, Steps, of Put on no list. No condition.
-/
import Derived.Test.YtcgpcpplbmebgaaSkipIter
namespace Go.Proofs.Ytcgpcpplbmebgaa
open Go.RowKit
attribute [local go_sem] eq_node ne_node eq_list
set_option maxRecDepth 100000 in
set_option maxHeartbeats 2000000 in
theorem len_any {q : Option Addr} {ns : List Nd} {w : World} (h : LsA q ns w) : Calls Try.prog 18 #[.pointer q] w fun e w' => e = .returned (.int .i64 (ns.length : Int)) ∧ w' = w := by
  rcases h with ⟨rfl, rfl⟩ | ⟨p, rfl, h⟩
  · go_enter Try.func18, Try.ntmps18
    go_wp2_with fail
    go_returns
    exact ⟨rfl, rfl⟩
  · have c := h.many
    clear h
    go_enter Try.func18, Try.ntmps18
    go_wp2_with fail
    go_returns
    exact ⟨rfl, rfl⟩
set_option maxRecDepth 100000 in
set_option maxHeartbeats 2000000 in
theorem height_any {q : Option Addr} {ns : List Nd} {w : World} (h : LsA q ns w) : Calls Try.prog 19 #[.pointer q] w fun e w' => e = .returned (.int .i64 (topH (hgtsN ns) : Int)) ∧ w' = w := by
  rcases h with ⟨rfl, rfl⟩ | ⟨p, rfl, h⟩
  · rw [show topH (hgtsN []) = 0 from rfl]
    go_enter Try.func19, Try.ntmps19
    go_wp2_with fail
    go_returns
    exact ⟨rfl, rfl⟩
  · have c := h.top
    clear h
    go_enter Try.func19, Try.ntmps19
    go_wp2_with fail
    go_returns
    exact ⟨rfl, rfl⟩
set_option maxRecDepth 100000 in
set_option maxHeartbeats 2000000 in
theorem steps_any {q : Option Addr} {ns : List Nd} {w : World} (h : LsA q ns w) (hn : ns.length ≤ 4611686018427387904) (k : ByteArray) (s : Nat) : Calls Try.prog 16 #[.pointer q, .string k, .int .u64 (s : Int)] w fun e w' => e = .returned (.int .i64 (stp ((hgtsN ns).take (plN ns k s)) : Int)) ∧ Below w.heap.size w w' := by
  rcases h with ⟨rfl, rfl⟩ | ⟨p, rfl, h⟩
  · rw [show stp ((hgtsN []).take (plN [] k s)) = 0 from by simp [hgtsN]; rfl]
    go_enter Try.func16, Try.ntmps16
    go_wp2_with fail
    go_returns
    exact ⟨rfl, Below.refl _ _⟩
  · have C := Lib.hid (search_any h hn k s)
    rw [bfc_full] at C
    clear h
    go_enter Try.func16, Try.ntmps16
    go_wp2_with fail
    refine C.out.mono ?_
    rintro e w' ⟨rfl, hb⟩
    go_wp2_with fail
    go_returns
    exact ⟨rfl, below_of hb (below_alloc _ _)⟩
set_option maxRecDepth 100000 in
set_option maxHeartbeats 2000000 in
theorem put_none (x : Rw) (hgt : Int) (w : World) : Calls Try.prog 11 #[.pointer none, rowV x, .int .i64 hgt] w fun e w' => e = .returned (.bool false) ∧ Below w.heap.size w w' := by
  obtain ⟨xk, xs, xi, xv⟩ := x
  have W0 := Lib.hid (below_alloc w (.cells #[.string xk, .int .u64 (xs : Int), .int .i64 xi, .string xv] 36))
  go_enter Try.func11, Try.ntmps11
  go_wp2_with fail
  go_returns
  exact ⟨rfl, W0.out⟩
end Go.Proofs.Ytcgpcpplbmebgaa
