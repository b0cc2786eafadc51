/-
  The document's Ahead and Place. No condition but at most 1048575 rows.
-/
import Derived.Test.YtkkegdhnkefogaaRowAt
import Derived.Deep.DrawnRows
import Derived.Deep.RegionHeld
import Derived.Deep.RegionWith
namespace Go.Proofs.Ytkkegdhnkefogaa
set_option maxRecDepth 100000
open Go.RowKit
set_option maxRecDepth 100000 in
set_option maxHeartbeats 2000000 in
theorem ahead_ref (x : Rw) (k : ByteArray) (q : Nat) (w : World) : Calls Try.prog 46 #[rowV x, .string k, .int .u64 (q : Int)] w fun e w' => e = .returned (.bool (ahd x k q)) ∧ Below w.heap.size w w' := by
  have R0 := (RowAt.new x w).cells
  have W0 := Lib.hid (below_alloc w (.cells #[.string x.key, .int .u64 (x.seq : Int), .int .i64 x.kind, .string x.val] 42))
  have hp := ahd_parts x k q
  obtain ⟨xk, xs, xi, xv⟩ := x
  simp only at R0 W0 hp
  obtain ⟨⟨c0, c1, c2, c3⟩, _⟩ := R0
  rcases hp with ⟨p1, p2⟩ | ⟨p1, p3, p2⟩ | ⟨p1, p3, p2⟩
  · rw [p2]
    clear p2
    go_enter Try.func46, Try.ntmps46
    go_wp2_with fail
    go_returns
    exact ⟨rfl, W0.out⟩
  · rw [p2, show (decide ((q : Int) < (xs : Int))) = decide (q < xs) by congr 1; simp]
    clear p2
    go_enter Try.func46, Try.ntmps46
    go_wp2_with fail
    go_returns
    exact ⟨rfl, W0.out⟩
  · rw [p2]
    clear p2
    go_enter Try.func46, Try.ntmps46
    go_wp2_with fail
    go_returns
    exact ⟨rfl, W0.out⟩
theorem plc_drop {l : List Rw} {k : ByteArray} {q j : Nat} {x : Rw} (hx : l[j]? = some x) : plc (l.drop j) k q = if ahd x k q = true then 1 + plc (l.drop (j + 1)) k q else 0 := by
  obtain ⟨h1, h2⟩ := List.getElem?_eq_some_iff.1 hx
  rw [List.drop_eq_getElem_cons h1, h2]
  unfold plc
  rw [List.takeWhile_cons]
  split
  · simp; omega
  · rfl
set_option maxRecDepth 100000 in
set_option maxHeartbeats 4000000 in
theorem place_ref {p : Option Addr} {n c b o : Nat} {l : List Rw} {w : World} (h : Rs p n c b o l w) (hn : n ≤ 1048575) (k : ByteArray) (q : Nat) :
    Calls Try.prog 47 #[.slice p n c, .string k, .int .u64 (q : Int)] w fun e w' => e = .returned (.int .i64 (plc l k q : Int)) ∧ Below w.heap.size w w' := by
  have e0 := Lib.hid h.len
  have m0 := h.most
  have q0 := h.cap
  obtain ⟨E, hE⟩ := named (plc l k q)
  rw [← hE.out]
  have h := Lib.hid h
  go_enter Try.func47, Try.ntmps47
  go_wp2_with fail
  go_loopw [7] (fun i wr => ∃ j : Nat, j ≤ n ∧ i = .int .i64 (j : Int) ∧ E = j + plc (l.drop j) k q ∧ Below w.heap.size w wr) (fun i _ => n - (intOf i).toNat)
  case atStart => exact ⟨0, Nat.zero_le _, rfl, by rw [hE.out]; simp, Below.refl _ _⟩
  case round =>
    obtain ⟨j, hj, rfl, hEj, hb⟩ := hrel
    by_cases hlt : j < n
    · obtain ⟨x, hx, rfl, x0, x1, x2, x3⟩ := (h.out.below hb (Nat.le_refl _)).at4 hlt
      rw [plc_drop hx] at hEj
      have AC := Lib.hid (ahead_ref x k q wr)
      have i1 : (j : Int) < (n : Int) := by omega
      obtain ⟨xk, xs, xi, xv⟩ := x
      simp only at x0 x1 x2 x3 AC hEj
      obtain ⟨T, hT⟩ := named (ahd ⟨xk, xs, xi, xv⟩ k q)
      rw [← hT.out] at AC hEj
      have hb := Lib.hid hb
      clear hx
      cases T with
      | true =>
        have hEj2 : Hid (E = j + 1 + plc (l.drop (j + 1)) k q) := Lib.hid (by simp only [if_true] at hEj; omega)
        clear hEj
        go_wp2_with (go_at_call 46; ((with_reducible refine AC.out.mono ?_); rintro e w2 ⟨rfl, hb2⟩; have B2 := Lib.hid (below_of hb.out hb2); clear hb2))
        go_roundw
        case rel => exact ⟨j + 1, by omega, by go_num, hEj2.out, B2.out⟩
        case measure => simp [intOf]; omega
      | false =>
        have hEj2 : Hid (E = j) := Lib.hid (by simpa using hEj)
        clear hEj
        go_wp2_with (go_at_call 46; ((with_reducible refine AC.out.mono ?_); rintro e w2 ⟨rfl, hb2⟩; have B2 := Lib.hid (below_of hb.out hb2); clear hb2))
        go_returns
        exact ⟨by rw [hEj2.out]; rfl, B2.out⟩
    · have hjn : j = n := by omega
      have hEj2 : E = j := by
        rw [hEj, List.drop_eq_nil_of_le (by rw [e0.out]; omega)]
        simp [plc]
      have i1 : ¬ ((j : Int) < (n : Int)) := by omega
      have hb := Lib.hid hb
      replace hEj2 := Lib.hid hEj2
      clear hEj hjn
      go_wp2_with fail
      go_returns
      exact ⟨by rw [hEj2.out]; rfl, hb.out⟩
end Go.Proofs.Ytkkegdhnkefogaa
