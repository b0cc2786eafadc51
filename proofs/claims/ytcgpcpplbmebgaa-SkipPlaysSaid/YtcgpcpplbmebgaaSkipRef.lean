/-
  The document's list: Ahead, Place, There, Height, Steps. No condition but at most 1048575 rows.
-/
import Derived.Test.YtcgpcpplbmebgaaSkipSlice
import Derived.Test.YtcgpcpplbmebgaaSkipStepsLaw
namespace Go.Proofs.Ytcgpcpplbmebgaa
open Go.RowKit
set_option maxRecDepth 100000 in
set_option maxHeartbeats 2000000 in
theorem ahead_ref (x : Rw) (k : ByteArray) (q : Nat) (w : World) : Calls Try.prog 41 #[rowV x, .string k, .int .u64 (q : Int)] w fun e w' => e = .returned (.bool (ahd x k q)) ∧ Below w.heap.size w w' := by
  have R0 := (RowAt.new x w).cells
  have W0 := Lib.hid (below_alloc w (.cells #[.string x.key, .int .u64 (x.seq : Int), .int .i64 x.kind, .string x.val] 36))
  have hp := ahd_parts x k q
  obtain ⟨xk, xs, xi, xv⟩ := x
  simp only at R0 W0 hp
  obtain ⟨⟨c0, c1, c2, c3⟩, _⟩ := R0
  rcases hp with ⟨p1, p2⟩ | ⟨p1, p3, p2⟩ | ⟨p1, p3, p2⟩
  · rw [p2]
    clear p2
    go_enter Try.func41, Try.ntmps41
    go_wp2_with fail
    go_returns
    exact ⟨rfl, W0.out⟩
  · rw [p2, show (decide ((q : Int) < (xs : Int))) = decide (q < xs) by congr 1; simp]
    clear p2
    go_enter Try.func41, Try.ntmps41
    go_wp2_with fail
    go_returns
    exact ⟨rfl, W0.out⟩
  · rw [p2]
    clear p2
    go_enter Try.func41, Try.ntmps41
    go_wp2_with fail
    go_returns
    exact ⟨rfl, W0.out⟩
theorem plc_drop {l : List Rw} {k : ByteArray} {q j : Nat} {x : Rw} (hx : l[j]? = some x) : plc (l.drop j) k q = if ahd x k q = true then 1 + plc (l.drop (j + 1)) k q else 0 := by
  obtain ⟨h1, h2⟩ := List.getElem?_eq_some_iff.1 hx
  rw [List.drop_eq_getElem_cons h1, h2]
  unfold plc
  rw [List.takeWhile_cons]
  split
  · simp; omega
  · rfl
set_option maxRecDepth 100000 in
set_option maxHeartbeats 4000000 in
theorem place_ref {p : Option Addr} {n c b o : Nat} {l : List Rw} {w : World} (h : Rs p n c b o l w) (hn : n ≤ 1048575) (k : ByteArray) (q : Nat) :
    Calls Try.prog 10 #[.slice p n c, .string k, .int .u64 (q : Int)] w fun e w' => e = .returned (.int .i64 (plc l k q : Int)) ∧ Below w.heap.size w w' := by
  have e0 := Lib.hid h.len
  have m0 := h.most
  have q0 := h.cap
  obtain ⟨E, hE⟩ := named (plc l k q)
  rw [← hE.out]
  have h := Lib.hid h
  go_enter Try.func10, Try.ntmps10
  go_wp2_with fail
  go_loopw [7] (fun i wr => ∃ j : Nat, j ≤ n ∧ i = .int .i64 (j : Int) ∧ E = j + plc (l.drop j) k q ∧ Below w.heap.size w wr) (fun i _ => n - (intOf i).toNat)
  case atStart => exact ⟨0, Nat.zero_le _, rfl, by rw [hE.out]; simp, Below.refl _ _⟩
  case round =>
    obtain ⟨j, hj, rfl, hEj, hb⟩ := hrel
    by_cases hlt : j < n
    · obtain ⟨x, hx, rfl, x0, x1, x2, x3⟩ := (h.out.below hb (Nat.le_refl _)).at4 hlt
      rw [plc_drop hx] at hEj
      have AC := Lib.hid (ahead_ref x k q wr)
      have i1 : (j : Int) < (n : Int) := by omega
      obtain ⟨xk, xs, xi, xv⟩ := x
      simp only at x0 x1 x2 x3 AC hEj
      obtain ⟨T, hT⟩ := named (ahd ⟨xk, xs, xi, xv⟩ k q)
      rw [← hT.out] at AC hEj
      have hb := Lib.hid hb
      clear hx
      cases T with
      | true =>
        have hEj2 : Hid (E = j + 1 + plc (l.drop (j + 1)) k q) := Lib.hid (by simp only [if_true] at hEj; omega)
        clear hEj
        go_wp2_with (go_at_call 41; ((with_reducible refine AC.out.mono ?_); rintro e w2 ⟨rfl, hb2⟩; have B2 := Lib.hid (below_of hb.out hb2); clear hb2))
        go_roundw
        case rel => exact ⟨j + 1, by omega, by go_num, hEj2.out, B2.out⟩
        case measure => simp [intOf]; omega
      | false =>
        have hEj2 : Hid (E = j) := Lib.hid (by simpa using hEj)
        clear hEj
        go_wp2_with (go_at_call 41; ((with_reducible refine AC.out.mono ?_); rintro e w2 ⟨rfl, hb2⟩; have B2 := Lib.hid (below_of hb.out hb2); clear hb2))
        go_returns
        exact ⟨by rw [hEj2.out]; rfl, B2.out⟩
    · have hjn : j = n := by omega
      have hEj2 : E = j := by
        rw [hEj, List.drop_eq_nil_of_le (by rw [e0.out]; omega)]
        simp [plc]
      have i1 : ¬ ((j : Int) < (n : Int)) := by omega
      have hb := Lib.hid hb
      replace hEj2 := Lib.hid hEj2
      clear hEj hjn
      go_wp2_with fail
      go_returns
      exact ⟨by rw [hEj2.out]; rfl, hb.out⟩
set_option maxRecDepth 100000 in
set_option maxHeartbeats 4000000 in
theorem there_ref {p : Option Addr} {n c b o : Nat} {l : List Rw} {w : World} (h : Rs p n c b o l w) (hn : n ≤ 1048575) (k : ByteArray) (q : Nat) :
    Calls Try.prog 44 #[.slice p n c, .string k, .int .u64 (q : Int)] w fun e w' => e = .returned (.bool (thr l k q)) ∧ Below w.heap.size w w' := by
  have m0 := h.most
  have q0 := h.cap
  have PC := Lib.hid (place_ref h hn k q)
  have ple := plc_le l k q
  rw [h.len] at ple
  obtain ⟨T, hT⟩ := named (thr l k q)
  have hT2 := hT.out
  rw [← hT.out]
  unfold thr at hT2
  obtain ⟨E, hE⟩ := named (plc l k q)
  rw [← hE.out] at PC hT2 ple
  by_cases hlt : E < n
  · have h' := Lib.hid h
    obtain ⟨x, hx, rfl, x0, x1, x2, x3⟩ := h.at4 hlt
    rw [hx] at hT2
    have hlb := World.block_lt_of_cell? _ _ x0
    have i1 : (E : Int) < (n : Int) := by omega
    obtain ⟨xk, xs, xi, xv⟩ := x
    simp only at x0 x1 x2 x3 hT2
    replace hT2 := Lib.hid hT2
    clear h hx ple
    go_enter Try.func44, Try.ntmps44
    by_cases q1 : xk.toList = k.toList
    · have q1b : (xk.toList == k.toList) = true := by simpa using q1
      by_cases q2 : xs = q
      · have q2b : ((xs : Int) == (q : Int)) = true := by rw [beq_iff_eq]; omega
        have hT3 : Hid (T = true) := Lib.hid (by rw [hT2.out, q1, q2]; simp)
        clear q1 q2
        go_wp2_with (go_at_call 10; ((with_reducible refine PC.out.mono ?_); rintro e w2 ⟨rfl, hb2⟩; have y0 := (hb2.cell (p := ⟨b, o + E * 4, none⟩) hlb).trans x0; have y1 := (hb2.cell (p := ⟨b, o + E * 4 + 1, none⟩) hlb).trans x1; have B2 := Lib.hid hb2; clear hb2))
        go_returns
        exact ⟨by rw [hT3.out]; rfl, B2.out⟩
      · have q2b : ((xs : Int) == (q : Int)) = false := by rw [beq_eq_false_iff_ne]; omega
        have hT3 : Hid (T = false) := Lib.hid (by rw [hT2.out, decide_eq_false q2]; simp)
        clear q1 q2
        go_wp2_with (go_at_call 10; ((with_reducible refine PC.out.mono ?_); rintro e w2 ⟨rfl, hb2⟩; have y0 := (hb2.cell (p := ⟨b, o + E * 4, none⟩) hlb).trans x0; have y1 := (hb2.cell (p := ⟨b, o + E * 4 + 1, none⟩) hlb).trans x1; have B2 := Lib.hid hb2; clear hb2))
        go_returns
        exact ⟨by rw [hT3.out]; rfl, B2.out⟩
    · have q1b : (xk.toList == k.toList) = false := by simpa using q1
      have hT3 : Hid (T = false) := Lib.hid (by rw [hT2.out, decide_eq_false q1]; simp)
      clear q1
      go_wp2_with (go_at_call 10; ((with_reducible refine PC.out.mono ?_); rintro e w2 ⟨rfl, hb2⟩; have y0 := (hb2.cell (p := ⟨b, o + E * 4, none⟩) hlb).trans x0; have y1 := (hb2.cell (p := ⟨b, o + E * 4 + 1, none⟩) hlb).trans x1; have B2 := Lib.hid hb2; clear hb2))
      go_returns
      exact ⟨by rw [hT3.out]; rfl, B2.out⟩
  · have hx : l[E]? = none := by rw [List.getElem?_eq_none_iff, h.len]; omega
    rw [hx] at hT2
    have i1 : ¬ ((E : Int) < (n : Int)) := by omega
    replace hT2 := Lib.hid hT2
    clear h hx ple hlt
    go_enter Try.func44, Try.ntmps44
    go_wp2_with (go_at_call 10; ((with_reducible refine PC.out.mono ?_); rintro e w2 ⟨rfl, hb2⟩; have B2 := Lib.hid hb2; clear hb2))
    go_returns
    exact ⟨by rw [hT2.out]; rfl, B2.out⟩
end Go.Proofs.Ytcgpcpplbmebgaa
