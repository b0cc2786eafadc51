/-
  The document's There. No condition but at most 1048575 rows.
-/
import Derived.Test.YtkkegdhnkefogaaAheadRef
namespace Go.Proofs.Ytkkegdhnkefogaa
set_option maxRecDepth 100000
open Go.RowKit
set_option maxRecDepth 100000 in
set_option maxHeartbeats 4000000 in
theorem there_ref {p : Option Addr} {n c b o : Nat} {l : List Rw} {w : World} (h : Rs p n c b o l w) (hn : n ≤ 1048575) (k : ByteArray) (q : Nat) :
    Calls Try.prog 30 #[.slice p n c, .string k, .int .u64 (q : Int)] w fun e w' => e = .returned (.bool (thr l k q)) ∧ Below w.heap.size w w' := by
  have m0 := h.most
  have q0 := h.cap
  have PC := Lib.hid (place_ref h hn k q)
  have ple := plc_le l k q
  rw [h.len] at ple
  obtain ⟨T, hT⟩ := named (thr l k q)
  have hT2 := hT.out
  rw [← hT.out]
  unfold thr at hT2
  obtain ⟨E, hE⟩ := named (plc l k q)
  rw [← hE.out] at PC hT2 ple
  by_cases hlt : E < n
  · have h' := Lib.hid h
    obtain ⟨x, hx, rfl, x0, x1, x2, x3⟩ := h.at4 hlt
    rw [hx] at hT2
    have hlb := World.block_lt_of_cell? _ _ x0
    have i1 : (E : Int) < (n : Int) := by omega
    obtain ⟨xk, xs, xi, xv⟩ := x
    simp only at x0 x1 x2 x3 hT2
    replace hT2 := Lib.hid hT2
    clear h hx ple
    go_enter Try.func30, Try.ntmps30
    by_cases q1 : xk.toList = k.toList
    · have q1b : (xk.toList == k.toList) = true := by simpa using q1
      by_cases q2 : xs = q
      · have q2b : ((xs : Int) == (q : Int)) = true := by rw [beq_iff_eq]; omega
        have hT3 : Hid (T = true) := Lib.hid (by rw [hT2.out, q1, q2]; simp)
        clear q1 q2
        go_wp2_with (go_at_call 47; ((with_reducible refine PC.out.mono ?_); rintro e w2 ⟨rfl, hb2⟩; have y0 := (hb2.cell (p := ⟨b, o + E * 4, none⟩) hlb).trans x0; have y1 := (hb2.cell (p := ⟨b, o + E * 4 + 1, none⟩) hlb).trans x1; have B2 := Lib.hid hb2; clear hb2))
        go_returns
        exact ⟨by rw [hT3.out]; rfl, B2.out⟩
      · have q2b : ((xs : Int) == (q : Int)) = false := by rw [beq_eq_false_iff_ne]; omega
        have hT3 : Hid (T = false) := Lib.hid (by rw [hT2.out, decide_eq_false q2]; simp)
        clear q1 q2
        go_wp2_with (go_at_call 47; ((with_reducible refine PC.out.mono ?_); rintro e w2 ⟨rfl, hb2⟩; have y0 := (hb2.cell (p := ⟨b, o + E * 4, none⟩) hlb).trans x0; have y1 := (hb2.cell (p := ⟨b, o + E * 4 + 1, none⟩) hlb).trans x1; have B2 := Lib.hid hb2; clear hb2))
        go_returns
        exact ⟨by rw [hT3.out]; rfl, B2.out⟩
    · have q1b : (xk.toList == k.toList) = false := by simpa using q1
      have hT3 : Hid (T = false) := Lib.hid (by rw [hT2.out, decide_eq_false q1]; simp)
      clear q1
      go_wp2_with (go_at_call 47; ((with_reducible refine PC.out.mono ?_); rintro e w2 ⟨rfl, hb2⟩; have y0 := (hb2.cell (p := ⟨b, o + E * 4, none⟩) hlb).trans x0; have y1 := (hb2.cell (p := ⟨b, o + E * 4 + 1, none⟩) hlb).trans x1; have B2 := Lib.hid hb2; clear hb2))
      go_returns
      exact ⟨by rw [hT3.out]; rfl, B2.out⟩
  · have hx : l[E]? = none := by rw [List.getElem?_eq_none_iff, h.len]; omega
    rw [hx] at hT2
    have i1 : ¬ ((E : Int) < (n : Int)) := by omega
    replace hT2 := Lib.hid hT2
    clear h hx ple hlt
    go_enter Try.func30, Try.ntmps30
    go_wp2_with (go_at_call 47; ((with_reducible refine PC.out.mono ?_); rintro e w2 ⟨rfl, hb2⟩; have B2 := Lib.hid hb2; clear hb2))
    go_returns
    exact ⟨by rw [hT2.out]; rfl, B2.out⟩
end Go.Proofs.Ytkkegdhnkefogaa
