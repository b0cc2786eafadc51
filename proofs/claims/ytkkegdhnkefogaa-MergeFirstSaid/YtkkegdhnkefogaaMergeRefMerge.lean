/-
  The contract of the document's own Merge. Condition: at most 900 lists, of 100000 rows in all.
-/
import Derived.Test.YtkkegdhnkefogaaMergeMerge
import Derived.Test.YtkkegdhnkefogaaRefWith
import Derived.Test.YtkkegdhnkefogaaBlockRefOrder
namespace Go.Proofs.Ytkkegdhnkefogaa
set_option maxRecDepth 100000
open Go.RowKit
def foldL (L : List (List Rw)) (o : List Rw) : List Rw := L.foldl (fun o l => l.foldl addR o) o
theorem foldL_snoc (L : List (List Rw)) (l : List Rw) (o : List Rw) : foldL (L ++ [l]) o = l.foldl addR (foldL L o) := by unfold foldL; rw [List.foldl_append]; rfl
theorem foldl_len : ∀ (l : List Rw) (o : List Rw), (l.foldl addR o).length ≤ o.length + l.length
  | [], _ => Nat.le_refl _
  | x :: l, o => by
    have h1 := foldl_len l (addR o x)
    have h2 := addR_len o x
    show (l.foldl addR (addR o x)).length ≤ _
    simp only [List.length_cons]; omega
theorem foldL_len : ∀ (L : List (List Rw)) (o : List Rw), (foldL L o).length ≤ o.length + (L.map List.length).sum
  | [], o => by simp [foldL]
  | l :: L, o => by
    have h1 := foldL_len L (l.foldl addR o)
    have h2 := foldl_len l o
    show (foldL L (l.foldl addR o)).length ≤ _
    simp only [List.map_cons, List.sum_cons]; omega
theorem sum_take_le : ∀ (L : List (List Rw)) (j : Nat), ((L.take j).map List.length).sum ≤ (L.map List.length).sum
  | [], j => by simp
  | l :: L, 0 => by simp
  | l :: L, j + 1 => by have := sum_take_le L j; simp only [List.take_succ_cons, List.map_cons, List.sum_cons]; omega
theorem sum_at : ∀ {L : List (List Rw)} {j : Nat} {l : List Rw}, L[j]? = some l → ((L.take j).map List.length).sum + l.length ≤ (L.map List.length).sum
  | [], j, l, h => by simp at h
  | a :: L, 0, l, h => by simp at h; subst h; simp
  | a :: L, j + 1, l, h => by have := sum_at (L := L) (j := j) (l := l) (by simpa using h); simp only [List.take_succ_cons, List.map_cons, List.sum_cons]; omega
theorem RL.fix {B : Nat} {p : Option Addr} {n c : Nat} {L : List (List Rw)} {w : World} (h : RL B p n c L w) {j : Nat} (hj : j < n) : ∃ l g o a m d b q, L[j]? = some l ∧ p = some ⟨g, o, none⟩ ∧ ∀ u, Below B w u → u.cell? ⟨g, o + j, none⟩ = some (.slice a m d) ∧ Rs a m d b q l u := by
  obtain ⟨g, o, h1, h2⟩ := h.addr
  obtain ⟨l, hl⟩ : ∃ l, L[j]? = some l := ⟨_, List.getElem?_eq_getElem (by rw [h.len]; exact hj)⟩
  obtain ⟨a, m, d, b, q, e1, e2, e3⟩ := h2 j l hl
  exact ⟨l, g, o, a, m, d, b, q, hl, (h1 (by omega)).1, fun u hu => ⟨(World.cell?_of_block (a := ⟨g, o + j, none⟩) (hu.block g (h1 (by omega)).2)).trans e1, e2.keep (fun h0 => hu.block b (e3 h0)) hu.size⟩⟩
theorem foldl_snoc (l : List Rw) (x : Rw) (o : List Rw) : (l ++ [x]).foldl addR o = addR (l.foldl addR o) x := by rw [List.foldl_append]; rfl
set_option maxRecDepth 100000 in
set_option maxHeartbeats 16000000 in
theorem refmerge_any {p : Option Addr} {n c : Nat} {L : List (List Rw)} {w : World} (h : RL w.heap.size p n c L w) (hn : n ≤ 900) (ht : (L.map List.length).sum ≤ 100000) :
    Calls Try.prog 14 #[.slice p n c] w (MergeD L w) := by
  have hcap := h.cap
  have hmost := h.most
  have hfull : Hid (L.take n = L) := Lib.hid (by rw [← h.len, List.take_length])
  have hlen := Lib.hid h.len
  have h := Lib.hid h
  have ht := Lib.hid ht
  go_enter Try.func14, Try.ntmps14
  go_wp2_with fail
  go_loopw [4] (fun iv wr => ∃ (j : Nat), j ≤ n ∧ iv = .int .i64 (j : Int) ∧ Hid ((L.take j).all ordR = true) ∧ Hid (Below w.heap.size w wr)) (fun iv _ => n - (intOf iv).toNat)
  case atStart => exact ⟨0, Nat.zero_le _, rfl, Lib.hid (by simp), Lib.hid (Below.refl _ _)⟩
  case round =>
    obtain ⟨j, hj, rfl, hA, hB⟩ := hrel
    have hR := Lib.hid (h.out.keep hB.out)
    by_cases hjn : j = n
    · subst hjn
      have i1 : ¬ (j : Int) < (j : Int) := by omega
      have hall : Hid (L.all ordR = true) := Lib.hid (by rw [← hfull.out]; exact hA.out)
      go_wp2_with fail
      go_loopw [5, 6] (fun ov iv u => ∃ (i : Nat), i ≤ j ∧ iv = .int .i64 (i : Int) ∧ Hid (u.ownsRow w.heap.size 42 4 ov (foldL (L.take i) []).length (rowR (foldL (L.take i) []))) ∧ Hid (Below w.heap.size w u)) (fun _ iv _ => j - (intOf iv).toNat)
      case atStart => exact ⟨0, Nat.zero_le _, rfl, Lib.hid (World.ownsRow_nil _ _ _ _), hB⟩
      case round =>
        obtain ⟨i, hi, rfl, hO, hB1⟩ := hrel
        by_cases hij : i = j
        · subst hij
          have i2 : ¬ (i : Int) < (i : Int) := by omega
          rw [hfull.out] at hO
          go_wp2_with fail
          go_returns
          exact .inr ⟨hall.out, _, rfl, hO.out, hB1.out⟩
        · have i2 : (i : Int) < (j : Int) := by omega
          have hil : i < j := by omega
          have kw : wrap64 ((i : Int) + 1) = ((i + 1 : Nat) : Int) := by unfold wrap64; omega
          obtain ⟨l, g, o, a, m, d, b, q, hl, rfl, hK⟩ := h.out.fix hil
          have hsn : Hid (foldL (L.take (i + 1)) [] = l.foldl addR (foldL (L.take i) [])) := Lib.hid (by rw [List.take_add_one, hl]; exact foldL_snoc _ _ _)
          have hlt : Hid ((foldL (L.take i) []).length + l.length ≤ 100000) := Lib.hid (by
            have h1 := foldL_len (L.take i) []
            have h2 := sum_at hl
            have h3 := ht.out
            simp only [List.length_nil, Nat.zero_add] at h1; omega)
          have hlm : l.length = m := (hK w (Below.refl _ _)).2.len
          have dcap := (hK w (Below.refl _ _)).2.cap
          have dmost := (hK w (Below.refl _ _)).2.most
          have hK := Lib.hid hK
          have hlm := Lib.hid hlm
          clear hl
          have e1 := (hK.out _ hB1.out).1
          go_wp2_with fail
          clear e1
          go_loopw [5, 7] (fun ov iv u => ∃ (k : Nat), k ≤ m ∧ iv = .int .i64 (k : Int) ∧ Hid (u.ownsRow w.heap.size 42 4 ov ((l.take k).foldl addR (foldL (L.take i) [])).length (rowR ((l.take k).foldl addR (foldL (L.take i) [])))) ∧ Hid (Below w.heap.size w u)) (fun _ iv _ => m - (intOf iv).toNat)
          case atStart => exact ⟨0, Nat.zero_le _, rfl, hO, hB1⟩
          case round =>
            obtain ⟨k, hk, rfl, hP, hB2⟩ := hrel
            obtain ⟨e1, E2⟩ := hK.out _ hB2.out
            by_cases hkm : k = m
            · subst hkm
              have i3 : ¬ (k : Int) < (k : Int) := by omega
              have hP2 := hP.out
              rw [show l.take k = l by rw [← hlm.out, List.take_length]] at hP2
              have hP2 := Lib.hid hP2
              clear E2
              go_wp2_with fail
              go_roundw
              case rel => exact ⟨i + 1, hil, by first | rfl | rw [kw], by rw [hsn.out]; exact hP2, hB2⟩
              case measure => simp [intOf] <;> omega
            · have i3 : (k : Int) < (m : Int) := by omega
              have hkl : k < m := by omega
              have mw : wrap64 ((k : Int) + 1) = ((k + 1 : Nat) : Int) := by unfold wrap64; omega
              obtain ⟨X, hX, rfl, x0, x1, x2, x3⟩ := E2.at4 hkl
              have hfs : Hid ((l.take (k + 1)).foldl addR (foldL (L.take i) []) = addR ((l.take k).foldl addR (foldL (L.take i) [])) X) := Lib.hid (by rw [List.take_add_one, hX]; exact foldl_snoc _ _ _)
              have hfl : Hid (((l.take k).foldl addR (foldL (L.take i) [])).length ≤ 100000) := Lib.hid (by
                have h1 := foldl_len (l.take k) (foldL (L.take i) [])
                have h2 := hlt.out
                rw [List.length_take] at h1; omega)
              clear E2 hX
              generalize (l.take k).foldl addR (foldL (L.take i) []) = F at hP hfs hfl
              have hsz : Hid (w.heap.size ≤ wr.heap.size) := Lib.hid hB2.out.size
              obtain ⟨a5, c5, b5, rfl, RT⟩ := rt_of_row hP.out
              obtain ⟨fl, hfn⟩ := named F.length
              rw [← hfn.out] at RT hfl
              obtain ⟨xk, xs, xi, xv⟩ := X
              simp only at x0 x1 x2 x3
              have RT4 := Lib.hid (RT.below (below_alloc wr (.cells #[.string xk, .int .u64 (xs : Int), .int .i64 xi, .string xv] 42)))
              have B4 := Lib.hid (hB2.out.trans ((below_alloc wr (.cells #[.string xk, .int .u64 (xs : Int), .int .i64 xi, .string xv] 42)).mono hsz.out))
              obtain ⟨⟨y0, y1, y2, y3⟩, _⟩ := (RowAt.new ⟨xk, xs, xi, xv⟩ wr).cells
              have hrow0 := Lib.hid (show (Value.slice a5 F.length c5) = .slice a5 fl c5 by rw [hfn.out])
              have O4 : Hid ((wr.alloc (.cells #[.string xk, .int .u64 (xs : Int), .int .i64 xi, .string xv] 42)).ownsRow w.heap.size 42 4 (.slice a5 fl c5) F.length (rowR F)) := Lib.hid (by rw [← hrow0.out]; exact own_below hP.out (below_alloc wr (.cells #[.string xk, .int .u64 (xs : Int), .int .i64 xi, .string xv] 42)))
              rw [hrow0.out]
              cases hT : thr F xk xs with
              | true =>
                have TC := there_ref RT4.out.rs (by have := hfl.out; omega) xk xs
                rw [hT] at TC
                have TC := Lib.hid TC
                have e5 : Hid (addR F ⟨xk, xs, xi, xv⟩ = F) := Lib.hid (by unfold addR; rw [if_pos hT])
                go_wp2_with (go_at_call 30; ((with_reducible refine TC.out.mono ?_); rintro e w5 ⟨rfl, hb5⟩; have B5 := Lib.hid (B4.out.trans (hb5.mono B4.out.size)); have O5 := Lib.hid (own_below O4.out hb5); clear hb5))
                go_roundw
                case rel => exact ⟨k + 1, hkl, by first | rfl | rw [mw], by rw [hfs.out, e5.out]; exact O5, B5⟩
                case measure => simp [intOf] <;> omega
              | false =>
                have TC := there_ref RT4.out.rs (by have := hfl.out; omega) xk xs
                rw [hT] at TC
                have TC := Lib.hid TC
                have e5 : Hid (addR F ⟨xk, xs, xi, xv⟩ = insR F ⟨xk, xs, xi, xv⟩) := Lib.hid (by unfold addR; rw [if_neg (by rw [hT]; simp)])
                go_wp2_with (first
                  | (go_at_call 30; ((with_reducible refine TC.out.mono ?_); rintro e w5 ⟨rfl, hb5⟩; have B5 := Lib.hid (B4.out.trans (hb5.mono B4.out.size)); have RT5 := RT4.out.below hb5; have WC : Hid (Calls Try.prog 31 #[.slice a5 fl c5, .agg #[.string xk, .int .u64 (xs : Int), .int .i64 xi, .string xv]] w5 (GaveR (insR F ⟨xk, xs, xi, xv⟩) w5)) := Lib.hid (with_ref RT5 (by have := hfl.out; omega) ⟨xk, xs, xi, xv⟩); obtain ⟨z0, z1, z2, z3⟩ := ((RowAt.new ⟨xk, xs, xi, xv⟩ wr).below hb5).cells.1; clear hb5 RT5))
                  | (go_at_call 31; ((with_reducible refine WC.out.mono ?_); rintro e w6 ⟨v6, rfl, hr6, hb6⟩; have B6 := Lib.hid (B5.out.trans (hb6.mono B5.out.size)); have O6 := Lib.hid (own_lower hr6 B5.out.size); clear hb6 hr6)))
                go_roundw
                case rel => exact ⟨k + 1, hkl, by first | rfl | rw [mw], by rw [hfs.out, e5.out]; exact O6, B6⟩
                case measure => simp [intOf] <;> omega
    · have i1 : (j : Int) < (n : Int) := by omega
      have hjl : j < n := by omega
      have jw : wrap64 ((j : Int) + 1) = ((j + 1 : Nat) : Int) := by unfold wrap64; omega
      obtain ⟨l, g, o, a, m, d, b, q, hl, rfl, e1, e2, e3⟩ := hR.out.one hjl
      have OC := reforder_any e2
      have e2 := Lib.hid e2
      have e3 := Lib.hid e3
      have hsn : Hid ((L.take (j + 1)).all ordR = ((L.take j).all ordR && ordR l)) := Lib.hid (by rw [List.take_add_one, hl]; simp)
      have hlm := Lib.hid (List.mem_of_getElem? hl)
      clear hl
      cases hT : ordR l with
      | true =>
        rw [hT] at OC
        have OC := Lib.hid OC
        have hA2 : Hid ((L.take (j + 1)).all ordR = true) := Lib.hid (by rw [hsn.out, hA.out, hT]; rfl)
        go_wp2_with (go_at_call 29; ((with_reducible refine OC.out.mono ?_); rintro e w2 ⟨rfl, hb2⟩; have B2 : Hid (Below w.heap.size w w2) := Lib.hid (hB.out.trans (hb2.mono hB.out.size)); clear hb2))
        go_roundw
        case rel => exact ⟨j + 1, hjl, by first | rfl | rw [jw], hA2, B2⟩
        case measure => simp [intOf] <;> omega
      | false =>
        rw [hT] at OC
        have OC := Lib.hid OC
        go_wp2_with (go_at_call 29; ((with_reducible refine OC.out.mono ?_); rintro e w2 ⟨rfl, hb2⟩; have B2 : Hid (Below w.heap.size w w2) := Lib.hid (hB.out.trans (hb2.mono hB.out.size)); clear hb2))
        go_returns
        refine .inl ⟨?_, rfl, B2.out⟩
        rw [List.all_eq_false]
        exact ⟨l, hlm.out, by rw [hT]; simp⟩
end Go.Proofs.Ytkkegdhnkefogaa
