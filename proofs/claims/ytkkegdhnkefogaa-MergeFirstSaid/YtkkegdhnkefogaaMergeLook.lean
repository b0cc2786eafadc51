/-
  Numbers in a slice; the contracts of cmp.Less and slices.BinarySearch at them. Condition: at most 2^40 numbers.
-/
import Derived.Test.YtkkegdhnkefogaaSliceArg
import Derived.Test.YtkkegdhnkefogaaRowAt
import Derived.Test.YtkkegdhnkefogaaBlockSlices
namespace Go.Proofs.Ytkkegdhnkefogaa
set_option maxRecDepth 100000
open Go.RowKit
/-- A number's cells. -/
def cellsU (x : Nat) : List Value := [.int .u64 (x : Int)]
def rowU (l : List Nat) : List Value := l.flatMap cellsU
theorem rowU_len (l : List Nat) : (rowU l).length = l.length := by unfold rowU; induction l with | nil => rfl | cons x r ih => rw [List.flatMap_cons, List.length_append, ih]; simp [cellsU]; omega
theorem rowU_app (a b : List Nat) : rowU (a ++ b) = rowU a ++ rowU b := by simp [rowU]
theorem rowU_at : ∀ (l : List Nat) (j : Nat) {x : Nat}, l[j]? = some x → (rowU l)[j]? = some (.int .u64 (x : Int))
  | [], _, _, h => by cases h
  | y :: r, 0, x, h => by
    obtain rfl : y = x := by simpa using h
    rfl
  | y :: r, j + 1, x, h => by
    have := rowU_at r j (x := x) (by simpa using h)
    show (_ :: rowU r)[j + 1]? = _
    simpa using this
theorem SlOf.at1 {a : Option Addr} {n c b o : Nat} {l : List Nat} {w : World} (h : SlOf 1 cellsU a n c b o l w) {j : Nat} (hj : j < n) : ∃ x, l[j]? = some x ∧ a = some ⟨b, o, none⟩ ∧ w.cell? ⟨b, o + j, none⟩ = some (.int .u64 (x : Int)) := by
  obtain ⟨x, hx⟩ : ∃ x, l[j]? = some x := ⟨_, List.getElem?_eq_getElem (by rw [h.len]; exact hj)⟩
  have := h.at' j x hx 0 _ rfl
  rw [Nat.mul_one, Nat.add_zero] at this
  exact ⟨x, hx, (h.addr (by omega)).1, this⟩
theorem slu_of_row {w : World} {B : Nat} {v : Value} {l : List Nat} (h : w.ownsRow B 31 1 v l.length (rowU l)) : ∃ a c b, v = .slice a l.length c ∧ SlOf 1 cellsU a l.length c b 0 l w := by
  rcases h.2 with ⟨rfl, hz⟩ | ⟨g, cap, cur, rfl, hg, hb, hn, hm, hs, ht⟩
  · have : l = [] := List.length_eq_zero_iff.1 hz
    subst this
    exact ⟨none, 0, 0, rfl, ⟨rfl, Nat.le_refl _, by omega, fun h => absurd h (by simp), fun j x h => by simp at h⟩⟩
  · refine ⟨_, _, g, rfl, ⟨rfl, hn, hm, fun _ => ⟨rfl, (Array.getElem?_eq_some_iff.1 hb).1⟩, fun j x hx m u hu => ?_⟩⟩
    have hj : j < l.length := (List.getElem?_eq_some_iff.1 hx).1
    have hm0 : m = 0 := by have := (List.getElem?_eq_some_iff.1 hu).1; simp [cellsU] at this; exact this
    subst hm0
    have := rowU_at l j hx
    simp only [cellsU, List.getElem?_cons_zero, Option.some.injEq] at hu
    subst hu
    rw [Nat.zero_add, Nat.mul_one, Nat.add_zero]
    exact (World.ownsRow.cellAt h _ (by omega)).trans this
set_option maxRecDepth 100000 in
theorem nan_cmp (x : Nat) (w : World) : Calls Try.prog 72 #[.int .u64 (x : Int)] w fun e w' => e = .returned (.bool false) ∧ w' = w := by
  have e : ((x : Int) == (x : Int)) = true := by simp
  go_enter Try.func72, Try.ntmps72
  go_wp2_with fail
  go_returns
  exact ⟨by simp, rfl⟩
set_option maxRecDepth 100000 in
theorem nan_slices (x : Nat) (w : World) : Calls Try.prog 66 #[.int .u64 (x : Int)] w fun e w' => e = .returned (.bool false) ∧ w' = w := by
  have e : ((x : Int) == (x : Int)) = true := by simp
  go_enter Try.func66, Try.ntmps66
  go_wp2_with fail
  go_returns
  exact ⟨by simp, rfl⟩
set_option maxRecDepth 100000 in
theorem less_u (x y : Nat) (w : World) : Calls Try.prog 61 #[.int .u64 (x : Int), .int .u64 (y : Int)] w fun e w' => e = .returned (.bool (decide (x < y))) ∧ w' = w := by
  have C := fun x => Lib.hid (nan_cmp x w)
  have e2 : (decide (x < y) : Bool) = decide ((x : Int) < (y : Int)) := by congr 1; simp
  rw [e2]
  go_enter Try.func61, Try.ntmps61
  go_wp2_with (go_at_call 72; ((with_reducible refine (C _).out.mono ?_); rintro e w1 ⟨rfl, rfl⟩))
  go_returns
  exact ⟨rfl, rfl⟩
set_option maxRecDepth 100000 in
set_option maxHeartbeats 4000000 in
theorem look_any {a : Option Addr} {n c b o : Nat} {D : List Nat} {w : World} (h : SlOf 1 cellsU a n c b o D w) (hn : n ≤ 1099511627776) (x : Nat) (hs : D.Pairwise (· ≤ ·)) {z : Nat} (hz : z ∈ D) (hxz : x ≤ z) :
    Calls Try.prog 51 #[.slice a n c, .int .u64 (x : Int)] w fun e w' => ∃ (i : Nat) (T : Bool) (y : Nat), e = .returned (.tuple #[.int .i64 (i : Int), .bool T]) ∧ D[i]? = some y ∧ x ≤ y ∧ (∀ (j : Nat) z, j < i → D[j]? = some z → z < x) ∧ Below w.heap.size w w' := by
  have m0 := h.most
  have q0 := h.cap
  have hlen := Lib.hid h.len
  have h := Lib.hid h
  have LU := Lib.hid (fun x y u => less_u x y u)
  have NU := Lib.hid (fun x u => nan_slices x u)
  have hs := Lib.hid hs
  go_enter Try.func51, Try.ntmps51
  go_wp2_with fail
  go_loopw [7, 8] (fun iv jv wr => ∃ i j : Nat, i ≤ j ∧ j ≤ n ∧ iv = .int .i64 (i : Int) ∧ jv = .int .i64 (j : Int) ∧ Hid (∀ (t : Nat) z, t < i → D[t]? = some z → z < x) ∧ Hid (∀ (t : Nat) z, j ≤ t → D[t]? = some z → x ≤ z) ∧ Hid (Below w.heap.size w wr)) (fun iv jv _ => (intOf jv - intOf iv).toNat)
  case atStart => exact ⟨0, n, Nat.zero_le _, Nat.le_refl _, rfl, rfl, Lib.hid (fun t z ht => absurd ht (by omega)), Lib.hid (fun t z ht hz => absurd (List.getElem?_eq_some_iff.1 hz).1 (by rw [hlen.out]; omega)), Lib.hid (Below.refl _ _)⟩
  case round =>
    obtain ⟨i, j, hij, hjn, rfl, rfl, hlo, hhi, hb⟩ := hrel
    by_cases hlt : i < j
    · have i1 : (i : Int) < (j : Int) := by omega
      go_upto_region 5 with fail
      obtain ⟨H, hH⟩ := named ((i + j) / 2)
      have eh : ((i : Int) + (j : Int)) / 2 = (H : Int) := by rw [hH.out]; omega
      rw [eh]
      have hH1 : i ≤ H := by rw [hH.out]; omega
      have hH2 : H < j := by rw [hH.out]; omega
      obtain ⟨y, hy, rfl, y0⟩ := (h.out.below hb.out (Nat.le_refl _)).at1 (show H < n by omega)
      have hi2 : (H : Int) < (n : Int) := by omega
      have LY := Lib.hid (LU.out y x)
      obtain ⟨T, hT⟩ := named (decide (y < x))
      rw [← hT.out] at LY
      have hy := Lib.hid hy
      clear eh
      have hcmp : Hid (∀ (t : Nat) z, D[t]? = some z → (t ≤ H → z ≤ y) ∧ (H ≤ t → y ≤ z)) := Lib.hid (by
        intro t z hz2
        obtain ⟨l1, e1⟩ := List.getElem?_eq_some_iff.1 hz2
        obtain ⟨l2, e2⟩ := List.getElem?_eq_some_iff.1 hy.out
        have hp := List.pairwise_iff_getElem.1 hs.out
        constructor
        · intro ht
          rcases Nat.eq_or_lt_of_le ht with e3 | e3
          · subst e3; rw [← e1, ← e2]; exact Nat.le_refl _
          · have := hp t H l1 l2 e3; rw [e1, e2] at this; exact this
        · intro ht
          rcases Nat.eq_or_lt_of_le ht with e3 | e3
          · subst e3; rw [← e1, ← e2]; exact Nat.le_refl _
          · have := hp H t l2 l1 e3; rw [e1, e2] at this; exact this)
      cases T with
      | true =>
        have hyx : y < x := by simpa using hT.out.symm
        have hlo2 : Hid (∀ (t : Nat) z, t < H + 1 → D[t]? = some z → z < x) := Lib.hid (fun t z ht hz2 => by have := (hcmp.out t z hz2).1 (by omega); omega)
        clear hyx
        go_wp2_with (go_at_call 61; ((with_reducible refine (LY.out _).mono ?_); rintro e w1 ⟨rfl, rfl⟩))
        go_roundw
        case rel => exact ⟨H + 1, j, by omega, hjn, by go_num, rfl, hlo2, hhi, hb⟩
        case measure => simp [intOf]; omega
      | false =>
        have hyx : x ≤ y := by have := hT.out.symm; simp at this; exact this
        have hhi2 : Hid (∀ (t : Nat) z, H ≤ t → D[t]? = some z → x ≤ z) := Lib.hid (fun t z ht hz2 => by have := (hcmp.out t z hz2).2 ht; omega)
        clear hyx
        go_wp2_with (go_at_call 61; ((with_reducible refine (LY.out _).mono ?_); rintro e w1 ⟨rfl, rfl⟩))
        go_roundw
        case rel => exact ⟨i, H, hH1, by omega, rfl, rfl, hlo, hhi2, hb⟩
        case measure => simp [intOf]; omega
    · have i1 : ¬ (i : Int) < (j : Int) := by omega
      have hij2 : i = j := by omega
      subst hij2
      obtain ⟨t, ht⟩ := List.mem_iff_getElem?.1 hz
      have hin : i < n := by
        have h1 := (List.getElem?_eq_some_iff.1 ht).1
        rw [hlen.out] at h1
        rcases Nat.lt_or_ge i n with h2 | h2
        · exact h2
        · have := hlo.out t z (by omega) ht; omega
      obtain ⟨y, hy, rfl, y0⟩ := (h.out.below hb.out (Nat.le_refl _)).at1 hin
      have hxy := hhi.out i y (Nat.le_refl _) hy
      have i2 : (i : Int) < (n : Int) := by omega
      have hy := Lib.hid hy
      have hxy := Lib.hid hxy
      clear ht
      by_cases e : y = x
      · have e1 : ((y : Int) == (x : Int)) = true := by rw [beq_iff_eq]; omega
        go_wp2_with fail
        go_returns
        first | exact ⟨i, .inr rfl, y, hy.out, hxy.out, hlo.out, hb.out⟩ | exact ⟨i, _, y, rfl, hy.out, hxy.out, hlo.out, hb.out⟩ | fail "no"
      · have e1 : ((y : Int) == (x : Int)) = false := by rw [beq_eq_false_iff_ne]; omega
        go_wp2_with (go_at_call 66; ((with_reducible refine (NU.out _ _).mono ?_); rintro e w1 ⟨rfl, rfl⟩))
        go_returns
        first | exact ⟨i, .inr rfl, y, hy.out, hxy.out, hlo.out, hb.out⟩ | exact ⟨i, _, y, rfl, hy.out, hxy.out, hlo.out, hb.out⟩ | fail "no"
end Go.Proofs.Ytkkegdhnkefogaa
