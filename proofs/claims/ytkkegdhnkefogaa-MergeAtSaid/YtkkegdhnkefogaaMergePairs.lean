/-
  The document's SamePairs, at two rows of the same pairs. No condition.
-/
import Derived.Test.YtkkegdhnkefogaaMergeRefAt
import Derived.Deep.QuietTactic
namespace Go.Proofs.Ytkkegdhnkefogaa
set_option maxRecDepth 100000
open Go.RowKit
theorem rowP_at : ∀ (l : List (ByteArray × ByteArray)) (j : Nat) {x : ByteArray × ByteArray}, l[j]? = some x → (rowP l)[j * 2]? = some (.string x.1) ∧ (rowP l)[j * 2 + 1]? = some (.string x.2)
  | [], _, _, h => by cases h
  | y :: r, 0, x, h => by
    obtain rfl : y = x := by simpa using h
    exact ⟨rfl, rfl⟩
  | y :: r, j + 1, x, h => by
    obtain ⟨h1, h2⟩ := rowP_at r j (x := x) (by simpa using h)
    refine ⟨?_, ?_⟩
    · show (_ :: _ :: rowP r)[(j + 1) * 2]? = _
      rw [show (j + 1) * 2 = j * 2 + 1 + 1 by omega]; simpa using h1
    · show (_ :: _ :: rowP r)[(j + 1) * 2 + 1]? = _
      rw [show (j + 1) * 2 + 1 = j * 2 + 1 + 1 + 1 by omega]; simpa using h2
/-- A row of pairs, as it is read. -/
theorem own_pr {w : World} {B : Nat} {v : Value} {L : List (ByteArray × ByteArray)} (h : w.ownsRow B 47 2 v L.length (rowP L)) {j : Nat} {x : ByteArray × ByteArray} (hx : L[j]? = some x) :
    ∃ g c, v = .slice (some ⟨g, 0, none⟩) L.length c ∧ L.length ≤ c ∧ c ≤ 9223372036854775807 ∧ w.cell? ⟨g, j * 2, none⟩ = some (.string x.1) ∧ w.cell? ⟨g, j * 2 + 1, none⟩ = some (.string x.2) := by
  have hj := (List.getElem?_eq_some_iff.1 hx).1
  rcases h.2 with ⟨_, h0⟩ | ⟨g, cap, cur, rfl, _, _, hc, hm, _⟩
  · omega
  · obtain ⟨e0, e1⟩ := rowP_at L j hx
    exact ⟨g, cap, rfl, hc, hm, (World.ownsRow.cellAt h _ (by omega)).trans e0, (World.ownsRow.cellAt h _ (by omega)).trans e1⟩
theorem neq_pr (a x : ByteArray) (u : World) : (binOp .neq 47 (.agg #[.string a, .string x]) (.agg #[.string a, .string x])).run Try.prog u = .ok (.bool false) u := by
  go_simp
set_option maxRecDepth 100000 in
set_option maxHeartbeats 4000000 in
theorem samepairs_any {w : World} {B1 B2 : Nat} {v1 v2 : Value} {L : List (ByteArray × ByteArray)} (h1 : w.ownsRow B1 47 2 v1 L.length (rowP L)) (h2 : w.ownsRow B2 47 2 v2 L.length (rowP L)) :
    Calls Try.prog 19 #[v1, v2] w fun e w' => e = .returned (.bool true) ∧ Below w.heap.size w w' := by
  obtain ⟨p1, c1, rfl⟩ := row_shape h1
  obtain ⟨p2, c2, rfl⟩ := row_shape h2
  have h1 := Lib.hid h1
  have h2 := Lib.hid h2
  obtain ⟨n, hn⟩ := named L.length
  rw [← hn.out]
  have g2 : (((n : Nat) : Int) != ((n : Nat) : Int)) = false := by rw [bne_eq_false_iff_eq]
  go_enter Try.func19, Try.ntmps19
  go_wp2_with fail
  go_loopw [5] (fun i wr => ∃ j : Nat, j ≤ n ∧ i = .int .i64 (j : Int) ∧ Hid (Below w.heap.size w wr)) (fun i _ => n - (intOf i).toNat)
  case atStart => exact ⟨0, Nat.zero_le _, rfl, Lib.hid (Below.refl _ _)⟩
  case round =>
    obtain ⟨j, hj, rfl, hb⟩ := hrel
    by_cases hlt : j < n
    · obtain ⟨x, hx⟩ : ∃ x, L[j]? = some x := ⟨_, List.getElem?_eq_getElem (by rw [← hn.out]; exact hlt)⟩
      obtain ⟨g1, d1, e1, ec1, em1, x0, x1⟩ := own_pr (own_belowM h1.out hb.out) hx
      obtain ⟨g2', d2, e2, ec2, em2, y0, y1⟩ := own_pr (own_belowM h2.out hb.out) hx
      simp only [Value.slice.injEq] at e1 e2
      obtain ⟨rfl, _, rfl⟩ := e1
      obtain ⟨rfl, _, rfl⟩ := e2
      rw [← hn.out] at ec1 ec2
      have NEQ := neq_pr x.1 x.2
      have i1 : (j : Int) < (n : Int) := by omega
      obtain ⟨xk, xv⟩ := x
      simp only at x0 x1 y0 y1 NEQ
      have hb := Lib.hid hb.out
      clear hx
      go_upto_region 6 with fail
      go_quiet (fail)
      go_wp2_with fail
      go_roundw
      case rel => exact ⟨j + 1, by omega, by go_num, Lib.hid (below_drewN hb.out)⟩
      case measure => simp [intOf]; omega
    · have hjn : j = n := by omega
      subst hjn
      go_wp2_with fail
      go_returns
      exact ⟨rfl, hb.out⟩
end Go.Proofs.Ytkkegdhnkefogaa
