/-
  How rows (api.Row) lie in memory, and the contract of the document's SameRows. No condition.
-/
import Derived.Test.YtkkegdhnkefogaaKit
import Derived.Test.YtkkegdhnkefogaaRows
import Derived.Test.YtkkegdhnkefogaaBut
import Derived.Laws.OwnMore
import Derived.Handy
import Derived.Deep.QuietTactic
import Derived.BigQuiet
import Derived.Deep.Cut
import Derived.Deep.DeepCutAuto
namespace Go.Proofs.Ytkkegdhnkefogaa
set_option maxRecDepth 100000
open Go.RowKit
theorem bytes_inj {s t : ByteArray} (h : s.toList = t.toList) : s = t := by
  rw [ByteArray.toList_eq, ByteArray.toList_eq] at h
  exact ByteArray.ext (Array.toList_inj.1 h)
/-- A row. -/
structure Rw where
  key : ByteArray
  seq : Nat
  kind : Int
  val : ByteArray
/-- Rows as cells. -/
def rowR (l : List Rw) : List Value := l.flatMap fun x => [.string x.key, .int .u64 (x.seq : Int), .int .i64 x.kind, .string x.val]
theorem rowR_len (l : List Rw) : (rowR l).length = l.length * 4 := by
  induction l with
  | nil => rfl
  | cons x r ih => show ([_, _, _, _] ++ rowR r).length = _; rw [List.length_append, ih]; simp; omega
theorem rowR_snoc (l : List Rw) (x : Rw) : rowR (l ++ [x]) = rowR l ++ [.string x.key, .int .u64 (x.seq : Int), .int .i64 x.kind, .string x.val] := by simp [rowR]
theorem rowR_app (l k : List Rw) : rowR (l ++ k) = rowR l ++ rowR k := by simp [rowR]
theorem rowR_at : ∀ (l : List Rw) (j : Nat) {x : Rw}, l[j]? = some x → (rowR l)[j * 4]? = some (.string x.key) ∧ (rowR l)[j * 4 + 1]? = some (.int .u64 (x.seq : Int)) ∧ (rowR l)[j * 4 + 2]? = some (.int .i64 x.kind) ∧ (rowR l)[j * 4 + 3]? = some (.string x.val)
  | [], _, _, h => by cases h
  | y :: r, 0, x, h => by
    obtain rfl : y = x := by simpa using h
    exact ⟨rfl, rfl, rfl, rfl⟩
  | y :: r, j + 1, x, h => by
    obtain ⟨h1, h2, h3, h4⟩ := rowR_at r j (x := x) (by simpa using h)
    refine ⟨?_, ?_, ?_, ?_⟩
    · show (_ :: _ :: _ :: _ :: rowR r)[(j + 1) * 4]? = _
      rw [show (j + 1) * 4 = j * 4 + 1 + 1 + 1 + 1 by omega]; simpa using h1
    · show (_ :: _ :: _ :: _ :: rowR r)[(j + 1) * 4 + 1]? = _
      rw [show (j + 1) * 4 + 1 = j * 4 + 1 + 1 + 1 + 1 + 1 by omega]; simpa using h2
    · show (_ :: _ :: _ :: _ :: rowR r)[(j + 1) * 4 + 2]? = _
      rw [show (j + 1) * 4 + 2 = j * 4 + 2 + 1 + 1 + 1 + 1 by omega]; simpa using h3
    · show (_ :: _ :: _ :: _ :: rowR r)[(j + 1) * 4 + 3]? = _
      rw [show (j + 1) * 4 + 3 = j * 4 + 3 + 1 + 1 + 1 + 1 by omega]; simpa using h4
/-- The rows lie one behind the other from ⟨b, o⟩ on. -/
def RwsAt (b o : Nat) (l : List Rw) (w : World) : Prop :=
  ∀ (j : Nat) x, l[j]? = some x → w.cell? ⟨b, o + j * 4, none⟩ = some (.string x.key) ∧ w.cell? ⟨b, o + j * 4 + 1, none⟩ = some (.int .u64 (x.seq : Int)) ∧ w.cell? ⟨b, o + j * 4 + 2, none⟩ = some (.int .i64 x.kind) ∧ w.cell? ⟨b, o + j * 4 + 3, none⟩ = some (.string x.val)
/-- A slice of rows. -/
structure Rs (a : Option Addr) (n c b o : Nat) (l : List Rw) (w : World) : Prop where
  len : l.length = n
  cap : n ≤ c
  most : c ≤ 9223372036854775807
  addr : 0 < n → a = some ⟨b, o, none⟩ ∧ b < w.heap.size
  at' : RwsAt b o l w
theorem RwsAt.keep {b o : Nat} {l : List Rw} {w w' : World} (h : RwsAt b o l w) (hk : w'.heap[b]? = w.heap[b]?) : RwsAt b o l w' := fun j x hx => by
  have e : ∀ a, w'.cell? ⟨b, a, none⟩ = w.cell? ⟨b, a, none⟩ := fun a => World.cell?_of_block (a := ⟨b, a, none⟩) hk
  rw [e, e, e, e]; exact h j x hx
theorem RwsAt.nil (b o : Nat) (w : World) : RwsAt b o [] w := fun j x h => by cases h
theorem Rs.keep {a : Option Addr} {n c b o : Nat} {l : List Rw} {w w' : World} (h : Rs a n c b o l w) (hk : 0 < n → w'.heap[b]? = w.heap[b]?) (hs : w.heap.size ≤ w'.heap.size) : Rs a n c b o l w' := by
  refine ⟨h.len, h.cap, h.most, fun h0 => ⟨(h.addr h0).1, Nat.lt_of_lt_of_le (h.addr h0).2 hs⟩, ?_⟩
  by_cases h0 : 0 < n
  · exact h.at'.keep (hk h0)
  · have : l = [] := List.length_eq_zero_iff.1 (by rw [h.len]; omega)
    subst this
    exact RwsAt.nil _ _ _
theorem Rs.below {B : Nat} {a : Option Addr} {n c b o : Nat} {l : List Rw} {w w' : World} (h : Rs a n c b o l w) (hb : Below B w w') (hB : w.heap.size ≤ B) : Rs a n c b o l w' := h.keep (fun h0 => hb.block b (Nat.lt_of_lt_of_le (h.addr h0).2 hB)) hb.size
theorem Rs.at4 {a : Option Addr} {n c b o : Nat} {l : List Rw} {w : World} (h : Rs a n c b o l w) {j : Nat} (hj : j < n) : ∃ x, l[j]? = some x ∧ a = some ⟨b, o, none⟩ ∧ w.cell? ⟨b, o + j * 4, none⟩ = some (.string x.key) ∧ w.cell? ⟨b, o + j * 4 + 1, none⟩ = some (.int .u64 (x.seq : Int)) ∧ w.cell? ⟨b, o + j * 4 + 2, none⟩ = some (.int .i64 x.kind) ∧ w.cell? ⟨b, o + j * 4 + 3, none⟩ = some (.string x.val) := by
  obtain ⟨x, hx⟩ : ∃ x, l[j]? = some x := ⟨_, List.getElem?_eq_getElem (by rw [h.len]; exact hj)⟩
  exact ⟨x, hx, (h.addr (by omega)).1, h.at' j x hx⟩
/-- An own row of rows is a slice of rows. -/
theorem rs_of_row {w : World} {B : Nat} {v : Value} {l : List Rw} (h : w.ownsRow B 42 4 v l.length (rowR l)) : ∃ a c b, v = .slice a l.length c ∧ Rs a l.length c b 0 l w ∧ (0 < l.length → B ≤ b) := by
  rcases h.2 with ⟨rfl, hz⟩ | ⟨g, cap, cur, rfl, hg, hb, hn, hm, hs, ht⟩
  · have : l = [] := List.length_eq_zero_iff.1 hz
    subst this
    exact ⟨none, 0, 0, rfl, ⟨rfl, Nat.le_refl _, by omega, fun h => absurd h (by simp), RwsAt.nil _ _ _⟩, fun h => absurd h (by simp)⟩
  · refine ⟨_, _, g, rfl, ⟨rfl, hn, hm, fun _ => ⟨rfl, (Array.getElem?_eq_some_iff.1 hb).1⟩, fun j x hx => ?_⟩, fun _ => hg⟩
    have hj : j < l.length := (List.getElem?_eq_some_iff.1 hx).1
    obtain ⟨e0, e1, e2, e3⟩ := rowR_at l j hx
    rw [Nat.zero_add]
    exact ⟨(World.ownsRow.cellAt h _ (by omega)).trans e0, (World.ownsRow.cellAt h _ (by omega)).trans e1, (World.ownsRow.cellAt h _ (by omega)).trans e2, (World.ownsRow.cellAt h _ (by omega)).trans e3⟩
theorem rw_eq {s1 s2 : Nat} {k1 k2 : Int} {a1 a2 v1 v2 : ByteArray} : (⟨a1, s1, k1, v1⟩ : Rw) = ⟨a2, s2, k2, v2⟩ ↔ a1.toList = a2.toList ∧ (s1 : Int) = (s2 : Int) ∧ k1 = k2 ∧ v1.toList = v2.toList := by
  simp only [Rw.mk.injEq]
  exact ⟨fun ⟨h1, h2, h3, h4⟩ => ⟨by rw [h1], by omega, h3, by rw [h4]⟩, fun ⟨h1, h2, h3, h4⟩ => ⟨bytes_inj h1, by omega, h3, bytes_inj h4⟩⟩
theorem neq_rw (xs ys : ByteArray) (xn yn : Nat) (xk yk : Int) (xv yv : ByteArray) (B : Bool) (hB : B = true ↔ ¬ (⟨xs, xn, xk, xv⟩ : Rw) = ⟨ys, yn, yk, yv⟩) (u : World) : (binOp .neq 42 (.agg #[.string xs, .int .u64 (xn : Int), .int .i64 xk, .string xv]) (.agg #[.string ys, .int .u64 (yn : Int), .int .i64 yk, .string yv])).run Try.prog u = .ok (.bool B) u := by
  rw [rw_eq] at hB
  go_simp
  by_cases h1 : xs.toList = ys.toList
  · by_cases h2 : (xn : Int) = (yn : Int)
    · by_cases h3 : xk = yk
      · by_cases h4 : xv.toList = yv.toList
        · have : B = false := by cases B <;> simp_all
          simp [h1, h2, h3, h4, this]
        · have : B = true := hB.2 (fun h => h4 h.2.2.2)
          simp [h1, h2, h3, h4, this]
      · have : B = true := hB.2 (fun h => h3 h.2.2.1)
        simp [h1, h2, h3, this]
    · have : B = true := hB.2 (fun h => h2 h.2.1)
      simp [h1, h2, this]
  · have : B = true := hB.2 (fun h => h1 h.1)
    simp [h1, this]
open Classical in
set_option maxRecDepth 100000 in
set_option maxHeartbeats 4000000 in
theorem samerows_any {p1 p2 : Option Addr} {n1 c1 b1 o1 n2 c2 b2 o2 : Nat} {l1 l2 : List Rw} {w : World} (h1 : Rs p1 n1 c1 b1 o1 l1 w) (h2 : Rs p2 n2 c2 b2 o2 l2 w) :
    Calls Try.prog 16 #[.slice p1 n1 c1, .slice p2 n2 c2] w fun e w' => e = .returned (.bool (decide (l1 = l2))) ∧ Below w.heap.size w w' := by
  have m1 := h1.most
  have m2 := h2.most
  have q1 := h1.cap
  have q2 := h2.cap
  by_cases hn : n1 = n2
  · subst hn
    have g2 : (((n1 : Nat) : Int) != ((n1 : Nat) : Int)) = false := by rw [bne_eq_false_iff_eq]
    obtain ⟨R, hR⟩ := named (decide (l1 = l2))
    rw [← hR.out]
    have e1 := Lib.hid h1.len
    have e2 := Lib.hid h2.len
    have h1 := Lib.hid h1
    have h2 := Lib.hid h2
    go_enter Try.func16, Try.ntmps16
    go_wp2_with fail
    go_loopw [5] (fun i wr => ∃ j : Nat, j ≤ n1 ∧ i = .int .i64 (j : Int) ∧ l1.take j = l2.take j ∧ Below w.heap.size w wr) (fun i _ => n1 - (intOf i).toNat)
    case atStart => exact ⟨0, Nat.zero_le _, rfl, rfl, Below.refl _ _⟩
    case round =>
      obtain ⟨j, hj, rfl, ht, hb⟩ := hrel
      by_cases hlt : j < n1
      · obtain ⟨x, hx, rfl, a0, a1, a2, a3⟩ := (h1.out.below hb (Nat.le_refl _)).at4 hlt
        obtain ⟨y, hy, rfl, d0, d1, d2, d3⟩ := (h2.out.below hb (Nat.le_refl _)).at4 hlt
        obtain ⟨xs, xn, xk, xv⟩ := x
        obtain ⟨ys, yn, yk, yv⟩ := y
        simp only at a0 a1 a2 a3 d0 d1 d2 d3
        have hx := Lib.hid hx
        have hy := Lib.hid hy
        have ht := Lib.hid ht
        have hb := Lib.hid hb
        by_cases hxy : (⟨xs, xn, xk, xv⟩ : Rw) = ⟨ys, yn, yk, yv⟩
        · have NEQ : ∀ u : World, (binOp .neq 42 (.agg #[.string xs, .int .u64 (xn : Int), .int .i64 xk, .string xv]) (.agg #[.string ys, .int .u64 (yn : Int), .int .i64 yk, .string yv])).run Try.prog u = .ok (.bool false) u := fun u => neq_rw _ _ _ _ _ _ _ _ _ (by simp [hxy]) u
          have ht2 : Hid (l1.take (j + 1) = l2.take (j + 1)) := Lib.hid (by rw [List.take_add_one, List.take_add_one, ht.out, hx.out, hy.out, hxy])
          clear hxy ht
          go_upto_region 6 with fail
          go_quiet (fail)
          go_wp2_with fail
          go_roundw
          case rel => exact ⟨j + 1, by omega, by go_num, ht2.out, below_drewN hb.out⟩
          case measure => simp [intOf]; omega
        · have NEQ : ∀ u : World, (binOp .neq 42 (.agg #[.string xs, .int .u64 (xn : Int), .int .i64 xk, .string xv]) (.agg #[.string ys, .int .u64 (yn : Int), .int .i64 yk, .string yv])).run Try.prog u = .ok (.bool true) u := fun u => neq_rw _ _ _ _ _ _ _ _ _ (by simpa using hxy) u
          have hR0 : R = false := by
            rw [hR.out, decide_eq_false_iff_not]
            intro e
            have h1 := hx.out
            rw [e, hy.out] at h1
            exact hxy (Option.some.inj h1).symm
          subst hR0
          clear hxy ht
          go_upto_region 6 with fail
          go_quiet (fail)
          go_wp2_with fail
          go_returns
          exact ⟨rfl, below_drewN hb.out⟩
      · have hjn : j = n1 := by omega
        subst hjn
        have hR1 : R = true := by
          rw [hR.out, decide_eq_true_eq]
          rw [← e1.out, List.take_length] at ht
          rw [ht, e1.out, ← e2.out, List.take_length]
        subst hR1
        go_wp2_with fail
        go_returns
        exact ⟨rfl, hb⟩
  · have hR : decide (l1 = l2) = false := by
      rw [decide_eq_false_iff_not]
      intro e
      rw [e] at h1
      exact hn (h1.len.symm.trans h2.len)
    rw [hR]
    have g2 : (((n1 : Nat) : Int) != ((n2 : Nat) : Int)) = true := by rw [bne_iff_ne]; omega
    clear h1 h2 hR
    go_enter Try.func16, Try.ntmps16
    go_wp2_with fail
    go_returns
    exact ⟨rfl, Below.refl _ _⟩
end Go.Proofs.Ytkkegdhnkefogaa
