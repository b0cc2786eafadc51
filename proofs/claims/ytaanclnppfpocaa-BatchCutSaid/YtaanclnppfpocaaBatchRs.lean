/-
  How rows lie in memory; the rows of a batch. No condition.
-/
import Derived.Test.YtaanclnppfpocaaBatchRows
import Derived.Test.YtaanclnppfpocaaBatchSame
import Derived.Laws.OwnMore
namespace Go.Proofs.Ytaanclnppfpocaa
open Go.RowKit
/-- A row. -/
structure Rw where
  key : ByteArray
  seq : Nat
  kind : Int
  val : ByteArray
/-- Rows as cells. -/
def rowR (l : List Rw) : List Value := l.flatMap fun x => [.string x.key, .int .u64 (x.seq : Int), .int .i64 x.kind, .string x.val]
theorem rowR_len (l : List Rw) : (rowR l).length = l.length * 4 := by
  induction l with
  | nil => rfl
  | cons x r ih => show ([_, _, _, _] ++ rowR r).length = _; rw [List.length_append, ih]; simp; omega
theorem rowR_snoc (l : List Rw) (x : Rw) : rowR (l ++ [x]) = rowR l ++ [.string x.key, .int .u64 (x.seq : Int), .int .i64 x.kind, .string x.val] := by simp [rowR]
theorem rowR_app (l k : List Rw) : rowR (l ++ k) = rowR l ++ rowR k := by simp [rowR]
theorem rowR_at : ∀ (l : List Rw) (j : Nat) {x : Rw}, l[j]? = some x → (rowR l)[j * 4]? = some (.string x.key) ∧ (rowR l)[j * 4 + 1]? = some (.int .u64 (x.seq : Int)) ∧ (rowR l)[j * 4 + 2]? = some (.int .i64 x.kind) ∧ (rowR l)[j * 4 + 3]? = some (.string x.val)
  | [], _, _, h => by cases h
  | y :: r, 0, x, h => by
    obtain rfl : y = x := by simpa using h
    exact ⟨rfl, rfl, rfl, rfl⟩
  | y :: r, j + 1, x, h => by
    obtain ⟨h1, h2, h3, h4⟩ := rowR_at r j (x := x) (by simpa using h)
    refine ⟨?_, ?_, ?_, ?_⟩
    · show (_ :: _ :: _ :: _ :: rowR r)[(j + 1) * 4]? = _
      rw [show (j + 1) * 4 = j * 4 + 1 + 1 + 1 + 1 by omega]; simpa using h1
    · show (_ :: _ :: _ :: _ :: rowR r)[(j + 1) * 4 + 1]? = _
      rw [show (j + 1) * 4 + 1 = j * 4 + 1 + 1 + 1 + 1 + 1 by omega]; simpa using h2
    · show (_ :: _ :: _ :: _ :: rowR r)[(j + 1) * 4 + 2]? = _
      rw [show (j + 1) * 4 + 2 = j * 4 + 2 + 1 + 1 + 1 + 1 by omega]; simpa using h3
    · show (_ :: _ :: _ :: _ :: rowR r)[(j + 1) * 4 + 3]? = _
      rw [show (j + 1) * 4 + 3 = j * 4 + 3 + 1 + 1 + 1 + 1 by omega]; simpa using h4
/-- The rows lie one behind the other from ⟨b, o⟩ on. -/
def RwsAt (b o : Nat) (l : List Rw) (w : World) : Prop :=
  ∀ (j : Nat) x, l[j]? = some x → w.cell? ⟨b, o + j * 4, none⟩ = some (.string x.key) ∧ w.cell? ⟨b, o + j * 4 + 1, none⟩ = some (.int .u64 (x.seq : Int)) ∧ w.cell? ⟨b, o + j * 4 + 2, none⟩ = some (.int .i64 x.kind) ∧ w.cell? ⟨b, o + j * 4 + 3, none⟩ = some (.string x.val)
/-- A slice of rows. -/
structure Rs (a : Option Addr) (n c b o : Nat) (l : List Rw) (w : World) : Prop where
  len : l.length = n
  cap : n ≤ c
  most : c ≤ 9223372036854775807
  addr : 0 < n → a = some ⟨b, o, none⟩ ∧ b < w.heap.size
  at' : RwsAt b o l w
theorem RwsAt.keep {b o : Nat} {l : List Rw} {w w' : World} (h : RwsAt b o l w) (hk : w'.heap[b]? = w.heap[b]?) : RwsAt b o l w' := fun j x hx => by
  have e : ∀ a, w'.cell? ⟨b, a, none⟩ = w.cell? ⟨b, a, none⟩ := fun a => World.cell?_of_block (a := ⟨b, a, none⟩) hk
  rw [e, e, e, e]; exact h j x hx
theorem RwsAt.nil (b o : Nat) (w : World) : RwsAt b o [] w := fun j x h => by cases h
theorem Rs.keep {a : Option Addr} {n c b o : Nat} {l : List Rw} {w w' : World} (h : Rs a n c b o l w) (hk : 0 < n → w'.heap[b]? = w.heap[b]?) (hs : w.heap.size ≤ w'.heap.size) : Rs a n c b o l w' := by
  refine ⟨h.len, h.cap, h.most, fun h0 => ⟨(h.addr h0).1, Nat.lt_of_lt_of_le (h.addr h0).2 hs⟩, ?_⟩
  by_cases h0 : 0 < n
  · exact h.at'.keep (hk h0)
  · have : l = [] := List.length_eq_zero_iff.1 (by rw [h.len]; omega)
    subst this
    exact RwsAt.nil _ _ _
theorem Rs.below {B : Nat} {a : Option Addr} {n c b o : Nat} {l : List Rw} {w w' : World} (h : Rs a n c b o l w) (hb : Below B w w') (hB : w.heap.size ≤ B) : Rs a n c b o l w' := h.keep (fun h0 => hb.block b (Nat.lt_of_lt_of_le (h.addr h0).2 hB)) hb.size
theorem Rs.at4 {a : Option Addr} {n c b o : Nat} {l : List Rw} {w : World} (h : Rs a n c b o l w) {j : Nat} (hj : j < n) : ∃ x, l[j]? = some x ∧ a = some ⟨b, o, none⟩ ∧ w.cell? ⟨b, o + j * 4, none⟩ = some (.string x.key) ∧ w.cell? ⟨b, o + j * 4 + 1, none⟩ = some (.int .u64 (x.seq : Int)) ∧ w.cell? ⟨b, o + j * 4 + 2, none⟩ = some (.int .i64 x.kind) ∧ w.cell? ⟨b, o + j * 4 + 3, none⟩ = some (.string x.val) := by
  obtain ⟨x, hx⟩ : ∃ x, l[j]? = some x := ⟨_, List.getElem?_eq_getElem (by rw [h.len]; exact hj)⟩
  exact ⟨x, hx, (h.addr (by omega)).1, h.at' j x hx⟩
/-- The rows of a batch's writes. -/
def rowsFrom : Nat → List Wr → List Rw
  | _, [] => []
  | seq, x :: r => ⟨x.key, seq, x.kind, x.val⟩ :: rowsFrom (seq + 1) r
theorem rowsFrom_len : ∀ (seq : Nat) (l : List Wr), (rowsFrom seq l).length = l.length
  | _, [] => rfl
  | seq, x :: r => by simp [rowsFrom, rowsFrom_len (seq + 1) r]
theorem rowsFrom_at : ∀ (seq : Nat) (l : List Wr) (i : Nat), (rowsFrom seq l)[i]? = l[i]?.map fun x => ⟨x.key, seq + i, x.kind, x.val⟩
  | _, [], i => by simp [rowsFrom]
  | seq, x :: r, 0 => by simp [rowsFrom]
  | seq, x :: r, i + 1 => by
    simp only [rowsFrom, List.getElem?_cons_succ]
    rw [rowsFrom_at (seq + 1) r i]
    have : seq + 1 + i = seq + (i + 1) := by omega
    rw [this]
theorem rowsFrom_take : ∀ (seq : Nat) (l : List Wr) (k : Nat), rowsFrom seq (l.take k) = (rowsFrom seq l).take k
  | _, [], k => by simp [rowsFrom]
  | seq, x :: r, 0 => by simp [rowsFrom]
  | seq, x :: r, k + 1 => by simp only [List.take_succ_cons, rowsFrom]; rw [rowsFrom_take (seq + 1) r k]
theorem rowsFrom_cut : ∀ (seq : Nat) (l k : List Wr), rowsFrom seq (l ++ k) = rowsFrom seq l ++ rowsFrom (seq + l.length) k
  | seq, [], k => by simp [rowsFrom]
  | seq, x :: r, k => by
    simp only [List.cons_append, rowsFrom, List.length_cons]
    rw [rowsFrom_cut (seq + 1) r k]
    have : seq + 1 + r.length = seq + (r.length + 1) := by omega
    rw [this]
/-- The rows of a batch: none, if it is not valid. -/
def rowsB (seq : Nat) (l : List Wr) : List Rw := if chkB seq l = 0 then rowsFrom seq l else []
/-- What the program's Rows returns, as rows. -/
theorem rs_of_rows {seq : Nat} {l : List Wr} {w w' : World} {e : Ending} (h : RowsB seq l w e w') : ∃ a n c b, e = .returned (.slice a n c) ∧ Rs a n c b 0 (rowsB seq l) w' ∧ (0 < n → w.heap.size ≤ b ∧ ∃ cur, w'.heap[b]? = some (.cells cur 40 (0, 0)) ∧ cur.size = n * 4) ∧ Below w.heap.size w w' := by
  obtain ⟨h1, hb⟩ := h
  unfold rowsB
  by_cases hc : chkB seq l = 0
  · rw [if_pos hc] at h1 ⊢
    obtain ⟨g, he, hg, cur, c1, c2, c3⟩ := h1
    obtain ⟨_, _, _, k3, _⟩ := chkB_ok hc
    refine ⟨_, _, _, g, he, ⟨rowsFrom_len _ _, Nat.le_refl _, by omega, fun _ => ⟨rfl, (Array.getElem?_eq_some_iff.1 c1).1⟩, fun j x hx => ?_⟩, fun _ => ⟨hg, cur, c1, c2⟩, hb⟩
    rw [rowsFrom_at] at hx
    obtain ⟨y, hy, rfl⟩ := Option.map_eq_some_iff.1 hx
    have hj : j < l.length := (List.getElem?_eq_some_iff.1 hy).1
    obtain ⟨a1, a2, a3, a4⟩ := c3 j y hj hy
    have e : ∀ k, w'.cell? ⟨g, k, none⟩ = cur[k]? := fun k => by simp [World.cell?, c1]
    rw [Nat.zero_add, e, e, e, e]
    exact ⟨a1, a2, a3, a4⟩
  · rw [if_neg hc] at h1 ⊢
    exact ⟨none, 0, 0, 0, h1, ⟨rfl, Nat.le_refl _, by omega, fun h => absurd h (by omega), RwsAt.nil _ _ _⟩, fun h => absurd h (by omega), hb⟩
/-- An own row of rows is a slice of rows. -/
theorem rs_of_row {w : World} {B : Nat} {v : Value} {l : List Rw} (h : w.ownsRow B 40 4 v l.length (rowR l)) : ∃ a c b, v = .slice a l.length c ∧ Rs a l.length c b 0 l w ∧ (0 < l.length → B ≤ b) := by
  rcases h.2 with ⟨rfl, hz⟩ | ⟨g, cap, cur, rfl, hg, hb, hn, hm, hs, ht⟩
  · have : l = [] := List.length_eq_zero_iff.1 hz
    subst this
    exact ⟨none, 0, 0, rfl, ⟨rfl, Nat.le_refl _, by omega, fun h => absurd h (by simp), RwsAt.nil _ _ _⟩, fun h => absurd h (by simp)⟩
  · refine ⟨_, _, g, rfl, ⟨rfl, hn, hm, fun _ => ⟨rfl, (Array.getElem?_eq_some_iff.1 hb).1⟩, fun j x hx => ?_⟩, fun _ => hg⟩
    have hj : j < l.length := (List.getElem?_eq_some_iff.1 hx).1
    obtain ⟨e0, e1, e2, e3⟩ := rowR_at l j hx
    rw [Nat.zero_add]
    exact ⟨(World.ownsRow.cellAt h _ (by omega)).trans e0, (World.ownsRow.cellAt h _ (by omega)).trans e1, (World.ownsRow.cellAt h _ (by omega)).trans e2, (World.ownsRow.cellAt h _ (by omega)).trans e3⟩
theorem rw_eq {s1 s2 : Nat} {k1 k2 : Int} {a1 a2 v1 v2 : ByteArray} : (⟨a1, s1, k1, v1⟩ : Rw) = ⟨a2, s2, k2, v2⟩ ↔ a1.toList = a2.toList ∧ (s1 : Int) = (s2 : Int) ∧ k1 = k2 ∧ v1.toList = v2.toList := by
  simp only [Rw.mk.injEq]
  exact ⟨fun ⟨h1, h2, h3, h4⟩ => ⟨by rw [h1], by omega, h3, by rw [h4]⟩, fun ⟨h1, h2, h3, h4⟩ => ⟨bytes_inj h1, by omega, h3, bytes_inj h4⟩⟩
theorem neq_rw (xs ys : ByteArray) (xn yn : Nat) (xk yk : Int) (xv yv : ByteArray) (B : Bool) (hB : B = true ↔ ¬ (⟨xs, xn, xk, xv⟩ : Rw) = ⟨ys, yn, yk, yv⟩) (u : World) : (binOp .neq 40 (.agg #[.string xs, .int .u64 (xn : Int), .int .i64 xk, .string xv]) (.agg #[.string ys, .int .u64 (yn : Int), .int .i64 yk, .string yv])).run Try.prog u = .ok (.bool B) u := by
  rw [rw_eq] at hB
  go_simp
  by_cases h1 : xs.toList = ys.toList
  · by_cases h2 : (xn : Int) = (yn : Int)
    · by_cases h3 : xk = yk
      · by_cases h4 : xv.toList = yv.toList
        · have : B = false := by cases B <;> simp_all
          simp [h1, h2, h3, h4, this]
        · have : B = true := hB.2 (fun h => h4 h.2.2.2)
          simp [h1, h2, h3, h4, this]
      · have : B = true := hB.2 (fun h => h3 h.2.2.1)
        simp [h1, h2, h3, this]
    · have : B = true := hB.2 (fun h => h2 h.2.1)
      simp [h1, h2, this]
  · have : B = true := hB.2 (fun h => h1 h.1)
    simp [h1, this]
end Go.Proofs.Ytaanclnppfpocaa
