/-
  The two ways of reading, the program's reader and the document's places, come to the same. No condition.
-/
import Derived.Test.YtnmjfdejgfmoiaaPack8
import Derived.RangeFuncBox
import Derived.RangeFuncWrites
import Derived.Laws.OwnMore
import Derived.Test.YtnmjfdejgfmoiaaShelf
import Derived.Deep.AppendLies
import Derived.Deep.Upon
namespace Go.Proofs.Ytnmjfdejgfmoiaa
set_option maxRecDepth 100000
open Go.RowKit
/-- The program's reader stands before t where the document's stands at o in l. -/
def RdO (l : List UInt8) (t : ByteArray) (f : Bool) : Option Nat → Prop
  | none => t.size = 0 ∧ f = true
  | some a => a ≤ l.length ∧ t.data.toList = l.drop a ∧ f = false
abbrev mostN : Nat := 18446744073709551615
theorem empty_list {t : ByteArray} (h : t.size = 0) : t.data.toList = [] := List.eq_nil_of_length_eq_zero (by rw [Array.length_toList]; exact h)
theorem end_size (t : ByteArray) : (t.extract t.size t.size).size = 0 := by rw [ByteArray.size_extract]; omega
theorem rdf_nil (x : Int) : (Code.rdField [] x).2.2 ≠ 0 := by
  have h := Code.rd_nil 0
  unfold Code.rdField
  simp [h]
theorem rnum_o {l : List UInt8} {t : ByteArray} {f : Bool} {o : Option Nat} (h : RdO l t f o) : (rnum t f).1 = (dnum l o mostN).1 ∧ RdO l (rnum t f).2.1 (rnum t f).2.2 (dnum l o mostN).2 := by
  cases o with
  | none =>
    obtain ⟨h1, rfl⟩ := h
    have e := empty_list h1
    unfold rnum
    rw [e, Code.rd_nil]
    exact ⟨rfl, end_size t, rfl⟩
  | some a =>
    obtain ⟨h1, h2, rfl⟩ := h
    have hk := Code.rd_size (l.drop a)
    have hf := Code.rd_fits (l.drop a)
    rw [List.length_drop] at hk
    unfold rnum dnum
    simp only
    rw [h2]
    by_cases he : (Code.rd 0 (l.drop a)).2.2 = 0
    · rw [if_pos he, if_pos ⟨he, by unfold mostN; omega⟩]
      refine ⟨rfl, by omega, ?_, rfl⟩
      rw [ext_drop, h2, List.drop_drop]
    · rw [if_neg he, if_neg (fun h => he h.1)]
      exact ⟨rfl, end_size t, rfl⟩
theorem rup_o {l : List UInt8} {t : ByteArray} {f : Bool} {o : Option Nat} (most : Nat) (h : RdO l t f o) : (rup t f most).1 = (dnum l o most).1 ∧ RdO l (rup t f most).2.1 (rup t f most).2.2 (dnum l o most).2 := by
  obtain ⟨h1, h2⟩ := rnum_o h
  unfold rup
  cases o with
  | none =>
    have e1 : (rnum t f).1 = 0 := h1
    rw [if_pos (by omega)]
    exact ⟨e1, h2⟩
  | some a =>
    have hf := Code.rd_fits (l.drop a)
    unfold dnum at h1 h2 ⊢
    simp only at h1 h2 ⊢
    by_cases he : (Code.rd 0 (l.drop a)).2.2 = 0
    · rw [if_pos ⟨he, by unfold mostN; omega⟩] at h1 h2
      simp only at h1 h2
      by_cases hm : (Code.rd 0 (l.drop a)).1 ≤ most
      · have k : (rnum t f).1 ≤ most := by rw [h1]; exact hm
        rw [if_pos k, if_pos ⟨he, hm⟩]
        exact ⟨h1, h2⟩
      · have k : ¬ (rnum t f).1 ≤ most := by rw [h1]; exact hm
        rw [if_neg k, if_neg (fun h => hm h.2)]
        exact ⟨rfl, end_size _, rfl⟩
    · rw [if_neg (fun h => he h.1)] at h1 h2
      simp only at h1 h2
      have k : (rnum t f).1 ≤ most := by rw [h1]; exact Nat.zero_le _
      rw [if_pos k, if_neg (fun h => he h.1)]
      exact ⟨h1, h2⟩
theorem rkey_o {l : List UInt8} {t : ByteArray} {f : Bool} {o : Option Nat} (h : RdO l t f o) : (rkey t f).1 = (dtxt l o).1 ∧ RdO l (rkey t f).2.1 (rkey t f).2.2 (dtxt l o).2 := by
  cases o with
  | none =>
    obtain ⟨h1, rfl⟩ := h
    have e := empty_list h1
    unfold rkey
    rw [e, if_neg (rdf_nil 520)]
    exact ⟨rfl, end_size t, rfl⟩
  | some a =>
    obtain ⟨h1, h2, rfl⟩ := h
    have hk := rdf_err (l.drop a) 520
    rw [List.length_drop] at hk
    unfold rkey dtxt
    simp only
    rw [h2]
    by_cases he : (Code.rdField (l.drop a) 520).2.2 = 0
    · rw [if_pos he, if_pos he]
      refine ⟨rfl, by omega, ?_, rfl⟩
      rw [ext_drop, h2, List.drop_drop]
    · rw [if_neg he, if_neg he]
      exact ⟨rfl, end_size t, rfl⟩
/-- Block b is a reader that stands in l where the document's stands at o. -/
def RO (w : World) (b : Nat) (l : List UInt8) (o : Option Nat) : Prop := ∃ t f, RdrAt w b t f ∧ t.size ≤ reachBytes ∧ RdO l t f o
theorem RO.lt {w : World} {b : Nat} {l : List UInt8} {o : Option Nat} (h : RO w b l o) : b < w.heap.size := by obtain ⟨t, f, h1, _⟩ := h; exact h1.lt
theorem RO.below {B b : Nat} {w w' : World} {l : List UInt8} {o : Option Nat} (h : RO w b l o) (hb : Below B w w') (hB : b < B) : RO w' b l o := by
  obtain ⟨t, f, h1, h2, h3⟩ := h
  exact ⟨t, f, h1.below hb hB, h2, h3⟩
theorem dnum_le (l : List UInt8) (o : Option Nat) (most : Nat) : (dnum l o most).1 ≤ most := by
  unfold dnum
  split
  · exact Nat.zero_le _
  · split
    · rename_i h; exact h.2
    · exact Nat.zero_le _
theorem dtxt_le (l : List UInt8) (o : Option Nat) : (dtxt l o).1.length ≤ 520 := by
  unfold dtxt
  split
  · exact Nat.zero_le _
  · split
    · rename_i a h
      unfold Code.rdField at h ⊢
      split at h
      · exact absurd h (by assumption)
      split at h
      · simp at h
      split at h
      · simp at h
      · rename_i h1 h2 h3
        rw [if_neg h1, if_neg h2, if_neg h3]
        simp only
        rw [List.length_take]
        omega
    · exact Nat.zero_le _
/-- What meta reads. -/
def dmeta (l : List UInt8) (o : Option Nat) : Mt × Option Nat :=
  let r1 := dnum l o mostN
  let r2 := dnum l r1.2 262144
  let r3 := dnum l r2.2 262144
  let r4 := dtxt l r3.2
  let r5 := dtxt l r4.2
  let r6 := dnum l r5.2 mostN
  let r7 := dnum l r6.2 mostN
  (⟨r1.1, (r2.1 : Int), (r3.1 : Int), ⟨r4.1.toArray⟩, ⟨r5.1.toArray⟩, r6.1, r7.1⟩, r7.2)
def dgone (l : List UInt8) (o : Option Nat) : Gn × Option Nat :=
  let r1 := dnum l o 3
  let r2 := dnum l r1.2 mostN
  (⟨(r1.1 : Int), r2.1⟩, r2.2)
def dpl (l : List UInt8) (o : Option Nat) : Pl × Option Nat :=
  let r1 := dnum l o 3
  let r2 := dmeta l r1.2
  (⟨(r1.1 : Int), r2.1⟩, r2.2)
/-- What n rounds of a reader read. -/
def many {α : Type} (rd : Option Nat → α × Option Nat) : Nat → Option Nat → List α × Option Nat
  | 0, o => ([], o)
  | n + 1, o => ((many rd n o).1 ++ [(rd (many rd n o).2).1], (rd (many rd n o).2).2)
theorem many_len {α : Type} (rd : Option Nat → α × Option Nat) (n : Nat) (o : Option Nat) : (many rd n o).1.length = n := by
  induction n with
  | zero => rfl
  | succ n ih => simp [many, ih]
theorem many_none {α : Type} (rd : Option Nat → α × Option Nat) (hr : (rd none).2 = none) (n : Nat) (o : Option Nat) (h : (many rd n o).2 = none) : ∀ m, n ≤ m → (many rd m o).2 = none := by
  intro m hm
  induction m with
  | zero => obtain rfl : n = 0 := by omega
            exact h
  | succ m ih =>
    by_cases e : n = m + 1
    · rw [← e]; exact h
    · show (rd (many rd m o).2).2 = none
      rw [ih (by omega), hr]
theorem dgone_none (l : List UInt8) : (dgone l none).2 = none := rfl
theorem dpl_none (l : List UInt8) : (dpl l none).2 = none := rfl
/-- What Decode reads, ahead of its checks. -/
def dec1 (l : List UInt8) := dnum l (some 0) mostN
def dec2 (l : List UInt8) := dnum l (dec1 l).2 mostN
def dec3 (l : List UInt8) := dnum l (dec2 l).2 mostN
def dec4 (l : List UInt8) := dnum l (dec3 l).2 256
def dec5 (l : List UInt8) := many (dgone l) (dec4 l).1 (dec4 l).2
def dec6 (l : List UInt8) := dnum l (dec5 l).2 256
def dec7 (l : List UInt8) := many (dpl l) (dec6 l).1 (dec6 l).2
def decRaw (l : List UInt8) : Ed := ⟨(dec1 l).1, (dec2 l).1, (dec3 l).1, (dec5 l).1, (dec7 l).1⟩
/-- Are the bytes an edit's? -/
def DecP (l : List UInt8) : Prop := (dec7 l).2 = some l.length ∧ ListedP (decRaw l)
end Go.Proofs.Ytnmjfdejgfmoiaa
/-
  The program's reader: meta, which reads a table's metadata. Condition: a text that came in.
-/
namespace Go.Proofs.Ytnmjfdejgfmoiaa
set_option maxRecDepth 100000
open Go.RowKit
def rm1 (s : ByteArray) (f : Bool) := rnum s f
def rm2 (s : ByteArray) (f : Bool) := rup (rm1 s f).2.1 (rm1 s f).2.2 262144
def rm3 (s : ByteArray) (f : Bool) := rup (rm2 s f).2.1 (rm2 s f).2.2 262144
def rm4 (s : ByteArray) (f : Bool) := rkey (rm3 s f).2.1 (rm3 s f).2.2
def rm5 (s : ByteArray) (f : Bool) := rkey (rm4 s f).2.1 (rm4 s f).2.2
def rm6 (s : ByteArray) (f : Bool) := rnum (rm5 s f).2.1 (rm5 s f).2.2
def rm7 (s : ByteArray) (f : Bool) := rnum (rm6 s f).2.1 (rm6 s f).2.2
/-- What meta reads. -/
def rmeta (s : ByteArray) (f : Bool) : Mt × ByteArray × Bool :=
  (⟨(rm1 s f).1, ((rm2 s f).1 : Int), ((rm3 s f).1 : Int), ⟨(rm4 s f).1.toArray⟩, ⟨(rm5 s f).1.toArray⟩, (rm6 s f).1, (rm7 s f).1⟩, (rm7 s f).2)
abbrev rmO (x : Mt) : Obj := .cells #[.int .u64 (x.num : Int), .int .i64 x.size, .int .i64 x.rows, .string x.fst, .string x.lst, .int .u64 (x.least : Int), .int .u64 (x.gr : Int)] 40 (0, 0)
abbrev rzO : Obj := .cells #[.int .u64 0, .int .i64 0, .int .i64 0, .string ⟨#[]⟩, .string ⟨#[]⟩, .int .u64 0, .int .u64 0] 40 (0, 0)
abbrev rmPut (p : Nat) (x : Mt) (w : World) : World := ((((((w.setCell ⟨p, 0, none⟩ (.int .u64 (x.num : Int))).setCell ⟨p, 1, none⟩ (.int .i64 x.size)).setCell ⟨p, 2, none⟩ (.int .i64 x.rows)).setCell ⟨p, 3, none⟩ (.string x.fst)).setCell ⟨p, 4, none⟩ (.string x.lst)).setCell ⟨p, 5, none⟩ (.int .u64 (x.least : Int))).setCell ⟨p, 6, none⟩ (.int .u64 (x.gr : Int))
set_option maxHeartbeats 8000000 in
theorem rm_put {p : Nat} {w : World} (h : w.heap[p]? = some rzO) (x : Mt) : (rmPut p x w).heap[p]? = some (rmO x) :=
  (heap_setCell_same _ _ _ _ _ _ ((heap_setCell_same _ _ _ _ _ _ ((heap_setCell_same _ _ _ _ _ _ ((heap_setCell_same _ _ _ _ _ _ ((heap_setCell_same _ _ _ _ _ _ ((heap_setCell_same _ _ _ _ _ _ ((heap_setCell_same _ _ _ _ _ _ h).trans rfl)).trans rfl)).trans rfl)).trans rfl)).trans rfl)).trans rfl)).trans rfl
theorem rz_cells {p : Nat} {w : World} (h : w.heap[p]? = some rzO) : w.cell? ⟨p, 0, none⟩ = some (.int .u64 0) ∧ w.cell? ⟨p, 1, none⟩ = some (.int .i64 0) ∧ w.cell? ⟨p, 2, none⟩ = some (.int .i64 0) ∧ w.cell? ⟨p, 3, none⟩ = some (.string ⟨#[]⟩) ∧ w.cell? ⟨p, 4, none⟩ = some (.string ⟨#[]⟩) ∧ w.cell? ⟨p, 5, none⟩ = some (.int .u64 0) ∧ w.cell? ⟨p, 6, none⟩ = some (.int .u64 0) := by
  simp only [World.cell?, h]
  exact ⟨rfl, rfl, rfl, rfl, rfl, rfl, rfl⟩
theorem rm_cells {p : Nat} {w : World} {x : Mt} (h : w.heap[p]? = some (rmO x)) : w.cell? ⟨p, 0, none⟩ = some (.int .u64 (x.num : Int)) ∧ w.cell? ⟨p, 1, none⟩ = some (.int .i64 x.size) ∧ w.cell? ⟨p, 2, none⟩ = some (.int .i64 x.rows) ∧ w.cell? ⟨p, 3, none⟩ = some (.string x.fst) ∧ w.cell? ⟨p, 4, none⟩ = some (.string x.lst) ∧ w.cell? ⟨p, 5, none⟩ = some (.int .u64 (x.least : Int)) ∧ w.cell? ⟨p, 6, none⟩ = some (.int .u64 (x.gr : Int)) := by
  simp only [World.cell?, h]
  exact ⟨rfl, rfl, rfl, rfl, rfl, rfl, rfl⟩
theorem rz_frozen {p : Nat} {w : World} (h : w.heap[p]? = some rzO) : ∀ o, w.frozen? ⟨p, o, none⟩ = false := fun o => by simp [World.frozen?, h]
end Go.Proofs.Ytnmjfdejgfmoiaa
/-
  The program's meta: it reads what the document reads. Condition: a text that came in.
-/
namespace Go.Proofs.Ytnmjfdejgfmoiaa
set_option maxRecDepth 100000
open Go.RowKit
theorem But.setHi {b : Nat} {w w' : World} (h : But b w w') {p : Addr} (hp : w.heap.size ≤ p.block) (u : Value) : But b w (w'.setCell p u) :=
  have g : Below 0 w' (w'.setCell p u) := (Below.refl 0 w').setCell (Nat.zero_le _) u
  ⟨g.os.trans h.os, g.tape.trans h.tape, g.output.trans h.output, Nat.le_trans h.size g.size, fun k hk hb => (Below.heap_setCell w' p u k (by omega)).trans (h.block k hk hb)⟩
theorem RO.keep {b : Nat} {w w' : World} {l : List UInt8} {o : Option Nat} (h : RO w b l o) (hk : w'.heap[b]? = w.heap[b]?) : RO w' b l o := by
  obtain ⟨t, f, ⟨h0, h1, h2, h3⟩, h4⟩ := h
  have e : ∀ a, w'.cell? ⟨b, a, none⟩ = w.cell? ⟨b, a, none⟩ := fun a => World.cell?_of_block (a := ⟨b, a, none⟩) hk
  have e2 : ∀ a, w'.frozen? ⟨b, a, none⟩ = w.frozen? ⟨b, a, none⟩ := fun a => by unfold World.frozen?; rw [hk]
  exact ⟨t, f, ⟨(e 0).trans h0, (e 1).trans h1, (e2 0).trans h2, (e2 1).trans h3⟩, h4⟩
theorem RO.set {b : Nat} {w : World} {l : List UInt8} {o : Option Nat} (h : RO w b l o) {p : Addr} (hp : b ≠ p.block) (u : Value) : RO (w.setCell p u) b l o := h.keep (heap_setCell_other _ _ _ _ hp)
end Go.Proofs.Ytnmjfdejgfmoiaa
/-
  What stands while a loop over a function goes on: all blocks of cells; what an append to a boxed row leaves. No condition.
-/
namespace Go.Proofs.Ytnmjfdejgfmoiaa
set_option maxRecDepth 100000
open Go.RowKit
/-- All blocks of cells stand. -/
def Stays (W W' : World) : Prop := W.heap.size ≤ W'.heap.size ∧ ∀ (k : Nat) (cs : Array Value) (t : TypeId) (m : Nat × Nat), W.heap[k]? = some (.cells cs t m) → W'.heap[k]? = some (.cells cs t m)
theorem Stays.of_below {W W' : World} (h : Below W.heap.size W W') : Stays W W' := ⟨h.size, fun k cs t m hk => (h.block k (Array.getElem?_eq_some_iff.1 hk).1).trans hk⟩
theorem stays_own {W W' : World} {row : Option Nat} (hg : W.grownBy W' row) (hr : ∀ r, row = some r → ∃ o : Obj, W.heap[r]? = some o ∧ o.isCells = false) : Stays W W' := ⟨hg.size, fun k cs t m hk => (hg.block k (Array.getElem?_eq_some_iff.1 hk).1 fun e => by
  obtain ⟨o, ho, hc⟩ := hr k e.symm
  rw [hk] at ho; cases ho; cases hc).trans hk⟩
theorem ownsRow_stays {W W' : World} {N : Nat} {e : TypeId} {sz k : Nat} {v : Value} {xs : List Value} (h : W.ownsRow N e sz v k xs) (hs : Stays W W') : W'.ownsRow N e sz v k xs := by
  refine ⟨h.1, ?_⟩
  rcases h.2 with h2 | ⟨g, cap, cur, h2, h3, h4, h5⟩
  · exact .inl h2
  · exact .inr ⟨g, cap, cur, h2, h3, hs.2 _ _ _ _ h4, h5⟩
theorem Stays.box {W W' : World} (hs : Stays W W') {k : Nat} {t : TypeId} {v : Value} (h : Boxed W k t v) : Boxed W' k t v := hs.2 _ _ _ _ h
theorem keeps_below {W W' : World} (h : Below W.heap.size W W') : KeepsOthers W W' := ⟨h.size, fun k o hk _ => (h.block k (Array.getElem?_eq_some_iff.1 hk).1).trans hk⟩
theorem own_shape {W : World} {N sz k : Nat} {e : TypeId} {v : Value} {xs : List Value} (h : W.ownsRow N e sz v k xs) : ∃ q1 q2 q3, v = .slice q1 q2 q3 := by
  rcases h.2 with ⟨rfl, _⟩ | ⟨g, cap, cur, rfl, _⟩
  · exact ⟨_, _, _, rfl⟩
  · exact ⟨_, _, _, rfl⟩
theorem ownsRow_putObj {W : World} {D B sz k : Nat} {e : TypeId} {v : Value} {xs : List Value} {o : Obj} (h : W.ownsRow B e sz v k xs) (o' : Obj) (hl : W.heap[D]? = some o) (ho : o.isCells = false) : (W.putObj D o').ownsRow B e sz v k xs :=
  ownsRow_stays h (stays_own (grownBy_putObj' W D o') (fun r e => by cases e; exact ⟨o, hl, ho⟩))
/-- Behind an append to a boxed row and the store of it: every block of cells but the box and the row. -/
theorem stays_appended {W w1 : World} {N sz m B k : Nat} {e t : TypeId} {v u : Value} {xs : List Value} {tmp : Obj} {cs : Array Value} {fr : Nat × Nat} (hr : W.ownsRow N e sz v m xs) (hgrow : (W.alloc tmp).grownBy w1 v.ownBlock) (hk : W.heap[k]? = some (.cells cs t fr)) (hne : k ≠ B) (ht : t ≠ e) :
    (w1.setCell ⟨B, 0, none⟩ u).heap[k]? = some (.cells cs t fr) := by
  have lt := (Array.getElem?_eq_some_iff.1 hk).1
  rw [heap_setCell_other _ _ _ _ hne]
  refine (hgrow.block k (by rw [World.size_alloc]; omega) fun e => ?_).trans ((Below.heap_alloc W tmp k lt).trans hk)
  rcases hr.2 with ⟨rfl, _⟩ | ⟨g, cap, cur, rfl, _, hgb, _⟩
  · simp [Value.ownBlock] at e
  · simp only [Value.ownBlock, Option.some.injEq] at e
    subst e
    rw [hk] at hgb; cases hgb; exact ht rfl
end Go.Proofs.Ytnmjfdejgfmoiaa
/-
  A slice that a call owns, of elements of k cells, whatever they are: as cells, and as a slice that is read. No condition.
-/
namespace Go.Proofs.Ytnmjfdejgfmoiaa
set_option maxRecDepth 100000
open Go Go.RowKit
section
variable {α : Type} {k : Nat} {cells : α → List Value}
theorem rowG_len (hcl : ∀ x, (cells x).length = k) (l : List α) : (l.flatMap cells).length = l.length * k := by
  induction l with
  | nil => simp
  | cons x r ih => rw [List.flatMap_cons, List.length_append, ih, hcl, List.length_cons, Nat.add_mul, Nat.one_mul, Nat.add_comm]
theorem rowG_at (hcl : ∀ x, (cells x).length = k) : ∀ (l : List α) (j m : Nat) {x : α}, l[j]? = some x → m < k → (l.flatMap cells)[j * k + m]? = (cells x)[m]?
  | [], _, _, _, h, _ => by cases h
  | y :: r, 0, m, x, h, hm => by
    obtain rfl : y = x := by simpa using h
    rw [List.flatMap_cons, Nat.zero_mul, Nat.zero_add, List.getElem?_append_left (by rw [hcl]; exact hm)]
  | y :: r, j + 1, m, x, h, hm => by
    have h1 := rowG_at hcl r j m (x := x) (by simpa using h) hm
    rw [List.flatMap_cons, List.getElem?_append_right (by rw [hcl, Nat.add_mul]; omega), hcl, ← h1]
    congr 1
    rw [Nat.add_mul]; omega
theorem rowG_snoc (l : List α) (x : α) : (l ++ [x]).flatMap cells = l.flatMap cells ++ cells x := by simp
/-- An own row is a slice. -/
theorem sl_of_rowG (hcl : ∀ x, (cells x).length = k) {w : World} {B : Nat} {e : TypeId} {v : Value} {l : List α} {n : Nat} (hn : l.length = n) (h : w.ownsRow B e k v n (l.flatMap cells)) : ∃ a c b, v = .slice a n c ∧ SlOf k cells a n c b 0 l w ∧ (0 < n → B ≤ b) ∧ (a = none → n = 0 ∧ c = 0) := by
  subst hn
  rcases h.2 with ⟨rfl, hz⟩ | ⟨g, cap, cur, rfl, hg, hb, hn, hm, hs, ht⟩
  · have : l = [] := List.length_eq_zero_iff.1 hz
    subst this
    exact ⟨none, 0, 0, rfl, ⟨rfl, Nat.le_refl _, by omega, fun h => absurd h (by simp), fun j x h => by simp at h⟩, fun h => absurd h (by simp), fun _ => ⟨rfl, rfl⟩⟩
  · refine ⟨_, _, g, rfl, ⟨rfl, hn, hm, fun _ => ⟨rfl, (Array.getElem?_eq_some_iff.1 hb).1⟩, fun j x hx m u hu => ?_⟩, fun _ => hg, fun h => by cases h⟩
    have hj : j < l.length := (List.getElem?_eq_some_iff.1 hx).1
    have hmk : m < k := by have := (List.getElem?_eq_some_iff.1 hu).1; rw [hcl] at this; exact this
    rw [Nat.zero_add]
    have hlt : j * k + m < l.length * k := by
      have := Nat.mul_le_mul_right k (show j + 1 ≤ l.length by omega)
      rw [Nat.add_mul, Nat.one_mul] at this; omega
    exact (World.ownsRow.cellAt h _ hlt).trans ((rowG_at hcl l j m hx hmk).trans hu)
end
end Go.Proofs.Ytnmjfdejgfmoiaa
/-
  An edit under way: a block that holds it, and lists that grow. No condition.
-/
namespace Go.Proofs.Ytnmjfdejgfmoiaa
set_option maxRecDepth 100000
open Go Go.RowKit
/-- Of the blocks below B all stand but p. -/
structure Fr (B p : Nat) (w w' : World) : Prop where
  os : w'.os = w.os
  tape : w'.tape = w.tape
  output : w'.output = w.output
  size : w.heap.size ≤ w'.heap.size
  block : ∀ k : Nat, k < B → k ≠ p → w'.heap[k]? = w.heap[k]?
theorem Fr.refl (B p : Nat) (w : World) : Fr B p w w := ⟨rfl, rfl, rfl, Nat.le_refl _, fun _ _ _ => rfl⟩
theorem Fr.trans {B p : Nat} {x y z : World} (h : Fr B p x y) (k : Fr B p y z) : Fr B p x z :=
  ⟨k.os.trans h.os, k.tape.trans h.tape, k.output.trans h.output, Nat.le_trans h.size k.size, fun j hj hb => (k.block j hj hb).trans (h.block j hj hb)⟩
theorem Fr.of_below {B p : Nat} {w w' : World} (h : Below B w w') : Fr B p w w' := ⟨h.os, h.tape, h.output, h.size, fun k hk _ => h.block k hk⟩
theorem Fr.below {B p N : Nat} {w w' : World} (h : Fr B p w w') (hB : N ≤ B) (hp : N ≤ p) : Below N w w' := ⟨h.os, h.tape, h.output, h.size, fun k hk => h.block k (by omega) (by omega)⟩
theorem Fr.of_but {B p : Nat} {w w' : World} (h : But p w w') (hB : B ≤ w.heap.size) : Fr B p w w' := ⟨h.os, h.tape, h.output, h.size, fun k hk hp => h.block k (by omega) hp⟩
theorem Fr.set {B p : Nat} {w w' : World} (h : Fr B p w w') (o : Nat) (u : Value) : Fr B p w (w'.setCell ⟨p, o, none⟩ u) :=
  have g : Below 0 w' (w'.setCell ⟨p, o, none⟩ u) := (Below.refl 0 w').setCell (Nat.zero_le _) u
  h.trans ⟨g.os, g.tape, g.output, g.size, fun k _ hb => heap_setCell_other _ _ _ _ hb⟩
theorem Fr.grown {B p : Nat} {C w1 : World} {row : Option Nat} {tmp : Obj} (hB : B ≤ C.heap.size) (h : (C.alloc tmp).grownBy w1 row) (hr : ∀ r, row = some r → B ≤ r) : Fr B p C w1 :=
  ⟨h.os, h.tape, h.output, Nat.le_trans (by rw [World.size_alloc]; omega) h.size, fun k hk _ => (h.block k (by rw [World.size_alloc]; omega) (fun e => by have := hr k e.symm; omega)).trans (Below.heap_alloc C tmp k (by omega))⟩
theorem row_of {w : World} {B n : Nat} {e : TypeId} {v : Value} {xs : List Value} {size : Nat} (h : w.ownsRow B e size v n xs) : ∀ r, v.ownBlock = some r → B ≤ r ∧ r < w.heap.size ∧ ∃ cs, w.heap[r]? = some (.cells cs e (0, 0)) := by
  intro r hr
  rcases h.2 with ⟨rfl, _⟩ | ⟨g, cap, cur, rfl, hb, hg, _⟩
  · cases hr
  · simp only [Value.ownBlock, Option.some.injEq] at hr
    subst hr
    exact ⟨hb, (Array.getElem?_eq_some_iff.1 hg).1, cur, hg⟩
/-- Another row, of elements of another type, stands when a row grows. -/
theorem row_apart {C w1 : World} {B n m : Nat} {e e2 : TypeId} {v v2 : Value} {xs ys : List Value} {size size2 : Nat} {tmp : Obj} (h : C.ownsRow B e size v n xs) (k : C.ownsRow B e2 size2 v2 m ys) (hne : e ≠ e2) (hg : (C.alloc tmp).grownBy w1 v.ownBlock) : w1.ownsRow B e2 size2 v2 m ys := by
  refine (k.alloc tmp).kept hg ?_
  cases h1 : v2.ownBlock with
  | none => exact .inl rfl
  | some r =>
    refine .inr fun e => hne ?_
    obtain ⟨_, _, c1, q1⟩ := row_of k r h1
    obtain ⟨_, _, c2, q2⟩ := row_of h r e.symm
    rw [q1] at q2
    injection q2 with q2
    injection q2 with _ q3
    exact q3.symm
/-- A store into a block below B. -/
theorem row_low {w : World} {B n p o : Nat} {e : TypeId} {v u : Value} {xs : List Value} {size : Nat} (h : w.ownsRow B e size v n xs) (hp : p < B) : (w.setCell ⟨p, o, none⟩ u).ownsRow B e size v n xs := by
  have hg : w.grownBy (w.setCell ⟨p, o, none⟩ u) (some p) :=
    have g : Below 0 w (w.setCell ⟨p, o, none⟩ u) := (Below.refl 0 w).setCell (Nat.zero_le _) u
    ⟨g.os, g.tape, g.output, g.size, fun c _ hc => heap_setCell_other _ _ _ _ fun e => hc (by rw [e])⟩
  refine h.kept hg ?_
  cases h1 : v.ownBlock with
  | none => exact .inl rfl
  | some r =>
    refine .inr fun e => ?_
    have := (row_of h r h1).1
    cases e
    omega
abbrev edC (a b c : Nat) (vg va : Value) : Obj := .cells #[.int .u64 (a : Int), .int .u64 (b : Int), .int .u64 (c : Int), vg, va] 30 (0, 0)
/-- An edit under way: block p holds it, its lists lie behind B. -/
structure EdM (B p : Nat) (e : Ed) (vg va : Value) (w : World) : Prop where
  ed : w.heap[p]? = some (edC e.log e.next e.seq vg va)
  og : w.ownsRow B 45 2 vg e.gone.length (e.gone.flatMap cellsG)
  oa : w.ownsRow B 56 8 va e.added.length (e.added.flatMap cellsP)
  lt : p < B
  big : B ≤ w.heap.size
theorem edC_cells {p : Nat} {a b c : Nat} {vg va : Value} {w : World} (h : w.heap[p]? = some (edC a b c vg va)) : w.cell? ⟨p, 0, none⟩ = some (.int .u64 (a : Int)) ∧ w.cell? ⟨p, 1, none⟩ = some (.int .u64 (b : Int)) ∧ w.cell? ⟨p, 2, none⟩ = some (.int .u64 (c : Int)) ∧ w.cell? ⟨p, 3, none⟩ = some vg ∧ w.cell? ⟨p, 4, none⟩ = some va := by
  simp only [World.cell?, h]
  exact ⟨rfl, rfl, rfl, rfl, rfl⟩
theorem edC_frozen {p : Nat} {a b c : Nat} {vg va : Value} {w : World} (h : w.heap[p]? = some (edC a b c vg va)) : ∀ o, w.frozen? ⟨p, o, none⟩ = false := fun o => by simp [World.frozen?, h]
theorem EdM.cells {B p : Nat} {e : Ed} {vg va : Value} {w : World} (h : EdM B p e vg va w) : w.cell? ⟨p, 0, none⟩ = some (.int .u64 (e.log : Int)) ∧ w.cell? ⟨p, 1, none⟩ = some (.int .u64 (e.next : Int)) ∧ w.cell? ⟨p, 2, none⟩ = some (.int .u64 (e.seq : Int)) ∧ w.cell? ⟨p, 3, none⟩ = some vg ∧ w.cell? ⟨p, 4, none⟩ = some va := edC_cells h.ed
theorem EdM.frozen {B p : Nat} {e : Ed} {vg va : Value} {w : World} (h : EdM B p e vg va w) : ∀ o, w.frozen? ⟨p, o, none⟩ = false := edC_frozen h.ed
theorem EdM.but {B p b : Nat} {e : Ed} {vg va : Value} {w w' : World} (h : EdM B p e vg va w) (hb : But b w w') (hB : b < B) (hne : p ≠ b) : EdM B p e vg va w' :=
  ⟨(hb.block p (by have := h.lt; have := h.big; omega) hne).trans h.ed, ownsRow_but h.og hb hB, ownsRow_but h.oa hb hB, h.lt, Nat.le_trans h.big hb.size⟩
theorem EdM.below {B p : Nat} {e : Ed} {vg va : Value} {w w' : World} (h : EdM B p e vg va w) (hb : Below w.heap.size w w') : EdM B p e vg va w' := by
  have row : ∀ {t : TypeId} {s n : Nat} {v : Value} {xs : List Value}, w.ownsRow B t s v n xs → w'.ownsRow B t s v n xs := fun {t s n v xs} k => by
    refine ⟨k.1, ?_⟩
    rcases k.2 with h2 | ⟨g, cap, cur, h1, h2, h3, h4⟩
    · exact .inl h2
    · exact .inr ⟨g, cap, cur, h1, h2, (hb.block g (Array.getElem?_eq_some_iff.1 h3).1).trans h3, h4⟩
  exact ⟨(hb.block p (by have := h.lt; have := h.big; omega)).trans h.ed, row h.og, row h.oa, h.lt, Nat.le_trans h.big hb.size⟩
/-- A new edit. -/
theorem EdM.new (a b c : Nat) (w : World) : EdM (w.heap.size + 1) w.heap.size ⟨a, b, c, [], []⟩ (.slice none 0 0) (.slice none 0 0) (w.alloc (edC a b c (.slice none 0 0) (.slice none 0 0))) :=
  ⟨heap_alloc_new _ _, World.ownsRow_nil _ _ _ _, World.ownsRow_nil _ _ _ _, by omega, by rw [World.size_alloc]; exact Nat.le_refl _⟩
theorem EdM.addG {B p : Nat} {e : Ed} {vg va v' : Value} {C w1 : World} {tmp : Obj} {x : Gn} (h : EdM B p e vg va C) (hown : w1.ownsRow B 45 2 v' (e.gone.length + 1) (e.gone.flatMap cellsG ++ cellsG x)) (hgrow : (C.alloc tmp).grownBy w1 vg.ownBlock) :
    EdM B p ⟨e.log, e.next, e.seq, e.gone ++ [x], e.added⟩ v' va (w1.setCell ⟨p, 3, none⟩ v') ∧ Fr B p C (w1.setCell ⟨p, 3, none⟩ v') ∧ w1.cell? ⟨p, 3, none⟩ = some vg ∧ w1.frozen? ⟨p, 3, none⟩ = false := by
  have hp := h.lt
  have hB := h.big
  have hr : ∀ r, vg.ownBlock = some r → B ≤ r := fun r e => (row_of h.og r e).1
  have hed : w1.heap[p]? = some (edC e.log e.next e.seq vg va) := ((hgrow.block p (by rw [World.size_alloc]; omega) (fun e => by have := hr p e.symm; omega)).trans (Below.heap_alloc C tmp p (by omega))).trans h.ed
  have hF : Fr B p C w1 := Fr.grown hB hgrow hr
  have hF2 := hF.set 3 v'
  refine ⟨⟨?_, ?_, row_low (row_apart h.og h.oa (by decide) hgrow) hp, hp, Nat.le_trans hB hF2.size⟩, hF2, (edC_cells hed).2.2.2.1, edC_frozen hed 3⟩
  · exact (heap_setCell_same _ _ 3 _ _ v' hed).trans rfl
  · show World.ownsRow _ B _ 2 v' (e.gone ++ [x]).length _
    rw [List.length_append, List.length_singleton, rowG_snoc]
    exact row_low hown hp
theorem EdM.addA {B p : Nat} {e : Ed} {vg va v' : Value} {C w1 : World} {tmp : Obj} {x : Pl} (h : EdM B p e vg va C) (hown : w1.ownsRow B 56 8 v' (e.added.length + 1) (e.added.flatMap cellsP ++ cellsP x)) (hgrow : (C.alloc tmp).grownBy w1 va.ownBlock) :
    EdM B p ⟨e.log, e.next, e.seq, e.gone, e.added ++ [x]⟩ vg v' (w1.setCell ⟨p, 4, none⟩ v') ∧ Fr B p C (w1.setCell ⟨p, 4, none⟩ v') ∧ w1.cell? ⟨p, 4, none⟩ = some va ∧ w1.frozen? ⟨p, 4, none⟩ = false := by
  have hp := h.lt
  have hB := h.big
  have hr : ∀ r, va.ownBlock = some r → B ≤ r := fun r e => (row_of h.oa r e).1
  have hed : w1.heap[p]? = some (edC e.log e.next e.seq vg va) := ((hgrow.block p (by rw [World.size_alloc]; omega) (fun e => by have := hr p e.symm; omega)).trans (Below.heap_alloc C tmp p (by omega))).trans h.ed
  have hF : Fr B p C w1 := Fr.grown hB hgrow hr
  have hF2 := hF.set 4 v'
  refine ⟨⟨?_, row_low (row_apart h.oa h.og (by decide) hgrow) hp, ?_, hp, Nat.le_trans hB hF2.size⟩, hF2, (edC_cells hed).2.2.2.2, edC_frozen hed 4⟩
  · exact (heap_setCell_same _ _ 4 _ _ v' hed).trans rfl
  · show World.ownsRow _ B _ 8 v' (e.added ++ [x]).length _
    rw [List.length_append, List.length_singleton, rowG_snoc]
    exact row_low hown hp
/-- What is under way is an edit. -/
theorem EdM.at {B p : Nat} {e : Ed} {vg va : Value} {w : World} (h : EdM B p e vg va w) : ∃ hg ha : Hd, vg = hdV hg ∧ va = hdV ha ∧ EdAt e hg ha w ∧ (0 < hg.n → B ≤ hg.b) ∧ (0 < ha.n → B ≤ ha.b) := by
  obtain ⟨a, c, b, h1, h2, h3, h4⟩ := sl_of_rowG (cells := cellsG) (fun _ => rfl) rfl h.og
  obtain ⟨a', c', b', k1, k2, k3, k4⟩ := sl_of_rowG (cells := cellsP) (fun _ => rfl) rfl h.oa
  exact ⟨⟨a, e.gone.length, c, b, 0⟩, ⟨a', e.added.length, c', b', 0⟩, h1, k1, ⟨⟨h2, h4⟩, ⟨k2, k4⟩⟩, h3, k3⟩
theorem infoG : (Try.prog.info? 45).map (fun i => (i.zero, i.size, i.bytes)) = some (some (.agg #[.int .i64 0, .int .u64 0]), 2, 16) := by kernel_rfl
theorem infoP : (Try.prog.info? 56).map (fun i => (i.zero, i.size, i.bytes)) = some (some (.agg #[.int .i64 0, .int .u64 0, .int .i64 0, .int .i64 0, .string .empty, .string .empty, .int .u64 0, .int .u64 0]), 8, 80) := by kernel_rfl
theorem one_g (x : Gn) : ∀ u ∈ cellsG x, u.oneCell' = true := by
  intro u hu
  simp only [cellsG, List.mem_cons, List.not_mem_nil, or_false] at hu
  rcases hu with rfl | rfl <;> rfl
theorem one_p (x : Pl) : ∀ u ∈ cellsP x, u.oneCell' = true := by
  intro u hu
  simp only [cellsP, cellsM, List.mem_cons, List.not_mem_nil, or_false] at hu
  rcases hu with rfl | rfl | rfl | rfl | rfl | rfl | rfl | rfl <;> rfl
theorem bound_app {n : Nat} (h : n ≤ 2000) : n + 1 ≤ maxLen ∧ (n + 1) * 80 ≤ 140737488355328 ∧ (n + 1) * 16 ≤ 140737488355328 := by unfold maxLen; omega
end Go.Proofs.Ytnmjfdejgfmoiaa
/-
  The contract of the program's copied. Condition: texts of less than 2^48 bytes.
-/
namespace Go.Proofs.Ytnmjfdejgfmoiaa
set_option maxRecDepth 100000
open Go.RowKit
theorem clone_str (s : ByteArray) (hs : s.size ≤ 281474976710656) (w : World) : Calls Try.prog 47 #[.string s] w fun e w' => e = .returned (.string s) ∧ Below w.heap.size w w' := by
  have C := fun u => Lib.hid (Try.stringslite_Clone s u hs)
  clear hs
  go_enter Try.func47, Try.ntmps47
  go_wp2_with fail
  refine (C _).out.mono ?_
  rintro e w' ⟨rfl, hb⟩
  go_wp2_with fail
  go_returns
  exact ⟨rfl, hb⟩
/-- The two boxes of copied. -/
structure CpM (w : World) (x : Mt) (v : World) : Prop where
  arg : v.heap[w.heap.size]? = some (rmO x)
  res : v.heap[w.heap.size + 1]? = some rzO
  blw : Below w.heap.size w v
theorem CpM.below {w : World} {x : Mt} {v v' : World} (h : CpM w x v) (hb : Below v.heap.size v v') : CpM w x v' := by
  have l2 := (Array.getElem?_eq_some_iff.1 h.res).1
  exact ⟨(hb.block _ (by omega)).trans h.arg, (hb.block _ l2).trans h.res, below_of h.blw hb⟩
theorem CpM.new (w : World) (x : Mt) : CpM w x ((w.alloc (rmO x)).alloc rzO) := by
  refine ⟨(Below.heap_alloc _ _ _ (by rw [World.size_alloc]; omega)).trans (heap_alloc_new _ _), ?_, (below_alloc _ _).alloc (by simp) _⟩
  have := heap_alloc_new (w.alloc (rmO x)) rzO
  rwa [World.size_alloc] at this
theorem CpM.put3 {w : World} {x : Mt} {v : World} (h : CpM w x v) : CpM w x (v.setCell ⟨w.heap.size, 3, none⟩ (.string x.fst)) :=
  ⟨(heap_setCell_same _ _ 3 _ _ _ h.arg).trans rfl, (heap_setCell_other _ _ _ _ (by show w.heap.size + 1 ≠ w.heap.size; omega)).trans h.res, h.blw.setCell (p := ⟨w.heap.size, 3, none⟩) (Nat.le_refl _) _⟩
theorem CpM.put4 {w : World} {x : Mt} {v : World} (h : CpM w x v) : CpM w x (v.setCell ⟨w.heap.size, 4, none⟩ (.string x.lst)) :=
  ⟨(heap_setCell_same _ _ 4 _ _ _ h.arg).trans rfl, (heap_setCell_other _ _ _ _ (by show w.heap.size + 1 ≠ w.heap.size; omega)).trans h.res, h.blw.setCell (p := ⟨w.heap.size, 4, none⟩) (Nat.le_refl _) _⟩
theorem CpM.two {w : World} {x : Mt} {v : World} (h : CpM w x v) : v.cell? ⟨w.heap.size, 3, none⟩ = some (.string x.fst) ∧ v.cell? ⟨w.heap.size, 4, none⟩ = some (.string x.lst) := ⟨(rm_cells h.arg).2.2.2.1, (rm_cells h.arg).2.2.2.2.1⟩
theorem rm_frozen {p : Nat} {w : World} {x : Mt} (h : w.heap[p]? = some (rmO x)) : ∀ o, w.frozen? ⟨p, o, none⟩ = false := fun o => by simp [World.frozen?, h]
set_option maxRecDepth 100000 in
set_option maxHeartbeats 8000000 in
theorem mcopied_any (x : Mt) (hk : x.fst.size ≤ 281474976710656) (hv : x.lst.size ≤ 281474976710656) (w : World) :
    Calls Try.prog 38 #[.agg #[.int .u64 (x.num : Int), .int .i64 x.size, .int .i64 x.rows, .string x.fst, .string x.lst, .int .u64 (x.least : Int), .int .u64 (x.gr : Int)]] w fun e w' => e = .returned (.agg #[.int .u64 (x.num : Int), .int .i64 x.size, .int .i64 x.rows, .string x.fst, .string x.lst, .int .u64 (x.least : Int), .int .u64 (x.gr : Int)]) ∧ Below w.heap.size w w' := by
  have C1 := Lib.hid (clone_str x.fst hk)
  have C2 := Lib.hid (clone_str x.lst hv)
  have D0 := Lib.hid ((CpM.new w x).below (Below.refl _ _).drew)
  have SC : Hid (∀ v, CpM w x v → v.cell? ⟨w.heap.size, 3, none⟩ = some (.string x.fst) ∧ v.cell? ⟨w.heap.size, 4, none⟩ = some (.string x.lst)) := Lib.hid (fun v h => h.two)
  have S0 := Lib.hid (SC.out _ D0.out)
  clear hk hv
  go_enter Try.func38, Try.ntmps38
  go_upto_region 1 with fail

  refine wp_region_held_drew (S := (fun v => v.cell? ⟨w.heap.size, 3, none⟩ = some (.string x.fst) ∧ v.cell? ⟨w.heap.size, 4, none⟩ = some (.string x.lst))) (by kernel_rfl) (S0.out) (fun hHeld => ?_)
  refine held_take (i := 0) (v := ?_) rfl (by kernel_rfl) (by kernel_rfl) (by kernel_rfl) (fun _ _ _ h => h) (by rfl) (fun w hSw => ?_) (by assumption) ?_; rotate_left 1; focus (((try dsimp only at hSw); first | (go_simp; done) | (go_simp; with_reducible rfl)))
  try simp only [Act.put, List.setIfInBounds_toArray, List.set_cons_zero, List.set_cons_succ]
  refine held_take (i := 1) (v := ?_) rfl (by kernel_rfl) (by kernel_rfl) (by kernel_rfl) (fun _ _ _ h => h) (by rfl) (fun w hSw => ?_) (by assumption) ?_; rotate_left 1; focus (((try dsimp only at hSw); first | (go_simp; done) | (go_simp; with_reducible rfl)))
  try simp only [Act.put, List.setIfInBounds_toArray, List.set_cons_zero, List.set_cons_succ]
  refine held_take (i := 3) (v := ?_) rfl (by kernel_rfl) (by kernel_rfl) (by kernel_rfl) (fun _ _ _ h => h) (by rfl) (fun w hSw => ?_) (by assumption) ?_; rotate_left 1; focus (((try dsimp only at hSw); first | (go_simp; done) | (go_simp; with_reducible rfl)))
  try simp only [Act.put, List.setIfInBounds_toArray, List.set_cons_zero, List.set_cons_succ]
  refine held_take (i := 4) (v := ?_) rfl (by kernel_rfl) (by kernel_rfl) (by kernel_rfl) (fun _ _ _ h => h) (by rfl) (fun w hSw => ?_) (by assumption) ?_; rotate_left 1; focus (((try dsimp only at hSw); first | (go_simp; done) | (go_simp; with_reducible rfl)))
  try simp only [Act.put, List.setIfInBounds_toArray, List.set_cons_zero, List.set_cons_succ]
  refine held_call (i := 2) (by kernel_rfl) rfl (by rfl) (fun K hK => ?_)
  go_simp
  refine (C1.out _).mono ?_
  rintro e w1 ⟨rfl, hb1⟩
  have D1 := Lib.hid (D0.out.below hb1)
  clear hb1
  refine hK.out _ _ (SC.out _ D1.out) (fun hHeld => ?_)
  try simp only [Act.put, List.setIfInBounds_toArray, List.set_cons_zero, List.set_cons_succ]
  refine held_take (i := 6) (v := ?_) rfl (by kernel_rfl) (by kernel_rfl) (by kernel_rfl) (fun _ _ _ h => h) (by rfl) (fun w hSw => ?_) (by assumption) ?_; rotate_left 1; focus (((try dsimp only at hSw); first | (go_simp; done) | (go_simp; with_reducible rfl)))
  try simp only [Act.put, List.setIfInBounds_toArray, List.set_cons_zero, List.set_cons_succ]
  refine held_call (i := 5) (by kernel_rfl) rfl (by rfl) (fun K hK => ?_)
  go_simp
  refine (C2.out _).mono ?_
  rintro e w2 ⟨rfl, hb2⟩
  have D2 := Lib.hid (D1.out.below hb2)
  clear hb2
  refine hK.out _ _ (SC.out _ D2.out) (fun hHeld => ?_)
  try simp only [Act.put, List.setIfInBounds_toArray, List.set_cons_zero, List.set_cons_succ]
  refine held_call (i := 7) (by kernel_rfl) rfl (by rfl) (fun K hK => ?_)
  have f3 := rm_frozen D2.out.arg
  obtain ⟨y0, y1, y2, y3, y4, y5, y6⟩ := rm_cells D2.out.arg
  go_simp
  have D3 := Lib.hid D2.out.put3
  clear y0 y1 y2 y3 y4 y5 y6 f3
  refine hK.out _ _ (SC.out _ D3.out) (fun hHeld => ?_)
  try simp only [Act.put, List.setIfInBounds_toArray, List.set_cons_zero, List.set_cons_succ]
  refine held_take (i := 8) (v := ?_) rfl (by kernel_rfl) (by kernel_rfl) (by kernel_rfl) (fun _ _ _ h => h) (by rfl) (fun w hSw => ?_) (by assumption) ?_; rotate_left 1; focus (((try dsimp only at hSw); first | (go_simp; done) | (go_simp; with_reducible rfl)))
  try simp only [Act.put, List.setIfInBounds_toArray, List.set_cons_zero, List.set_cons_succ]
  refine held_call (i := 9) (by kernel_rfl) rfl (by rfl) (fun K hK => ?_)
  have f4 := rm_frozen D3.out.arg
  obtain ⟨y0, y1, y2, y3, y4, y5, y6⟩ := rm_cells D3.out.arg
  go_simp
  have D4 := Lib.hid D3.out.put4
  clear y0 y1 y2 y3 y4 y5 y6 f4
  refine hK.out _ _ (SC.out _ D4.out) (fun hHeld => ?_)
  try simp only [Act.put, List.setIfInBounds_toArray, List.set_cons_zero, List.set_cons_succ]
  refine wpAnyH_done (by kernel_rfl) ?_ _
  obtain ⟨u, hu⟩ := named ((w2.setCell ⟨w.heap.size, 3, none⟩ (.string x.fst)).setCell ⟨w.heap.size, 4, none⟩ (.string x.lst))
  rw [← hu.out] at D4
  rw [← hu.out]
  replace hu := Lib.hid trivial
  obtain ⟨y0, y1, y2, y3, y4, y5, y6⟩ := rm_cells D4.out.arg
  obtain ⟨z0, z1, z2, z3, z4, z5, z6⟩ := rz_cells D4.out.res
  have zf := rz_frozen D4.out.res
  go_wp2_with fail
  obtain ⟨g0, g1, g2, g3, g4, g5, g6⟩ := rm_cells (rm_put D4.out.res x)
  refine bodyPost_ret (v := .agg #[.int .u64 (x.num : Int), .int .i64 x.size, .int .i64 x.rows, .string x.fst, .string x.lst, .int .u64 (x.least : Int), .int .u64 (x.gr : Int)]) (by simp [results, Try.results38, go_sem, g0, g1, g2, g3, g4, g5, g6]) rfl ⟨rfl, ?_⟩
  have g := Nat.le_succ w.heap.size
  exact ((((((D4.out.blw.setCell (p := ⟨w.heap.size + 1, 0, none⟩) g _).setCell (p := ⟨w.heap.size + 1, 1, none⟩) g _).setCell (p := ⟨w.heap.size + 1, 2, none⟩) g _).setCell (p := ⟨w.heap.size + 1, 3, none⟩) g _).setCell (p := ⟨w.heap.size + 1, 4, none⟩) g _).setCell (p := ⟨w.heap.size + 1, 5, none⟩) g _).setCell (p := ⟨w.heap.size + 1, 6, none⟩) g _
end Go.Proofs.Ytnmjfdejgfmoiaa
/-
  The contract of the program's Decode: the edit that the document reads, or ErrForm. Condition: a text that came in.
-/
namespace Go.Proofs.Ytnmjfdejgfmoiaa
set_option maxRecDepth 100000
open Go Go.RowKit
theorem five_put {p : Nat} {z0 z1 z2 z3 z4 : Value} {t : TypeId} {w : World} (h : w.heap[p]? = some (.cells #[z0, z1, z2, z3, z4] t (0, 0))) (y0 y1 y2 y3 y4 : Value) : (((((w.setCell ⟨p, 0, none⟩ y0).setCell ⟨p, 1, none⟩ y1).setCell ⟨p, 2, none⟩ y2).setCell ⟨p, 3, none⟩ y3).setCell ⟨p, 4, none⟩ y4).heap[p]? = some (.cells #[y0, y1, y2, y3, y4] t (0, 0)) :=
  (heap_setCell_same _ _ _ _ _ _ ((heap_setCell_same _ _ _ _ _ _ ((heap_setCell_same _ _ _ _ _ _ ((heap_setCell_same _ _ _ _ _ _ ((heap_setCell_same _ _ _ _ _ _ h).trans rfl)).trans rfl)).trans rfl)).trans rfl)).trans rfl
theorem five_cells {p : Nat} {z0 z1 z2 z3 z4 : Value} {t : TypeId} {w : World} (h : w.heap[p]? = some (.cells #[z0, z1, z2, z3, z4] t (0, 0))) : w.cell? ⟨p, 0, none⟩ = some z0 ∧ w.cell? ⟨p, 1, none⟩ = some z1 ∧ w.cell? ⟨p, 2, none⟩ = some z2 ∧ w.cell? ⟨p, 3, none⟩ = some z3 ∧ w.cell? ⟨p, 4, none⟩ = some z4 := by
  simp only [World.cell?, h]
  exact ⟨rfl, rfl, rfl, rfl, rfl⟩
theorem five_frozen {p : Nat} {z0 z1 z2 z3 z4 : Value} {t : TypeId} {w : World} (h : w.heap[p]? = some (.cells #[z0, z1, z2, z3, z4] t (0, 0))) : ∀ o, w.frozen? ⟨p, o, none⟩ = false := fun o => by simp [World.frozen?, h]
theorem five_below {p : Nat} {w w' : World} (hb : Below w.heap.size w w') (hp : w.heap.size ≤ p) (y0 y1 y2 y3 y4 : Value) : Below w.heap.size w (((((w'.setCell ⟨p, 0, none⟩ y0).setCell ⟨p, 1, none⟩ y1).setCell ⟨p, 2, none⟩ y2).setCell ⟨p, 3, none⟩ y3).setCell ⟨p, 4, none⟩ y4) :=
  ((((hb.setCell (p := ⟨p, 0, none⟩) hp _).setCell (p := ⟨p, 1, none⟩) hp _).setCell (p := ⟨p, 2, none⟩) hp _).setCell (p := ⟨p, 3, none⟩) hp _).setCell (p := ⟨p, 4, none⟩) hp _
theorem five_else {p k : Nat} {w : World} (hk : k ≠ p) (y0 y1 y2 y3 y4 : Value) : (((((w.setCell ⟨p, 0, none⟩ y0).setCell ⟨p, 1, none⟩ y1).setCell ⟨p, 2, none⟩ y2).setCell ⟨p, 3, none⟩ y3).setCell ⟨p, 4, none⟩ y4).heap[k]? = w.heap[k]? :=
  (heap_setCell_other _ _ _ _ hk).trans ((heap_setCell_other _ _ _ _ hk).trans ((heap_setCell_other _ _ _ _ hk).trans ((heap_setCell_other _ _ _ _ hk).trans (heap_setCell_other _ _ _ _ hk))))
theorem five_size {p : Nat} {w : World} (y0 y1 y2 y3 y4 : Value) : w.heap.size ≤ (((((w.setCell ⟨p, 0, none⟩ y0).setCell ⟨p, 1, none⟩ y1).setCell ⟨p, 2, none⟩ y2).setCell ⟨p, 3, none⟩ y3).setCell ⟨p, 4, none⟩ y4).heap.size :=
  (((((Below.refl 0 w).setCell (p := ⟨p, 0, none⟩) (Nat.zero_le _) y0).setCell (p := ⟨p, 1, none⟩) (Nat.zero_le _) y1).setCell (p := ⟨p, 2, none⟩) (Nat.zero_le _) y2).setCell (p := ⟨p, 3, none⟩) (Nat.zero_le _) y3 |>.setCell (p := ⟨p, 4, none⟩) (Nat.zero_le _) y4).size
/-- The lists stand behind a store into a block below them. -/
theorem EdM.put {B p N : Nat} {e : Ed} {vg va : Value} {w : World} (h : EdM B p e vg va w) (hN : N < B) (y0 y1 y2 y3 y4 : Value) : ∃ hg ha : Hd, vg = hdV hg ∧ va = hdV ha ∧ EdAt e hg ha (((((w.setCell ⟨N, 0, none⟩ y0).setCell ⟨N, 1, none⟩ y1).setCell ⟨N, 2, none⟩ y2).setCell ⟨N, 3, none⟩ y3).setCell ⟨N, 4, none⟩ y4) := by
  obtain ⟨hg, ha, rfl, rfl, k, b1, b2⟩ := h.at
  refine ⟨hg, ha, rfl, rfl, ⟨k.gone.sl.keep (fun h0 => five_else (by have := b1 h0; omega) _ _ _ _ _) (five_size _ _ _ _ _), k.gone.none'⟩, k.added.sl.keep (fun h0 => five_else (by have := b2 h0; omega) _ _ _ _ _) (five_size _ _ _ _ _), k.added.none'⟩
abbrev zE : Obj := .cells #[.int .u64 0, .int .u64 0, .int .u64 0, .slice none 0 0, .slice none 0 0] 30 (0, 0)
abbrev zEV : Value := .agg #[.int .u64 0, .int .u64 0, .int .u64 0, .slice none 0 0, .slice none 0 0]
/-- What Decode answers. -/
def DecD (l : List UInt8) (r : Ending) (w' : World) : Prop :=
  (DecP l ∧ ∃ hg ha, r = .returned (.tuple #[edV (decRaw l) hg ha, .int .i64 0]) ∧ EdAt (decRaw l) hg ha w') ∨ (¬ DecP l ∧ r = .returned (.tuple #[zEV, .int .i64 7]))
/-- Decode under way. -/
structure DcI (p : Nat) (l : List UInt8) (o : Option Nat) (e : Ed) (vg va : Value) (w wr : World) : Prop where
  m : EdM (p + 1) p e vg va wr
  r : RO wr (w.heap.size + 1) l o
  z : wr.heap[w.heap.size]? = some zE
  f : Below w.heap.size w wr
  lo : w.heap.size + 1 < p
theorem DcI.call {p : Nat} {l : List UInt8} {o o' : Option Nat} {e : Ed} {vg va : Value} {w wr u : World} (h : DcI p l o e vg va w wr) (hb : But (w.heap.size + 1) wr u) (hr : RO u (w.heap.size + 1) l o') : DcI p l o' e vg va w u := by
  have lo := h.lo
  have hB := h.m.big
  have hf := h.f.size
  exact ⟨h.m.but hb (by omega) (by omega), hr, (hb.block _ (by omega) (by omega)).trans h.z, h.f.trans (hb.below (by omega) hf), lo⟩
theorem DcI.below {p : Nat} {l : List UInt8} {o : Option Nat} {e : Ed} {vg va : Value} {w wr u : World} (h : DcI p l o e vg va w wr) (hb : Below wr.heap.size wr u) : DcI p l o e vg va w u :=
  ⟨h.m.below hb, h.r.below hb h.r.lt, (hb.block _ (by have := h.lo; have := h.m.big; omega)).trans h.z, below_of h.f hb, h.lo⟩
theorem DcI.fr {p : Nat} {l : List UInt8} {o : Option Nat} {e e' : Ed} {vg va vg' va' : Value} {w wr u : World} (h : DcI p l o e vg va w wr) (hf : Fr (p + 1) p wr u) (hm : EdM (p + 1) p e' vg' va' u) : DcI p l o e' vg' va' w u := by
  have lo := h.lo
  exact ⟨hm, h.r.keep (hf.block _ (by omega) (by omega)), (hf.block _ (by omega) (by omega)).trans h.z, h.f.trans (hf.below (by omega) (by omega)), lo⟩
theorem DcI.addG {p : Nat} {l : List UInt8} {o : Option Nat} {e : Ed} {vg va v' : Value} {w C w1 : World} {tmp : Obj} {x : Gn} (h : DcI p l o e vg va w C) (hown : w1.ownsRow (p + 1) 45 2 v' (e.gone.length + 1) (e.gone.flatMap cellsG ++ cellsG x)) (hgrow : (C.alloc tmp).grownBy w1 vg.ownBlock) :
    DcI p l o ⟨e.log, e.next, e.seq, e.gone ++ [x], e.added⟩ v' va w (w1.setCell ⟨p, 3, none⟩ v') ∧ w1.cell? ⟨p, 3, none⟩ = some vg ∧ w1.frozen? ⟨p, 3, none⟩ = false := by
  obtain ⟨a1, a2, a3, a4⟩ := h.m.addG hown hgrow
  exact ⟨h.fr a2 a1, a3, a4⟩
theorem DcI.addA {p : Nat} {l : List UInt8} {o : Option Nat} {e : Ed} {vg va v' : Value} {w C w1 : World} {tmp : Obj} {x : Pl} (h : DcI p l o e vg va w C) (hown : w1.ownsRow (p + 1) 56 8 v' (e.added.length + 1) (e.added.flatMap cellsP ++ cellsP x)) (hgrow : (C.alloc tmp).grownBy w1 va.ownBlock) :
    DcI p l o ⟨e.log, e.next, e.seq, e.gone, e.added ++ [x]⟩ vg v' w (w1.setCell ⟨p, 4, none⟩ v') ∧ w1.cell? ⟨p, 4, none⟩ = some va ∧ w1.frozen? ⟨p, 4, none⟩ = false := by
  obtain ⟨a1, a2, a3, a4⟩ := h.m.addA hown hgrow
  exact ⟨h.fr a2 a1, a3, a4⟩
theorem DcI.new {l : List UInt8} {o : Option Nat} (a b c : Nat) {w u : World} (hr : RO u (w.heap.size + 1) l o) (hz : u.heap[w.heap.size]? = some zE) (hf : Below w.heap.size w u) : DcI u.heap.size l o ⟨a, b, c, [], []⟩ (.slice none 0 0) (.slice none 0 0) w (u.alloc (edC a b c (.slice none 0 0) (.slice none 0 0))) := by
  have hlt := hr.lt
  exact ⟨EdM.new a b c u, hr.below (below_alloc u _) hlt, (Below.heap_alloc u _ _ (by omega)).trans hz, hf.alloc hf.size _, hlt⟩
end Go.Proofs.Ytnmjfdejgfmoiaa
/-
  The contract of the program's Whole. Condition: tables that came in.
-/
namespace Go.Proofs.Ytnmjfdejgfmoiaa
set_option maxRecDepth 100000
open Go Go.RowKit
/-- The tables of the levels below i, each with its level. -/
def plsTo (v : Vr) : Nat → List Pl
  | 0 => []
  | i + 1 => plsTo v i ++ (v.lv i).map (fun x => ⟨(i : Int), x⟩)
/-- The whole edit of a version. -/
def wholeE (v : Vr) : Ed := ⟨v.log, v.next, v.seq, [], plsTo v 4⟩
def wholeB (v : Vr) (i k : Nat) : List Pl := plsTo v i ++ ((v.lv i).take k).map (fun x => ⟨(i : Int), x⟩)
theorem wholeB_succ {v : Vr} {i k : Nat} {x : Mt} (h : (v.lv i)[k]? = some x) : wholeB v i (k + 1) = wholeB v i k ++ [⟨(i : Int), x⟩] := by
  unfold wholeB
  rw [List.take_add_one, h, List.map_append, List.append_assoc]
  rfl
theorem wholeB_all {v : Vr} {i n : Nat} (h : (v.lv i).length = n) : wholeB v i n = plsTo v (i + 1) := by
  unfold wholeB
  rw [← h, List.take_length]
  rfl
theorem wholeB_zero (v : Vr) (i : Nat) : wholeB v i 0 = plsTo v i := by unfold wholeB; simp
theorem plsTo_len {v : Vr} (h : ∀ i, i < 4 → (v.lv i).length ≤ 100) : ∀ i, i ≤ 4 → (plsTo v i).length ≤ 100 * i
  | 0, _ => Nat.zero_le _
  | i + 1, hi => by
    have h1 := plsTo_len h i (by omega)
    have h2 := h i (by omega)
    show (plsTo v i ++ _).length ≤ _
    rw [List.length_append, List.length_map]
    omega
theorem wholeB_len {v : Vr} (h : ∀ i, i < 4 → (v.lv i).length ≤ 100) {i k : Nat} (hi : i < 4) : (wholeB v i k).length ≤ 400 := by
  have h1 := plsTo_len h i (by omega)
  have h2 := h i hi
  unfold wholeB
  rw [List.length_append, List.length_map, List.length_take]
  omega
/-- Whole under way. -/
structure WhI (N p : Nat) (e : Ed) (vg va : Value) (w wr : World) : Prop where
  m : EdM (p + 1) p e vg va wr
  z : wr.heap[N]? = some zE
  f : Below w.heap.size w wr
  lo : N < p
  lw : w.heap.size ≤ N
theorem WhI.below {N p : Nat} {e : Ed} {vg va : Value} {w wr u : World} (h : WhI N p e vg va w wr) (hb : Below wr.heap.size wr u) : WhI N p e vg va w u :=
  ⟨h.m.below hb, (hb.block _ (by have := h.lo; have := h.m.big; omega)).trans h.z, below_of h.f hb, h.lo, h.lw⟩
theorem WhI.fr {N p : Nat} {e e' : Ed} {vg va vg' va' : Value} {w wr u : World} (h : WhI N p e vg va w wr) (hf : Fr (p + 1) p wr u) (hm : EdM (p + 1) p e' vg' va' u) : WhI N p e' vg' va' w u := by
  have lo := h.lo
  have lw := h.lw
  exact ⟨hm, (hf.block _ (by omega) (by omega)).trans h.z, h.f.trans (hf.below (by omega) (by omega)), lo, lw⟩
theorem WhI.addA {N p : Nat} {e : Ed} {vg va v' : Value} {w C w1 : World} {tmp : Obj} {x : Pl} (h : WhI N p e vg va w C) (hown : w1.ownsRow (p + 1) 56 8 v' (e.added.length + 1) (e.added.flatMap cellsP ++ cellsP x)) (hgrow : (C.alloc tmp).grownBy w1 va.ownBlock) :
    WhI N p ⟨e.log, e.next, e.seq, e.gone, e.added ++ [x]⟩ vg v' w (w1.setCell ⟨p, 4, none⟩ v') ∧ w1.cell? ⟨p, 4, none⟩ = some va ∧ w1.frozen? ⟨p, 4, none⟩ = false := by
  obtain ⟨a1, a2, a3, a4⟩ := h.m.addA hown hgrow
  exact ⟨h.fr a2 a1, a3, a4⟩
theorem WhI.new (N a b c : Nat) {w u : World} (hz : u.heap[N]? = some zE) (hf : Below w.heap.size w u) (hN : w.heap.size ≤ N) : WhI N u.heap.size ⟨a, b, c, [], []⟩ (.slice none 0 0) (.slice none 0 0) w (u.alloc (edC a b c (.slice none 0 0) (.slice none 0 0))) := by
  have hlt := (Array.getElem?_eq_some_iff.1 hz).1
  exact ⟨EdM.new a b c u, (Below.heap_alloc u _ _ hlt).trans hz, hf.alloc hf.size _, hlt, hN⟩
/-- A block of another type stands when a row grows. -/
theorem block_apart {C w1 : World} {B n k : Nat} {e t : TypeId} {v : Value} {xs : List Value} {size : Nat} {tmp : Obj} {cs : Array Value} {m : Nat × Nat} (h : C.ownsRow B e size v n xs) (hg : (C.alloc tmp).grownBy w1 v.ownBlock) (hk : C.heap[k]? = some (.cells cs t m)) (hne : t ≠ e) : w1.heap[k]? = some (.cells cs t m) := by
  have lt := (Array.getElem?_eq_some_iff.1 hk).1
  refine (hg.block k (by rw [World.size_alloc]; omega) fun e => ?_).trans ((Below.heap_alloc C tmp k lt).trans hk)
  obtain ⟨_, _, c2, q2⟩ := row_of h k e.symm
  rw [hk] at q2
  injection q2 with q2
  injection q2 with _ q3
  exact hne q3
def WhD (v : Vr) (r : Ending) (w' : World) : Prop :=
  (RightP v ∧ ∃ hg ha, r = .returned (edV (wholeE v) hg ha) ∧ EdAt (wholeE v) hg ha w') ∨ (¬ RightP v ∧ r = .returned zEV)
end Go.Proofs.Ytnmjfdejgfmoiaa
/-
  'append(a, b...)': a the call's own row, b any slice: one law for whatever element. No condition.
-/
namespace Go.Proofs.Ytnmjfdejgfmoiaa
set_option maxRecDepth 100000
open Go.RowKit
theorem wp_append_src {P : Program} {o : Oper} {a : Act} {w : World} {K : Act → World → Prop} {Q : Exit → Act → World → Prop} (s x : Operand) (t : TypeId)
    (ho : o.op = .call { callee := .builtin .append, args := #[s, x], argTypes := #[t, t] }) (B : Nat) (e : TypeId) (size bytes : Nat) (z : Value) (ht : P.underlying t = some (.slice e))
    (hinf : (P.info? e).map (fun i => (i.zero, i.size, i.bytes)) = some (some z, size, bytes)) (hzs : z.cells.size = size) (hsz : 0 < size) (hby : bytes ≤ 1000)
    (v : Value) (k : Nat) (xs : List Value) (q : Option Addr) (n c : Nat) (ys : List Value) (hown : w.ownsRow B e size v k xs) (hq : q = none → n = 0 ∧ c = 0) (hl : ys.length = n * size) (hsrc : ∀ p, q = some p → ∀ j u, ys[j]? = some u → w.cell? (p.add j) = some u) (hs : a.eval s = v) (hx : a.eval x = .slice q n c) (h1 : ∀ u ∈ ys, u.oneCell' = true) (hk : k ≤ 1048576) (hn : n ≤ 1048576) (hB : B ≤ w.heap.size)
    (h : ∀ v' w', w'.ownsRow B e size v' (k + n) (xs ++ ys) → w.grownBy w' v.ownBlock → (∃ va vc, v' = .slice va (k + n) vc) → K (a.put o.dst v') w') : o.wp P a w K Q := by
  obtain ⟨i0, hi, hz0, hz1, hz2⟩ := info_parts hinf
  have shape : ∀ {v' : Value} {w' : World} {l : List Value}, w'.ownsRow B e size v' (k + n) l → ∃ va vc, v' = .slice va (k + n) vc := fun hr => by
    rcases hr.2 with ⟨e1, e0⟩ | ⟨g', cap, cur, e1, _⟩
    · exact ⟨none, 0, by rw [e1, e0]⟩
    · exact ⟨_, _, e1⟩
  cases q with
  | none =>
    obtain ⟨rfl, rfl⟩ := hq rfl
    have hy : ys = [] := List.length_eq_zero_iff.1 (by rw [hl, Nat.zero_mul])
    subst hy
    have hrun : (Builtin.append_ #[t, t] o.type #[v, .slice none 0 0]).run P w = .ok v w := by
      rcases hown.2 with ⟨rfl, _⟩ | ⟨g, cap, cur, rfl, _, _, hle, _⟩
      · exact run_append_nothing w _ _ _ e i0 ht hi none 0 0 (Nat.le_refl _) _ (Src.ofNil w ht 0)
      · exact run_append_nothing w _ _ _ e i0 ht hi _ k cap hle _ (Src.ofNil w ht 0)
    have h2 : w.ownsRow B e size v (k + 0) (xs ++ []) := by rw [Nat.add_zero, List.append_nil]; exact hown
    unfold Oper.wp
    simp [execOp, ho, resolve, invoke, builtin, hs, hx, hrun, Result.andThen]
    exact h v w h2 ⟨rfl, rfl, rfl, Nat.le_refl _, fun _ _ _ => rfl⟩ (shape h2)
  | some p =>
    have hb2 : (k + n) * bytes ≤ 140737488355328 := Nat.le_trans (Nat.mul_le_mul_left (k + n) hby) (by omega)
    exact wp_append_own w s x t ho B e i0 z size bytes ht hi hz0 hz1 hz2 hzs hsz v k xs hs hown p n c ys hx hl (hsrc p rfl) h1 (by unfold maxLen; omega) hb2 hB fun v' w' a1 a2 _ => h v' w' a1 a2 (shape a1)
theorem wpList_append_src {P : Program} {ops : Array Oper} {rest : List Oper} {o : Oper} {a : Act} {w : World} {Q : Exit → Act → World → Prop} (hgd : o.guard = none) (s x : Operand) (t : TypeId)
    (ho : o.op = .call { callee := .builtin .append, args := #[s, x], argTypes := #[t, t] }) (B : Nat) (e : TypeId) (size bytes : Nat) (z : Value) (ht : P.underlying t = some (.slice e))
    (hinf : (P.info? e).map (fun i => (i.zero, i.size, i.bytes)) = some (some z, size, bytes)) (hzs : z.cells.size = size) (hsz : 0 < size) (hby : bytes ≤ 1000)
    (v : Value) (k : Nat) (xs : List Value) (q : Option Addr) (n c : Nat) (ys : List Value) (hown : w.ownsRow B e size v k xs) (hq : q = none → n = 0 ∧ c = 0) (hl : ys.length = n * size) (hsrc : ∀ p, q = some p → ∀ j u, ys[j]? = some u → w.cell? (p.add j) = some u) (hs : a.eval s = v) (hx : a.eval x = .slice q n c) (h1 : ∀ u ∈ ys, u.oneCell' = true) (hk : k ≤ 1048576) (hn : n ≤ 1048576) (hB : B ≤ w.heap.size)
    (h : ∀ v' w', w'.ownsRow B e size v' (k + n) (xs ++ ys) → w.grownBy w' v.ownBlock → (∃ va vc, v' = .slice va (k + n) vc) → wpList P ops Q rest (a.put o.dst v') w') : wpList P ops Q (o :: rest) a w :=
  wpList_plain hgd fun _ hK => wp_append_src s x t ho B e size bytes z ht hinf hzs hsz hby v k xs q n c ys hown hq hl hsrc hs hx h1 hk hn hB fun v' w' a1 a2 a3 => hK _ _ (h v' w' a1 a2 a3)
theorem step_append_src {P : Program} {ops : Array Oper} {o : Oper} {a : Act} {w : World} {K : Act → World → Prop} {Q : Exit → Act → World → Prop} {E : Prop} (hgd : o.guard = none) (s x : Operand) (t : TypeId)
    (ho : o.op = .call { callee := .builtin .append, args := #[s, x], argTypes := #[t, t] }) (B : Nat) (e : TypeId) (size bytes : Nat) (z : Value) (ht : P.underlying t = some (.slice e))
    (hinf : (P.info? e).map (fun i => (i.zero, i.size, i.bytes)) = some (some z, size, bytes)) (hzs : z.cells.size = size) (hsz : 0 < size) (hby : bytes ≤ 1000)
    (v : Value) (k : Nat) (xs : List Value) (q : Option Addr) (n c : Nat) (ys : List Value) (hown : w.ownsRow B e size v k xs) (hq : q = none → n = 0 ∧ c = 0) (hl : ys.length = n * size) (hsrc : ∀ p, q = some p → ∀ j u, ys[j]? = some u → w.cell? (p.add j) = some u) (hs : a.eval s = v) (hx : a.eval x = .slice q n c) (h1 : ∀ u ∈ ys, u.oneCell' = true) (hk : k ≤ 1048576) (hn : n ≤ 1048576) (hB : B ≤ w.heap.size)
    (h : ∀ v' w', w'.ownsRow B e size v' (k + n) (xs ++ ys) → w.grownBy w' v.ownBlock → (∃ va vc, v' = .slice va (k + n) vc) → K (a.put o.dst v') w') :
    if Region.wanted o (yielded ops a.tmps) = true then Oper.wp P o a w K Q else E := by
  have hw : Region.wanted o (yielded ops a.tmps) = true := by simp [Region.wanted, hgd]
  rw [if_pos hw]
  exact wp_append_src s x t ho B e size bytes z ht hinf hzs hsz hby v k xs q n c ys hown hq hl hsrc hs hx h1 hk hn hB h
end Go.Proofs.Ytnmjfdejgfmoiaa
