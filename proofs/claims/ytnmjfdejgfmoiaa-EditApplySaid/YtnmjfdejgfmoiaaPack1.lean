/-
  Small words of our own that every text of this seat uses: what a law's walk says of the world; integers of 32 bits; naming. No condition.
-/
import Derived.WalkKit
import Derived.IntWalk
import Derived.Lib.Hide
import Derived.SizedLaws
import Derived.Test.YtnmjfdejgfmoiaaRows
import Derived.ChangeSame
import Derived.ProofKit
import Derived.Laws.NewBlocks
import Derived.Deep.Draws
import Derived.Laws.OwnMore
import Derived.Handy
import Derived.Deep.QuietTactic
import Derived.BigQuiet
import Derived.Deep.Cut
import Derived.Deep.DeepCutAuto
import Derived.Deep.Slices
import Derived.Deep.Fields
import Derived.ChangeSlices
import Derived.OpenShut
import Derived.SliceStrings
import Derived.WideAt
import Derived.WideShapes
namespace Go.Proofs.Ytnmjfdejgfmoiaa
set_option maxRecDepth 100000
open Go.RowKit
theorem named {α : Type} (a : α) : ∃ x, Hid (x = a) := ⟨a, Lib.hid rfl⟩
theorem below_of {w w1 w2 : World} (h1 : Below w.heap.size w w1) (h2 : Below w1.heap.size w1 w2) : Below w.heap.size w w2 := h1.trans (h2.mono h1.size)
theorem below_alloc (w : World) (o : Obj) : Below w.heap.size w (w.alloc o) := (Below.refl _ _).alloc (Nat.le_refl _) o
theorem u32_bv {x : Int} (h : (Lit.int .u32 x).wf = true) : ∃ v : BitVec 32, x = (v.toNat : Int) := by
  have hx : 0 ≤ x ∧ x ≤ 4294967295 := by simpa [Lit.wf, IntKind.min, IntKind.max, IntKind.signed, IntKind.bits] using h
  refine ⟨BitVec.ofInt 32 x, ?_⟩
  obtain ⟨n, rfl⟩ := Int.eq_ofNat_of_zero_le hx.1
  rw [BitVec.ofInt_natCast, BitVec.toNat_ofNat]
  omega
theorem u8_byte {x : Int} (h : (Lit.int .u8 x).wf = true) : ∃ v : UInt8, x = (v.toNat : Int) := by
  have hx : 0 ≤ x ∧ x ≤ 255 := by simpa [Lit.wf, IntKind.min, IntKind.max, IntKind.signed, IntKind.bits] using h
  obtain ⟨n, rfl⟩ := Int.eq_ofNat_of_zero_le hx.1
  refine ⟨UInt8.ofNat n, ?_⟩
  rw [UInt8.toNat_ofNat']
  omega
theorem i64_range {x : Int} (h : (Lit.int .i64 x).wf = true) : -9223372036854775808 ≤ x ∧ x ≤ 9223372036854775807 := by
  simpa [Lit.wf, IntKind.min, IntKind.max, IntKind.signed, IntKind.bits] using h
theorem reach_max {n : Nat} (h : n ≤ reachBytes) : n ≤ maxLen := by
  unfold reachBytes at h; unfold maxLen; omega
end Go.Proofs.Ytnmjfdejgfmoiaa
/-
  The program's types are laid out. No condition.
-/
namespace Go.Proofs.Ytnmjfdejgfmoiaa
set_option maxRecDepth 100000
open Go Go.RowKit Go.ChangeShapes
theorem laid_out : laidOutB Try.prog = true := by kernel_rfl
end Go.Proofs.Ytnmjfdejgfmoiaa
/-
  What a call leaves that writes into one block of cells alone: of what there was, all else stands. No condition.
-/
namespace Go.Proofs.Ytnmjfdejgfmoiaa
set_option maxRecDepth 100000
open Go.RowKit
/-- Of what there was, block b alone may have turned; more may have been made. -/
structure But (b : Nat) (w w' : World) : Prop where
  os : w'.os = w.os
  tape : w'.tape = w.tape
  output : w'.output = w.output
  size : w.heap.size ≤ w'.heap.size
  block : ∀ k : Nat, k < w.heap.size → k ≠ b → w'.heap[k]? = w.heap[k]?
theorem But.refl (b : Nat) (w : World) : But b w w := ⟨rfl, rfl, rfl, Nat.le_refl _, fun _ _ _ => rfl⟩
theorem But.trans {b : Nat} {x y z : World} (h : But b x y) (k : But b y z) : But b x z :=
  ⟨k.os.trans h.os, k.tape.trans h.tape, k.output.trans h.output, Nat.le_trans h.size k.size, fun j hj hb => (k.block j (Nat.lt_of_lt_of_le hj h.size) hb).trans (h.block j hj hb)⟩
theorem But.of_below {B b : Nat} {w w' : World} (h : Below B w w') (hB : w.heap.size ≤ B) : But b w w' := ⟨h.os, h.tape, h.output, h.size, fun k hk _ => h.block k (Nat.lt_of_lt_of_le hk hB)⟩
theorem But.below {B b : Nat} {w w' : World} (h : But b w w') (hB : B ≤ b) (hs : B ≤ w.heap.size) : Below B w w' := ⟨h.os, h.tape, h.output, h.size, fun k hk => h.block k (Nat.lt_of_lt_of_le hk hs) (by omega)⟩
theorem But.drew {b : Nat} {w w' : World} (h : But b w w') : But b w w'.drew := ⟨h.os, h.tape, h.output, h.size, h.block⟩
theorem But.drewN {b n : Nat} {w w' : World} (h : But b w w') : But b w (w'.drewN n) := ⟨h.os, h.tape, h.output, h.size, h.block⟩
theorem But.setCell {b : Nat} {w w' : World} (h : But b w w') {p : Addr} (hp : p.block = b) (u : Value) : But b w (w'.setCell p u) :=
  have g : Below 0 w' (w'.setCell p u) := (Below.refl 0 w').setCell (Nat.zero_le _) u
  ⟨g.os.trans h.os, g.tape.trans h.tape, g.output.trans h.output, Nat.le_trans h.size g.size, fun k hk hb => (Below.heap_setCell w' p u k (by rw [hp]; exact hb)).trans (h.block k hk hb)⟩
theorem But.alloc {b : Nat} {w w' : World} (h : But b w w') (o : Obj) : But b w (w'.alloc o) :=
  ⟨h.os, h.tape, h.output, by rw [World.size_alloc]; exact Nat.le_succ_of_le h.size, fun k hk hb => (Below.heap_alloc w' o k (Nat.lt_of_lt_of_le hk h.size)).trans (h.block k hk hb)⟩
theorem But.cell {b : Nat} {w w' : World} (h : But b w w') {p : Addr} (hp : p.block < w.heap.size) (hb : p.block ≠ b) : w'.cell? p = w.cell? p := by
  unfold World.cell?
  rw [h.block p.block hp hb]
theorem But.frozen {b : Nat} {w w' : World} (h : But b w w') {p : Addr} (hp : p.block < w.heap.size) (hb : p.block ≠ b) : w'.frozen? p = w.frozen? p := by
  unfold World.frozen?
  rw [h.block p.block hp hb]
theorem below_drewN {B n : Nat} {w w' : World} (h : Below B w w') : Below B w (w'.drewN n) := ⟨h.os, h.tape, h.output, h.size, h.block⟩
end Go.Proofs.Ytnmjfdejgfmoiaa
/-
  How rows (api.Row) lie in memory, and the contract of the document's SameRows. No condition.
-/
namespace Go.Proofs.Ytnmjfdejgfmoiaa
set_option maxRecDepth 100000
open Go.RowKit
theorem bytes_inj {s t : ByteArray} (h : s.toList = t.toList) : s = t := by
  rw [ByteArray.toList_eq, ByteArray.toList_eq] at h
  exact ByteArray.ext (Array.toList_inj.1 h)
/-- A row. -/
structure Rw where
  key : ByteArray
  seq : Nat
  kind : Int
  val : ByteArray
/-- Rows as cells. -/
def rowR (l : List Rw) : List Value := l.flatMap fun x => [.string x.key, .int .u64 (x.seq : Int), .int .i64 x.kind, .string x.val]
theorem rowR_len (l : List Rw) : (rowR l).length = l.length * 4 := by
  induction l with
  | nil => rfl
  | cons x r ih => show ([_, _, _, _] ++ rowR r).length = _; rw [List.length_append, ih]; simp; omega
theorem rowR_snoc (l : List Rw) (x : Rw) : rowR (l ++ [x]) = rowR l ++ [.string x.key, .int .u64 (x.seq : Int), .int .i64 x.kind, .string x.val] := by simp [rowR]
theorem rowR_app (l k : List Rw) : rowR (l ++ k) = rowR l ++ rowR k := by simp [rowR]
theorem rowR_at : ∀ (l : List Rw) (j : Nat) {x : Rw}, l[j]? = some x → (rowR l)[j * 4]? = some (.string x.key) ∧ (rowR l)[j * 4 + 1]? = some (.int .u64 (x.seq : Int)) ∧ (rowR l)[j * 4 + 2]? = some (.int .i64 x.kind) ∧ (rowR l)[j * 4 + 3]? = some (.string x.val)
  | [], _, _, h => by cases h
  | y :: r, 0, x, h => by
    obtain rfl : y = x := by simpa using h
    exact ⟨rfl, rfl, rfl, rfl⟩
  | y :: r, j + 1, x, h => by
    obtain ⟨h1, h2, h3, h4⟩ := rowR_at r j (x := x) (by simpa using h)
    refine ⟨?_, ?_, ?_, ?_⟩
    · show (_ :: _ :: _ :: _ :: rowR r)[(j + 1) * 4]? = _
      rw [show (j + 1) * 4 = j * 4 + 1 + 1 + 1 + 1 by omega]; simpa using h1
    · show (_ :: _ :: _ :: _ :: rowR r)[(j + 1) * 4 + 1]? = _
      rw [show (j + 1) * 4 + 1 = j * 4 + 1 + 1 + 1 + 1 + 1 by omega]; simpa using h2
    · show (_ :: _ :: _ :: _ :: rowR r)[(j + 1) * 4 + 2]? = _
      rw [show (j + 1) * 4 + 2 = j * 4 + 2 + 1 + 1 + 1 + 1 by omega]; simpa using h3
    · show (_ :: _ :: _ :: _ :: rowR r)[(j + 1) * 4 + 3]? = _
      rw [show (j + 1) * 4 + 3 = j * 4 + 3 + 1 + 1 + 1 + 1 by omega]; simpa using h4
/-- The rows lie one behind the other from ⟨b, o⟩ on. -/
def RwsAt (b o : Nat) (l : List Rw) (w : World) : Prop :=
  ∀ (j : Nat) x, l[j]? = some x → w.cell? ⟨b, o + j * 4, none⟩ = some (.string x.key) ∧ w.cell? ⟨b, o + j * 4 + 1, none⟩ = some (.int .u64 (x.seq : Int)) ∧ w.cell? ⟨b, o + j * 4 + 2, none⟩ = some (.int .i64 x.kind) ∧ w.cell? ⟨b, o + j * 4 + 3, none⟩ = some (.string x.val)
/-- A slice of rows. -/
structure Rs (a : Option Addr) (n c b o : Nat) (l : List Rw) (w : World) : Prop where
  len : l.length = n
  cap : n ≤ c
  most : c ≤ 9223372036854775807
  addr : 0 < n → a = some ⟨b, o, none⟩ ∧ b < w.heap.size
  at' : RwsAt b o l w
theorem RwsAt.keep {b o : Nat} {l : List Rw} {w w' : World} (h : RwsAt b o l w) (hk : w'.heap[b]? = w.heap[b]?) : RwsAt b o l w' := fun j x hx => by
  have e : ∀ a, w'.cell? ⟨b, a, none⟩ = w.cell? ⟨b, a, none⟩ := fun a => World.cell?_of_block (a := ⟨b, a, none⟩) hk
  rw [e, e, e, e]; exact h j x hx
theorem RwsAt.nil (b o : Nat) (w : World) : RwsAt b o [] w := fun j x h => by cases h
theorem Rs.keep {a : Option Addr} {n c b o : Nat} {l : List Rw} {w w' : World} (h : Rs a n c b o l w) (hk : 0 < n → w'.heap[b]? = w.heap[b]?) (hs : w.heap.size ≤ w'.heap.size) : Rs a n c b o l w' := by
  refine ⟨h.len, h.cap, h.most, fun h0 => ⟨(h.addr h0).1, Nat.lt_of_lt_of_le (h.addr h0).2 hs⟩, ?_⟩
  by_cases h0 : 0 < n
  · exact h.at'.keep (hk h0)
  · have : l = [] := List.length_eq_zero_iff.1 (by rw [h.len]; omega)
    subst this
    exact RwsAt.nil _ _ _
theorem Rs.below {B : Nat} {a : Option Addr} {n c b o : Nat} {l : List Rw} {w w' : World} (h : Rs a n c b o l w) (hb : Below B w w') (hB : w.heap.size ≤ B) : Rs a n c b o l w' := h.keep (fun h0 => hb.block b (Nat.lt_of_lt_of_le (h.addr h0).2 hB)) hb.size
theorem Rs.at4 {a : Option Addr} {n c b o : Nat} {l : List Rw} {w : World} (h : Rs a n c b o l w) {j : Nat} (hj : j < n) : ∃ x, l[j]? = some x ∧ a = some ⟨b, o, none⟩ ∧ w.cell? ⟨b, o + j * 4, none⟩ = some (.string x.key) ∧ w.cell? ⟨b, o + j * 4 + 1, none⟩ = some (.int .u64 (x.seq : Int)) ∧ w.cell? ⟨b, o + j * 4 + 2, none⟩ = some (.int .i64 x.kind) ∧ w.cell? ⟨b, o + j * 4 + 3, none⟩ = some (.string x.val) := by
  obtain ⟨x, hx⟩ : ∃ x, l[j]? = some x := ⟨_, List.getElem?_eq_getElem (by rw [h.len]; exact hj)⟩
  exact ⟨x, hx, (h.addr (by omega)).1, h.at' j x hx⟩
theorem rw_eq {s1 s2 : Nat} {k1 k2 : Int} {a1 a2 v1 v2 : ByteArray} : (⟨a1, s1, k1, v1⟩ : Rw) = ⟨a2, s2, k2, v2⟩ ↔ a1.toList = a2.toList ∧ (s1 : Int) = (s2 : Int) ∧ k1 = k2 ∧ v1.toList = v2.toList := by
  simp only [Rw.mk.injEq]
  exact ⟨fun ⟨h1, h2, h3, h4⟩ => ⟨by rw [h1], by omega, h3, by rw [h4]⟩, fun ⟨h1, h2, h3, h4⟩ => ⟨bytes_inj h1, by omega, h3, bytes_inj h4⟩⟩
end Go.Proofs.Ytnmjfdejgfmoiaa
/-
  A slice of structs that came in as an argument, whatever its element: opened once, over how one element reads. Rows (api.Row) and slices of rows. No condition.
-/
namespace Go.Proofs.Ytnmjfdejgfmoiaa
open Go Go.RowKit Go.ChangeShapes Go.WideShapes Go.Deep
set_option maxRecDepth 100000
theorem weights_of {H : Type} {P : Program} {e : TypeId} : ∀ {l : List (DataW H)} {d : DataW H} {n : Nat}, d ∈ l → n ∈ d.weights P e → n ∈ DataW.weightsAll P e l
  | [], _, _, h, _ => by cases h
  | x :: r, d, n, h, hn => by
    rw [DataW.weightsAll]
    rcases List.mem_cons.1 h with rfl | h
    · exact List.mem_append_left _ hn
    · exact List.mem_append_right _ (weights_of h hn)
/-- A slice of elements of k cells: where it lies, and what it holds. -/
structure SlOf {α : Type} (k : Nat) (cells : α → List Value) (a : Option Addr) (n c b o : Nat) (l : List α) (w : World) : Prop where
  len : l.length = n
  cap : n ≤ c
  most : c ≤ 9223372036854775807
  addr : 0 < n → a = some ⟨b, o, none⟩ ∧ b < w.heap.size
  at' : ∀ j x, l[j]? = some x → ∀ m u, (cells x)[m]? = some u → w.cell? ⟨b, o + j * k + m, none⟩ = some u
theorem open_slice_of {α : Type} [Inhabited α] {H : Type} {enc : TypeId × Value → H} {W : World} {a0 : Option Addr} {len cap fuel : Nat} {x : DataW H × List MemPlace} {T E : TypeId} (k : Nat) (hT : Try.prog.underlying T = some (.slice E)) (hk : Try.prog.cellsOf E = k) (hk0 : 0 < k)
    (cells : α → List Value) (hcl : ∀ v, (cells v).length = k) (Good : α → Prop) (Ns : α → List Nat)
    (read : ∀ {fuel : Nat} {cs : List Value} {y : DataW H × List MemPlace}, DataW.trod enc Try.prog W 0 (fun _ => true) true fuel E cs = some y → ∃ v : α, cs = cells v ∧ Good v ∧ ∀ n ∈ Ns v, n ∈ y.1.weights Try.prog E)
    (hf : DataW.trod enc Try.prog W 0 (fun _ => true) true fuel T [.slice a0 len cap] = some x) (hsz : ∀ n ∈ x.1.weights Try.prog T, n ≤ reachBytes) :
    ∃ b o l, SlOf k cells a0 len cap b o l W ∧ ∀ v ∈ l, Good v ∧ ∀ n ∈ Ns v, n ≤ reachBytes := by
  rcases DataW.trod_slice hT hf with ⟨hcs, _⟩ | ⟨a, len', cap', elems, rest, n, _, hcs, hx, _, hl, hm, hlen, hel, _, _⟩
  · simp at hcs
    obtain ⟨rfl, rfl, rfl⟩ := hcs
    exact ⟨0, 0, [], ⟨rfl, Nat.le_refl _, by omega, fun h => absurd h (by omega), fun j x hx => by simp at hx⟩, fun x hx => by cases hx⟩
  · simp at hcs
    obtain ⟨rfl, rfl, rfl⟩ := hcs
    obtain ⟨b, off, spot⟩ := a
    have el : ∀ i, i < len → ∃ v : α, (∀ m u, (cells v)[m]? = some u → W.cell? ((⟨b, off, spot⟩ : Addr).add (i * k + m)) = some u) ∧ Good v ∧ ∃ y, elems[i]? = some y ∧ ∀ n ∈ Ns v, n ∈ y.1.weights Try.prog E := by
      intro i hi
      have h1 := hel i hi
      rw [hk] at h1
      have hys : elems[i]? = some (elems[i]'(by omega)) := List.getElem?_eq_getElem (by omega)
      rw [hys] at h1
      obtain ⟨cs, hc, ht'⟩ := Option.bind_eq_some_iff.1 h1
      obtain ⟨v, rfl, hg, hy⟩ := read ht'
      obtain ⟨_, hcl', hat⟩ := World.cells?_some hc
      refine ⟨v, fun m u hu => ?_, hg, _, hys, hy⟩
      have hm5 : m < k := by have := (List.getElem?_eq_some_iff.1 hu).1; rw [hcl] at this; exact this
      rw [← Go.Deep.add_add, hat m hm5, hu]
    obtain ⟨vf, hvf⟩ : ∃ vf : Nat → α, ∀ i, i < len → (∀ m u, (cells (vf i))[m]? = some u → W.cell? ((⟨b, off, spot⟩ : Addr).add (i * k + m)) = some u) ∧ Good (vf i) ∧ ∃ y, elems[i]? = some y ∧ ∀ n ∈ Ns (vf i), n ∈ y.1.weights Try.prog E := by
      refine ⟨fun i => if h : i < len then (el i h).choose else default, fun i hi => ?_⟩
      simp only [dif_pos hi]
      exact (el i hi).choose_spec
    have hwt : ∀ i, i < len → ∀ n, n ∈ Ns (vf i) → n ≤ reachBytes := by
      intro i hi n hn
      obtain ⟨_, _, y, hy, he⟩ := hvf i hi
      refine hsz n ?_
      rw [hx, DataW.weights, hT]
      exact List.mem_cons_of_mem _ (List.mem_append_left _ (weights_of (List.mem_map.2 ⟨y, List.mem_of_getElem? hy, rfl⟩) (he n hn)))
    have hspot : 0 < len → spot = none := fun h0 => by
      obtain ⟨hcell, _⟩ := hvf 0 h0
      have := hcell 0 _ (List.getElem?_eq_getElem (by rw [hcl]; exact hk0))
      simpa [Addr.add] using World.cell?_spot this
    unfold maxLen at hm
    refine ⟨b, off, (List.range len).map vf, ⟨by simp, hl, by omega, fun h0 => ?_, fun j v hj m u hu => ?_⟩, fun v hv => ?_⟩
    · have hs := hspot h0
      subst hs
      obtain ⟨hcell, _⟩ := hvf 0 h0
      have hb := World.block_lt_of_cell? _ _ (hcell 0 _ (List.getElem?_eq_getElem (by rw [hcl]; exact hk0)))
      exact ⟨rfl, by simpa [Addr.add] using hb⟩
    · have hjl : j < len := by have := (List.getElem?_eq_some_iff.1 hj).1; simpa using this
      have hvj : v = vf j := by simpa [hjl] using hj.symm
      subst hvj
      have hs := hspot (by omega)
      subst hs
      obtain ⟨hcell, _⟩ := hvf j hjl
      have := hcell m u hu
      have e1 : (⟨b, off, none⟩ : Addr).add (j * k + m) = ⟨b, off + j * k + m, none⟩ := by
        unfold Addr.add
        split
        · rename_i h0
          rw [show off + j * k + m = off by omega]
        · simp only [Addr.mk.injEq, true_and, and_true]; omega
      rw [e1] at this
      exact this
    · obtain ⟨i, hi, rfl⟩ := List.mem_map.1 hv
      have hil : i < len := List.mem_range.1 hi
      exact ⟨(hvf i hil).2.1, hwt i hil⟩
/-- A row's cells. -/
def cellsR (x : Rw) : List Value := [.string x.key, .int .u64 (x.seq : Int), .int .i64 x.kind, .string x.val]
instance : Inhabited Rw := ⟨⟨.empty, 0, 0, .empty⟩⟩
/-- What holds of each row that came in. -/
def RwIn (x : Rw) : Prop := x.key.size ≤ 281474976710656 ∧ x.val.size ≤ 281474976710656 ∧ x.seq ≤ 18446744073709551615
theorem rwIn_of {x : Rw} (h : x.seq ≤ 18446744073709551615) (hn : ∀ n ∈ [x.key.size, x.val.size], n ≤ reachBytes) : RwIn x := by
  have h1 := hn _ (List.mem_cons_self ..)
  have h2 := hn x.val.size (by simp)
  unfold reachBytes at h1 h2
  exact ⟨by omega, by omega, h⟩
/-- Integers that came in. -/
def cellsI (x : Int) : List Value := [.int .i64 x]
theorem SlOf.keep {α : Type} {k : Nat} {cells : α → List Value} {a : Option Addr} {n c b o : Nat} {l : List α} {w w' : World} (h : SlOf k cells a n c b o l w) (hk : 0 < n → w'.heap[b]? = w.heap[b]?) (hs : w.heap.size ≤ w'.heap.size) : SlOf k cells a n c b o l w' := by
  refine ⟨h.len, h.cap, h.most, fun h0 => ⟨(h.addr h0).1, Nat.lt_of_lt_of_le (h.addr h0).2 hs⟩, fun j x hx m u hu => ?_⟩
  have hj : j < n := by rw [← h.len]; exact (List.getElem?_eq_some_iff.1 hx).1
  rw [World.cell?_of_block (a := ⟨b, o + j * k + m, none⟩) (hk (by omega))]
  exact h.at' j x hx m u hu
theorem SlOf.below {α : Type} {k : Nat} {cells : α → List Value} {a : Option Addr} {n c b o : Nat} {l : List α} {w w' : World} {B : Nat} (h : SlOf k cells a n c b o l w) (hb : Below B w w') (hB : w.heap.size ≤ B) : SlOf k cells a n c b o l w' := h.keep (fun h0 => hb.block b (Nat.lt_of_lt_of_le (h.addr h0).2 hB)) hb.size
end Go.Proofs.Ytnmjfdejgfmoiaa
/-
  A skip list as plain data: rows in order, each with a height; where a search comes to; what inserting makes of it. No condition.
-/
namespace Go.Proofs.Ytnmjfdejgfmoiaa
set_option maxRecDepth 100000
open Go.RowKit
theorem less_before : ∀ a b : List UInt8, Op.bytesLess a b = bytesBefore a b := by
  intro a
  induction a with
  | nil => intro b; cases b <;> simp [Op.bytesLess, bytesBefore]
  | cons x r ih => intro b; cases b <;> simp [Op.bytesLess, bytesBefore, ih]
/-- The row x stands ahead of the place of k and q. -/
def ahd (x : Rw) (k : ByteArray) (q : Nat) : Bool := if x.key.toList = k.toList then decide (q < x.seq) else bytesBefore x.key.toList k.toList
def sameP (x : Rw) (k : ByteArray) (q : Nat) : Prop := x.key.toList = k.toList ∧ x.seq = q
theorem ahd_irrefl {x : Rw} {k : ByteArray} {q : Nat} (h : sameP x k q) : ahd x k q = false := by
  unfold ahd; rw [if_pos h.1, h.2]; simp
theorem ahd_trans {x y : Rw} {k : ByteArray} {q : Nat} (h1 : ahd x y.key y.seq = true) (h2 : ahd y k q = true) : ahd x k q = true := by
  unfold ahd at *
  by_cases e1 : x.key.toList = y.key.toList
  · rw [if_pos e1] at h1
    by_cases e2 : y.key.toList = k.toList
    · rw [if_pos e2] at h2
      rw [if_pos (e1.trans e2)]
      simp only [decide_eq_true_eq] at *
      omega
    · rw [if_neg e2] at h2
      rw [if_neg (by rw [e1]; exact e2), e1]; exact h2
  · rw [if_neg e1] at h1
    by_cases e2 : y.key.toList = k.toList
    · rw [if_neg (by rw [← e2]; exact e1), ← e2]; exact h1
    · rw [if_neg e2] at h2
      have h3 := WideShapes.bytes_trans _ _ _ h1 h2
      rw [if_neg (fun e => by rw [e, WideAt.bytes_irrefl] at h3; cases h3)]; exact h3
theorem ahd_total {x y : Rw} (h : ¬ sameP x y.key y.seq) : ahd x y.key y.seq = true ∨ ahd y x.key x.seq = true := by
  unfold ahd
  by_cases e : x.key.toList = y.key.toList
  · rw [if_pos e, if_pos e.symm]
    have : x.seq ≠ y.seq := fun e2 => h ⟨e, e2⟩
    simp only [decide_eq_true_eq]
    omega
  · rw [if_neg e, if_neg (fun e2 => e e2.symm)]
    exact WideAt.bytes_total _ _ e
/-- The place of a row counts alone. -/
theorem ahd_same {x y : Rw} {k : ByteArray} {q : Nat} (h : sameP y k q) : ahd x y.key y.seq = ahd x k q := by
  unfold ahd; rw [h.1, h.2]
theorem ahd_left {x y : Rw} {k : ByteArray} {q : Nat} (h : sameP x y.key y.seq) : ahd x k q = ahd y k q := by
  unfold ahd; rw [h.1, h.2]
def SortedR (l : List Rw) : Prop := l.Pairwise fun x y => ahd x y.key y.seq = true
/-- How many rows stand ahead of a place. -/
def plc (l : List Rw) (k : ByteArray) (q : Nat) : Nat := (l.takeWhile fun x => ahd x k q).length
theorem plc_le (l : List Rw) (k : ByteArray) (q : Nat) : plc l k q ≤ l.length := (List.takeWhile_prefix _).length_le
theorem plc_iff : ∀ {l : List Rw}, SortedR l → ∀ {k : ByteArray} {q j : Nat} {x : Rw}, l[j]? = some x → (ahd x k q = true ↔ j < plc l k q)
  | [], _, _, _, _, _, h => by cases h
  | y :: r, hs, k, q, j, x, hx => by
    have hs' := List.pairwise_cons.1 hs
    unfold plc
    rw [List.takeWhile_cons]
    by_cases hy : ahd y k q = true
    · rw [if_pos hy]
      cases j with
      | zero =>
        obtain rfl : y = x := by simpa using hx
        simp [hy]
      | succ j =>
        have := plc_iff hs'.2 (k := k) (q := q) (j := j) (x := x) (by simpa using hx)
        rw [this]; unfold plc; simp
    · rw [if_neg hy]
      have : ahd x k q = false := by
        cases j with
        | zero =>
          obtain rfl : y = x := by simpa using hx
          simpa using hy
        | succ j =>
          have hm : x ∈ r := List.mem_of_getElem? (i := j) (by simpa using hx)
          cases e : ahd x k q with
          | false => rfl
          | true => exact absurd (ahd_trans (hs'.1 x hm) e) hy
      simp [this]
theorem plc_front {l : List Rw} {k : ByteArray} {q : Nat} {x : Rw} (hx : x ∈ l.take (plc l k q)) : ahd x k q = true := by
  have e : l.take (plc l k q) = l.takeWhile fun x => ahd x k q := by
    have := List.prefix_iff_eq_take.1 (List.takeWhile_prefix (l := l) fun x => ahd x k q)
    exact this.symm
  rw [e] at hx
  have : ∀ (l : List Rw), ∀ y ∈ l.takeWhile (fun x => ahd x k q), ahd y k q = true := by
    intro l
    induction l with
    | nil => intro y hy; cases hy
    | cons z r ih =>
      intro y hy
      rw [List.takeWhile_cons] at hy
      split at hy
      · rcases List.mem_cons.1 hy with rfl | h
        · assumption
        · exact ih y h
      · cases hy
  exact this l x hx
theorem plc_back {l : List Rw} (hs : SortedR l) {k : ByteArray} {q : Nat} {x : Rw} (hx : x ∈ l.drop (plc l k q)) : ahd x k q = false := by
  obtain ⟨j, hj⟩ := List.mem_iff_getElem?.1 hx
  rw [List.getElem?_drop] at hj
  have := plc_iff hs (k := k) (q := q) hj
  cases e : ahd x k q with
  | false => rfl
  | true => exact absurd (this.1 e) (by omega)
/-- There is a row of that place. -/
def thr (l : List Rw) (k : ByteArray) (q : Nat) : Bool := match l[plc l k q]? with | some x => decide (x.key.toList = k.toList) && decide (x.seq = q) | none => false
theorem thr_iff {l : List Rw} (hs : SortedR l) {k : ByteArray} {q : Nat} : thr l k q = true ↔ ∃ x ∈ l, sameP x k q := by
  unfold thr
  constructor
  · intro h
    split at h
    · rename_i x hx
      rw [Bool.and_eq_true, decide_eq_true_eq, decide_eq_true_eq] at h
      exact ⟨x, List.mem_of_getElem? hx, h⟩
    · cases h
  · rintro ⟨x, hm, hx⟩
    obtain ⟨j, hj⟩ := List.mem_iff_getElem?.1 hm
    have h1 := plc_iff hs (k := k) (q := q) hj
    rw [ahd_irrefl hx] at h1
    have h2 : plc l k q ≤ j := by
      rcases Nat.lt_or_ge j (plc l k q) with h | h
      · exact absurd (h1.2 h) (by simp)
      · exact h
    have hjl : j < l.length := (List.getElem?_eq_some_iff.1 hj).1
    obtain ⟨y, hy⟩ : ∃ y, l[plc l k q]? = some y := ⟨_, List.getElem?_eq_getElem (by omega)⟩
    rw [hy]
    rcases Nat.eq_or_lt_of_le h2 with e | hlt
    · rw [e, hj] at hy
      cases hy
      simp only [Bool.and_eq_true, decide_eq_true_eq]
      exact hx
    · have h3 : ahd y x.key x.seq = true := by
        have := List.pairwise_iff_getElem.1 hs _ _ (by omega) hjl hlt
        rw [(List.getElem?_eq_some_iff.1 hy).2, (List.getElem?_eq_some_iff.1 hj).2] at this
        exact this
      rw [ahd_same hx] at h3
      exact absurd ((plc_iff hs hy).1 h3) (by omega)
/-- A row put in. -/
def insR (l : List Rw) (x : Rw) : List Rw := l.take (plc l x.key x.seq) ++ x :: l.drop (plc l x.key x.seq)
theorem insR_sorted {l : List Rw} (hs : SortedR l) {x : Rw} (ht : thr l x.key x.seq = false) : SortedR (insR l x) := by
  unfold insR SortedR
  have hsp : SortedR (l.take (plc l x.key x.seq) ++ l.drop (plc l x.key x.seq)) := by rw [List.take_append_drop]; exact hs
  rw [SortedR, List.pairwise_append] at hsp
  rw [List.pairwise_append, List.pairwise_cons]
  refine ⟨hsp.1, ⟨fun y hy => ?_, hsp.2.1⟩, fun a ha b hb => ?_⟩
  · have h1 := plc_back hs hy
    have h2 : ¬ sameP y x.key x.seq := fun e => by
      have := (thr_iff hs (k := x.key) (q := x.seq)).2 ⟨y, List.mem_of_mem_drop hy, e⟩
      rw [ht] at this; cases this
    rcases ahd_total h2 with h | h
    · rw [h1] at h; cases h
    · exact h
  · rcases List.mem_cons.1 hb with rfl | h
    · exact plc_front ha
    · exact hsp.2.2 a ha b h
theorem insR_perm (l : List Rw) (x : Rw) : (insR l x).Perm (x :: l) := by
  unfold insR
  have h : (l.take (plc l x.key x.seq) ++ x :: l.drop (plc l x.key x.seq)).Perm (x :: (l.take (plc l x.key x.seq) ++ l.drop (plc l x.key x.seq))) := List.perm_middle
  rwa [List.take_append_drop] at h
theorem insR_len (l : List Rw) (x : Rw) : (insR l x).length = l.length + 1 := (insR_perm l x).length_eq
/-- Heights: how far one goes at level h, and in how many steps. -/
def hopI (h : Nat) : List Nat → Nat
  | [] => 0
  | x :: r => if hopI h r = 0 then (if h < x then 1 else 0) else hopI h r + 1
theorem hopI_cons (h x : Nat) (r : List Nat) : hopI h (x :: r) = if hopI h r = 0 then (if h < x then 1 else 0) else hopI h r + 1 := rfl
def hopC (h : Nat) (l : List Nat) : Nat := l.countP fun x => decide (h < x)
theorem hop_le (h : Nat) : ∀ l : List Nat, hopC h l ≤ hopI h l ∧ hopI h l ≤ l.length
  | [] => by simp [hopC, hopI]
  | x :: r => by
    obtain ⟨h1, h2⟩ := hop_le h r
    unfold hopC at *
    rw [List.countP_cons]
    rw [hopI_cons]
    simp only [List.length_cons, decide_eq_true_eq]
    by_cases hx : h < x
    · by_cases h0 : hopI h r = 0
      · simp only [hx, h0, if_true]; omega
      · simp only [hx, h0, if_true, if_false]; omega
    · by_cases h0 : hopI h r = 0
      · simp only [hx, h0, if_true, if_false]; omega
      · simp only [hx, h0, if_false]; omega
theorem hop_low (h : Nat) : ∀ l : List Nat, (∀ x ∈ l, x ≤ h) → hopI h l = 0 ∧ hopC h l = 0
  | [], _ => by simp [hopC, hopI]
  | x :: r, hl => by
    obtain ⟨h1, h2⟩ := hop_low h r fun y hy => hl y (List.mem_cons_of_mem _ hy)
    have hx : ¬ h < x := by have := hl x (by simp); omega
    unfold hopC at *
    rw [List.countP_cons]
    rw [hopI_cons]
    simp [h1, h2, hx]
theorem hop_hit (h x : Nat) (r : List Nat) (hx : h < x) : ∀ a : List Nat, (∀ y ∈ a, y ≤ h) → hopI h (a ++ x :: r) = a.length + 1 + hopI h r ∧ hopC h (a ++ x :: r) = 1 + hopC h r
  | [], _ => by
    unfold hopC
    rw [List.nil_append, List.countP_cons]
    rw [hopI_cons]
    simp only [hx, decide_true, if_true, List.length_nil]
    constructor
    · split <;> omega
    · omega
  | y :: a, ha => by
    obtain ⟨h1, h2⟩ := hop_hit h x r hx a fun z hz => ha z (List.mem_cons_of_mem _ hz)
    have hy : ¬ h < y := by have := ha y (by simp); omega
    unfold hopC at *
    rw [List.cons_append, List.countP_cons]
    rw [hopI_cons, h1, h2]
    simp only [hy, decide_false, List.length_cons]
    constructor
    · rw [if_neg (by omega)]; omega
    · simp
theorem hop_snoc (h x : Nat) : ∀ l : List Nat, hopI h (l ++ [x]) = (if h < x then l.length + 1 else hopI h l) ∧ hopC h (l ++ [x]) = hopC h l + (if h < x then 1 else 0)
  | [] => by
    unfold hopC
    by_cases hx : h < x <;> simp [hopI, hx]
  | y :: r => by
    obtain ⟨h1, h2⟩ := hop_snoc h x r
    unfold hopC at *
    rw [List.cons_append, List.countP_cons, List.countP_cons, h2]
    rw [hopI_cons, hopI_cons, h1]
    constructor
    · by_cases hx : h < x
      · simp only [hx, if_true, List.length_cons]; rw [if_neg (by omega)]
      · simp only [hx, if_false]
    · omega
theorem hop_rest (h : Nat) : ∀ l : List Nat, ∀ x ∈ l.drop (hopI h l), x ≤ h
  | [], x, hx => by simp at hx
  | y :: r, x, hx => by
    rw [hopI_cons] at hx
    by_cases h0 : hopI h r = 0
    · have hr := hop_rest h r
      rw [h0, List.drop_zero] at hr
      rw [if_pos h0] at hx
      by_cases hy : h < y
      · rw [if_pos hy, List.drop_succ_cons, List.drop_zero] at hx
        exact hr x hx
      · rw [if_neg hy, List.drop_zero] at hx
        rcases List.mem_cons.1 hx with rfl | hx
        · omega
        · exact hr x hx
    · rw [if_neg h0, List.drop_succ_cons] at hx
      exact hop_rest h r x hx
theorem hop_last (h : Nat) : ∀ l : List Nat, hopI h l ≠ 0 → ∃ x, l[hopI h l - 1]? = some x ∧ h < x
  | [], h0 => absurd rfl h0
  | y :: r, h0 => by
    rw [hopI_cons] at h0 ⊢
    by_cases h1 : hopI h r = 0
    · rw [if_pos h1] at h0 ⊢
      by_cases hy : h < y
      · rw [if_pos hy]; exact ⟨y, by simp, hy⟩
      · rw [if_neg hy] at h0; exact absurd rfl h0
    · rw [if_neg h1]
      obtain ⟨x, hx, hlt⟩ := hop_last h r h1
      refine ⟨x, ?_, hlt⟩
      have : hopI h r + 1 - 1 = (hopI h r - 1) + 1 := by omega
      rw [this, List.getElem?_cons_succ]; exact hx
/-- Behind k levels, from the highest one down: how far, and in how many steps. -/
def dn (hs : List Nat) : Nat → Nat × Nat
  | 0 => (0, 0)
  | k + 1 => ((dn hs k).1 + hopI (11 - k) (hs.drop (dn hs k).1), (dn hs k).2 + hopC (11 - k) (hs.drop (dn hs k).1))
theorem dn_le (hs : List Nat) : ∀ k, (dn hs k).1 ≤ hs.length ∧ (dn hs k).2 ≤ (dn hs k).1
  | 0 => ⟨Nat.zero_le _, Nat.le_refl _⟩
  | k + 1 => by
    obtain ⟨h1, h2⟩ := dn_le hs k
    obtain ⟨h3, h4⟩ := hop_le (11 - k) (hs.drop (dn hs k).1)
    rw [List.length_drop] at h4
    simp only [dn]
    omega
theorem dn_last {hs : List Nat} (hh : ∀ x ∈ hs, x ≤ 12) : ∀ k, k ≤ 12 → ((dn hs k).1 = 0 ∨ ∃ x, hs[(dn hs k).1 - 1]? = some x ∧ 12 - k < x) ∧ ∀ x ∈ hs.drop (dn hs k).1, x ≤ 12 - k
  | 0, _ => ⟨.inl rfl, fun x hx => by have := hh x (List.mem_of_mem_drop hx); omega⟩
  | k + 1, hk => by
    obtain ⟨h1, h2⟩ := dn_last hh k (by omega)
    have e : 12 - (k + 1) = 11 - k := by omega
    rw [e]
    simp only [dn]
    have h3 := hop_rest (11 - k) (hs.drop (dn hs k).1)
    rw [List.drop_drop] at h3
    refine ⟨?_, h3⟩
    by_cases h0 : hopI (11 - k) (hs.drop (dn hs k).1) = 0
    · rw [h0, Nat.add_zero]
      rcases h1 with h | ⟨x, hx, hlt⟩
      · exact .inl h
      · exact .inr ⟨x, hx, by omega⟩
    · obtain ⟨x, hx, hlt⟩ := hop_last _ _ h0
      rw [List.getElem?_drop] at hx
      refine .inr ⟨x, ?_, hlt⟩
      rw [show (dn hs k).1 + hopI (11 - k) (hs.drop (dn hs k).1) - 1 = (dn hs k).1 + (hopI (11 - k) (hs.drop (dn hs k).1) - 1) by omega]
      exact hx
def stp (hs : List Nat) : Nat := (dn hs 12).2
theorem stp_le (hs : List Nat) : stp hs ≤ hs.length := Nat.le_trans (dn_le hs 12).2 (dn_le hs 12).1
theorem stp_one {hs : List Nat} (h : ∀ x ∈ hs, x = 1) : stp hs = hs.length := by
  have low : ∀ k, k ≤ 11 → dn hs k = (0, 0) := by
    intro k
    induction k with
    | zero => intro _; rfl
    | succ k ih =>
      intro hk
      have e := hop_low (11 - k) hs fun x hx => by have := h x hx; omega
      simp [dn, ih (by omega), e.1, e.2]
  have : hopC 0 hs = hs.length := by
    unfold hopC
    rw [List.countP_eq_length]
    intro x hx
    rw [h x hx]; simp
  unfold stp
  show (dn hs 11).2 + hopC (11 - 11) (hs.drop (dn hs 11).1) = _
  rw [low 11 (by omega)]
  simp [this]
/-- A height as it counts. -/
def hgtOf (h : Int) : Nat := if h < 1 then 1 else if 12 < h then 12 else h.toNat
theorem hgtOf_range (h : Int) : 1 ≤ hgtOf h ∧ hgtOf h ≤ 12 := by unfold hgtOf; split <;> (try split) <;> omega
/-- The greatest of heights. -/
def topH (hs : List Nat) : Nat := hs.foldl max 0
theorem foldl_max : ∀ (hs : List Nat) (a : Nat), hs.foldl max a = max a (topH hs)
  | [], a => by simp [topH]
  | x :: r, a => by unfold topH; rw [List.foldl_cons, List.foldl_cons, foldl_max r, foldl_max r (max 0 x)]; omega
theorem topH_cons (x : Nat) (r : List Nat) : topH (x :: r) = max x (topH r) := by
  show (x :: r).foldl max 0 = _
  rw [List.foldl_cons, foldl_max]; omega
theorem topH_app (a b : List Nat) : topH (a ++ b) = max (topH a) (topH b) := by
  show (a ++ b).foldl max 0 = _
  rw [List.foldl_append, foldl_max]; rfl
theorem topH_le {hs : List Nat} (h : ∀ x ∈ hs, x ≤ 12) : topH hs ≤ 12 := by
  induction hs with
  | nil => simp [topH]
  | cons x r ih =>
    rw [topH_cons]
    have := h x (by simp)
    have := ih fun y hy => h y (List.mem_cons_of_mem _ hy)
    omega
/-- A list: rows in order, each with its height. -/
abbrev SL := List (Rw × Nat)
def rowsL (l : SL) : List Rw := l.map (·.1)
def hgtsL (l : SL) : List Nat := l.map (·.2)
def plL (l : SL) (k : ByteArray) (q : Nat) : Nat := plc (rowsL l) k q
def insL (l : SL) (x : Rw) (h : Nat) : SL := l.take (plL l x.key x.seq) ++ (x, h) :: l.drop (plL l x.key x.seq)
def thrL (l : SL) (k : ByteArray) (q : Nat) : Bool := thr (rowsL l) k q
def putL (l : SL) (x : Rw) (h : Nat) : SL := if thrL l x.key x.seq = true then l else insL l x h
def stepsL (l : SL) (k : ByteArray) (q : Nat) : Nat := stp ((hgtsL l).take (plL l k q))
theorem rows_insL (l : SL) (x : Rw) (h : Nat) : rowsL (insL l x h) = insR (rowsL l) x := by
  unfold insL insR plL rowsL
  rw [List.map_append, List.map_cons, List.map_take, List.map_drop]
theorem hgts_insL (l : SL) (x : Rw) (h : Nat) : hgtsL (insL l x h) = (hgtsL l).take (plL l x.key x.seq) ++ h :: (hgtsL l).drop (plL l x.key x.seq) := by
  unfold insL hgtsL
  rw [List.map_append, List.map_cons, List.map_take, List.map_drop]
theorem top_insL (l : SL) (x : Rw) (h : Nat) : topH (hgtsL (insL l x h)) = max (topH (hgtsL l)) h := by
  rw [hgts_insL, topH_app, topH_cons]
  have e : topH (hgtsL l) = max (topH ((hgtsL l).take (plL l x.key x.seq))) (topH ((hgtsL l).drop (plL l x.key x.seq))) := by
    rw [← topH_app, List.take_append_drop]
  rw [e]; omega
theorem rows_len (l : SL) : (rowsL l).length = l.length := by unfold rowsL; simp
theorem hgts_len (l : SL) : (hgtsL l).length = l.length := by unfold hgtsL; simp
end Go.Proofs.Ytnmjfdejgfmoiaa
/-
  A row as a value and in a block of its own; a row stands ahead, as the laws say it. No condition.
-/
namespace Go.Proofs.Ytnmjfdejgfmoiaa
set_option maxRecDepth 100000
open Go.RowKit
theorem cell_keep {w w2 : World} (hb : Below w.heap.size w w2) {b o : Nat} {v : Value} (h : w.cell? ⟨b, o, none⟩ = some v) : w2.cell? ⟨b, o, none⟩ = some v := (hb.cell (p := ⟨b, o, none⟩) (World.block_lt_of_cell? _ _ h)).trans h
/-- A row as a value. -/
abbrev rowV (x : Rw) : Value := .agg #[.string x.key, .int .u64 (x.seq : Int), .int .i64 x.kind, .string x.val]
/-- A row stands ahead, as the laws say it. -/
theorem ahd_parts (x : Rw) (k : ByteArray) (q : Nat) :
    (Op.bytesLess x.key.toList k.toList = true ∧ ahd x k q = true) ∨ (Op.bytesLess x.key.toList k.toList = false ∧ (x.key.toList == k.toList) = true ∧ ahd x k q = decide ((q : Int) < (x.seq : Int))) ∨ (Op.bytesLess x.key.toList k.toList = false ∧ (x.key.toList == k.toList) = false ∧ ahd x k q = false) := by
  have e2 : (decide (q < x.seq) : Bool) = decide ((q : Int) < (x.seq : Int)) := by congr 1; simp
  unfold ahd
  rw [less_before]
  by_cases e : x.key.toList = k.toList
  · rw [if_pos e]
    right; left
    exact ⟨by rw [e, WideAt.bytes_irrefl], by simpa using e, e2⟩
  · rw [if_neg e]
    cases h : bytesBefore x.key.toList k.toList with
    | true => exact .inl ⟨rfl, rfl⟩
    | false => exact .inr (.inr ⟨rfl, by simpa using e, rfl⟩)
theorem grown_below {w w2 w3 : World} {o : Obj} {e : TypeId} {size n : Nat} {v : Value} {xs : List Value} (h : Below w.heap.size w w2) (hr : w2.ownsRow w.heap.size e size v n xs) (hg : (w2.alloc o).grownBy w3 v.ownBlock) : Below w.heap.size w w3 := by
  have h1 := h.alloc h.size o
  exact h1.grown hg h1.size (fun k hk => (World.ownsRow.lt hr k hk).1)
end Go.Proofs.Ytnmjfdejgfmoiaa
