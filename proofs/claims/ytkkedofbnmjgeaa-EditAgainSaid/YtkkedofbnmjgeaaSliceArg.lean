/-
  A slice of structs that came in as an argument, whatever its element: opened once, over how one element reads. Rows (api.Row) and slices of rows. No condition.
-/
import Derived.Test.YtkkedofbnmjgeaaLaidOut
import Derived.Test.YtkkedofbnmjgeaaRowsOf
import Derived.Deep.Slices
import Derived.Deep.Fields
import Derived.ChangeSame
import Derived.ChangeSlices
import Derived.OpenShut
import Derived.ProofKit
import Derived.SliceStrings
import Derived.SizedLaws
namespace Go.Proofs.Ytkkedofbnmjgeaa
open Go Go.RowKit Go.ChangeShapes Go.WideShapes Go.Deep
set_option maxRecDepth 100000
theorem weights_of {H : Type} {P : Program} {e : TypeId} : ∀ {l : List (DataW H)} {d : DataW H} {n : Nat}, d ∈ l → n ∈ d.weights P e → n ∈ DataW.weightsAll P e l
  | [], _, _, h, _ => by cases h
  | x :: r, d, n, h, hn => by
    rw [DataW.weightsAll]
    rcases List.mem_cons.1 h with rfl | h
    · exact List.mem_append_left _ hn
    · exact List.mem_append_right _ (weights_of h hn)
/-- A slice of elements of k cells: where it lies, and what it holds. -/
structure SlOf {α : Type} (k : Nat) (cells : α → List Value) (a : Option Addr) (n c b o : Nat) (l : List α) (w : World) : Prop where
  len : l.length = n
  cap : n ≤ c
  most : c ≤ 9223372036854775807
  addr : 0 < n → a = some ⟨b, o, none⟩ ∧ b < w.heap.size
  at' : ∀ j x, l[j]? = some x → ∀ m u, (cells x)[m]? = some u → w.cell? ⟨b, o + j * k + m, none⟩ = some u
theorem open_slice_of {α : Type} [Inhabited α] {H : Type} {enc : TypeId × Value → H} {W : World} {a0 : Option Addr} {len cap fuel : Nat} {x : DataW H × List MemPlace} {T E : TypeId} (k : Nat) (hT : Try.prog.underlying T = some (.slice E)) (hk : Try.prog.cellsOf E = k) (hk0 : 0 < k)
    (cells : α → List Value) (hcl : ∀ v, (cells v).length = k) (Good : α → Prop) (Ns : α → List Nat)
    (read : ∀ {fuel : Nat} {cs : List Value} {y : DataW H × List MemPlace}, DataW.trod enc Try.prog W 0 (fun _ => true) true fuel E cs = some y → ∃ v : α, cs = cells v ∧ Good v ∧ ∀ n ∈ Ns v, n ∈ y.1.weights Try.prog E)
    (hf : DataW.trod enc Try.prog W 0 (fun _ => true) true fuel T [.slice a0 len cap] = some x) (hsz : ∀ n ∈ x.1.weights Try.prog T, n ≤ reachBytes) :
    ∃ b o l, SlOf k cells a0 len cap b o l W ∧ ∀ v ∈ l, Good v ∧ ∀ n ∈ Ns v, n ≤ reachBytes := by
  rcases DataW.trod_slice hT hf with ⟨hcs, _⟩ | ⟨a, len', cap', elems, rest, n, _, hcs, hx, _, hl, hm, hlen, hel, _, _⟩
  · simp at hcs
    obtain ⟨rfl, rfl, rfl⟩ := hcs
    exact ⟨0, 0, [], ⟨rfl, Nat.le_refl _, by omega, fun h => absurd h (by omega), fun j x hx => by simp at hx⟩, fun x hx => by cases hx⟩
  · simp at hcs
    obtain ⟨rfl, rfl, rfl⟩ := hcs
    obtain ⟨b, off, spot⟩ := a
    have el : ∀ i, i < len → ∃ v : α, (∀ m u, (cells v)[m]? = some u → W.cell? ((⟨b, off, spot⟩ : Addr).add (i * k + m)) = some u) ∧ Good v ∧ ∃ y, elems[i]? = some y ∧ ∀ n ∈ Ns v, n ∈ y.1.weights Try.prog E := by
      intro i hi
      have h1 := hel i hi
      rw [hk] at h1
      have hys : elems[i]? = some (elems[i]'(by omega)) := List.getElem?_eq_getElem (by omega)
      rw [hys] at h1
      obtain ⟨cs, hc, ht'⟩ := Option.bind_eq_some_iff.1 h1
      obtain ⟨v, rfl, hg, hy⟩ := read ht'
      obtain ⟨_, hcl', hat⟩ := World.cells?_some hc
      refine ⟨v, fun m u hu => ?_, hg, _, hys, hy⟩
      have hm5 : m < k := by have := (List.getElem?_eq_some_iff.1 hu).1; rw [hcl] at this; exact this
      rw [← Go.Deep.add_add, hat m hm5, hu]
    obtain ⟨vf, hvf⟩ : ∃ vf : Nat → α, ∀ i, i < len → (∀ m u, (cells (vf i))[m]? = some u → W.cell? ((⟨b, off, spot⟩ : Addr).add (i * k + m)) = some u) ∧ Good (vf i) ∧ ∃ y, elems[i]? = some y ∧ ∀ n ∈ Ns (vf i), n ∈ y.1.weights Try.prog E := by
      refine ⟨fun i => if h : i < len then (el i h).choose else default, fun i hi => ?_⟩
      simp only [dif_pos hi]
      exact (el i hi).choose_spec
    have hwt : ∀ i, i < len → ∀ n, n ∈ Ns (vf i) → n ≤ reachBytes := by
      intro i hi n hn
      obtain ⟨_, _, y, hy, he⟩ := hvf i hi
      refine hsz n ?_
      rw [hx, DataW.weights, hT]
      exact List.mem_cons_of_mem _ (List.mem_append_left _ (weights_of (List.mem_map.2 ⟨y, List.mem_of_getElem? hy, rfl⟩) (he n hn)))
    have hspot : 0 < len → spot = none := fun h0 => by
      obtain ⟨hcell, _⟩ := hvf 0 h0
      have := hcell 0 _ (List.getElem?_eq_getElem (by rw [hcl]; exact hk0))
      simpa [Addr.add] using World.cell?_spot this
    unfold maxLen at hm
    refine ⟨b, off, (List.range len).map vf, ⟨by simp, hl, by omega, fun h0 => ?_, fun j v hj m u hu => ?_⟩, fun v hv => ?_⟩
    · have hs := hspot h0
      subst hs
      obtain ⟨hcell, _⟩ := hvf 0 h0
      have hb := World.block_lt_of_cell? _ _ (hcell 0 _ (List.getElem?_eq_getElem (by rw [hcl]; exact hk0)))
      exact ⟨rfl, by simpa [Addr.add] using hb⟩
    · have hjl : j < len := by have := (List.getElem?_eq_some_iff.1 hj).1; simpa using this
      have hvj : v = vf j := by simpa [hjl] using hj.symm
      subst hvj
      have hs := hspot (by omega)
      subst hs
      obtain ⟨hcell, _⟩ := hvf j hjl
      have := hcell m u hu
      have e1 : (⟨b, off, none⟩ : Addr).add (j * k + m) = ⟨b, off + j * k + m, none⟩ := by
        unfold Addr.add
        split
        · rename_i h0
          rw [show off + j * k + m = off by omega]
        · simp only [Addr.mk.injEq, true_and, and_true]; omega
      rw [e1] at this
      exact this
    · obtain ⟨i, hi, rfl⟩ := List.mem_map.1 hv
      have hil : i < len := List.mem_range.1 hi
      exact ⟨(hvf i hil).2.1, hwt i hil⟩
/-- A row's cells. -/
def cellsR (x : Rw) : List Value := [.string x.key, .int .u64 (x.seq : Int), .int .i64 x.kind, .string x.val]
instance : Inhabited Rw := ⟨⟨.empty, 0, 0, .empty⟩⟩
/-- What holds of each row that came in. -/
def RwIn (x : Rw) : Prop := x.key.size ≤ 281474976710656 ∧ x.val.size ≤ 281474976710656 ∧ x.seq ≤ 18446744073709551615
theorem rwIn_of {x : Rw} (h : x.seq ≤ 18446744073709551615) (hn : ∀ n ∈ [x.key.size, x.val.size], n ≤ reachBytes) : RwIn x := by
  have h1 := hn _ (List.mem_cons_self ..)
  have h2 := hn x.val.size (by simp)
  unfold reachBytes at h1 h2
  exact ⟨by omega, by omega, h⟩
/-- Integers that came in. -/
def cellsI (x : Int) : List Value := [.int .i64 x]
theorem SlOf.keep {α : Type} {k : Nat} {cells : α → List Value} {a : Option Addr} {n c b o : Nat} {l : List α} {w w' : World} (h : SlOf k cells a n c b o l w) (hk : 0 < n → w'.heap[b]? = w.heap[b]?) (hs : w.heap.size ≤ w'.heap.size) : SlOf k cells a n c b o l w' := by
  refine ⟨h.len, h.cap, h.most, fun h0 => ⟨(h.addr h0).1, Nat.lt_of_lt_of_le (h.addr h0).2 hs⟩, fun j x hx m u hu => ?_⟩
  have hj : j < n := by rw [← h.len]; exact (List.getElem?_eq_some_iff.1 hx).1
  rw [World.cell?_of_block (a := ⟨b, o + j * k + m, none⟩) (hk (by omega))]
  exact h.at' j x hx m u hu
theorem SlOf.below {α : Type} {k : Nat} {cells : α → List Value} {a : Option Addr} {n c b o : Nat} {l : List α} {w w' : World} {B : Nat} (h : SlOf k cells a n c b o l w) (hb : Below B w w') (hB : w.heap.size ≤ B) : SlOf k cells a n c b o l w' := h.keep (fun h0 => hb.block b (Nat.lt_of_lt_of_le (h.addr h0).2 hB)) hb.size
end Go.Proofs.Ytkkedofbnmjgeaa
