/-
  A set of numbers as a map; what one holds of tables in a list. No condition.
-/
import Derived.Test.YtkkedofbnmjgeaaEditSmall
import Derived.Maps.OwnSet
namespace Go.Proofs.Ytkkedofbnmjgeaa
set_option maxRecDepth 100000
open Go Go.RowKit
noncomputable def tf (p : Prop) : Bool := @decide p (Classical.propDecidable p)
theorem tf_true {p : Prop} (h : p) : tf p = true := @decide_eq_true p (Classical.propDecidable p) h
theorem tf_false {p : Prop} (h : ¬ p) : tf p = false := @decide_eq_false p (Classical.propDecidable p) h
theorem tf_iff {p : Prop} : tf p = true ↔ p := @decide_eq_true_iff p (Classical.propDecidable p)
theorem tf_not {p : Prop} : tf p = false ↔ ¬ p := @decide_eq_false_iff_not p (Classical.propDecidable p)
theorem tf_congr {p q : Prop} (h : p ↔ q) : tf p = tf q := by rw [show p = q from propext h]
theorem tf_dec {p : Prop} [d : Decidable p] : decide p = tf p := by
  by_cases h : p
  · rw [tf_true h, decide_eq_true h]
  · rw [tf_false h, decide_eq_false h]
theorem But.of_grown {b : Nat} {w w' : World} (h : w.grownBy w' (some b)) : But b w w' :=
  ⟨h.os, h.tape, h.output, h.size, fun k hk hb => h.block k hk (fun e => hb (Option.some.inj e))⟩
theorem lawU : Maps.Keyed Try.prog 22 := Maps.int_keyed Try.underlying22
theorem zeroS (w : World) : (zeroValue 99).run Try.prog w = .ok (.agg #[]) w := by kernel_rfl
theorem keyU {x : Nat} (h : x ≤ 18446744073709551615) : keyOf Try.prog 22 (.int .u64 (x : Int)) = some (.int .u64 (x : Int)) := Maps.keyOf_int_mk Try.underlying22 (by simp [Lit.wf, IntKind.min, IntKind.max, IntKind.signed, IntKind.bits]; omega)
/-- Block b is a map of at most n entries; its keys are the numbers of S. -/
def SetAt (b n : Nat) (S : List Nat) (w : World) : Prop := ∃ D : DataW Unit, w.ownsMap Try.prog 22 (unitElem (H := Unit)) b n D ∧ ∀ x : Nat, Maps.has D (.int .u64 (x : Int)) = tf (x ∈ S)
theorem SetAt.new (w : World) : SetAt w.heap.size 0 [] (w.alloc (.map #[] 0)) := ⟨_, World.ownsMap_made w Try.prog _ _, fun x => by rw [tf_false (by simp)]; rfl⟩
theorem SetAt.lt {b n : Nat} {S : List Nat} {w : World} (h : SetAt b n S w) : b < w.heap.size := by obtain ⟨D, h1, _⟩ := h; exact h1.lt
theorem SetAt.keep {b n : Nat} {S : List Nat} {w w' : World} (h : SetAt b n S w) (hk : w'.heap[b]? = w.heap[b]?) : SetAt b n S w' := by
  obtain ⟨D, ⟨es, c, h1, h2⟩, h3⟩ := h
  exact ⟨D, ⟨es, c, hk.trans h1, h2⟩, h3⟩
theorem SetAt.below {b n : Nat} {S : List Nat} {w w' : World} (h : SetAt b n S w) (hb : Below w.heap.size w w') : SetAt b n S w' := h.keep (hb.block b h.lt)
theorem SetAt.put {b n : Nat} {S : List Nat} {w' : World} {D : DataW Unit} {x : Nat} {v : DataW Unit} (h : w'.ownsMap Try.prog 22 (unitElem (H := Unit)) b n (D.put (.int .u64 (x : Int)) v)) (hm : Maps.IsMap D) (hs : ∀ x : Nat, Maps.has D (.int .u64 (x : Int)) = tf (x ∈ S)) : SetAt b n (x :: S) w' := by
  refine ⟨_, h, fun y => ?_⟩
  by_cases e : y = x
  · subst e
    rw [Maps.has_put_same hm (by trivial), tf_true (by simp)]
  · rw [Maps.has_put_other (by simp; omega), hs y]
    exact tf_congr (by simp [e])
theorem SetAt.congr {b n : Nat} {S T : List Nat} {w : World} (h : SetAt b n S w) (e : ∀ x, x ∈ S ↔ x ∈ T) : SetAt b n T w := by
  obtain ⟨D, h1, h2⟩ := h
  exact ⟨D, h1, fun x => by rw [h2 x]; exact tf_congr (e x)⟩
/-- A map is no block of cells. -/
theorem SetAt.ne {b n : Nat} {S : List Nat} {w : World} (h : SetAt b n S w) {p o : Nat} {v : Value} (hc : w.cell? ⟨p, o, none⟩ = some v) : p ≠ b := by
  rintro rfl
  obtain ⟨D, ⟨es, c, h1, _⟩, _⟩ := h
  simp [World.cell?, h1] at hc
theorem SetAt.nem {b n : Nat} {S : List Nat} {w : World} (h : SetAt b n S w) {hd : Hd} {l : List Mt} (k : Ms hd l w) : 0 < hd.n → hd.b ≠ b := fun h0 => by
  obtain ⟨x, _, _, _, c0, _⟩ := k.at7 h0
  exact h.ne c0
theorem SetAt.nep {b n : Nat} {S : List Nat} {w : World} (h : SetAt b n S w) {hd : Hd} {l : List Pl} (k : Ps hd l w) : 0 < hd.n → hd.b ≠ b := fun h0 => by
  obtain ⟨x, _, _, _, c0, _⟩ := k.at8 h0
  exact h.ne c0
theorem Ms.but {h : Hd} {l : List Mt} {w w' : World} {b : Nat} (k : Ms h l w) (hb : But b w w') (hne : 0 < h.n → h.b ≠ b) : Ms h l w' := ⟨k.sl.keep (fun h0 => hb.block _ (k.sl.addr h0).2 (hne h0)) hb.size, k.none'⟩
theorem Ps.but {h : Hd} {l : List Pl} {w w' : World} {b : Nat} (k : Ps h l w) (hb : But b w w') (hne : 0 < h.n → h.b ≠ b) : Ps h l w' := ⟨k.sl.keep (fun h0 => hb.block _ (k.sl.addr h0).2 (hne h0)) hb.size, k.none'⟩
theorem Gs.but {h : Hd} {l : List Gn} {w w' : World} {b : Nat} (k : Gs h l w) (hb : But b w w') (hne : 0 < h.n → h.b ≠ b) : Gs h l w' := ⟨k.sl.keep (fun h0 => hb.block _ (k.sl.addr h0).2 (hne h0)) hb.size, k.none'⟩
/-- What one holds of each of a list's elements, up to j. -/
def AllTo {α : Type} (P : α → Prop) (l : List α) (j : Nat) : Prop := ∀ i x, i < j → l[i]? = some x → P x
theorem AllTo.zero {α : Type} {P : α → Prop} {l : List α} : AllTo P l 0 := fun i x hi => absurd hi (Nat.not_lt_zero i)
theorem AllTo.succ {α : Type} {P : α → Prop} {l : List α} {j : Nat} {x : α} (h : AllTo P l j) (hx : l[j]? = some x) (hp : P x) : AllTo P l (j + 1) := fun i y hi hy => by
  rcases Nat.lt_or_ge i j with h1 | h1
  · exact h i y h1 hy
  · obtain rfl : i = j := by omega
    rw [hx] at hy; cases hy; exact hp
theorem AllTo.all {α : Type} {P : α → Prop} {l : List α} {n : Nat} (h : AllTo P l n) (hl : l.length = n) : ∀ x ∈ l, P x := fun x hx => by
  obtain ⟨i, hi, rfl⟩ := List.mem_iff_getElem.1 hx
  exact h i _ (by omega) (List.getElem?_eq_getElem hi)
theorem not_all {α : Type} {P : α → Prop} {l : List α} {j : Nat} {x : α} (hx : l[j]? = some x) (hp : ¬ P x) : ¬ ∀ x ∈ l, P x := fun h => hp (h x (List.mem_of_getElem? hx))
theorem mt_mem {l : List Mt} {j : Nat} {x : Mt} (hx : l[j]? = some x) : x ∈ l := List.mem_of_getElem? hx
/-- No number stands twice, nor among those of S. -/
def NewP (S : List Nat) (l : List Mt) : Prop := (l.map Mt.num).Nodup ∧ ∀ x ∈ l, x.num ∉ S
theorem newP_step {S : List Nat} {l : List Mt} {j : Nat} {x : Mt} (h : NewP S (l.take j)) (hx : l[j]? = some x) (hn : x.num ∉ (l.take j).map Mt.num ++ S) : NewP S (l.take (j + 1)) := by
  have e : l.take (j + 1) = l.take j ++ [x] := by rw [List.take_add_one, hx]; rfl
  rw [e]
  refine ⟨?_, fun y hy => ?_⟩
  · rw [List.map_append, List.nodup_append]
    refine ⟨h.1, by simp, fun a ha b hb => ?_⟩
    simp at hb
    subst hb
    rintro rfl
    exact hn (List.mem_append_left _ ha)
  · rcases List.mem_append.1 hy with hy | hy
    · exact h.2 y hy
    · simp at hy; subst hy
      exact fun hs => hn (List.mem_append_right _ hs)
theorem newP_no {S : List Nat} {l : List Mt} {j : Nat} {x : Mt} (hx : l[j]? = some x) (hn : x.num ∈ (l.take j).map Mt.num ++ S) : ¬ NewP S l := by
  rintro ⟨h1, h2⟩
  rcases List.mem_append.1 hn with h | h
  · obtain ⟨y, hy, he⟩ := List.mem_map.1 h
    obtain ⟨i, hi⟩ := List.mem_iff_getElem?.1 hy
    have hij : i < j := by
      have := (List.getElem?_eq_some_iff.1 hi).1
      rw [List.length_take] at this; omega
    rw [List.getElem?_take, if_pos hij] at hi
    have hl := (List.getElem?_eq_some_iff.1 hx).1
    have a1 : (l.map Mt.num)[i]? = some x.num := by rw [List.getElem?_map, hi]; simp [he]
    have a2 : (l.map Mt.num)[j]? = some x.num := by rw [List.getElem?_map, hx]; rfl
    obtain ⟨b1, c1⟩ := List.getElem?_eq_some_iff.1 a1
    obtain ⟨b2, c2⟩ := List.getElem?_eq_some_iff.1 a2
    exact (List.pairwise_iff_getElem.1 h1 i j b1 b2 hij) (c1.trans c2.symm)
  · exact h2 x (mt_mem hx) h
/-- The order of a level. -/
def ordP (bn : Bool) (x y : Mt) : Prop := if bn = true then x.num < y.num else Op.bytesLess x.lst.toList y.fst.toList = true
def OrdP (bn : Bool) (l : List Mt) : Prop := ∀ i x y, l[i]? = some x → l[i + 1]? = some y → ordP bn x y
end Go.Proofs.Ytkkedofbnmjgeaa
