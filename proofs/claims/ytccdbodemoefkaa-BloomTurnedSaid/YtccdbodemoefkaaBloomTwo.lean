/-
  Two lists of texts that a law builds side by side; the texts turned about, and some of them. No condition.
-/
import Derived.Test.YtccdbodemoefkaaBloomOut
import Derived.Test.YtccdbodemoefkaaLaidOut
import Derived.Maps.AppendAt
namespace Go.Proofs.Ytccdbodemoefkaa
set_option maxRecDepth 100000
open Go.RowKit
def rowT (l : List ByteArray) : List Value := l.map fun s => .string s
/-- Two rows of texts, apart. -/
structure Two (B : Nat) (v : Value) (R : List ByteArray) (v' : Value) (S : List ByteArray) (w : World) : Prop where
  one : w.ownsRow B 9 1 v R.length (rowT R)
  two : w.ownsRow B 9 1 v' S.length (rowT S)
  apart : ∀ g, v.ownBlock = some g → v'.ownBlock = some g → False
theorem Two.symm {B : Nat} {v v' : Value} {R S : List ByteArray} {w : World} (h : Two B v R v' S w) : Two B v' S v R w := ⟨h.two, h.one, fun g h1 h2 => h.apart g h2 h1⟩
theorem Two.nil (B : Nat) (w : World) : Two B (.slice none 0 0) [] (.slice none 0 0) [] w := ⟨World.ownsRow_nil _ _ _ _, World.ownsRow_nil _ _ _ _, fun g h => by cases h⟩
theorem Two.born {B : Nat} {v v' : Value} {R S : List ByteArray} {w : World} (h : Two B v R v' S w) (o : Obj) : Two B v R v' S (w.alloc o) :=
  ⟨h.one.kept (World.grownBy_alloc w o none) (by cases v.ownBlock <;> simp), h.two.kept (World.grownBy_alloc w o none) (by cases v'.ownBlock <;> simp), h.apart⟩
theorem Two.left {B : Nat} {v v' z : Value} {R S R' : List ByteArray} {w w2 : World} (h : Two B v R v' S w) (own : w2.ownsRow B 9 1 z R'.length (rowT R')) (grow : w.grownBy w2 v.ownBlock) (hat : z.ownBlock = v.ownBlock ∨ z.ownBlock = some w.heap.size) : Two B z R' v' S w2 := by
  refine ⟨own, h.two.kept grow ?_, fun g h1 h2 => ?_⟩
  · cases hv : v'.ownBlock with
    | none => exact .inl rfl
    | some g => exact .inr fun e => h.apart g e.symm hv
  · rcases hat with e | e
    · exact h.apart g (e.symm.trans h1) h2
    · have := (h.two.lt g h2).2
      rw [e] at h1
      cases h1
      omega
theorem rowT_snoc (l : List ByteArray) (x : ByteArray) : rowT l ++ [.string x] = rowT (l ++ [x]) := by simp [rowT]
/-- The texts turned about, and some of them: the first i of each. -/
def turnL (X : List ByteArray) (i : Nat) : List ByteArray := (List.range i).map fun j => X.getD (X.length - 1 - j) default
def someL (X : List ByteArray) (k i : Nat) : List ByteArray := (List.range i).map fun j => X.getD (min j k) default
theorem turnL_len (X : List ByteArray) (i : Nat) : (turnL X i).length = i := by simp [turnL]
theorem someL_len (X : List ByteArray) (k i : Nat) : (someL X k i).length = i := by simp [someL]
theorem turnL_succ (X : List ByteArray) (i : Nat) : turnL X (i + 1) = turnL X i ++ [X.getD (X.length - 1 - i) default] := by simp [turnL, List.range_succ]
theorem someL_succ (X : List ByteArray) (k i : Nat) : someL X k (i + 1) = someL X k i ++ [X.getD (min i k) default] := by simp [someL, List.range_succ]
theorem getD_mem (X : List ByteArray) (i : Nat) (h : i < X.length) : X.getD i default ∈ X := by
  rw [List.getD_eq_getElem?_getD, List.getElem?_eq_getElem h]
  exact List.getElem_mem h
theorem turnL_mem (X : List ByteArray) (x : ByteArray) : x ∈ turnL X X.length ↔ x ∈ X := by
  unfold turnL
  rw [List.mem_map]
  constructor
  · rintro ⟨j, hj, rfl⟩
    have := List.mem_range.1 hj
    exact getD_mem X _ (by omega)
  · intro h
    obtain ⟨i, hi, rfl⟩ := List.getElem_of_mem h
    refine ⟨X.length - 1 - i, List.mem_range.2 (by omega), ?_⟩
    rw [show X.length - 1 - (X.length - 1 - i) = i by omega, List.getD_eq_getElem?_getD, List.getElem?_eq_getElem hi]
    rfl
theorem someL_mem (X : List ByteArray) (k : Nat) (hk : k < X.length) (i : Nat) (x : ByteArray) (h : x ∈ someL X k i) : x ∈ X := by
  unfold someL at h
  obtain ⟨j, _, rfl⟩ := List.mem_map.1 h
  exact getD_mem X _ (by omega)
theorem mkT_same (X Y : List ByteArray) (bits : Nat) (hl : X.length = Y.length) (h : ∀ x, x ∈ X ↔ x ∈ Y) : mkT X bits = mkT Y bits := by
  unfold mkT Blm.text
  rw [List.length_map, List.length_map, hl, Blm.filt_same _ _ (by have := Blm.wide_pos Y.length bits; omega) _ (Y.map fun x => x.data.toList) (fun l => ?_)]
  rw [List.mem_map, List.mem_map]
  exact ⟨fun ⟨x, hx, e⟩ => ⟨x, (h x).1 hx, e⟩, fun ⟨x, hx, e⟩ => ⟨x, (h x).2 hx, e⟩⟩
theorem mkT_at (X : List ByteArray) (bits : Nat) (i : Nat) (h1 : 1 ≤ i) (h : i < (mkT X bits).size) :
    (mkT X bits)[i] = (Blm.filt (Blm.probes bits) (Blm.wide X.length bits) (X.map fun x => x.data.toList))[i - 1]'(by rw [Blm.filt_length]; rw [mkT_size] at h; omega) := by
  have e := mkT_list X bits
  have hl : i < (mkT X bits).data.toList.length := by rw [okB_size]; exact h
  show (mkT X bits).data.toList[i] = _
  have : (mkT X bits).data.toList[i]? = (UInt8.ofNat (Blm.probes bits) :: Blm.filt (Blm.probes bits) (Blm.wide X.length bits) (X.map fun x => x.data.toList))[i]? := by rw [e]
  rw [List.getElem?_eq_getElem hl] at this
  obtain ⟨j, rfl⟩ : ∃ j, i = j + 1 := ⟨i - 1, by omega⟩
  rw [List.getElem?_cons_succ, List.getElem?_eq_getElem (by rw [Blm.filt_length]; rw [mkT_size] at h; omega)] at this
  exact Option.some.inj this
theorem mkT_sub (S X : List ByteArray) (bits : Nat) (hl : S.length = X.length) (h : ∀ x, x ∈ S → x ∈ X) (i : Nat) (h1 : 1 ≤ i) (hs : i < (mkT S bits).size) (hx : i < (mkT X bits).size) : (mkT S bits)[i] &&& ~~~((mkT X bits)[i]) = 0 := by
  rw [mkT_at S bits i h1 hs, mkT_at X bits i h1 hx]
  have := Blm.filt_sub (Blm.probes bits) (Blm.wide X.length bits) (by have := Blm.wide_pos X.length bits; omega) (S.map fun x => x.data.toList) (X.map fun x => x.data.toList) (fun l hm => by
    obtain ⟨x, hx, e⟩ := List.mem_map.1 hm
    exact List.mem_map.2 ⟨x, h x hx, e⟩) (i - 1) (by rw [Blm.filt_length]; rw [mkT_size] at hx; omega) (by rw [Blm.filt_length]; rw [mkT_size] at hx; omega)
  simp only [hl]
  exact this
end Go.Proofs.Ytccdbodemoefkaa
