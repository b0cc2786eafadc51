/-
  What comes of two files of which one is renamed to the other's name: mathematics alone. Condition: at most 2000 bytes each.
-/
import Derived.Test.YtheealfappjabaaDiskAwake
namespace Go.Proofs.Ytheealfappjabaa
open Go.RowKit Go.Maps
abbrev nOne : NameS := [111, 110, 101]
abbrev nTwo : NameS := [116, 119, 111]
def ao1 : St := (St.fresh 268435456).create nOne
def ao2 (x : NameS) : St := ao1.append nOne x
def ao3 (x : NameS) : St := (ao2 x).sync nOne
def ao4 (x : NameS) : St := (ao3 x).create nTwo
def ao5 (x y : NameS) : St := (ao4 x).append nTwo y
def ao6 (x y : NameS) : St := (ao5 x y).sync nTwo
def ao7 (x y : NameS) : St := (ao6 x y).syncDir
def ao8 (x y : NameS) : St := (ao7 x y).rename nTwo nOne
theorem ao1_eq : ao1 = ⟨268435456, 1, [(nOne, 0)], 0, [], [⟨[], nOne, some 0⟩], 0, false, [⟨[], 0⟩]⟩ := rfl
theorem ao2_eq (x : NameS) (hx : x.length ≤ 2000) : ao2 x = ⟨268435456, 2, [(nOne, 0)], x.length, [], [⟨[], nOne, some 0⟩], 0, false, [⟨x, 0⟩]⟩ ∧ ao1.appendE nOne x = 0 := by
  have hc : ao1.appendC nOne x = 0 := by
    show (if (0 : Int) + x.length > 268435456 then (8 : Int) else 0) = 0
    rw [if_neg (by omega)]
  unfold ao2 St.append St.appendE
  rw [hc]
  refine ⟨?_, rfl⟩
  show (⟨268435456, 1 + 1, [(nOne, 0)], 0 + (x.length : Int), [], [⟨[], nOne, some 0⟩], 0, false, [⟨[] ++ x, 0⟩]⟩ : St) = _
  rw [List.nil_append, Int.zero_add]; rfl
theorem ao3_eq (x : NameS) (hx : x.length ≤ 2000) : ao3 x = ⟨268435456, 3, [(nOne, 0)], x.length, [], [⟨[], nOne, some 0⟩], 0, false, [⟨x, x.length⟩]⟩ := by
  unfold ao3; rw [(ao2_eq x hx).1]; rfl
theorem ao4_eq (x : NameS) (hx : x.length ≤ 2000) : ao4 x = ⟨268435456, 4, [(nOne, 0), (nTwo, 1)], x.length, [], [⟨[], nOne, some 0⟩, ⟨[], nTwo, some 1⟩], 0, false, [⟨x, x.length⟩, ⟨[], 0⟩]⟩ := by
  unfold ao4; rw [ao3_eq x hx]; rfl
theorem ao5_eq (x y : NameS) (hx : x.length ≤ 2000) (hy : y.length ≤ 2000) : ao5 x y = ⟨268435456, 5, [(nOne, 0), (nTwo, 1)], x.length + y.length, [], [⟨[], nOne, some 0⟩, ⟨[], nTwo, some 1⟩], 0, false, [⟨x, x.length⟩, ⟨y, 0⟩]⟩ ∧ (ao4 x).appendE nTwo y = 0 := by
  unfold ao5
  rw [ao4_eq x hx]
  have hc : (⟨268435456, 4, [(nOne, 0), (nTwo, 1)], x.length, [], [⟨[], nOne, some 0⟩, ⟨[], nTwo, some 1⟩], 0, false, [⟨x, x.length⟩, ⟨[], 0⟩]⟩ : St).appendC nTwo y = 0 := by
    show (if (x.length : Int) + y.length > 268435456 then (8 : Int) else 0) = 0
    rw [if_neg (by omega)]
  unfold St.append St.appendE
  rw [hc]
  exact ⟨rfl, rfl⟩
theorem ao6_eq (x y : NameS) (hx : x.length ≤ 2000) (hy : y.length ≤ 2000) : ao6 x y = ⟨268435456, 6, [(nOne, 0), (nTwo, 1)], x.length + y.length, [], [⟨[], nOne, some 0⟩, ⟨[], nTwo, some 1⟩], 0, false, [⟨x, x.length⟩, ⟨y, y.length⟩]⟩ := by
  unfold ao6; rw [(ao5_eq x y hx hy).1]; rfl
theorem ao7_eq (x y : NameS) (hx : x.length ≤ 2000) (hy : y.length ≤ 2000) : ao7 x y = ⟨268435456, 7, [(nOne, 0), (nTwo, 1)], x.length + y.length, [(nOne, 0), (nTwo, 1)], [], 0, false, [⟨x, x.length⟩, ⟨y, y.length⟩]⟩ := by
  unfold ao7; rw [ao6_eq x y hx hy]; rfl
theorem ao8_eq (x y : NameS) (hx : x.length ≤ 2000) (hy : y.length ≤ 2000) : ao8 x y = ⟨268435456, 8, [(nOne, 1)], x.length + y.length - x.length, [(nOne, 0), (nTwo, 1)], [⟨nTwo, nOne, some 1⟩], 0, false, [⟨x, x.length⟩, ⟨y, y.length⟩]⟩ := by
  unfold ao8; rw [ao7_eq x y hx hy]; rfl
/-- One of the two ways. -/
def AoEnd (x y : NameS) (sure : Bool) (st : St) : Prop :=
  st.readE nOne = 0 ∧ ((st.readS nOne = y ∧ st.readE nTwo = 4 ∧ st.readS nTwo = []) ∨ (sure = false ∧ st.readS nOne = x ∧ st.readE nTwo = 0 ∧ st.readS nTwo = y))
theorem ao_sure (x y : NameS) (hx : x.length ≤ 2000) (hy : y.length ≤ 2000) (cs : List Int) : AoEnd x y true ((ao8 x y).syncDir.crash cs) := by
  rw [ao8_eq x y hx hy]
  have e : (⟨268435456, 8, [(nOne, 1)], x.length + y.length - x.length, [(nOne, 0), (nTwo, 1)], [⟨nTwo, nOne, some 1⟩], 0, false, [⟨x, x.length⟩, ⟨y, y.length⟩]⟩ : St).syncDir = ⟨268435456, 9, [(nOne, 1)], x.length + y.length - x.length, [(nOne, 1)], [], 0, false, [⟨x, x.length⟩, ⟨y, y.length⟩]⟩ := rfl
  rw [e]
  have hk : pick cs 0 = 0 := Nat.le_zero.1 (pick_le cs 0)
  have hcr : (⟨268435456, 9, [(nOne, 1)], x.length + y.length - x.length, [(nOne, 1)], [], 0, false, [⟨x, x.length⟩, ⟨y, y.length⟩]⟩ : St).crash cs = ⟨268435456, 9, [(nOne, 1)], 0 + y.length, [(nOne, 1)], [], 0, false, [⟨x, x.length⟩, ⟨y, y.length⟩]⟩ := by
    unfold St.crash St.crashed
    simp only [List.length_nil, hk]
    simp [keptAt, St.crashOne, St.settle, fileOf]
  rw [hcr]
  exact ⟨rfl, .inl ⟨rfl, rfl, rfl⟩⟩
theorem ao_loose (x y : NameS) (hx : x.length ≤ 2000) (hy : y.length ≤ 2000) (cs : List Int) : AoEnd x y false ((ao8 x y).crash cs) := by
  rw [ao8_eq x y hx hy]
  have hk : pick cs 1 = 0 ∨ pick cs 1 = 1 := by have := pick_le cs 1; omega
  rcases hk with hk | hk
  · have hcr : (⟨268435456, 8, [(nOne, 1)], x.length + y.length - x.length, [(nOne, 0), (nTwo, 1)], [⟨nTwo, nOne, some 1⟩], 0, false, [⟨x, x.length⟩, ⟨y, y.length⟩]⟩ : St).crash cs = ⟨268435456, 8, [(nOne, 0), (nTwo, 1)], 0 + x.length + y.length, [(nOne, 0), (nTwo, 1)], [], 0, false, [⟨x, x.length⟩, ⟨y, y.length⟩]⟩ := by
      unfold St.crash St.crashed
      simp only [List.length_cons, List.length_nil, Nat.zero_add, hk]
      simp [keptAt, St.crashOne, St.settle, fileOf]
    rw [hcr]
    exact ⟨rfl, .inr ⟨rfl, rfl, rfl, rfl⟩⟩
  · have hd : Dir.doC [(nOne, 0), (nTwo, 1)] ⟨nTwo, nOne, some 1⟩ = [(nOne, 1)] := rfl
    have hcr : (⟨268435456, 8, [(nOne, 1)], x.length + y.length - x.length, [(nOne, 0), (nTwo, 1)], [⟨nTwo, nOne, some 1⟩], 0, false, [⟨x, x.length⟩, ⟨y, y.length⟩]⟩ : St).crash cs = ⟨268435456, 8, [(nOne, 1)], 0 + y.length, [(nOne, 1)], [], 0, false, [⟨x, x.length⟩, ⟨y, y.length⟩]⟩ := by
      unfold St.crash St.crashed
      simp only [List.length_cons, List.length_nil, Nat.zero_add, hk]
      simp [keptAt, St.crashOne, St.settle, fileOf, hd]
    rw [hcr]
    exact ⟨rfl, .inl ⟨rfl, rfl, rfl⟩⟩
end Go.Proofs.Ytheealfappjabaa
