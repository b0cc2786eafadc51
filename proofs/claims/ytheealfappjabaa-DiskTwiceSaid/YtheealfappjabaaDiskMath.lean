/-
  A disk as plain data (names in order, numbers of files, bytes, pending changes), and what each call makes of it: mathematics alone. No condition.
-/
import Derived.Test.YtheealfappjabaaKit
import Derived.Maps.Ext
import Derived.Sort.KeysCollected
namespace Go.Proofs.Ytheealfappjabaa
open Go.RowKit
abbrev NameS := List UInt8
abbrev Dir := List (NameS × Nat)
structure FileS where
  data : List UInt8
  sure : Nat
structure Chg where
  frm : NameS
  to : NameS
  file : Option Nat
structure St where
  room : Int
  steps : Int
  dir : Dir
  used : Int
  kept : Dir
  wait : List Chg
  fuse : Int
  down : Bool
  files : List FileS
namespace Dir
def look (d : Dir) (n : NameS) : Option Nat := (d.find? fun p => p.1 == n).map (·.2)
def del (d : Dir) (n : NameS) : Dir := d.filter fun p => !(p.1 == n)
def ins (x : NameS × Nat) : Dir → Dir
  | [] => [x]
  | y :: r => if bytesBefore x.1 y.1 then x :: y :: r else y :: ins x r
def put (d : Dir) (n : NameS) (i : Nat) : Dir := ins (n, i) (del d n)
def doC (d : Dir) (c : Chg) : Dir :=
  match c.file with
  | some i => if c.to = [] then del d c.frm else put (del d c.frm) c.to i
  | none => del d c.frm
end Dir
def fileOf (fs : List FileS) (i : Nat) : FileS := fs.getD i ⟨[], 0⟩
def okByte (c : UInt8) : Bool := (97 ≤ c && c ≤ 122) || (48 ≤ c && c ≤ 57) || c == 45 || c == 46
def validN (n : NameS) : Bool := n.all okByte && (!n.isEmpty && decide (n.length ≤ 32))
namespace St
/-- What all steps have in common: c: what the step's own check says. -/
def fused (st : St) : St := { st with fuse := if st.fuse = 0 then 0 else st.fuse - 1 }
def stepE (st : St) (c : Int) : Int := if st.down = true then 9 else if c ≠ 0 then c else if st.fuse = 1 then 9 else 0
def stepS (st : St) (c : Int) (f : St → St) : St :=
  if st.down = true then st else if c ≠ 0 then st else if st.fuse = 1 then { st with down := true } else { f st.fused with steps := (f st.fused).steps + 1 }
def change (st : St) (c : Chg) : St := { st with dir := st.dir.doC c, wait := st.wait ++ [c] }
def createC (st : St) (n : NameS) : Int := if validN n = false then 2 else if (st.dir.look n).isSome then 5 else if 4096 ≤ st.dir.length then 8 else 0
def createF (n : NameS) (st : St) : St := { st.change ⟨[], n, some st.files.length⟩ with files := st.files ++ [⟨[], 0⟩] }
def hasC (st : St) (n : NameS) : Int := if (st.dir.look n).isSome then 0 else 4
def sizeAt (st : St) : Option Nat → Int
  | some i => (fileOf st.files i).data.length
  | none => 0
def appendC (st : St) (n x : NameS) : Int := match st.dir.look n with | none => 4 | some _ => if st.used + x.length > st.room then 8 else 0
def setFile (st : St) (i : Nat) (f : FileS) : St := { st with files := st.files.set i f }
def appendF (n x : NameS) (st : St) : St :=
  match st.dir.look n with
  | none => st
  | some i => { st.setFile i ⟨(fileOf st.files i).data ++ x, (fileOf st.files i).sure⟩ with used := st.used + x.length }
def syncF (n : NameS) (st : St) : St :=
  match st.dir.look n with
  | none => st
  | some i => st.setFile i ⟨(fileOf st.files i).data, (fileOf st.files i).data.length⟩
def settle (st : St) (k : Nat) : St := { st with kept := (st.wait.take k).foldl Dir.doC st.kept, wait := [] }
def syncDirF (st : St) : St := st.settle st.wait.length
def renameC (st : St) (n m : NameS) : Int := match st.dir.look n with | none => 4 | some _ => if validN m = false then 2 else 0
def renameF (n m : NameS) (st : St) : St := { st.change ⟨n, m, st.dir.look n⟩ with used := st.used - (if m = n then 0 else st.sizeAt (st.dir.look m)) }
def removeF (n : NameS) (st : St) : St := { st.change ⟨n, [], none⟩ with used := st.used - st.sizeAt (st.dir.look n) }
def fuseS (st : St) (n : Int) : St := if st.down = true then st else { st with fuse := max n 0 }
end St
/-- The map's datum: each name with its file's number. -/
def toD (d : Dir) : DataW Unit := .map (d.map fun p => (.string p.1, .lit (.int .u64 (p.2 : Int))))
theorem toD_size (d : Dir) : Maps.size (toD d) = d.length := by simp [toD, Maps.size]
theorem toD_keys (d : Dir) : strKeys (toD d) = d.map (·.1) := by simp [toD, strKeys, strOf]
theorem toD_del (d : Dir) (n : NameS) : (toD d).del (.string n) = toD (d.del n) := by
  simp only [toD, DataW.del, Dir.del, List.filter_map]
  congr 1
theorem toD_ins (x : NameS × Nat) : ∀ d : Dir, DataW.insert (Lit.string x.1, (DataW.lit (.int .u64 (x.2 : Int)) : DataW Unit)) (d.map fun p => (.string p.1, .lit (.int .u64 (p.2 : Int)))) = (Dir.ins x d).map fun p => (.string p.1, .lit (.int .u64 (p.2 : Int)))
  | [] => rfl
  | y :: r => by
    have ih := toD_ins x r
    simp only [List.map_cons, DataW.insert, Dir.ins, Lit.before] at ih ⊢
    split <;> simp_all
theorem toD_put (d : Dir) (n : NameS) (i : Nat) : (toD d).put (.string n) (.lit (.int .u64 (i : Int))) = toD (d.put n i) := by
  simp only [toD, DataW.put, Dir.put]
  rw [← toD_ins (n, i) (d.del n)]
  simp only [Dir.del, List.filter_map]
  congr 2
theorem toD_at (d : Dir) (n : NameS) : (toD d).atKey (.string n) .nil = match d.look n with | some i => .lit (.int .u64 (i : Int)) | none => .nil := by
  simp only [toD, DataW.atKey, Dir.look, List.find?_map]
  have e : (fun p : NameS × Nat => p.1 == n) = ((fun p : Lit × DataW Unit => p.1.sameKey (.string n)) ∘ fun p : NameS × Nat => (Lit.string p.1, (DataW.lit (.int .u64 (p.2 : Int)) : DataW Unit))) := rfl
  rw [e]
  cases List.find? _ d <;> rfl
theorem look_none {d : Dir} {n : NameS} (h : d.look n = none) : ∀ p ∈ d, p.1 ≠ n := by
  unfold Dir.look at h
  simp only [Option.map_eq_none_iff, List.find?_eq_none, beq_iff_eq] at h
  exact h
theorem look_some {d : Dir} {n : NameS} {i : Nat} (h : d.look n = some i) : (n, i) ∈ d := by
  unfold Dir.look at h
  simp only [Option.map_eq_some_iff] at h
  obtain ⟨p, hp, rfl⟩ := h
  have h1 := List.find?_some hp
  have h2 := List.mem_of_find?_eq_some hp
  simp only [beq_iff_eq] at h1
  subst h1
  exact h2
theorem length_del (d : Dir) (n : NameS) : (d.del n).length ≤ d.length := List.length_filter_le _ _
theorem length_ins (x : NameS × Nat) : ∀ d : Dir, (Dir.ins x d).length = d.length + 1
  | [] => rfl
  | y :: r => by unfold Dir.ins; split <;> simp [length_ins x r]
theorem length_put (d : Dir) (n : NameS) (i : Nat) : (d.put n i).length ≤ d.length + 1 := by
  unfold Dir.put; rw [length_ins]; have := length_del d n; omega
theorem length_doC (d : Dir) (c : Chg) : (d.doC c).length ≤ d.length + 1 := by
  have h1 := length_del d c.frm
  unfold Dir.doC
  split
  · split
    · omega
    · rename_i i _ _
      have := length_put (d.del c.frm) c.to i; omega
  · omega
end Go.Proofs.Ytheealfappjabaa
