/-
  Plain mathematics of blocks: a row's bytes, a block's bytes, what is read of them. No model's run in this text. No condition.
-/
import Derived.Test.YtnmlifagchdphaaPack1
import Derived.WalkMore
import Derived.ScopeJumps
import Derived.Test.YtnmlifagchdphaaRows
import Derived.Shelf.Abstract
import Derived.WalkKit
import Derived.IntWalk
import Derived.RegionTactic
import Derived.BigQuiet
import Derived.ChangeAlike
import Derived.Deep.QuietTactic
import Derived.Handy
import Derived.Laws.IdiomStrings
import Derived.Outline
import Derived.Lib.IndexBytes
import Derived.Deep.Cut
import Derived.Deep.DeepCutAuto
namespace Go.Proofs.Ytnmlifagchdphaa
set_option maxRecDepth 100000
open Go.RowKit
/-- Not valid for another reason than a length. -/
def badR (x : Rw) : Bool := decide ((x.kind ≠ 1 ∧ x.kind ≠ 2) ∨ x.key.size = 0 ∨ x.seq < 1 ∨ 72057594037927936 ≤ x.seq ∨ (x.kind = 2 ∧ x.val.size ≠ 0))
def longR (x : Rw) : Bool := decide (520 < x.key.size ∨ 2048 < x.val.size)
def chkR (x : Rw) : Nat := if badR x = true then 2 else if longR x = true then 3 else 0
/-- In order. -/
def ordR : List Rw → Bool
  | [] => true
  | x :: r => (match r with | [] => true | y :: _ => ahd x y.key y.seq) && ordR r
def chkA (l : List Rw) (d : Int) : Nat := if d < 1 ∨ 64 < d ∨ ordR l = false then 2 else if l.any badR = true then 2 else if 1024 < l.length ∨ l.any longR = true then 3 else 0
/-- How many leading bytes two texts share. -/
def com : List UInt8 → List UInt8 → Nat
  | a :: s, b :: t => if a = b then com s t + 1 else 0
  | _, _ => 0
/-- A row's bytes, behind a key. -/
def valB (x : Rw) : List UInt8 := if x.kind = 1 then Code.uvar x.val.size ++ x.val.toList else []
def encX (p : List UInt8) (x : Rw) : List UInt8 :=
  Code.uvar (com p x.key.toList) ++ (Code.uvar (x.key.toList.drop (com p x.key.toList)).length ++ x.key.toList.drop (com p x.key.toList)) ++ Code.uvar x.seq ++ [UInt8.ofNat x.kind.toNat] ++ valB x
def rwZ : Rw := ⟨⟨#[]⟩, 0, 0, ⟨#[]⟩⟩
def rwAt (l : List Rw) (j : Nat) : Rw := l.getD j rwZ
/-- The key that stands ahead of row j. -/
def prvB (d : Nat) (l : List Rw) (j : Nat) : List UInt8 := if j % d = 0 then [] else (rwAt l (j - 1)).key.toList
def encI (d : Nat) (l : List Rw) (j : Nat) : List UInt8 := encX (prvB d l j) (rwAt l j)
/-- The bytes of the first n rows. -/
def bodB (d : Nat) (l : List Rw) (n : Nat) : List UInt8 := (List.range n).flatMap (encI d l)
def le4 (n : Nat) : List UInt8 := [UInt8.ofNat n, UInt8.ofNat (n / 256), UInt8.ofNat (n / 65536), UInt8.ofNat (n / 16777216)]
/-- The bytes of the restarts among the first n rows. -/
def rstB (d : Nat) (l : List Rw) (n : Nat) : List UInt8 := (List.range n).flatMap fun j => if j % d = 0 then le4 (bodB d l j).length else []
def tailB (r : List UInt8) (d : Nat) : List UInt8 := r ++ le4 (r.length / 4) ++ le4 d
def blkB (d : Nat) (l : List Rw) : List UInt8 := bodB d l l.length ++ tailB (rstB d l l.length) d
/-- The block of rows. -/
def IsB (s : List UInt8) (l : List Rw) (d : Nat) : Prop := chkA l d = 0 ∧ s = blkB d l ∧ s.length ≤ 65536
def buildB (l : List Rw) (d : Int) : List UInt8 × Nat := if chkA l d ≠ 0 then ([], chkA l d) else if 65536 < (blkB d.toNat l).length then ([], 3) else (blkB d.toNat l, 0)
theorem bodB_snoc (d : Nat) (l : List Rw) (n : Nat) : bodB d l (n + 1) = bodB d l n ++ encI d l n := by simp [bodB, List.range_succ]
theorem rstB_snoc (d : Nat) (l : List Rw) (n : Nat) : rstB d l (n + 1) = rstB d l n ++ (if n % d = 0 then le4 (bodB d l n).length else []) := by simp [rstB, List.range_succ]
theorem le4_len (n : Nat) : (le4 n).length = 4 := rfl
theorem rwAt_some {l : List Rw} {j : Nat} {x : Rw} (h : l[j]? = some x) : rwAt l j = x := by unfold rwAt; rw [List.getD_eq_getElem?_getD, h]; rfl
theorem rwAt_take (l : List Rw) {j n : Nat} (h : j < n) : rwAt (l.take n) j = rwAt l j := by unfold rwAt; rw [List.getD_eq_getElem?_getD, List.getD_eq_getElem?_getD, List.getElem?_take, if_pos h]
theorem encI_take (d : Nat) (l : List Rw) {j n : Nat} (h : j < n) : encI d (l.take n) j = encI d l j := by
  unfold encI prvB
  rw [rwAt_take l h]
  split
  · rfl
  · rw [rwAt_take l (by omega)]
theorem flat_congr {f g : Nat → List UInt8} {n : Nat} (h : ∀ j, j < n → f j = g j) : (List.range n).flatMap f = (List.range n).flatMap g := by
  induction n with
  | zero => rfl
  | succ n ih => rw [List.range_succ, List.flatMap_append, List.flatMap_append, ih (fun j hj => h j (by omega))]; simp [h n (by omega)]
theorem bodB_take (d : Nat) (l : List Rw) {m n : Nat} (h : m ≤ n) : bodB d (l.take n) m = bodB d l m := flat_congr fun j hj => encI_take d l (by omega)
theorem rstB_take (d : Nat) (l : List Rw) {m n : Nat} (h : m ≤ n) : rstB d (l.take n) m = rstB d l m := flat_congr fun j hj => by rw [bodB_take d l (by omega)]
theorem rstB_mod (d : Nat) (l : List Rw) : ∀ n, (rstB d l n).length % 4 = 0
  | 0 => rfl
  | n + 1 => by
    have := rstB_mod d l n
    rw [rstB_snoc, List.length_append]
    split <;> simp [le4] <;> omega
theorem rstB_le (d : Nat) (l : List Rw) : ∀ n, (rstB d l n).length ≤ 4 * n
  | 0 => Nat.le_refl _
  | n + 1 => by
    have := rstB_le d l n
    rw [rstB_snoc, List.length_append]
    split <;> simp [le4] <;> omega
theorem rstB_mono (d : Nat) (l : List Rw) (m : Nat) : ∀ k, (rstB d l m).length ≤ (rstB d l (m + k)).length
  | 0 => Nat.le_refl _
  | k + 1 => by
    have := rstB_mono d l m k
    rw [← Nat.add_assoc, rstB_snoc, List.length_append]; omega
theorem encX_pos (p : List UInt8) (x : Rw) : 0 < (encX p x).length := by
  unfold encX
  simp only [List.length_append, List.length_cons, List.length_nil]
  omega
theorem bodB_mono (d : Nat) (l : List Rw) (m : Nat) : ∀ k, (bodB d l m).length + k ≤ (bodB d l (m + k)).length
  | 0 => Nat.le_refl _
  | k + 1 => by
    have := bodB_mono d l m k
    have h := encX_pos (prvB d l (m + k)) (rwAt l (m + k))
    rw [← Nat.add_assoc, ← Nat.add_assoc, bodB_snoc, List.length_append]
    show _ ≤ _ + (encX _ _).length
    omega
theorem com_le : ∀ a b : List UInt8, com a b ≤ a.length ∧ com a b ≤ b.length
  | [], b => by simp [com]
  | _ :: _, [] => by simp [com]
  | x :: a, y :: b => by
    have := com_le a b
    rw [com]
    split <;> simp <;> omega
theorem com_nil (b : List UInt8) : com [] b = 0 := by simp [com]
theorem com_take : ∀ a b : List UInt8, a.take (com a b) = b.take (com a b)
  | [], b => by simp [com]
  | _ :: _, [] => by simp [com]
  | x :: a, y :: b => by
    rw [com]
    split
    · rename_i h; subst h; simp [com_take a b]
    · rfl
theorem com_drop : ∀ a b : List UInt8, com (a.drop (com a b)) (b.drop (com a b)) = 0
  | [], b => by simp [com]
  | _ :: _, [] => by simp [com]
  | x :: a, y :: b => by
    by_cases h : x = y
    · subst h; simp [com, com_drop a b]
    · simp [com, h]
theorem com_put : ∀ (n : Nat) (a f : List UInt8), n ≤ a.length → com (a.drop n) f = 0 → com a (a.take n ++ f) = n
  | 0, a, f, _, h => by simpa using h
  | n + 1, [], f, hn, _ => by simp at hn
  | n + 1, x :: a, f, hn, h => by
    have := com_put n a f (by simpa using hn) (by simpa using h)
    simp [com, this]
/-- The row with which bytes begin, behind a key, and what is behind it. -/
def cutX (s p : List UInt8) : Option (Rw × List UInt8) :=
  let a := Code.rd 0 s
  if a.2.2 ≠ 0 ∨ p.length < a.1 then none else
  let s1 := s.drop a.2.1
  let f := Code.rdField s1 520
  if f.2.2 ≠ 0 ∨ 0 < com (p.drop a.1) f.1 then none else
  let s2 := s1.drop f.2.1
  let q := Code.rd 0 s2
  if q.2.2 ≠ 0 then none else
  match s2.drop q.2.1 with
  | [] => none
  | k :: s3 =>
    let v := Code.rdField s3 2048
    if k.toNat = 1 then
      if v.2.2 ≠ 0 then none else
      let x : Rw := ⟨⟨(p.take a.1 ++ f.1).toArray⟩, q.1, (k.toNat : Int), ⟨v.1.toArray⟩⟩
      if chkR x ≠ 0 then none else some (x, s3.drop v.2.1)
    else
      let x : Rw := ⟨⟨(p.take a.1 ++ f.1).toArray⟩, q.1, (k.toNat : Int), ⟨#[]⟩⟩
      if chkR x ≠ 0 then none else some (x, s3)
theorem toL (l : List UInt8) : (⟨l.toArray⟩ : ByteArray).toList = l := by rw [ByteArray.toList_eq]
theorem toL_len (s : ByteArray) : s.toList.length = s.size := by rw [ByteArray.toList_eq]; simp
theorem ofL (s : ByteArray) : (⟨s.toList.toArray⟩ : ByteArray) = s := bytes_inj (toL _)
theorem chkR_ok {x : Rw} (h : chkR x = 0) : (x.kind = 1 ∨ x.kind = 2) ∧ x.key.toList ≠ [] ∧ 1 ≤ x.seq ∧ x.seq < 72057594037927936 ∧ (x.kind = 2 → x.val.toList = []) ∧ x.key.size ≤ 520 ∧ x.val.size ≤ 2048 := by
  unfold chkR at h
  split at h
  · cases h
  · split at h
    · cases h
    · rename_i h1 h2
      unfold badR at h1
      unfold longR at h2
      simp only [decide_eq_true_eq, not_or] at h1 h2
      refine ⟨by omega, ?_, by omega, by omega, fun e => ?_, by omega, by omega⟩
      · intro e
        have := toL_len x.key
        rw [e] at this
        exact h1.2.1 this.symm
      · have := toL_len x.val
        exact List.length_eq_zero_iff.1 (by omega)
theorem cutX_enc (p : List UInt8) (x : Rw) (hx : chkR x = 0) (t : List UInt8) (hp : p.length ≤ 520) : cutX (encX p x ++ t) p = some (x, t) := by
  obtain ⟨hk, hne, hs1, hs2, hd, hkl, hvl⟩ := chkR_ok hx
  obtain ⟨hc1, hc2⟩ := com_le p x.key.toList
  have htk := com_take p x.key.toList
  have hcd := com_drop p x.key.toList
  rw [← toL_len] at hkl hvl
  obtain ⟨c, hC⟩ : ∃ c, c = com p x.key.toList := ⟨_, rfl⟩
  unfold encX
  rw [← hC] at hc1 hc2 htk hcd ⊢
  obtain ⟨D, hD⟩ : ∃ D, D = x.key.toList.drop c := ⟨_, rfl⟩
  rw [← hD] at hcd ⊢
  have hDl : D.length ≤ 520 := by rw [hD, List.length_drop]; omega
  have e0 : p.take c ++ D = x.key.toList := by rw [htk, hD, List.take_append_drop]
  have r1 : ∀ u, Code.rd 0 (Code.uvar c ++ u) = (c, (Code.uvar c).length, 0) := fun u => Code.rd_uvar c 0 u (by omega) (by omega) (by simp; omega)
  have r2 : ∀ u, Code.rdField (Code.uvar D.length ++ D ++ u) 520 = (D, (Code.uvar D.length ++ D).length, 0) := fun u => Code.rdField_fld D u (by omega) 520 (by omega)
  have r3 : ∀ u, Code.rd 0 (Code.uvar x.seq ++ u) = (x.seq, (Code.uvar x.seq).length, 0) := fun u => Code.rd_uvar x.seq 0 u (by omega) (by omega) (by simp; omega)
  have r4 : ∀ u, Code.rdField (Code.uvar x.val.size ++ x.val.toList ++ u) 2048 = (x.val.toList, (Code.uvar x.val.size ++ x.val.toList).length, 0) := fun u => by
    have := Code.rdField_fld x.val.toList u (by omega) 2048 (by omega)
    rwa [toL_len] at this
  have assoc : Code.uvar c ++ (Code.uvar D.length ++ D) ++ Code.uvar x.seq ++ [UInt8.ofNat x.kind.toNat] ++ valB x ++ t = Code.uvar c ++ ((Code.uvar D.length ++ D) ++ (Code.uvar x.seq ++ (UInt8.ofNat x.kind.toNat :: (valB x ++ t)))) := by simp
  rw [assoc]
  unfold cutX
  simp only [r1, ne_eq, not_true_eq_false, false_or]
  rw [if_neg (by omega), List.drop_left]
  simp only [r2, not_true_eq_false, false_or]
  rw [hcd, if_neg (by omega), List.drop_left]
  simp only [r3, not_true_eq_false, if_false]
  rw [List.drop_left]
  have e0' : (⟨(p.take c ++ D).toArray⟩ : ByteArray) = x.key := by rw [e0, ofL]
  simp only [e0']
  rcases hk with hk | hk
  · have hn : (UInt8.ofNat x.kind.toNat).toNat = 1 := by rw [hk]; rfl
    have hv : valB x = Code.uvar x.val.size ++ x.val.toList := by unfold valB; rw [if_pos hk]
    simp only [hn, if_true, hv, r4, not_true_eq_false, if_false, ofL]
    have hxe : (⟨x.key, x.seq, ((1 : Nat) : Int), x.val⟩ : Rw) = x := by obtain ⟨a, b, k, v⟩ := x; simp only at hk; subst hk; rfl
    rw [hxe, hx, List.drop_left]
    simp
  · have hn : (UInt8.ofNat x.kind.toNat).toNat = 2 := by rw [hk]; rfl
    have hv : valB x = [] := by unfold valB; rw [if_neg (by omega)]
    simp only [hn, hv, List.nil_append]
    have hvv : x.val = ⟨#[]⟩ := bytes_inj (by rw [hd hk, toL])
    have hxe : (⟨x.key, x.seq, ((2 : Nat) : Int), ⟨#[]⟩⟩ : Rw) = x := by obtain ⟨a, b, k, v⟩ := x; simp only at hk hvv; subst hk; subst hvv; rfl
    rw [hxe, hx]
    simp
theorem cutX_only {s p t : List UInt8} {x : Rw} (h : cutX s p = some (x, t)) : s = encX p x ++ t ∧ chkR x = 0 := by
  unfold cutX at h
  simp only at h
  split at h
  · cases h
  rename_i h1
  split at h
  · cases h
  rename_i h2
  split at h
  · cases h
  rename_i h3
  split at h
  · cases h
  rename_i k s3 h4
  have h1a : (Code.rd 0 s).2.2 = 0 := by simpa using fun e => h1 (.inl e)
  have h1b : (Code.rd 0 s).1 ≤ p.length := by have := fun e => h1 (.inr e); omega
  have u1 := Code.put_uint s h1a
  obtain ⟨S1, hS1⟩ : ∃ S1, S1 = s.drop (Code.rd 0 s).2.1 := ⟨_, rfl⟩
  rw [← hS1] at h h2 h3 h4
  have h2a : (Code.rdField S1 520).2.2 = 0 := by simpa using fun e => h2 (.inl e)
  have h2b : com (p.drop (Code.rd 0 s).1) (Code.rdField S1 520).1 = 0 := by have := fun e => h2 (.inr e); omega
  have u2 := (Code.put_field S1 520 h2a).2.2
  obtain ⟨S2, hS2⟩ : ∃ S2, S2 = S1.drop (Code.rdField S1 520).2.1 := ⟨_, rfl⟩
  rw [← hS2] at h h3 h4
  have h3a : (Code.rd 0 S2).2.2 = 0 := by simpa using h3
  have u3 := Code.put_uint S2 h3a
  have cm := com_put _ _ _ h1b h2b
  have dr : (p.take (Code.rd 0 s).1 ++ (Code.rdField S1 520).1).drop (Code.rd 0 s).1 = (Code.rdField S1 520).1 := by
    rw [List.drop_append_of_le_length (by rw [List.length_take]; omega), List.drop_eq_nil_of_le (by rw [List.length_take]; omega), List.nil_append]
  have es : s = Code.uvar (Code.rd 0 s).1 ++ ((Code.uvar (Code.rdField S1 520).1.length ++ (Code.rdField S1 520).1) ++ (Code.uvar (Code.rd 0 S2).1 ++ (k :: s3))) := by
    rw [u2, u3, u1, ← h4, List.take_append_drop, hS2, List.take_append_drop, hS1, List.take_append_drop]
  obtain ⟨c, hc⟩ : ∃ c, c = (Code.rd 0 s).1 := ⟨_, rfl⟩
  rw [← hc] at h cm dr es
  obtain ⟨f, hf⟩ : ∃ f, f = (Code.rdField S1 520).1 := ⟨_, rfl⟩
  rw [← hf] at h cm dr es
  split at h
  · rename_i hk1
    split at h
    · cases h
    rename_i h5
    split at h
    · cases h
    rename_i h6
    simp only [Option.some.injEq, Prod.mk.injEq] at h
    obtain ⟨rfl, rfl⟩ := h
    have u5 := (Code.put_field s3 2048 (by simpa using h5)).2.2
    refine ⟨?_, by simpa using h6⟩
    unfold encX valB
    simp only [toL, cm, dr]
    have hk2 : (UInt8.ofNat ((k.toNat : Int).toNat)) = k := by simp
    have hsz : (⟨(Code.rdField s3 2048).1.toArray⟩ : ByteArray).size = (Code.rdField s3 2048).1.length := by show (Code.rdField s3 2048).1.toArray.size = _; simp
    rw [hk2, if_pos (by omega), hsz, u5, List.append_assoc, List.take_append_drop]
    simpa using es
  · rename_i hk1
    split at h
    · cases h
    rename_i h6
    simp only [Option.some.injEq, Prod.mk.injEq] at h
    obtain ⟨rfl, rfl⟩ := h
    refine ⟨?_, by simpa using h6⟩
    unfold encX valB
    simp only [toL, cm, dr]
    have hk2 : (UInt8.ofNat ((k.toNat : Int).toNat)) = k := by simp
    rw [hk2, if_neg (by omega)]
    simpa using es
end Go.Proofs.Ytnmlifagchdphaa
/-
  How the translated operations on bytes and on 64 bits read as plain numbers. No condition.
-/
namespace Go.Proofs.Ytnmlifagchdphaa
set_option maxRecDepth 100000
open Go.RowKit
theorem wrap_u64_nat {n : Nat} (h : n < 2 ^ 64) : IntKind.u64.wrap (n : Int) = n := by
  rw [IntKind.wrap_u64]; omega
theorem or64_nat {a b : Nat} (ha : a < 2 ^ 64) (hb : b < 2 ^ 64) : bits .or .u64 (a : Int) (b : Int) = ((a ||| b : Nat) : Int) := by
  show IntKind.u64.wrap (((BitVec.ofInt 64 (a : Int) ||| BitVec.ofInt 64 (b : Int)).toNat : Nat) : Int) = _
  rw [BitVec.ofInt_natCast, BitVec.ofInt_natCast, BitVec.toNat_or, BitVec.toNat_ofNat, BitVec.toNat_ofNat, Nat.mod_eq_of_lt ha, Nat.mod_eq_of_lt hb]
  exact wrap_u64_nat (Nat.or_lt_two_pow ha hb)
theorem andNot128_all : ∀ n : Fin 256, bits .andNot .u8 (n.val : Int) 128 = ((n.val % 128 : Nat) : Int) := by decide +kernel
theorem andNot128 (c : UInt8) : bits .andNot .u8 (c.toNat : Int) 128 = ((c.toNat % 128 : Nat) : Int) := andNot128_all ⟨c.toNat, UInt8.toNat_lt c⟩
theorem or128_all : ∀ n : Fin 256, bits .or .u8 (n.val : Int) 128 = ((n.val % 128 + 128 : Nat) : Int) := by decide +kernel
theorem or128 (c : Nat) (h : c < 256) : bits .or .u8 (c : Int) 128 = ((c % 128 + 128 : Nat) : Int) := or128_all ⟨c, h⟩
theorem part_code (acc i : Nat) (c : UInt8) (hi : i ≤ 9) (ha : acc < 128 ^ i) (h9 : i = 9 → c.toNat ≤ 1) :
    bits .or .u64 (acc : Int) (IntKind.u64.wrap (IntKind.u64.wrap (bits .andNot .u8 (c.toNat : Int) 128) * 2 ^ (7 * i))) = ((acc + 128 ^ i * (c.toNat % 128) : Nat) : Int) := by
  have hp : (128 : Nat) ^ i = 2 ^ (7 * i) := by rw [Nat.pow_mul]
  have hb : 128 ^ i * (c.toNat % 128) < 2 ^ 64 := by
    by_cases h : i = 9
    · subst h; have := h9 rfl
      have : c.toNat % 128 ≤ 1 := by omega
      have := Nat.mul_le_mul_left (128 ^ 9) this
      omega
    · have h8 := Code.pow_le (i := i) (j := 8) (by omega)
      have := Nat.mul_le_mul h8 (show c.toNat % 128 ≤ 127 by omega)
      omega
  have hacc : acc < 2 ^ 64 := by
    have := Code.pow_le (i := i) (j := 9) hi
    omega
  rw [andNot128, wrap_u64_nat (by omega)]
  have e : ((c.toNat % 128 : Nat) : Int) * 2 ^ (7 * i) = ((128 ^ i * (c.toNat % 128) : Nat) : Int) := by
    rw [hp]; simp [Int.mul_comm]
  rw [e, wrap_u64_nat hb, or64_nat hacc hb]
  rw [hp] at ha ⊢
  rw [Nat.add_comm, Nat.two_pow_add_eq_or_of_lt ha, Nat.or_comm]
end Go.Proofs.Ytnmlifagchdphaa
/-
  A scope in which the run jumps forward to one label: behind the jump the label's rest is walked. No condition.
-/
namespace Go.Proofs.Ytnmlifagchdphaa
set_option maxRecDepth 100000
variable {P : Program} {a : Act} {w : World} {Q : Exit → Act → World → Prop}
theorem wp_scope_fwd {c rest : Code} (l : Nat) (hf : findLabel c l = some rest) (h : c.wp P (Exit.jump l (fun a w => rest.wp P (Exit.noGoto Q) a w) Q) a w) : (Code.scope c).wp P Q a w := by
  refine wp_scope_jumps l (fun a w => rest.wp P (Exit.noGoto Q) a w) (fun _ _ => 0) hf h ?_
  intro a₀ w₀ hJ b k cs
  obtain ⟨e, a₁, w₁, hq, harr⟩ := hJ b k cs
  refine ⟨e, a₁, w₁, ?_, harr⟩
  cases e with
  | goto l => exact hq.elim
  | normal => exact hq
  | exit id => exact hq
  | ret => exact hq
  | panic ch => exact hq
  | outgrown => exact hq
theorem jump_goto {l : Nat} {J : Act → World → Prop} (h : J a w) : Exit.jump l J Q (.goto l) a w := ⟨rfl, h⟩
theorem jump_ret {l : Nat} {J : Act → World → Prop} : Exit.jump l J Q .ret a w = Q .ret a w := rfl
theorem jump_normal {l : Nat} {J : Act → World → Prop} : Exit.jump l J Q .normal a w = Q .normal a w := rfl
theorem jump_exit {l id : Nat} {J : Act → World → Prop} : Exit.jump l J Q (.exit id) a w = Q (.exit id) a w := rfl
end Go.Proofs.Ytnmlifagchdphaa
/-
  The contracts of the cursor's steps, whatever the world. Condition: the cursor's two cells hold a text and a place in it.
-/
namespace Go.Proofs.Ytnmlifagchdphaa
set_option maxRecDepth 100000
open Go.RowKit
/-- Block b is a cursor over s at place k. -/
structure CurAt (w : World) (b : Nat) (s : ByteArray) (k : Nat) : Prop where
  c0 : w.cell? ⟨b, 0, none⟩ = some (.string s)
  c1 : w.cell? ⟨b, 1, none⟩ = some (.int .i64 (k : Int))
  f1 : w.frozen? ⟨b, 1, none⟩ = false
theorem CurAt.lt {w : World} {b : Nat} {s : ByteArray} {k : Nat} (h : CurAt w b s k) : b < w.heap.size := World.block_lt_of_cell? _ _ h.c0
theorem CurAt.drewN {w : World} {b n : Nat} {s : ByteArray} {k : Nat} (h : CurAt w b s k) : CurAt (w.drewN n) b s k := ⟨h.c0, h.c1, h.f1⟩
theorem CurAt.set {w : World} {b : Nat} {s : ByteArray} {k : Nat} (h : CurAt w b s k) (j : Nat) : CurAt (w.setCell ⟨b, 1, none⟩ (.int .i64 (j : Int))) b s j :=
  ⟨by rw [World.cell?_setCell_other _ _ _ _ (by simp)]; exact h.c0, World.cell?_setCell_same _ _ _ h.c1, (World.frozen?_setCell _ _ _ _).trans h.f1⟩
theorem CurAt.below {B b k : Nat} {w w' : World} {s : ByteArray} (h : CurAt w b s k) (hb : Below B w w') (hB : b < B) : CurAt w' b s k :=
  ⟨(hb.cell (p := ⟨b, 0, none⟩) hB).trans h.c0, (hb.cell (p := ⟨b, 1, none⟩) hB).trans h.c1, (hb.frozen (p := ⟨b, 1, none⟩) hB).trans h.f1⟩
theorem next_none (s : ByteArray) (b k : Nat) (w : World) (h : CurAt w b s k) (hk : k = s.size) :
    Calls Try.prog 56 #[.pointer (some ⟨b, 0, none⟩)] w fun e w' => e = .returned (.tuple #[.int .u8 0, .bool false]) ∧ CurAt w' b s k ∧ But b w w' := by
  obtain ⟨h0, h1, hf⟩ := h
  subst hk
  go_enter Try.func56, Try.ntmps56
  go_wp2
  go_quiet (fail)
  go_wp2
  go_returns
  exact ⟨rfl, CurAt.drewN ⟨h0, h1, hf⟩, (But.refl _ _).drewN⟩
theorem next_some (s : ByteArray) (b k : Nat) (w : World) (h : CurAt w b s k) (hk : k < s.size) (hs : s.size ≤ maxLen) :
    Calls Try.prog 56 #[.pointer (some ⟨b, 0, none⟩)] w fun e w' => e = .returned (.tuple #[.int .u8 (s[k].toNat : Int), .bool true]) ∧ CurAt w' b s (k + 1) ∧ But b w w' := by
  unfold maxLen at hs
  obtain ⟨h0, h1, hf⟩ := h
  go_enter Try.func56, Try.ntmps56
  go_wp2
  go_quiet (fail)
  go_wp2
  go_quiet (fail)
  go_wp2
  go_returns
  exact ⟨rfl, (CurAt.drewN ⟨h0, h1, hf⟩).set (k + 1), ((But.refl b w).drewN (n := _)).setCell (p := ⟨b, 1, none⟩) rfl _⟩
/-- What number reads, by whatever closure steps as the cursor's next does. -/
theorem next_enters : ∀ (args : Array Value) (w : World), (callFunc 56 args).run Try.prog w = .ok (.enter 56 args) w := enters_of Try.func56 (by kernel_rfl) rfl
set_option maxRecDepth 100000 in
set_option maxHeartbeats 2000000 in
theorem number_any (s : ByteArray) (hs : s.size ≤ maxLen) (b k0 : Nat) (w : World) (h : CurAt w b s k0) (hk0 : k0 ≤ s.size) :
    Calls Try.prog 55 #[.func (.func 56) #[.pointer (some ⟨b, 0, none⟩)] #[]] w fun e w' =>
      e = .returned (.tuple #[.int .u64 ((Code.rd 0 (s.data.toList.drop k0)).1 : Int), .int .i64 ((Code.rd 0 (s.data.toList.drop k0)).2.2 : Int)]) ∧
      ((Code.rd 0 (s.data.toList.drop k0)).2.2 = 0 → CurAt w' b s (k0 + (Code.rd 0 (s.data.toList.drop k0)).2.1)) ∧ But b w w' := by
  have hs' := hs
  unfold maxLen at hs'
  obtain ⟨R, HR⟩ := named (Code.rd 0 (s.data.toList.drop k0))
  rw [← HR.out]
  go_enter Try.func55, Try.ntmps55
  go_wp2
  refine wp_scope_fwd 0 rfl ?_
  go_wp2
  go_loopw [2, 4] (fun n d wr => ∃ i acc : Nat, i ≤ 9 ∧ k0 + i ≤ s.size ∧ acc < 128 ^ i ∧ n = .int .u64 (acc : Int) ∧ d = .int .i64 (7 * (i : Int)) ∧ CurAt wr b s (k0 + i) ∧ But b w wr ∧ R = Code.lift i acc (Code.rd i (s.data.toList.drop (k0 + i)))) (fun _ d _ => 64 - (intOf d).toNat)
  case atStart => exact ⟨0, 0, by omega, by omega, by simp, rfl, rfl, h, But.refl _ _, by rw [Code.lift_zero]; exact HR.out⟩
  case round =>
    obtain ⟨i, acc, hi, hki, hacc, rfl, rfl, hc, hB, hR⟩ := hrel
    go_wp2_with fail
    by_cases he : k0 + i = s.size
    · refine (next_none s b (k0 + i) wr hc he).mono ?_
      rintro e w' ⟨rfl, hc', hB'⟩
      go_wp2
      go_step3
      refine ⟨rfl, ?_⟩
      go_wp2
      rw [Exit.noGoto_ret]
      go_returns
      have hd : s.data.toList.drop (k0 + i) = [] := List.drop_eq_nil_of_le (by simp; omega)
      rw [hd, Code.lift_nil] at hR
      rw [hR]
      exact ⟨rfl, fun h => absurd h (by decide), hB.trans hB'⟩
    · have hlt : k0 + i < s.size := by omega
      have hd : Hid (s.data.toList.drop (k0 + i) = s[k0 + i] :: s.data.toList.drop (k0 + i + 1)) := Lib.hid (List.drop_eq_getElem_cons (by simpa using hlt))
      have HR2 := Lib.hid hR
      clear hR
      refine (next_some s b (k0 + i) wr hc hlt hs).mono ?_
      obtain ⟨c, hC⟩ := named s[k0 + i]
      rw [← hC.out] at hd ⊢
      rintro e w' ⟨rfl, hc', hB'⟩
      have hcl := UInt8.toNat_lt c
      have hacc64 : Hid (acc < 128 ^ i) := hacc
      by_cases hf1 : c.toNat = 0 ∧ 0 < i
      · obtain ⟨z, hp⟩ := hf1
        have hz := Lib.hid z
        have h7 : 0 < 7 * (i : Int) := by omega
        go_wp2
        go_step3
        refine ⟨rfl, ?_⟩
        go_wp2
        rw [Exit.noGoto_ret]
        go_returns
        have := HR2.out
        rw [hd.out, Code.lift_form _ _ _ (Or.inl ⟨hz.out, hp⟩)] at this
        rw [this]
        exact ⟨rfl, fun h => absurd h (by decide), hB.trans hB'⟩
      by_cases hf2 : 1 < c.toNat ∧ i = 9
      · obtain ⟨h1, rfl⟩ := hf2
        have h1' : 1 < (c.toNat : Int) := by omega
        go_wp2
        go_step3
        refine ⟨rfl, ?_⟩
        go_wp2
        rw [Exit.noGoto_ret]
        go_returns
        have := HR2.out
        rw [hd.out, Code.lift_form _ _ _ (Or.inr ⟨h1, rfl⟩)] at this
        rw [this]
        exact ⟨rfl, fun h => absurd h (by decide), hB.trans hB'⟩
      have hcode := part_code acc i c hi hacc (by omega)
      by_cases hl : c.toNat < 128
      · have hl' : (c.toNat : Int) < 128 := by omega
        have := HR2.out
        rw [hd.out, Code.lift_last _ _ _ (by omega) hl] at this
        have e2 : c.toNat % 128 = c.toNat := Nat.mod_eq_of_lt hl
        rw [e2] at hcode
        have HR3 := Lib.hid this
        clear this e2
        have hend : ∀ (v : World), CurAt v b s (k0 + i + 1) → But b w v → (R.2.2 = 0 → CurAt v b s (k0 + R.2.1)) ∧ But b w v := fun v h1 h2 =>
          ⟨fun _ => by rw [HR3.out]; show CurAt v b s (k0 + (i + 1)); rw [← Nat.add_assoc]; exact h1, h2⟩
        have hR1 : (R.1 : Int) = ((acc + 128 ^ i * c.toNat : Nat) : Int) ∧ (R.2.2 : Int) = 0 := by rw [HR3.out]; exact ⟨rfl, rfl⟩
        have HE := Lib.hid hend
        have HR1 := Lib.hid hR1
        clear hend hR1
        by_cases hz : c.toNat = 0
        · have h0 : i = 0 := by omega
          subst h0
          go_wp2
          rw [jump_ret]
          go_returns
          refine ⟨?_, HE.out _ hc' (hB.trans hB')⟩
          rw [HR1.out.1, HR1.out.2, ← hcode]; simp [hz]
        · have hz' : ((c.toNat : Int) == 0) = false := beq_eq_false_iff_ne.2 (by omega)
          by_cases h1 : c.toNat = 1
          · go_wp2
            rw [jump_ret]
            go_returns
            refine ⟨?_, HE.out _ hc' (hB.trans hB')⟩
            rw [HR1.out.1, HR1.out.2, ← hcode]; simp [h1]
          · have h9 : ((7 * (i : Int)) == 63) = false := beq_eq_false_iff_ne.2 (by omega)
            have h1' : 1 < (c.toNat : Int) := by omega
            go_wp2
            rw [jump_ret]
            go_returns
            refine ⟨?_, HE.out _ hc' (hB.trans hB')⟩
            rw [HR1.out.1, HR1.out.2]; simp
      · have hl' : 128 ≤ (c.toNat : Int) := by omega
        have h9 : ((7 * (i : Int)) == 63) = false := beq_eq_false_iff_ne.2 (by omega)
        have := HR2.out
        rw [hd.out, Code.lift_more _ _ _ (by omega) hl] at this
        have HR3 := Lib.hid this
        clear this
        go_wp2
        go_roundw
        case rel =>
          refine ⟨i + 1, acc + 128 ^ i * (c.toNat % 128), by omega, by omega, ?_, by go_num, by go_num, hc', hB.trans hB', ?_⟩
          · rw [Nat.pow_succ]
            have := Nat.mul_le_mul_left (128 ^ i) (show c.toNat % 128 ≤ 127 by omega)
            have := hacc64.out
            omega
          · rw [← Nat.add_assoc]; exact HR3.out
        case measure => simp [intOf]; omega
end Go.Proofs.Ytnmlifagchdphaa
/-
  A block of bytes that a call made: what it holds, what a store into it leaves, what text it is. No condition.
-/
namespace Go.Proofs.Ytnmlifagchdphaa
set_option maxRecDepth 100000
open Go.RowKit
/-- Block g holds just these bytes at its head, and they may be written. -/
def Holds8 (w : World) (g : Nat) (l : List UInt8) : Prop := ∀ q (h : q < l.length), w.cell? ⟨g, q, none⟩ = some (.int .u8 (l[q].toNat : Int)) ∧ w.frozen? ⟨g, q, none⟩ = false
theorem holds8_set {w : World} {g : Nat} {l : List UInt8} (h : Holds8 w g l) (q : Nat) (hq : q < l.length) (y : UInt8) : Holds8 (w.setCell ⟨g, q, none⟩ (.int .u8 (y.toNat : Int))).drew g (l.set q y) := by
  intro r hr
  rw [List.length_set] at hr
  rw [World.cell?_drew]
  refine ⟨?_, (World.frozen?_setCell _ _ _ _).trans (h r hr).2⟩
  by_cases e : q = r
  · subst e
    rw [World.cell?_setCell_same _ _ _ (h q hq).1, List.getElem_set_self]
  · rw [World.cell?_setCell_other _ _ _ _ (by simp), (h r hr).1, List.getElem_set_ne e]
theorem holds8_turn {w : World} {g : Nat} {l : List UInt8} (h : Holds8 w g l) (q : Nat) (hq : q < l.length) (c : UInt8) : Holds8 (w.setCell ⟨g, q, none⟩ (.int .u8 ((l[q] ^^^ c).toNat : Int))).drew g (l.modify q (· ^^^ c)) := by
  have e : l.modify q (· ^^^ c) = l.set q (l[q] ^^^ c) := by
    apply List.ext_getElem?
    intro j
    rw [List.getElem?_modify, List.getElem?_set]
    by_cases hj : q = j
    · subst hj; simp [hq]
    · simp [hj]
  rw [e]
  exact holds8_set h q hq _
theorem holds8_made (w : World) (b : ByteArray) (c : Nat) : Holds8 (w.alloc (.cells (bytesRow b c) 5 ((bytesRow b c).size, (bytesRow b c).size + 1))).drew w.heap.size b.data.toList := by
  intro q hq
  have hz : q < b.data.size := by simpa using hq
  have hs : q < (bytesRow b c).size := by unfold bytesRow; rw [Array.size_append, Array.size_map]; omega
  have e1 : (bytesRow b c)[q]? = some (.int .u8 (b.data.toList[q].toNat : Int)) := by
    unfold bytesRow
    rw [Array.getElem?_append_left (by rw [Array.size_map]; exact hz), Array.getElem?_map, Array.getElem?_eq_getElem hz]
    simp
  refine ⟨?_, ?_⟩
  · rw [World.cell?_drew, World.cell?_alloc_mark, e1]
  · show (w.alloc _).frozen? _ = false
    rw [World.frozen?_alloc_mark]
    simp; omega
theorem holds8_text {w : World} {g : Nat} {l : List UInt8} (h : Holds8 w g l) (n c : Nat) (hn : l.length = n) : (convert 51 9 (.slice (some ⟨g, 0, none⟩) n c)).run Try.prog w = .ok (.string ⟨l.toArray⟩) w := by
  subst hn
  refine run_convert_bytes_back w _ _ 5 ⟨g, 0, none⟩ c l Try.underlying51 Try.underlying5 Try.underlying9 ?_
  intro j hj
  have : (⟨g, 0, none⟩ : Addr).add j = ⟨g, j, none⟩ := by
    unfold Addr.add
    split
    · rename_i h0; rw [h0]
    · simp
  rw [this]
  exact (h j hj).1
theorem xor8_byte (x y : UInt8) : bits .xor .u8 (x.toNat : Int) (y.toNat : Int) = ((x ^^^ y).toNat : Int) := by
  have e : ∀ z : UInt8, BitVec.ofInt 8 (z.toNat : Int) = z.toBitVec := fun z => by
    rw [BitVec.ofInt_natCast]; apply BitVec.eq_of_toNat_eq; rw [BitVec.toNat_ofNat]; have := UInt8.toNat_lt z; show z.toNat % 256 = z.toNat; omega
  show IntKind.u8.wrap (((BitVec.ofInt 8 (x.toNat : Int) ^^^ BitVec.ofInt 8 (y.toNat : Int)).toNat : Nat) : Int) = _
  rw [e, e, IntKind.wrap_u8]
  have h2 : (x.toBitVec ^^^ y.toBitVec).toNat = (x ^^^ y).toNat := rfl
  rw [h2]
  have := UInt8.toNat_lt (x ^^^ y)
  omega
theorem holds8_alloc {w : World} {g : Nat} {l : List UInt8} (h : Holds8 w g l) (hg : g < w.heap.size) (o : Obj) : Holds8 (w.alloc o) g l := fun q hq =>
  ⟨(World.cell?_alloc_lt _ _ _ hg).trans (h q hq).1, (World.frozen?_alloc_old _ _ _ (Nat.ne_of_lt hg)).trans (h q hq).2⟩
theorem holds8_drew {w : World} {g : Nat} {l : List UInt8} (h : Holds8 w g l) : Holds8 w.drew g l := h
theorem holds8_below {u w : World} {g : Nat} {l : List UInt8} (hb : Below u.heap.size u w) (hg : g < u.heap.size) (h : Holds8 u g l) : Holds8 w g l := fun q hq =>
  ⟨(hb.cell (p := ⟨g, q, none⟩) hg).trans (h q hq).1, (hb.frozen (p := ⟨g, q, none⟩) hg).trans (h q hq).2⟩
theorem holds8_zeros (w : World) (n : Nat) : Holds8 (w.alloc (.cells (madeCells #[.int .u8 0] n) 5)) w.heap.size (List.replicate n 0) := by
  intro q hq
  rw [List.length_replicate] at hq
  refine ⟨?_, World.frozen?_alloc_at _ _ _ _ rfl⟩
  rw [World.cell?_alloc_new, ← Array.getElem?_toList, toList_madeCells_one]
  simp [hq]
end Go.Proofs.Ytnmlifagchdphaa
/-
  The contracts of code.Uint, code.PutUint and of the document's own: each answers the plain mathematics' short number. Condition: a text of a length that there is; a number of 64 bits.
-/
namespace Go.Proofs.Ytnmlifagchdphaa
set_option maxRecDepth 100000
open Go.RowKit
theorem makes_func : ∀ (fn : Fn) (first cap : Array Value) (w : World), (Instr.makeFunc fn first cap).run Try.prog w = .ok (.func fn first cap) w := fun _ _ _ _ => rfl
theorem cur_new (w : World) (s : ByteArray) (t : TypeId) : CurAt (w.alloc (.cells #[.string s, .int .i64 0] t)) w.heap.size s 0 :=
  ⟨by rw [World.cell?_alloc_new]; rfl, by rw [World.cell?_alloc_new]; rfl, World.frozen?_alloc_new _ _ _ _⟩
theorem below_but {w w' : World} {o : Obj} (h : But w.heap.size (w.alloc o) w') : Below w.heap.size w w' := (below_alloc w o).trans (h.below (Nat.le_refl _) (by simp))
set_option maxRecDepth 100000 in
set_option maxHeartbeats 1000000 in
theorem uint_any (s : ByteArray) (hs : s.size ≤ maxLen) (w : World) :
    Calls Try.prog 52 #[.string s] w fun e w' =>
      e = .returned (.tuple #[.int .u64 ((Code.rd 0 s.data.toList).1 : Int), .int .i64 ((Code.rd 0 s.data.toList).2.1 : Int), .int .i64 ((Code.rd 0 s.data.toList).2.2 : Int)]) ∧ Below w.heap.size w w' := by
  have hmf := makes_func
  have hn := number_any s hs w.heap.size 0 _ (cur_new w s 89) (by omega)
  rw [List.drop_zero] at hn
  have hE := Code.rd_err 0 s.data.toList
  obtain ⟨⟨n, k, e⟩, HR⟩ := named (Code.rd 0 s.data.toList)
  rw [← HR.out] at hn hE ⊢
  have HN := Lib.hid hn
  clear hn
  go_enter Try.func52, Try.ntmps52
  go_wp2
  refine wp_scope_fwd 0 rfl ?_
  go_wp2_with fail
  refine HN.out.mono ?_
  rintro e' w' ⟨rfl, hc, hB⟩
  rcases hE with h0 | ⟨h67, h1, h2⟩
  · have h0 : e = 0 := h0
    subst h0
    obtain ⟨c0, c1, f1⟩ := hc rfl
    clear hc
    simp only [Nat.zero_add] at c1
    go_wp2
    go_quiet (fail)
    go_wp2
    rw [jump_ret]
    go_returns
    exact ⟨rfl, below_but hB.drewN⟩
  · have h67 : e = 6 ∨ e = 7 := h67
    have h1 : n = 0 := h1
    have h2 : k = 0 := h2
    subst h1 h2
    have hz : ((e : Int) == 0) = false := beq_eq_false_iff_ne.2 (by omega)
    clear hc
    go_wp2
    go_step3
    refine ⟨rfl, ?_⟩
    go_wp2
    rw [Exit.noGoto_ret]
    go_returns
    exact ⟨rfl, below_but hB⟩
theorem holds8_take {w : World} {g : Nat} {l : List UInt8} (h : Holds8 w g l) (n : Nat) : Holds8 w g (l.take n) := by
  intro q hq
  have : q < l.length := by rw [List.length_take] at hq; omega
  rw [List.getElem_take]
  exact h q this
theorem holds8_put {w : World} {g : Nat} {l : List UInt8} (h : Holds8 w g l) (q : Nat) (hq : q < l.length) (x : Int) (y : UInt8) (hx : x = (y.toNat : Int)) : Holds8 (w.setCell ⟨g, q, none⟩ (.int .u8 x)) g (l.set q y) := by
  subst hx; exact holds8_set h q hq y
theorem slice_ten (g n : Nat) (hn : n < 10) (v : World) : (Instr.sliceAt 85 (.pointer (some ⟨g, 0, none⟩)) none (some (.int .i64 ((n : Int) + 1))) none).run Try.prog v = .ok (.slice (some ⟨g, 0, none⟩) (n + 1) 10) v := by
  have hL : Try.prog.arrayLen 85 = 10 := by kernel_rfl
  have hE : Try.prog.elem 85 = 5 := by kernel_rfl
  have ht : Try.prog.underlying 85 = some (.array (Try.prog.arrayLen 85) (Try.prog.elem 85)) := by rw [hL, hE]; exact Try.underlying85
  rw [run_sliceAt_array_h v _ _ ht .i64 _ (by omega) (by rw [hL]; omega), hE, Try.sizeOf5 v, hL]
  have : ((n : Int) + 1).toNat = n + 1 := by omega
  simp [slicedAt, this, go_sem]
set_option maxRecDepth 100000 in
set_option maxHeartbeats 1000000 in
theorem putuint_any (N : Nat) (hN : N < 2 ^ 64) (w : World) :
    Calls Try.prog 42 #[.int .u64 (N : Int)] w fun e w' => e = .returned (.string ⟨(Code.uvar N).toArray⟩) ∧ Below w.heap.size w w' := by
  have hlen := Code.uvar_ten hN
  go_enter Try.func42, Try.ntmps42
  go_wp2
  go_loopw [0, 4] (fun n d wr => ∃ (pre : List UInt8) (cur : Nat), cur < 2 ^ 64 ∧ Code.uvar N = pre ++ Code.uvar cur ∧ n = .int .u64 (cur : Int) ∧ d = .int .i64 (pre.length : Int) ∧ Holds8 wr w.heap.size (pre ++ List.replicate (10 - pre.length) 0) ∧ Below w.heap.size w wr ∧ w.heap.size < wr.heap.size) (fun n _ _ => (intOf n).toNat)
  case atStart =>
    refine ⟨[], N, hN, rfl, rfl, rfl, ?_, below_alloc _ _, by simp⟩
    intro q hq
    have hq : q < 10 := by simpa using hq
    refine ⟨?_, World.frozen?_alloc_new _ _ _ _⟩
    rw [World.cell?_alloc_new]
    rcases (show q = 0 ∨ q = 1 ∨ q = 2 ∨ q = 3 ∨ q = 4 ∨ q = 5 ∨ q = 6 ∨ q = 7 ∨ q = 8 ∨ q = 9 by omega) with rfl | rfl | rfl | rfl | rfl | rfl | rfl | rfl | rfl | rfl <;> rfl
  case round =>
    obtain ⟨pre, cur, hcur, hU, rfl, rfl, hH, hB, hsz⟩ := hrel
    have hul := Code.uvar_len cur
    have hpl : pre.length + (Code.uvar cur).length ≤ 10 := by rw [hU, List.length_append] at hlen; exact hlen
    have hx := hH pre.length (by simp; omega)
    have hset : ∀ (y : UInt8), (pre ++ List.replicate (10 - pre.length) 0).set pre.length y = (pre ++ [y]) ++ List.replicate (10 - (pre ++ [y]).length) 0 := fun y => by
      rw [List.set_append_right _ _ (Nat.le_refl _), Nat.sub_self, List.length_append, List.append_assoc]
      have e : 10 - pre.length = (10 - (pre.length + [y].length)) + 1 := by simp; omega
      rw [e, List.replicate_succ]; rfl
    by_cases hs : cur < 128
    · have hs' : (cur : Int) < 128 := by omega
      rw [Code.uvar_small hs] at hU
      have hP := holds8_take (holds8_put hH pre.length (by simp; omega) (cur : Int) (UInt8.ofNat cur) (by rw [UInt8.toNat_ofNat']; omega)) (pre.length + 1)
      have e : ((pre ++ List.replicate (10 - pre.length) 0).set pre.length (UInt8.ofNat cur)).take (pre.length + 1) = Code.uvar N := by
        rw [hset, List.take_append_of_le_length (by simp), List.take_of_length_le (by simp), hU]
      rw [e] at hP
      have hcv := holds8_text hP (pre.length + 1) 10 (by rw [hU]; simp)
      have hsl := slice_ten w.heap.size pre.length (by omega) (wr.setCell ⟨w.heap.size, pre.length, none⟩ (.int .u8 (cur : Int)))
      obtain ⟨hx1, hx2⟩ := hx
      clear hH hP e hset hU
      go_wp2
      go_ret
      exact ⟨rfl, hB.setCell (by simp) _⟩
    · have hs' : 128 ≤ (cur : Int) := by omega
      obtain ⟨hx1, hx2⟩ := hx
      have HS := Lib.hid hset
      have HH := Lib.hid hH
      have HU := Lib.hid hU
      clear hset hH hU
      go_wp2
      go_roundw
      case rel =>
        have ey : bits .or .u8 ((cur : Int) % 256) 128 = ((UInt8.ofNat (cur % 128 + 128)).toNat : Int) := by
          have := or128 (cur % 256) (by omega)
          rw [show ((cur % 256 : Nat) : Int) = (cur : Int) % 256 by omega] at this
          rw [this, UInt8.toNat_ofNat']; omega
        refine ⟨pre ++ [UInt8.ofNat (cur % 128 + 128)], cur / 128, by omega, ?_, by go_num, by simp, ?_, hB.setCell (by simp) _, by simpa using hsz⟩
        · rw [HU.out, Code.uvar_great hs]; simp
        · rw [← HS.out]
          exact holds8_put HH.out pre.length (by simp; omega) _ _ ey
      case measure => simp [intOf]; omega
theorem text_one (v : World) (y : UInt8) (x : Int) (hx : x = (y.toNat : Int)) (t : TypeId) : (convert 51 9 (.slice (some ⟨v.heap.size, 0, none⟩) 1 1)).run Try.prog (v.alloc (.cells #[.int .u8 x] t)) = .ok (.string ⟨#[y]⟩) (v.alloc (.cells #[.int .u8 x] t)) := by
  subst hx
  refine holds8_text (l := [y]) ?_ 1 1 rfl
  intro q hq
  have : q = 0 := by simpa using hq
  subst this
  exact ⟨by rw [World.cell?_alloc_new]; rfl, World.frozen?_alloc_new _ _ _ _⟩
theorem getD_byte (s : ByteArray) (k : Nat) (h : k < s.size) : s.data.toList.getD k 0 = s[k] := by
  rw [List.getD_eq_getElem?_getD, Lib.data_getElem? s k h]; rfl
theorem drop_byte (s : ByteArray) (k : Nat) (h : k < s.size) : s.data.toList.drop k = s[k] :: s.data.toList.drop (k + 1) := List.drop_eq_getElem_cons (by simpa using h)
end Go.Proofs.Ytnmlifagchdphaa
/-
  Operations on texts, as the walks of regions that draw their order want them: one equation for every world. No condition.
-/
namespace Go.Proofs.Ytnmlifagchdphaa
set_option maxRecDepth 100000
open Go.RowKit
theorem toLs (s : ByteArray) : s.toList.length = s.size := by rw [ByteArray.toList_eq]; simp
theorem idx_text (s : ByteArray) (n : Nat) (c : UInt8) (h : s.toList[n]? = some c) (x : Int) (hx : x = (n : Int)) (u : World) :
    (Instr.index 9 (.string s) (.int .i64 x)).run Try.prog u = .ok (.int .u8 (c.toNat : Int)) u := by
  subst hx
  rw [ByteArray.toList_eq] at h
  have hl : n < s.data.toList.length := (List.getElem?_eq_some_iff.1 h).1
  have hl2 : n < s.size := by simpa using hl
  rw [run_index_string u 9 s .i64 _ Try.underlying9, dif_pos ⟨by omega, by omega⟩]
  have e : ∀ h', s[(n : Int).toNat]'h' = c := fun h' => by
    have h3 : s.data.toList[n]? = some s[n] := Lib.data_getElem? s n (by omega)
    exact Option.some.inj (h3.symm.trans h)
  rw [e]
theorem extract_from (s : ByteArray) (n : Nat) : s.extract n s.size = ⟨(s.toList.drop n).toArray⟩ := by
  apply ByteArray.ext; apply Array.toList_inj.1
  rw [ByteArray.data_extract, Array.toList_extract, List.extract_eq_take_drop, ByteArray.toList_eq]
  exact List.take_of_length_le (by simp)
theorem extract_upto (s : ByteArray) (n : Nat) : s.extract 0 n = ⟨(s.toList.take n).toArray⟩ := by
  apply ByteArray.ext; apply Array.toList_inj.1
  rw [ByteArray.data_extract, Array.toList_extract, List.extract_eq_take_drop, ByteArray.toList_eq]
  simp
theorem sl_from (s : ByteArray) (n : Nat) (hn : n ≤ s.size) (x : Int) (hx : x = (n : Int)) (u : World) : (Instr.slice 9 (.string s) (some (.int .i64 x)) none none).run Try.prog u = .ok (.string ⟨(s.toList.drop n).toArray⟩) u := by
  subst hx
  rw [← extract_from]
  exact run_slice_string_l u 9 s Try.underlying9 .i64 (n : Int) (by omega) (by omega)
theorem sl_upto (s : ByteArray) (n : Nat) (hn : n ≤ s.size) (x : Int) (hx : x = (n : Int)) (u : World) : (Instr.slice 9 (.string s) none (some (.int .i64 x)) none).run Try.prog u = .ok (.string ⟨(s.toList.take n).toArray⟩) u := by
  subst hx
  rw [← extract_upto]
  exact run_slice_string_h u 9 s Try.underlying9 .i64 (n : Int) (by omega) (by omega)
theorem ofList_toList (L : List UInt8) : (⟨L.toArray⟩ : ByteArray).toList = L := by rw [ByteArray.toList_eq]
theorem ofList_size (L : List UInt8) : (⟨L.toArray⟩ : ByteArray).size = L.length := by show L.toArray.size = _; simp
theorem slL_from (L : List UInt8) (n : Nat) (hn : n ≤ L.length) (x : Int) (hx : x = (n : Int)) (u : World) : (Instr.slice 9 (.string ⟨L.toArray⟩) (some (.int .i64 x)) none none).run Try.prog u = .ok (.string ⟨(L.drop n).toArray⟩) u := by
  have := sl_from ⟨L.toArray⟩ n (by rw [ofList_size]; exact hn) x hx u
  rwa [ofList_toList] at this
theorem slL_upto (L : List UInt8) (n : Nat) (hn : n ≤ L.length) (x : Int) (hx : x = (n : Int)) (u : World) : (Instr.slice 9 (.string ⟨L.toArray⟩) none (some (.int .i64 x)) none).run Try.prog u = .ok (.string ⟨(L.take n).toArray⟩) u := by
  have := sl_upto ⟨L.toArray⟩ n (by rw [ofList_size]; exact hn) x hx u
  rwa [ofList_toList] at this
theorem idxL (L : List UInt8) (n : Nat) (c : UInt8) (h : L[n]? = some c) (x : Int) (hx : x = (n : Int)) (u : World) :
    (Instr.index 9 (.string ⟨L.toArray⟩) (.int .i64 x)).run Try.prog u = .ok (.int .u8 (c.toNat : Int)) u := idx_text ⟨L.toArray⟩ n c (by rw [ofList_toList]; exact h) x hx u
theorem exL_from (L : List UInt8) (n : Nat) : (⟨L.toArray⟩ : ByteArray).extract n L.length = ⟨(L.drop n).toArray⟩ := by
  have := extract_from ⟨L.toArray⟩ n
  rwa [ofList_size, ofList_toList] at this
theorem exL_upto (L : List UInt8) (n : Nat) : (⟨L.toArray⟩ : ByteArray).extract 0 n = ⟨(L.take n).toArray⟩ := by
  have := extract_upto ⟨L.toArray⟩ n
  rwa [ofList_toList] at this
theorem cat_ba (a b : List UInt8) : (⟨a.toArray⟩ : ByteArray) ++ ⟨b.toArray⟩ = ⟨(a ++ b).toArray⟩ := by
  apply ByteArray.ext; rw [ByteArray.data_append]; apply Array.toList_inj.1; simp
end Go.Proofs.Ytnmlifagchdphaa
/-
  The contracts of common, putNumber, number, behind. Condition: texts of less than 2^47 bytes.
-/
namespace Go.Proofs.Ytnmlifagchdphaa
set_option maxRecDepth 100000
open Go.RowKit
theorem byte_drop (s : ByteArray) (k : Nat) (h : k < s.size) : s.toList.drop k = s[k] :: s.toList.drop (k + 1) := by rw [ByteArray.toList_eq]; exact drop_byte s k h
theorem lss_int (a b : Nat) (B : Bool) (h : decide (a < b) = B) (u : World) : (binOp .lss 3 (.int .i64 (a : Int)) (.int .i64 (b : Int))).run Try.prog u = .ok (.bool B) u := by
  subst h
  go_simp
theorem wrap_u32_nat {n : Nat} (h : n < 2 ^ 32) : IntKind.u32.wrap (n : Int) = n := by
  have := IntKind.wrap_u32 (n : Int)
  rw [this]; omega
theorem or32_nat {a b : Nat} (ha : a < 2 ^ 32) (hb : b < 2 ^ 32) : bits .or .u32 (a : Int) (b : Int) = ((a ||| b : Nat) : Int) := by
  show IntKind.u32.wrap (((BitVec.ofInt 32 (a : Int) ||| BitVec.ofInt 32 (b : Int)).toNat : Nat) : Int) = _
  rw [BitVec.ofInt_natCast, BitVec.ofInt_natCast, BitVec.toNat_or, BitVec.toNat_ofNat, BitVec.toNat_ofNat, Nat.mod_eq_of_lt ha, Nat.mod_eq_of_lt hb]
  exact wrap_u32_nat (Nat.or_lt_two_pow ha hb)
theorem or_low {a b : Nat} (i : Nat) (ha : a < 2 ^ i) : a ||| b * 2 ^ i = a + b * 2 ^ i := by
  have := Nat.two_pow_add_eq_or_of_lt ha b
  rw [Nat.or_comm, Nat.mul_comm b, ← this]; omega
set_option maxRecDepth 100000 in
set_option maxHeartbeats 2000000 in
theorem common_any (a b : ByteArray) (ha : a.size ≤ maxLen) (hb : b.size ≤ maxLen) (w : World) : Calls Try.prog 41 #[.string a, .string b] w fun e w' => e = .returned (.int .i64 (com a.toList b.toList : Nat)) ∧ Below w.heap.size w w' := by
  unfold maxLen at ha hb
  obtain ⟨R, hR⟩ := named (com a.toList b.toList)
  rw [← hR.out]
  obtain ⟨M, hM⟩ := named (min a.size b.size)
  have hmin : ∀ (ts : Array TypeId) (t : TypeId) (u : World), (Builtin.min_ ts t #[.int .i64 (a.size : Int), .int .i64 (b.size : Int)]).run Try.prog u = .ok (.int .i64 (M : Int)) u := by
    intro ts t u
    rw [run_min_int2, hM.out]
    have e : (if (b.size : Int) < (a.size : Int) then (b.size : Int) else (a.size : Int)) = ((min a.size b.size : Nat) : Int) := by split <;> omega
    rw [e]
  go_enter Try.func41, Try.ntmps41
  go_wp2_with fail
  go_loopw [5] (fun i wr => ∃ j : Nat, j ≤ a.size ∧ j ≤ b.size ∧ i = .int .i64 (j : Int) ∧ R = j + com (a.toList.drop j) (b.toList.drop j) ∧ Below w.heap.size w wr) (fun i _ => a.size - (intOf i).toNat)
  case atStart => exact ⟨0, Nat.zero_le _, Nat.zero_le _, rfl, by rw [hR.out]; simp, Below.refl _ _⟩
  case round =>
    obtain ⟨j, hj1, hj2, rfl, hrj, hw⟩ := hrel
    have hw := Lib.hid hw
    by_cases hlt : j < a.size ∧ j < b.size
    · obtain ⟨l1, l2⟩ := hlt
      have g : j < M := by have := hM.out; omega
      have g2 : (j : Int) < (M : Int) := by omega
      rw [byte_drop a j l1, byte_drop b j l2, com] at hrj
      by_cases he : a[j] = b[j]
      · rw [if_pos he] at hrj
        have hrj2 : Hid (R = j + 1 + com (a.toList.drop (j + 1)) (b.toList.drop (j + 1))) := Lib.hid (by omega)
        clear hrj
        go_upto_region 2 with fail
        go_quiet (fail)
        go_wp2_with fail
        go_roundw
        case rel => exact ⟨j + 1, by omega, by omega, by go_num, hrj2.out, below_drewN hw.out⟩
        case measure => simp [intOf]; omega
      · rw [if_neg he] at hrj
        have hrj2 : Hid (R = j) := Lib.hid (by omega)
        have he2 : ((a[j].toNat : Int) == (b[j].toNat : Int)) = false := by
          rw [beq_eq_false_iff_ne]
          intro h
          exact he (UInt8.toNat_inj.1 (by omega))
        clear hrj
        go_upto_region 2 with fail
        go_quiet (fail)
        go_wp2_with fail
        go_returns
        exact ⟨by rw [hrj2.out]; rfl, below_drewN hw.out⟩
    · have g : decide (j < M) = false := by have := hM.out; rw [decide_eq_false_iff_not]; omega
      have g2 : decide ((j : Int) < (M : Int)) = false := by have := hM.out; rw [decide_eq_false_iff_not]; omega
      have hrj2 : Hid (R = j) := Lib.hid (by
        have : com (a.toList.drop j) (b.toList.drop j) = 0 := by
          by_cases l1 : j < a.size
          · rw [List.drop_eq_nil_of_le (show b.toList.length ≤ j by rw [toL_len]; omega)]
            cases a.toList.drop j <;> simp [com]
          · rw [List.drop_eq_nil_of_le (show a.toList.length ≤ j by rw [toL_len]; omega), com_nil]
        omega)
      clear hrj
      go_upto_region 2 with fail
      go_quiet (fail)
      go_wp2_with fail
      go_returns
      exact ⟨by rw [hrj2.out]; rfl, below_drewN hw.out⟩
theorem text_four (v : World) (x0 x1 x2 x3 : Int) (y0 y1 y2 y3 : UInt8) (h0 : x0 = (y0.toNat : Int)) (h1 : x1 = (y1.toNat : Int)) (h2 : x2 = (y2.toNat : Int)) (h3 : x3 = (y3.toNat : Int)) (t : TypeId) :
    (convert 51 9 (.slice (some ⟨v.heap.size, 0, none⟩) 4 4)).run Try.prog (v.alloc (.cells #[.int .u8 x0, .int .u8 x1, .int .u8 x2, .int .u8 x3] t)) = .ok (.string ⟨#[y0, y1, y2, y3]⟩) (v.alloc (.cells #[.int .u8 x0, .int .u8 x1, .int .u8 x2, .int .u8 x3] t)) := by
  subst h0 h1 h2 h3
  refine holds8_text (l := [y0, y1, y2, y3]) ?_ 4 4 rfl
  intro q hq
  have : q = 0 ∨ q = 1 ∨ q = 2 ∨ q = 3 := by simp at hq; omega
  rcases this with rfl | rfl | rfl | rfl <;> exact ⟨by rw [World.cell?_alloc_new]; rfl, World.frozen?_alloc_new _ _ _ _⟩
set_option maxRecDepth 100000 in
set_option maxHeartbeats 2000000 in
theorem putnum_any (n : Nat) (hn : n < 4294967296) (w : World) : Calls Try.prog 26 #[.int .i64 (n : Int)] w fun e w' => e = .returned (.string ⟨(le4 n).toArray⟩) ∧ Below w.heap.size w w' := by
  have TF := fun (v : World) (t : TypeId) => text_four v ((n : Int) % 256) ((n : Int) / 256 % 256) ((n : Int) / 65536 % 256) ((n : Int) / 16777216) (UInt8.ofNat n) (UInt8.ofNat (n / 256)) (UInt8.ofNat (n / 65536)) (UInt8.ofNat (n / 16777216)) (by simp) (by simp) (by simp) (by rw [UInt8.toNat_ofNat']; omega) t
  go_enter Try.func26, Try.ntmps26
  go_wp2_with fail
  go_returns
  exact ⟨rfl, below_alloc _ _⟩
set_option maxRecDepth 100000 in
set_option maxHeartbeats 2000000 in
theorem num4_any (s : ByteArray) (b0 b1 b2 b3 : UInt8) (h0 : s.toList[0]? = some b0) (h1 : s.toList[1]? = some b1) (h2 : s.toList[2]? = some b2) (h3 : s.toList[3]? = some b3) (w : World) : Calls Try.prog 45 #[.string s] w fun e w' => e = .returned (.int .u32 (b0.toNat + 256 * b1.toNat + 65536 * b2.toNat + 16777216 * b3.toNat : Nat)) ∧ Below w.heap.size w w' := by
  have I0 := idx_text s 0 b0 h0 0 rfl
  have I1 := idx_text s 1 b1 h1 1 rfl
  have I2 := idx_text s 2 b2 h2 2 rfl
  have I3 := idx_text s 3 b3 h3 3 rfl
  have l0 := UInt8.toNat_lt b0
  have l1 := UInt8.toNat_lt b1
  have l2 := UInt8.toNat_lt b2
  have l3 := UInt8.toNat_lt b3
  have w0 : IntKind.u32.wrap (b0.toNat : Int) = (b0.toNat : Int) := wrap_u32_nat (by omega)
  have w1 : IntKind.u32.wrap (b1.toNat : Int) = (b1.toNat : Int) := wrap_u32_nat (by omega)
  have w2 : IntKind.u32.wrap (b2.toNat : Int) = (b2.toNat : Int) := wrap_u32_nat (by omega)
  have w3 : IntKind.u32.wrap (b3.toNat : Int) = (b3.toNat : Int) := wrap_u32_nat (by omega)
  clear h0 h1 h2 h3
  go_enter Try.func45, Try.ntmps45
  go_wp2_with fail
  go_quiet (fail)
  go_wp2_with fail
  have e1 : bits .or .u32 (b0.toNat : Int) ((b1.toNat : Int) * 256) = ((b0.toNat + b1.toNat * 256 : Nat) : Int) := (or32_nat (b := b1.toNat * 256) (by omega) (by omega)).trans (by rw [or_low 8 (by omega)])
  have e2 : bits .or .u32 ((b0.toNat + b1.toNat * 256 : Nat) : Int) ((b2.toNat : Int) * 65536) = ((b0.toNat + b1.toNat * 256 + b2.toNat * 65536 : Nat) : Int) := (or32_nat (b := b2.toNat * 65536) (by omega) (by omega)).trans (by rw [or_low 16 (by omega)])
  have e3 : bits .or .u32 ((b0.toNat + b1.toNat * 256 + b2.toNat * 65536 : Nat) : Int) ((b3.toNat : Int) * 16777216) = ((b0.toNat + b1.toNat * 256 + b2.toNat * 65536 + b3.toNat * 16777216 : Nat) : Int) := (or32_nat (b := b3.toNat * 16777216) (by omega) (by omega)).trans (by rw [or_low 24 (by omega)])
  go_returns
  refine ⟨?_, below_drewN (Below.refl _ _)⟩
  show Ending.returned (.int .u32 (bits .or .u32 (bits .or .u32 (bits .or .u32 (b0.toNat : Int) ((b1.toNat : Int) * 256)) ((b2.toNat : Int) * 65536)) ((b3.toNat : Int) * 16777216))) = _
  rw [e1, e2, e3]
  congr 2
  omega
end Go.Proofs.Ytnmlifagchdphaa
