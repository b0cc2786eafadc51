/-
  Plain mathematics of blocks: a row's bytes, a block's bytes, what is read of them. No model's run in this text. No condition.
-/
import Derived.Test.YtlnklpnldmcopaaPack1
import Derived.Handy
import Derived.Deep.RegionHeld
import Derived.WalkKit
namespace Go.Proofs.Ytlnklpnldmcopaa
set_option maxRecDepth 100000
open Go.RowKit
/-- Not valid for another reason than a length. -/
def badR (x : Rw) : Bool := decide ((x.kind ≠ 1 ∧ x.kind ≠ 2) ∨ x.key.size = 0 ∨ x.seq < 1 ∨ 72057594037927936 ≤ x.seq ∨ (x.kind = 2 ∧ x.val.size ≠ 0))
def longR (x : Rw) : Bool := decide (520 < x.key.size ∨ 2048 < x.val.size)
def chkR (x : Rw) : Nat := if badR x = true then 2 else if longR x = true then 3 else 0
/-- In order. -/
def ordR : List Rw → Bool
  | [] => true
  | x :: r => (match r with | [] => true | y :: _ => ahd x y.key y.seq) && ordR r
def chkA (l : List Rw) (d : Int) : Nat := if d < 1 ∨ 64 < d ∨ ordR l = false then 2 else if l.any badR = true then 2 else if 1024 < l.length ∨ l.any longR = true then 3 else 0
/-- How many leading bytes two texts share. -/
def com : List UInt8 → List UInt8 → Nat
  | a :: s, b :: t => if a = b then com s t + 1 else 0
  | _, _ => 0
/-- A row's bytes, behind a key. -/
def valB (x : Rw) : List UInt8 := if x.kind = 1 then Code.uvar x.val.size ++ x.val.toList else []
def encX (p : List UInt8) (x : Rw) : List UInt8 :=
  Code.uvar (com p x.key.toList) ++ (Code.uvar (x.key.toList.drop (com p x.key.toList)).length ++ x.key.toList.drop (com p x.key.toList)) ++ Code.uvar x.seq ++ [UInt8.ofNat x.kind.toNat] ++ valB x
def rwZ : Rw := ⟨⟨#[]⟩, 0, 0, ⟨#[]⟩⟩
def rwAt (l : List Rw) (j : Nat) : Rw := l.getD j rwZ
/-- The key that stands ahead of row j. -/
def prvB (d : Nat) (l : List Rw) (j : Nat) : List UInt8 := if j % d = 0 then [] else (rwAt l (j - 1)).key.toList
def encI (d : Nat) (l : List Rw) (j : Nat) : List UInt8 := encX (prvB d l j) (rwAt l j)
/-- The bytes of the first n rows. -/
def bodB (d : Nat) (l : List Rw) (n : Nat) : List UInt8 := (List.range n).flatMap (encI d l)
def le4 (n : Nat) : List UInt8 := [UInt8.ofNat n, UInt8.ofNat (n / 256), UInt8.ofNat (n / 65536), UInt8.ofNat (n / 16777216)]
/-- The bytes of the restarts among the first n rows. -/
def rstB (d : Nat) (l : List Rw) (n : Nat) : List UInt8 := (List.range n).flatMap fun j => if j % d = 0 then le4 (bodB d l j).length else []
def tailB (r : List UInt8) (d : Nat) : List UInt8 := r ++ le4 (r.length / 4) ++ le4 d
def blkB (d : Nat) (l : List Rw) : List UInt8 := bodB d l l.length ++ tailB (rstB d l l.length) d
/-- The block of rows. -/
def IsB (s : List UInt8) (l : List Rw) (d : Nat) : Prop := chkA l d = 0 ∧ s = blkB d l ∧ s.length ≤ 65536
def buildB (l : List Rw) (d : Int) : List UInt8 × Nat := if chkA l d ≠ 0 then ([], chkA l d) else if 65536 < (blkB d.toNat l).length then ([], 3) else (blkB d.toNat l, 0)
theorem bodB_snoc (d : Nat) (l : List Rw) (n : Nat) : bodB d l (n + 1) = bodB d l n ++ encI d l n := by simp [bodB, List.range_succ]
theorem rstB_snoc (d : Nat) (l : List Rw) (n : Nat) : rstB d l (n + 1) = rstB d l n ++ (if n % d = 0 then le4 (bodB d l n).length else []) := by simp [rstB, List.range_succ]
theorem le4_len (n : Nat) : (le4 n).length = 4 := rfl
theorem rwAt_some {l : List Rw} {j : Nat} {x : Rw} (h : l[j]? = some x) : rwAt l j = x := by unfold rwAt; rw [List.getD_eq_getElem?_getD, h]; rfl
theorem rwAt_take (l : List Rw) {j n : Nat} (h : j < n) : rwAt (l.take n) j = rwAt l j := by unfold rwAt; rw [List.getD_eq_getElem?_getD, List.getD_eq_getElem?_getD, List.getElem?_take, if_pos h]
theorem encI_take (d : Nat) (l : List Rw) {j n : Nat} (h : j < n) : encI d (l.take n) j = encI d l j := by
  unfold encI prvB
  rw [rwAt_take l h]
  split
  · rfl
  · rw [rwAt_take l (by omega)]
theorem flat_congr {f g : Nat → List UInt8} {n : Nat} (h : ∀ j, j < n → f j = g j) : (List.range n).flatMap f = (List.range n).flatMap g := by
  induction n with
  | zero => rfl
  | succ n ih => rw [List.range_succ, List.flatMap_append, List.flatMap_append, ih (fun j hj => h j (by omega))]; simp [h n (by omega)]
theorem bodB_take (d : Nat) (l : List Rw) {m n : Nat} (h : m ≤ n) : bodB d (l.take n) m = bodB d l m := flat_congr fun j hj => encI_take d l (by omega)
theorem rstB_take (d : Nat) (l : List Rw) {m n : Nat} (h : m ≤ n) : rstB d (l.take n) m = rstB d l m := flat_congr fun j hj => by rw [bodB_take d l (by omega)]
theorem rstB_mod (d : Nat) (l : List Rw) : ∀ n, (rstB d l n).length % 4 = 0
  | 0 => rfl
  | n + 1 => by
    have := rstB_mod d l n
    rw [rstB_snoc, List.length_append]
    split <;> simp [le4] <;> omega
theorem rstB_le (d : Nat) (l : List Rw) : ∀ n, (rstB d l n).length ≤ 4 * n
  | 0 => Nat.le_refl _
  | n + 1 => by
    have := rstB_le d l n
    rw [rstB_snoc, List.length_append]
    split <;> simp [le4] <;> omega
theorem rstB_mono (d : Nat) (l : List Rw) (m : Nat) : ∀ k, (rstB d l m).length ≤ (rstB d l (m + k)).length
  | 0 => Nat.le_refl _
  | k + 1 => by
    have := rstB_mono d l m k
    rw [← Nat.add_assoc, rstB_snoc, List.length_append]; omega
theorem encX_pos (p : List UInt8) (x : Rw) : 0 < (encX p x).length := by
  unfold encX
  simp only [List.length_append, List.length_cons, List.length_nil]
  omega
theorem bodB_mono (d : Nat) (l : List Rw) (m : Nat) : ∀ k, (bodB d l m).length + k ≤ (bodB d l (m + k)).length
  | 0 => Nat.le_refl _
  | k + 1 => by
    have := bodB_mono d l m k
    have h := encX_pos (prvB d l (m + k)) (rwAt l (m + k))
    rw [← Nat.add_assoc, ← Nat.add_assoc, bodB_snoc, List.length_append]
    show _ ≤ _ + (encX _ _).length
    omega
theorem com_le : ∀ a b : List UInt8, com a b ≤ a.length ∧ com a b ≤ b.length
  | [], b => by simp [com]
  | _ :: _, [] => by simp [com]
  | x :: a, y :: b => by
    have := com_le a b
    rw [com]
    split <;> simp <;> omega
theorem com_nil (b : List UInt8) : com [] b = 0 := by simp [com]
theorem com_take : ∀ a b : List UInt8, a.take (com a b) = b.take (com a b)
  | [], b => by simp [com]
  | _ :: _, [] => by simp [com]
  | x :: a, y :: b => by
    rw [com]
    split
    · rename_i h; subst h; simp [com_take a b]
    · rfl
theorem com_drop : ∀ a b : List UInt8, com (a.drop (com a b)) (b.drop (com a b)) = 0
  | [], b => by simp [com]
  | _ :: _, [] => by simp [com]
  | x :: a, y :: b => by
    by_cases h : x = y
    · subst h; simp [com, com_drop a b]
    · simp [com, h]
theorem com_put : ∀ (n : Nat) (a f : List UInt8), n ≤ a.length → com (a.drop n) f = 0 → com a (a.take n ++ f) = n
  | 0, a, f, _, h => by simpa using h
  | n + 1, [], f, hn, _ => by simp at hn
  | n + 1, x :: a, f, hn, h => by
    have := com_put n a f (by simpa using hn) (by simpa using h)
    simp [com, this]
/-- The row with which bytes begin, behind a key, and what is behind it. -/
def cutX (s p : List UInt8) : Option (Rw × List UInt8) :=
  let a := Code.rd 0 s
  if a.2.2 ≠ 0 ∨ p.length < a.1 then none else
  let s1 := s.drop a.2.1
  let f := Code.rdField s1 520
  if f.2.2 ≠ 0 ∨ 0 < com (p.drop a.1) f.1 then none else
  let s2 := s1.drop f.2.1
  let q := Code.rd 0 s2
  if q.2.2 ≠ 0 then none else
  match s2.drop q.2.1 with
  | [] => none
  | k :: s3 =>
    let v := Code.rdField s3 2048
    if k.toNat = 1 then
      if v.2.2 ≠ 0 then none else
      let x : Rw := ⟨⟨(p.take a.1 ++ f.1).toArray⟩, q.1, (k.toNat : Int), ⟨v.1.toArray⟩⟩
      if chkR x ≠ 0 then none else some (x, s3.drop v.2.1)
    else
      let x : Rw := ⟨⟨(p.take a.1 ++ f.1).toArray⟩, q.1, (k.toNat : Int), ⟨#[]⟩⟩
      if chkR x ≠ 0 then none else some (x, s3)
theorem toL (l : List UInt8) : (⟨l.toArray⟩ : ByteArray).toList = l := by rw [ByteArray.toList_eq]
theorem toL_len (s : ByteArray) : s.toList.length = s.size := by rw [ByteArray.toList_eq]; simp
theorem ofL (s : ByteArray) : (⟨s.toList.toArray⟩ : ByteArray) = s := bytes_inj (toL _)
theorem chkR_ok {x : Rw} (h : chkR x = 0) : (x.kind = 1 ∨ x.kind = 2) ∧ x.key.toList ≠ [] ∧ 1 ≤ x.seq ∧ x.seq < 72057594037927936 ∧ (x.kind = 2 → x.val.toList = []) ∧ x.key.size ≤ 520 ∧ x.val.size ≤ 2048 := by
  unfold chkR at h
  split at h
  · cases h
  · split at h
    · cases h
    · rename_i h1 h2
      unfold badR at h1
      unfold longR at h2
      simp only [decide_eq_true_eq, not_or] at h1 h2
      refine ⟨by omega, ?_, by omega, by omega, fun e => ?_, by omega, by omega⟩
      · intro e
        have := toL_len x.key
        rw [e] at this
        exact h1.2.1 this.symm
      · have := toL_len x.val
        exact List.length_eq_zero_iff.1 (by omega)
theorem cutX_enc (p : List UInt8) (x : Rw) (hx : chkR x = 0) (t : List UInt8) (hp : p.length ≤ 520) : cutX (encX p x ++ t) p = some (x, t) := by
  obtain ⟨hk, hne, hs1, hs2, hd, hkl, hvl⟩ := chkR_ok hx
  obtain ⟨hc1, hc2⟩ := com_le p x.key.toList
  have htk := com_take p x.key.toList
  have hcd := com_drop p x.key.toList
  rw [← toL_len] at hkl hvl
  obtain ⟨c, hC⟩ : ∃ c, c = com p x.key.toList := ⟨_, rfl⟩
  unfold encX
  rw [← hC] at hc1 hc2 htk hcd ⊢
  obtain ⟨D, hD⟩ : ∃ D, D = x.key.toList.drop c := ⟨_, rfl⟩
  rw [← hD] at hcd ⊢
  have hDl : D.length ≤ 520 := by rw [hD, List.length_drop]; omega
  have e0 : p.take c ++ D = x.key.toList := by rw [htk, hD, List.take_append_drop]
  have r1 : ∀ u, Code.rd 0 (Code.uvar c ++ u) = (c, (Code.uvar c).length, 0) := fun u => Code.rd_uvar c 0 u (by omega) (by omega) (by simp; omega)
  have r2 : ∀ u, Code.rdField (Code.uvar D.length ++ D ++ u) 520 = (D, (Code.uvar D.length ++ D).length, 0) := fun u => Code.rdField_fld D u (by omega) 520 (by omega)
  have r3 : ∀ u, Code.rd 0 (Code.uvar x.seq ++ u) = (x.seq, (Code.uvar x.seq).length, 0) := fun u => Code.rd_uvar x.seq 0 u (by omega) (by omega) (by simp; omega)
  have r4 : ∀ u, Code.rdField (Code.uvar x.val.size ++ x.val.toList ++ u) 2048 = (x.val.toList, (Code.uvar x.val.size ++ x.val.toList).length, 0) := fun u => by
    have := Code.rdField_fld x.val.toList u (by omega) 2048 (by omega)
    rwa [toL_len] at this
  have assoc : Code.uvar c ++ (Code.uvar D.length ++ D) ++ Code.uvar x.seq ++ [UInt8.ofNat x.kind.toNat] ++ valB x ++ t = Code.uvar c ++ ((Code.uvar D.length ++ D) ++ (Code.uvar x.seq ++ (UInt8.ofNat x.kind.toNat :: (valB x ++ t)))) := by simp
  rw [assoc]
  unfold cutX
  simp only [r1, ne_eq, not_true_eq_false, false_or]
  rw [if_neg (by omega), List.drop_left]
  simp only [r2, not_true_eq_false, false_or]
  rw [hcd, if_neg (by omega), List.drop_left]
  simp only [r3, not_true_eq_false, if_false]
  rw [List.drop_left]
  have e0' : (⟨(p.take c ++ D).toArray⟩ : ByteArray) = x.key := by rw [e0, ofL]
  simp only [e0']
  rcases hk with hk | hk
  · have hn : (UInt8.ofNat x.kind.toNat).toNat = 1 := by rw [hk]; rfl
    have hv : valB x = Code.uvar x.val.size ++ x.val.toList := by unfold valB; rw [if_pos hk]
    simp only [hn, if_true, hv, r4, not_true_eq_false, if_false, ofL]
    have hxe : (⟨x.key, x.seq, ((1 : Nat) : Int), x.val⟩ : Rw) = x := by obtain ⟨a, b, k, v⟩ := x; simp only at hk; subst hk; rfl
    rw [hxe, hx, List.drop_left]
    simp
  · have hn : (UInt8.ofNat x.kind.toNat).toNat = 2 := by rw [hk]; rfl
    have hv : valB x = [] := by unfold valB; rw [if_neg (by omega)]
    simp only [hn, hv, List.nil_append]
    have hvv : x.val = ⟨#[]⟩ := bytes_inj (by rw [hd hk, toL])
    have hxe : (⟨x.key, x.seq, ((2 : Nat) : Int), ⟨#[]⟩⟩ : Rw) = x := by obtain ⟨a, b, k, v⟩ := x; simp only at hk hvv; subst hk; subst hvv; rfl
    rw [hxe, hx]
    simp
theorem cutX_only {s p t : List UInt8} {x : Rw} (h : cutX s p = some (x, t)) : s = encX p x ++ t ∧ chkR x = 0 := by
  unfold cutX at h
  simp only at h
  split at h
  · cases h
  rename_i h1
  split at h
  · cases h
  rename_i h2
  split at h
  · cases h
  rename_i h3
  split at h
  · cases h
  rename_i k s3 h4
  have h1a : (Code.rd 0 s).2.2 = 0 := by simpa using fun e => h1 (.inl e)
  have h1b : (Code.rd 0 s).1 ≤ p.length := by have := fun e => h1 (.inr e); omega
  have u1 := Code.put_uint s h1a
  obtain ⟨S1, hS1⟩ : ∃ S1, S1 = s.drop (Code.rd 0 s).2.1 := ⟨_, rfl⟩
  rw [← hS1] at h h2 h3 h4
  have h2a : (Code.rdField S1 520).2.2 = 0 := by simpa using fun e => h2 (.inl e)
  have h2b : com (p.drop (Code.rd 0 s).1) (Code.rdField S1 520).1 = 0 := by have := fun e => h2 (.inr e); omega
  have u2 := (Code.put_field S1 520 h2a).2.2
  obtain ⟨S2, hS2⟩ : ∃ S2, S2 = S1.drop (Code.rdField S1 520).2.1 := ⟨_, rfl⟩
  rw [← hS2] at h h3 h4
  have h3a : (Code.rd 0 S2).2.2 = 0 := by simpa using h3
  have u3 := Code.put_uint S2 h3a
  have cm := com_put _ _ _ h1b h2b
  have dr : (p.take (Code.rd 0 s).1 ++ (Code.rdField S1 520).1).drop (Code.rd 0 s).1 = (Code.rdField S1 520).1 := by
    rw [List.drop_append_of_le_length (by rw [List.length_take]; omega), List.drop_eq_nil_of_le (by rw [List.length_take]; omega), List.nil_append]
  have es : s = Code.uvar (Code.rd 0 s).1 ++ ((Code.uvar (Code.rdField S1 520).1.length ++ (Code.rdField S1 520).1) ++ (Code.uvar (Code.rd 0 S2).1 ++ (k :: s3))) := by
    rw [u2, u3, u1, ← h4, List.take_append_drop, hS2, List.take_append_drop, hS1, List.take_append_drop]
  obtain ⟨c, hc⟩ : ∃ c, c = (Code.rd 0 s).1 := ⟨_, rfl⟩
  rw [← hc] at h cm dr es
  obtain ⟨f, hf⟩ : ∃ f, f = (Code.rdField S1 520).1 := ⟨_, rfl⟩
  rw [← hf] at h cm dr es
  split at h
  · rename_i hk1
    split at h
    · cases h
    rename_i h5
    split at h
    · cases h
    rename_i h6
    simp only [Option.some.injEq, Prod.mk.injEq] at h
    obtain ⟨rfl, rfl⟩ := h
    have u5 := (Code.put_field s3 2048 (by simpa using h5)).2.2
    refine ⟨?_, by simpa using h6⟩
    unfold encX valB
    simp only [toL, cm, dr]
    have hk2 : (UInt8.ofNat ((k.toNat : Int).toNat)) = k := by simp
    have hsz : (⟨(Code.rdField s3 2048).1.toArray⟩ : ByteArray).size = (Code.rdField s3 2048).1.length := by show (Code.rdField s3 2048).1.toArray.size = _; simp
    rw [hk2, if_pos (by omega), hsz, u5, List.append_assoc, List.take_append_drop]
    simpa using es
  · rename_i hk1
    split at h
    · cases h
    rename_i h6
    simp only [Option.some.injEq, Prod.mk.injEq] at h
    obtain ⟨rfl, rfl⟩ := h
    refine ⟨?_, by simpa using h6⟩
    unfold encX valB
    simp only [toL, cm, dr]
    have hk2 : (UInt8.ofNat ((k.toNat : Int).toNat)) = k := by simp
    rw [hk2, if_neg (by omega)]
    simpa using es
end Go.Proofs.Ytlnklpnldmcopaa
/-
  What rows contain at a number; rows of one key side by side. No condition.
-/
namespace Go.Proofs.Ytlnklpnldmcopaa
set_option maxRecDepth 100000
open Go.RowKit
theorem ordR_sorted : ∀ l : List Rw, ordR l = true ↔ SortedR l
  | [] => by simp [ordR, SortedR]
  | [x] => by simp [ordR, SortedR]
  | x :: y :: r => by
    have ih := ordR_sorted (y :: r)
    rw [ordR, Bool.and_eq_true, ih]
    unfold SortedR
    constructor
    · rintro ⟨h1, h2⟩
      refine List.pairwise_cons.2 ⟨fun z hz => ?_, h2⟩
      rcases List.mem_cons.1 hz with rfl | hz
      · exact h1
      · exact ahd_trans h1 ((List.pairwise_cons.1 h2).1 z hz)
    · intro h
      have h := List.pairwise_cons.1 h
      exact ⟨h.1 y (List.mem_cons_self ..), h.2⟩
/-- A number sees the row x, which stands behind p. -/
def sees (n : Nat) (p : Option Rw) (x : Rw) : Bool := decide (x.seq ≤ n) && (match p with | none => true | some y => !decide (y.key.toList = x.key.toList) || decide (n < y.seq))
/-- The rows that are chosen, each by the one ahead of it. -/
def selL (f : Option Rw → Rw → Bool) : Option Rw → List Rw → List Rw
  | _, [] => []
  | p, x :: r => if f p x = true then x :: selL f (some x) r else selL f (some x) r
/-- The last one of rows that stand behind p. -/
def lastO : Option Rw → List Rw → Option Rw
  | p, [] => p
  | _, x :: r => lastO (some x) r
theorem lastO_app : ∀ (p : Option Rw) (a b : List Rw), lastO p (a ++ b) = lastO (lastO p a) b
  | _, [], _ => rfl
  | _, x :: r, b => lastO_app (some x) r b
theorem selL_app (f : Option Rw → Rw → Bool) : ∀ (p : Option Rw) (a b : List Rw), selL f p (a ++ b) = selL f p a ++ selL f (lastO p a) b
  | _, [], _ => rfl
  | p, x :: r, b => by
    rw [List.cons_append, selL, selL, lastO, selL_app f (some x) r b]
    split <;> simp
theorem lastO_take {l : List Rw} : ∀ {i : Nat} {x : Rw}, l[i]? = some x → lastO none (l.take (i + 1)) = some x := fun {i x} h => by
  have : l.take (i + 1) = l.take i ++ [x] := by rw [List.take_add_one, h]; rfl
  rw [this, lastO_app]; rfl
theorem selL_snoc (f : Option Rw → Rw → Bool) (p : Option Rw) (a : List Rw) (x : Rw) : selL f p (a ++ [x]) = selL f p a ++ (if f (lastO p a) x = true then [x] else []) := by
  rw [selL_app]; rfl
theorem selL_sub (f : Option Rw → Rw → Bool) : ∀ (p : Option Rw) (l : List Rw), (selL f p l).Sublist l
  | _, [] => List.Sublist.slnil
  | p, x :: r => by
    rw [selL]
    split
    · exact (selL_sub f (some x) r).cons_cons x
    · exact (selL_sub f (some x) r).cons x
/-- The rows from k on, so many, are those of one key. -/
structure IsRun (l : List Rw) (k r : Nat) : Prop where
  pos : 1 ≤ r
  le : k + r ≤ l.length
  same : ∀ (i : Nat) x y, i < r → l[k]? = some x → l[k + i]? = some y → y.key.toList = x.key.toList
  diff : ∀ x y, l[k]? = some x → l[k + r]? = some y → y.key.toList ≠ x.key.toList
/-- Another key ends ahead of k. -/
def Brk (l : List Rw) (k : Nat) : Prop := ∀ (j : Nat) x y, k = j + 1 → l[j]? = some x → l[k]? = some y → x.key.toList ≠ y.key.toList
theorem IsRun.brk {l : List Rw} {k r : Nat} (h : IsRun l k r) : Brk l (k + r) := by
  intro j x y hj hx hy e
  obtain ⟨z, hz⟩ : ∃ z, l[k]? = some z := ⟨_, List.getElem?_eq_getElem (by have := h.le; have := h.pos; omega)⟩
  have h1 := h.same (r - 1) z x (by have := h.pos; omega) hz (by rw [show k + (r - 1) = j by have := h.pos; omega]; exact hx)
  exact h.diff z y hz hy (e.symm.trans h1)
theorem brk_zero (l : List Rw) : Brk l 0 := by intro j x y h; omega
/-- Rows of one key, by falling numbers. -/
structure OneKey (K : List UInt8) (R : List Rw) : Prop where
  key : ∀ x ∈ R, x.key.toList = K
  fall : R.Pairwise fun x y => y.seq < x.seq
theorem OneKey.tail {K : List UInt8} {x : Rw} {R : List Rw} (h : OneKey K (x :: R)) : OneKey K R := ⟨fun y hy => h.key y (List.mem_cons_of_mem _ hy), (List.pairwise_cons.1 h.fall).2⟩
theorem IsRun.one {l : List Rw} {k r : Nat} (h : IsRun l k r) (hs : SortedR l) {x : Rw} (hx : l[k]? = some x) : OneKey x.key.toList ((l.drop k).take r) := by
  have hkey : ∀ y ∈ (l.drop k).take r, y.key.toList = x.key.toList := by
    intro y hy
    obtain ⟨i, hi⟩ := List.mem_iff_getElem?.1 hy
    have hir : i < r := by have := (List.getElem?_eq_some_iff.1 hi).1; rw [List.length_take] at this; omega
    rw [List.getElem?_take, if_pos hir, List.getElem?_drop] at hi
    exact h.same i x y hir hx hi
  refine ⟨hkey, ?_⟩
  have hs2 : ((l.drop k).take r).Pairwise fun x y => ahd x y.key y.seq = true := hs.sublist ((List.take_sublist _ _).trans (List.drop_sublist _ _))
  refine List.Pairwise.imp_of_mem ?_ hs2
  intro a b ha hb hab
  unfold ahd at hab
  rw [if_pos ((hkey a ha).trans (hkey b hb).symm)] at hab
  simpa using hab
theorem Brk.prev {l : List Rw} {k : Nat} (h : Brk l k) {x : Rw} (hx : l[k]? = some x) : ∀ y, lastO none (l.take k) = some y → y.key.toList ≠ x.key.toList := by
  intro y hy
  cases k with
  | zero => cases hy
  | succ j =>
    obtain ⟨z, hz⟩ : ∃ z, l[j]? = some z := ⟨_, List.getElem?_eq_getElem (by have := (List.getElem?_eq_some_iff.1 hx).1; omega)⟩
    rw [lastO_take hz] at hy
    obtain rfl := Option.some.inj hy
    exact h j _ x rfl hz hx
/-- Behind a row that the number sees it sees no other one of that key. -/
theorem sel_none {K : List UInt8} {n : Nat} : ∀ {R : List Rw} {z : Rw}, OneKey K R → z.key.toList = K → z.seq ≤ n → (∀ y ∈ R, y.seq < z.seq) → selL (sees n) (some z) R = []
  | [], _, _, _, _, _ => rfl
  | x :: R, z, h, hk, hz, hl => by
    have e : sees n (some z) x = false := by
      unfold sees
      simp only [hk, h.key x (List.mem_cons_self ..), decide_true, Bool.not_true, Bool.false_or]
      rw [decide_eq_false (show ¬ n < z.seq by omega), Bool.and_false]
    rw [selL, if_neg (by rw [e]; simp)]
    have := hl x (List.mem_cons_self ..)
    exact sel_none h.tail (h.key x (List.mem_cons_self ..)) (by omega) (List.pairwise_cons.1 h.fall).1
/-- Of the rows of one key a number sees the first one that is not too new. -/
theorem sel_first {K : List UInt8} {n : Nat} : ∀ {R : List Rw} {p : Option Rw}, OneKey K R → (∀ y, p = some y → y.key.toList ≠ K ∨ n < y.seq) → selL (sees n) p R = match R.find? (fun x => decide (x.seq ≤ n)) with | some x => [x] | none => []
  | [], _, _, _ => rfl
  | x :: R, p, h, hp => by
    by_cases hx : x.seq ≤ n
    · have e : sees n p x = true := by
        unfold sees
        rw [decide_eq_true hx, Bool.true_and]
        cases p with
        | none => rfl
        | some y =>
          simp only [h.key x (List.mem_cons_self ..)]
          rcases hp y rfl with h1 | h1
          · simp [h1]
          · simp [h1]
      rw [selL, if_pos e, List.find?_cons_of_pos (by simpa using hx), sel_none h.tail (h.key x (List.mem_cons_self ..)) hx (List.pairwise_cons.1 h.fall).1]
    · have e : sees n p x = false := by unfold sees; rw [decide_eq_false hx, Bool.false_and]
      rw [selL, if_neg (by rw [e]; simp), List.find?_cons_of_neg (by simpa using hx)]
      exact sel_first h.tail (fun y hy => by cases hy; exact .inr (by omega))
/-- The pairs that puts say. -/
def pairsOf (l : List Rw) : List (ByteArray × ByteArray) := (l.filter fun x => decide (x.kind = 1)).map fun x => (x.key, x.val)
theorem pairsOf_app (a b : List Rw) : pairsOf (a ++ b) = pairsOf a ++ pairsOf b := by unfold pairsOf; rw [List.filter_append, List.map_append]
/-- The contents of rows at a number. -/
def atL (n : Nat) (l : List Rw) : List (ByteArray × ByteArray) := pairsOf (selL (sees n) none l)
theorem atL_len (n : Nat) (l : List Rw) : (atL n l).length ≤ l.length := by
  unfold atL pairsOf
  rw [List.length_map]
  exact Nat.le_trans (List.length_filter_le _ _) (selL_sub _ _ _).length_le
theorem seg_take (l : List Rw) (k r : Nat) : l.take (k + r) = l.take k ++ (l.drop k).take r := by rw [List.take_add]
/-- One more key. -/
theorem atL_run {n : Nat} {l : List Rw} {k r : Nat} (hs : SortedR l) (h : IsRun l k r) (hb : Brk l k) :
    pairsOf (selL (sees n) none (l.take (k + r))) = pairsOf (selL (sees n) none (l.take k)) ++ (match ((l.drop k).take r).find? (fun x => decide (x.seq ≤ n)) with | some x => pairsOf [x] | none => []) := by
  obtain ⟨z, hz⟩ : ∃ z, l[k]? = some z := ⟨_, List.getElem?_eq_getElem (by have := h.le; have := h.pos; omega)⟩
  rw [seg_take, selL_app, pairsOf_app, sel_first (h.one hs hz) (fun y hy => .inl (hb.prev hz y hy))]
  cases ((l.drop k).take r).find? (fun x => decide (x.seq ≤ n)) <;> rfl
theorem find_at {P : Rw → Bool} {R : List Rw} {j : Nat} {x : Rw} (hx : R[j]? = some x) (hp : P x = true) (hno : ∀ (i : Nat) y, i < j → R[i]? = some y → P y = false) : R.find? P = some x := by
  induction R generalizing j with
  | nil => cases hx
  | cons a R ih =>
    cases j with
    | zero =>
      obtain rfl : a = x := by simpa using hx
      exact List.find?_cons_of_pos hp
    | succ j =>
      rw [List.find?_cons_of_neg (by rw [hno 0 a (by omega) rfl]; simp)]
      exact ih (j := j) (by simpa using hx) (fun i y hi hy => hno (i + 1) y (by omega) (by simpa using hy))
theorem find_no {P : Rw → Bool} {R : List Rw} (hno : ∀ (i : Nat) y, R[i]? = some y → P y = false) : R.find? P = none := by
  rw [List.find?_eq_none]
  intro y hy
  obtain ⟨i, hi⟩ := List.mem_iff_getElem?.1 hy
  rw [hno i y hi]; simp
end Go.Proofs.Ytlnklpnldmcopaa
/-
  A row as a value and in a block of its own; a row stands ahead, as the laws say it. No condition.
-/
namespace Go.Proofs.Ytlnklpnldmcopaa
set_option maxRecDepth 100000
open Go.RowKit
theorem cell_keep {w w2 : World} (hb : Below w.heap.size w w2) {b o : Nat} {v : Value} (h : w.cell? ⟨b, o, none⟩ = some v) : w2.cell? ⟨b, o, none⟩ = some v := (hb.cell (p := ⟨b, o, none⟩) (World.block_lt_of_cell? _ _ h)).trans h
/-- A row as a value. -/
abbrev rowV (x : Rw) : Value := .agg #[.string x.key, .int .u64 (x.seq : Int), .int .i64 x.kind, .string x.val]
/-- A row in a block of its own. -/
def RowAt (b : Nat) (x : Rw) (w : World) : Prop := w.heap[b]? = some (.cells #[.string x.key, .int .u64 (x.seq : Int), .int .i64 x.kind, .string x.val] 38 (0, 0))
theorem RowAt.below {b : Nat} {x : Rw} {w w' : World} (h : RowAt b x w) (hb : Below w.heap.size w w') : RowAt b x w' := (hb.block b (Array.getElem?_eq_some_iff.1 h).1).trans h
theorem RowAt.cells {b : Nat} {x : Rw} {w : World} (h : RowAt b x w) : (w.cell? ⟨b, 0, none⟩ = some (.string x.key) ∧ w.cell? ⟨b, 1, none⟩ = some (.int .u64 (x.seq : Int)) ∧ w.cell? ⟨b, 2, none⟩ = some (.int .i64 x.kind) ∧ w.cell? ⟨b, 3, none⟩ = some (.string x.val)) ∧ ∀ o, w.frozen? ⟨b, o, none⟩ = false := by
  unfold RowAt at h
  exact ⟨by simp [World.cell?, h], fun o => by simp [World.frozen?, h]⟩
theorem RowAt.new (x : Rw) (w : World) : RowAt w.heap.size x (w.alloc (.cells #[.string x.key, .int .u64 (x.seq : Int), .int .i64 x.kind, .string x.val] 38)) := heap_alloc_new _ _
/-- A row stands ahead, as the laws say it. -/
theorem ahd_parts (x : Rw) (k : ByteArray) (q : Nat) :
    (Op.bytesLess x.key.toList k.toList = true ∧ ahd x k q = true) ∨ (Op.bytesLess x.key.toList k.toList = false ∧ (x.key.toList == k.toList) = true ∧ ahd x k q = decide ((q : Int) < (x.seq : Int))) ∨ (Op.bytesLess x.key.toList k.toList = false ∧ (x.key.toList == k.toList) = false ∧ ahd x k q = false) := by
  have e2 : (decide (q < x.seq) : Bool) = decide ((q : Int) < (x.seq : Int)) := by congr 1; simp
  unfold ahd
  rw [less_before]
  by_cases e : x.key.toList = k.toList
  · rw [if_pos e]
    right; left
    exact ⟨by rw [e, WideAt.bytes_irrefl], by simpa using e, e2⟩
  · rw [if_neg e]
    cases h : bytesBefore x.key.toList k.toList with
    | true => exact .inl ⟨rfl, rfl⟩
    | false => exact .inr (.inr ⟨rfl, by simpa using e, rfl⟩)
theorem rs_row_at {w : World} {B : Nat} {a : Option Addr} {n c : Nat} {l : List Rw} (h : w.ownsRow B 38 4 (.slice a n c) n (rowR l)) (hl : l.length = n) : ∃ b, Rs a n c b 0 l w := by
  subst hl
  obtain ⟨a', c', b, e, r, _⟩ := rs_of_row h
  cases e
  exact ⟨b, r⟩
theorem grown_below {w w2 w3 : World} {o : Obj} {e : TypeId} {size n : Nat} {v : Value} {xs : List Value} (h : Below w.heap.size w w2) (hr : w2.ownsRow w.heap.size e size v n xs) (hg : (w2.alloc o).grownBy w3 v.ownBlock) : Below w.heap.size w w3 := by
  have h1 := h.alloc h.size o
  exact h1.grown hg h1.size (fun k hk => (World.ownsRow.lt hr k hk).1)
end Go.Proofs.Ytlnklpnldmcopaa
/-
  A drawn region whose loads are held by a condition, walked by hand: one operation taken, or passed over by its guard. No condition.
-/
namespace Go.Proofs.Ytlnklpnldmcopaa
set_option maxRecDepth 100000
open Go
variable {P : Program} {md : Region.Mode} {ops : Array Oper} {Q : Exit → Act → World → Prop} {S : World → Prop} {fuel : Nat} {listed : Array Bool} {a : Act} {w : World}
theorem held_take {i : Nat} {dst : Option Tmp} {op : Op} {type : TypeId} {pos : String} {after} {guard} {v : Value} (hi : ops[i]? = some { dst := dst, op := op, type := type, pos := pos, after := after, guard := guard })
    (hs : Region.noSelect ops = true) (hf : Region.free md ops listed i = true) (hr : (Region.ready md ops listed).contains i = true)
    (hQ : ∀ c a w, Q (.panic c) (a.put dst v) w → Q (.panic c) a w) (hw : Region.wanted { dst := dst, op := op, type := type, pos := pos, after := after, guard := guard } (yielded ops a.tmps) = true)
    (hy : ∀ w, S w → (execOp a.eval { dst := dst, op := op, type := type, pos := pos, after := after, guard := guard }).run P w = .ok (.value v) w) (hS : S w)
    (h : wpAnyH P md ops Q S fuel (listed.setIfInBounds i true) (a.put dst v) w) : wpAnyH P md ops Q S (fuel + 1) listed a w := wpAnyH_take hi hs hf hr hQ (Or.inl ⟨hw, hy⟩) hS h
theorem held_skip {i : Nat} {dst : Option Tmp} {op : Op} {type : TypeId} {pos : String} {after} {guard} (hi : ops[i]? = some { dst := dst, op := op, type := type, pos := pos, after := after, guard := guard })
    (hs : Region.noSelect ops = true) (hf : Region.free md ops listed i = true) (hr : (Region.ready md ops listed).contains i = true)
    (hQ : ∀ c a w, Q (.panic c) (a.put dst undef) w → Q (.panic c) a w) (hw : Region.wanted { dst := dst, op := op, type := type, pos := pos, after := after, guard := guard } (yielded ops a.tmps) = false) (hS : S w)
    (h : wpAnyH P md ops Q S fuel (listed.setIfInBounds i true) (a.put dst undef) w) : wpAnyH P md ops Q S (fuel + 1) listed a w := wpAnyH_take hi hs hf hr hQ (Or.inr ⟨hw, rfl⟩) hS h
theorem held_call {i : Nat} {dst : Option Tmp} {op : Op} {type : TypeId} {pos : String} {after} {guard} (hr : Region.ready md ops listed = [i]) (hi : ops[i]? = some { dst := dst, op := op, type := type, pos := pos, after := after, guard := guard })
    (hw : Region.wanted { dst := dst, op := op, type := type, pos := pos, after := after, guard := guard } (yielded ops a.tmps) = true)
    (h : ∀ K : Act → World → Prop, Shut (∀ a w, S w → (S w → wpAnyH P md ops Q S fuel (listed.setIfInBounds i true) a w) → K a w) → Oper.wp P { dst := dst, op := op, type := type, pos := pos, after := after, guard := guard } a w K Q) : wpAnyH P md ops Q S (fuel + 1) listed a w :=
  wpAnyH_ready hr (by simp) (AllReadyH.cons hi (fun K hK => by rw [if_pos hw]; exact h K hK) AllReadyH.nil)
/-- Two operations that may come first: each way. -/
theorem held_two {i j : Nat} {o1 o2 : Oper} (hr : Region.ready md ops listed = [i, j]) (hi : ops[i]? = some o1) (hj : ops[j]? = some o2)
    (hw : Region.wanted o1 (yielded ops a.tmps) = true) (hw2 : Region.wanted o2 (yielded ops a.tmps) = true)
    (h : ∀ K : Act → World → Prop, Shut (∀ a w, S w → (S w → wpAnyH P md ops Q S fuel (listed.setIfInBounds i true) a w) → K a w) → Oper.wp P o1 a w K Q)
    (h2 : ∀ K : Act → World → Prop, Shut (∀ a w, S w → (S w → wpAnyH P md ops Q S fuel (listed.setIfInBounds j true) a w) → K a w) → Oper.wp P o2 a w K Q) : wpAnyH P md ops Q S (fuel + 1) listed a w :=
  wpAnyH_ready hr (by simp) (AllReadyH.cons hi (fun K hK => by rw [if_pos hw]; exact h K hK) (AllReadyH.cons hj (fun K hK => by rw [if_pos hw2]; exact h2 K hK) AllReadyH.nil))
/-- Three operations that may come first: each way. -/
theorem held_three {i j k : Nat} {o1 o2 o3 : Oper} (hr : Region.ready md ops listed = [i, j, k]) (hi : ops[i]? = some o1) (hj : ops[j]? = some o2) (hk : ops[k]? = some o3)
    (hw : Region.wanted o1 (yielded ops a.tmps) = true) (hw2 : Region.wanted o2 (yielded ops a.tmps) = true) (hw3 : Region.wanted o3 (yielded ops a.tmps) = true)
    (h : ∀ K : Act → World → Prop, Shut (∀ a w, S w → (S w → wpAnyH P md ops Q S fuel (listed.setIfInBounds i true) a w) → K a w) → Oper.wp P o1 a w K Q)
    (h2 : ∀ K : Act → World → Prop, Shut (∀ a w, S w → (S w → wpAnyH P md ops Q S fuel (listed.setIfInBounds j true) a w) → K a w) → Oper.wp P o2 a w K Q)
    (h3 : ∀ K : Act → World → Prop, Shut (∀ a w, S w → (S w → wpAnyH P md ops Q S fuel (listed.setIfInBounds k true) a w) → K a w) → Oper.wp P o3 a w K Q) : wpAnyH P md ops Q S (fuel + 1) listed a w :=
  wpAnyH_ready hr (by simp) (AllReadyH.cons hi (fun K hK => by rw [if_pos hw]; exact h K hK) (AllReadyH.cons hj (fun K hK => by rw [if_pos hw2]; exact h2 K hK) (AllReadyH.cons hk (fun K hK => by rw [if_pos hw3]; exact h3 K hK) AllReadyH.nil)))
end Go.Proofs.Ytlnklpnldmcopaa
