/-
  Plain mathematics of blocks: a row's bytes, a block's bytes, what is read of them. No model's run in this text. No condition.
-/
import Derived.Test.YtkkegdhnkefogaaCodeMath2
import Derived.Test.YtkkegdhnkefogaaSkipMath
namespace Go.Proofs.Ytkkegdhnkefogaa
set_option maxRecDepth 100000
open Go.RowKit
/-- Not valid for another reason than a length. -/
def badR (x : Rw) : Bool := decide ((x.kind ≠ 1 ∧ x.kind ≠ 2) ∨ x.key.size = 0 ∨ x.seq < 1 ∨ 72057594037927936 ≤ x.seq ∨ (x.kind = 2 ∧ x.val.size ≠ 0))
def longR (x : Rw) : Bool := decide (520 < x.key.size ∨ 2048 < x.val.size)
def chkR (x : Rw) : Nat := if badR x = true then 2 else if longR x = true then 3 else 0
/-- In order. -/
def ordR : List Rw → Bool
  | [] => true
  | x :: r => (match r with | [] => true | y :: _ => ahd x y.key y.seq) && ordR r
def chkA (l : List Rw) (d : Int) : Nat := if d < 1 ∨ 64 < d ∨ ordR l = false then 2 else if l.any badR = true then 2 else if 1024 < l.length ∨ l.any longR = true then 3 else 0
/-- How many leading bytes two texts share. -/
def com : List UInt8 → List UInt8 → Nat
  | a :: s, b :: t => if a = b then com s t + 1 else 0
  | _, _ => 0
/-- A row's bytes, behind a key. -/
def valB (x : Rw) : List UInt8 := if x.kind = 1 then Code.uvar x.val.size ++ x.val.toList else []
def encX (p : List UInt8) (x : Rw) : List UInt8 :=
  Code.uvar (com p x.key.toList) ++ (Code.uvar (x.key.toList.drop (com p x.key.toList)).length ++ x.key.toList.drop (com p x.key.toList)) ++ Code.uvar x.seq ++ [UInt8.ofNat x.kind.toNat] ++ valB x
def rwZ : Rw := ⟨⟨#[]⟩, 0, 0, ⟨#[]⟩⟩
def rwAt (l : List Rw) (j : Nat) : Rw := l.getD j rwZ
/-- The key that stands ahead of row j. -/
def prvB (d : Nat) (l : List Rw) (j : Nat) : List UInt8 := if j % d = 0 then [] else (rwAt l (j - 1)).key.toList
def encI (d : Nat) (l : List Rw) (j : Nat) : List UInt8 := encX (prvB d l j) (rwAt l j)
/-- The bytes of the first n rows. -/
def bodB (d : Nat) (l : List Rw) (n : Nat) : List UInt8 := (List.range n).flatMap (encI d l)
def le4 (n : Nat) : List UInt8 := [UInt8.ofNat n, UInt8.ofNat (n / 256), UInt8.ofNat (n / 65536), UInt8.ofNat (n / 16777216)]
/-- The bytes of the restarts among the first n rows. -/
def rstB (d : Nat) (l : List Rw) (n : Nat) : List UInt8 := (List.range n).flatMap fun j => if j % d = 0 then le4 (bodB d l j).length else []
def tailB (r : List UInt8) (d : Nat) : List UInt8 := r ++ le4 (r.length / 4) ++ le4 d
def blkB (d : Nat) (l : List Rw) : List UInt8 := bodB d l l.length ++ tailB (rstB d l l.length) d
/-- The block of rows. -/
def IsB (s : List UInt8) (l : List Rw) (d : Nat) : Prop := chkA l d = 0 ∧ s = blkB d l ∧ s.length ≤ 65536
def buildB (l : List Rw) (d : Int) : List UInt8 × Nat := if chkA l d ≠ 0 then ([], chkA l d) else if 65536 < (blkB d.toNat l).length then ([], 3) else (blkB d.toNat l, 0)
theorem bodB_snoc (d : Nat) (l : List Rw) (n : Nat) : bodB d l (n + 1) = bodB d l n ++ encI d l n := by simp [bodB, List.range_succ]
theorem rstB_snoc (d : Nat) (l : List Rw) (n : Nat) : rstB d l (n + 1) = rstB d l n ++ (if n % d = 0 then le4 (bodB d l n).length else []) := by simp [rstB, List.range_succ]
theorem le4_len (n : Nat) : (le4 n).length = 4 := rfl
theorem rwAt_some {l : List Rw} {j : Nat} {x : Rw} (h : l[j]? = some x) : rwAt l j = x := by unfold rwAt; rw [List.getD_eq_getElem?_getD, h]; rfl
theorem rwAt_take (l : List Rw) {j n : Nat} (h : j < n) : rwAt (l.take n) j = rwAt l j := by unfold rwAt; rw [List.getD_eq_getElem?_getD, List.getD_eq_getElem?_getD, List.getElem?_take, if_pos h]
theorem encI_take (d : Nat) (l : List Rw) {j n : Nat} (h : j < n) : encI d (l.take n) j = encI d l j := by
  unfold encI prvB
  rw [rwAt_take l h]
  split
  · rfl
  · rw [rwAt_take l (by omega)]
theorem flat_congr {f g : Nat → List UInt8} {n : Nat} (h : ∀ j, j < n → f j = g j) : (List.range n).flatMap f = (List.range n).flatMap g := by
  induction n with
  | zero => rfl
  | succ n ih => rw [List.range_succ, List.flatMap_append, List.flatMap_append, ih (fun j hj => h j (by omega))]; simp [h n (by omega)]
theorem bodB_take (d : Nat) (l : List Rw) {m n : Nat} (h : m ≤ n) : bodB d (l.take n) m = bodB d l m := flat_congr fun j hj => encI_take d l (by omega)
theorem rstB_take (d : Nat) (l : List Rw) {m n : Nat} (h : m ≤ n) : rstB d (l.take n) m = rstB d l m := flat_congr fun j hj => by rw [bodB_take d l (by omega)]
theorem rstB_mod (d : Nat) (l : List Rw) : ∀ n, (rstB d l n).length % 4 = 0
  | 0 => rfl
  | n + 1 => by
    have := rstB_mod d l n
    rw [rstB_snoc, List.length_append]
    split <;> simp [le4] <;> omega
theorem rstB_le (d : Nat) (l : List Rw) : ∀ n, (rstB d l n).length ≤ 4 * n
  | 0 => Nat.le_refl _
  | n + 1 => by
    have := rstB_le d l n
    rw [rstB_snoc, List.length_append]
    split <;> simp [le4] <;> omega
theorem rstB_mono (d : Nat) (l : List Rw) (m : Nat) : ∀ k, (rstB d l m).length ≤ (rstB d l (m + k)).length
  | 0 => Nat.le_refl _
  | k + 1 => by
    have := rstB_mono d l m k
    rw [← Nat.add_assoc, rstB_snoc, List.length_append]; omega
theorem encX_pos (p : List UInt8) (x : Rw) : 0 < (encX p x).length := by
  unfold encX
  simp only [List.length_append, List.length_cons, List.length_nil]
  omega
theorem bodB_mono (d : Nat) (l : List Rw) (m : Nat) : ∀ k, (bodB d l m).length + k ≤ (bodB d l (m + k)).length
  | 0 => Nat.le_refl _
  | k + 1 => by
    have := bodB_mono d l m k
    have h := encX_pos (prvB d l (m + k)) (rwAt l (m + k))
    rw [← Nat.add_assoc, ← Nat.add_assoc, bodB_snoc, List.length_append]
    show _ ≤ _ + (encX _ _).length
    omega
theorem com_le : ∀ a b : List UInt8, com a b ≤ a.length ∧ com a b ≤ b.length
  | [], b => by simp [com]
  | _ :: _, [] => by simp [com]
  | x :: a, y :: b => by
    have := com_le a b
    rw [com]
    split <;> simp <;> omega
theorem com_nil (b : List UInt8) : com [] b = 0 := by simp [com]
theorem com_take : ∀ a b : List UInt8, a.take (com a b) = b.take (com a b)
  | [], b => by simp [com]
  | _ :: _, [] => by simp [com]
  | x :: a, y :: b => by
    rw [com]
    split
    · rename_i h; subst h; simp [com_take a b]
    · rfl
theorem com_drop : ∀ a b : List UInt8, com (a.drop (com a b)) (b.drop (com a b)) = 0
  | [], b => by simp [com]
  | _ :: _, [] => by simp [com]
  | x :: a, y :: b => by
    by_cases h : x = y
    · subst h; simp [com, com_drop a b]
    · simp [com, h]
theorem com_put : ∀ (n : Nat) (a f : List UInt8), n ≤ a.length → com (a.drop n) f = 0 → com a (a.take n ++ f) = n
  | 0, a, f, _, h => by simpa using h
  | n + 1, [], f, hn, _ => by simp at hn
  | n + 1, x :: a, f, hn, h => by
    have := com_put n a f (by simpa using hn) (by simpa using h)
    simp [com, this]
/-- The row with which bytes begin, behind a key, and what is behind it. -/
def cutX (s p : List UInt8) : Option (Rw × List UInt8) :=
  let a := Code.rd 0 s
  if a.2.2 ≠ 0 ∨ p.length < a.1 then none else
  let s1 := s.drop a.2.1
  let f := Code.rdField s1 520
  if f.2.2 ≠ 0 ∨ 0 < com (p.drop a.1) f.1 then none else
  let s2 := s1.drop f.2.1
  let q := Code.rd 0 s2
  if q.2.2 ≠ 0 then none else
  match s2.drop q.2.1 with
  | [] => none
  | k :: s3 =>
    let v := Code.rdField s3 2048
    if k.toNat = 1 then
      if v.2.2 ≠ 0 then none else
      let x : Rw := ⟨⟨(p.take a.1 ++ f.1).toArray⟩, q.1, (k.toNat : Int), ⟨v.1.toArray⟩⟩
      if chkR x ≠ 0 then none else some (x, s3.drop v.2.1)
    else
      let x : Rw := ⟨⟨(p.take a.1 ++ f.1).toArray⟩, q.1, (k.toNat : Int), ⟨#[]⟩⟩
      if chkR x ≠ 0 then none else some (x, s3)
theorem toL (l : List UInt8) : (⟨l.toArray⟩ : ByteArray).toList = l := by rw [ByteArray.toList_eq]
theorem toL_len (s : ByteArray) : s.toList.length = s.size := by rw [ByteArray.toList_eq]; simp
theorem ofL (s : ByteArray) : (⟨s.toList.toArray⟩ : ByteArray) = s := bytes_inj (toL _)
theorem chkR_ok {x : Rw} (h : chkR x = 0) : (x.kind = 1 ∨ x.kind = 2) ∧ x.key.toList ≠ [] ∧ 1 ≤ x.seq ∧ x.seq < 72057594037927936 ∧ (x.kind = 2 → x.val.toList = []) ∧ x.key.size ≤ 520 ∧ x.val.size ≤ 2048 := by
  unfold chkR at h
  split at h
  · cases h
  · split at h
    · cases h
    · rename_i h1 h2
      unfold badR at h1
      unfold longR at h2
      simp only [decide_eq_true_eq, not_or] at h1 h2
      refine ⟨by omega, ?_, by omega, by omega, fun e => ?_, by omega, by omega⟩
      · intro e
        have := toL_len x.key
        rw [e] at this
        exact h1.2.1 this.symm
      · have := toL_len x.val
        exact List.length_eq_zero_iff.1 (by omega)
theorem cutX_enc (p : List UInt8) (x : Rw) (hx : chkR x = 0) (t : List UInt8) (hp : p.length ≤ 520) : cutX (encX p x ++ t) p = some (x, t) := by
  obtain ⟨hk, hne, hs1, hs2, hd, hkl, hvl⟩ := chkR_ok hx
  obtain ⟨hc1, hc2⟩ := com_le p x.key.toList
  have htk := com_take p x.key.toList
  have hcd := com_drop p x.key.toList
  rw [← toL_len] at hkl hvl
  obtain ⟨c, hC⟩ : ∃ c, c = com p x.key.toList := ⟨_, rfl⟩
  unfold encX
  rw [← hC] at hc1 hc2 htk hcd ⊢
  obtain ⟨D, hD⟩ : ∃ D, D = x.key.toList.drop c := ⟨_, rfl⟩
  rw [← hD] at hcd ⊢
  have hDl : D.length ≤ 520 := by rw [hD, List.length_drop]; omega
  have e0 : p.take c ++ D = x.key.toList := by rw [htk, hD, List.take_append_drop]
  have r1 : ∀ u, Code.rd 0 (Code.uvar c ++ u) = (c, (Code.uvar c).length, 0) := fun u => Code.rd_uvar c 0 u (by omega) (by omega) (by simp; omega)
  have r2 : ∀ u, Code.rdField (Code.uvar D.length ++ D ++ u) 520 = (D, (Code.uvar D.length ++ D).length, 0) := fun u => Code.rdField_fld D u (by omega) 520 (by omega)
  have r3 : ∀ u, Code.rd 0 (Code.uvar x.seq ++ u) = (x.seq, (Code.uvar x.seq).length, 0) := fun u => Code.rd_uvar x.seq 0 u (by omega) (by omega) (by simp; omega)
  have r4 : ∀ u, Code.rdField (Code.uvar x.val.size ++ x.val.toList ++ u) 2048 = (x.val.toList, (Code.uvar x.val.size ++ x.val.toList).length, 0) := fun u => by
    have := Code.rdField_fld x.val.toList u (by omega) 2048 (by omega)
    rwa [toL_len] at this
  have assoc : Code.uvar c ++ (Code.uvar D.length ++ D) ++ Code.uvar x.seq ++ [UInt8.ofNat x.kind.toNat] ++ valB x ++ t = Code.uvar c ++ ((Code.uvar D.length ++ D) ++ (Code.uvar x.seq ++ (UInt8.ofNat x.kind.toNat :: (valB x ++ t)))) := by simp
  rw [assoc]
  unfold cutX
  simp only [r1, ne_eq, not_true_eq_false, false_or]
  rw [if_neg (by omega), List.drop_left]
  simp only [r2, not_true_eq_false, false_or]
  rw [hcd, if_neg (by omega), List.drop_left]
  simp only [r3, not_true_eq_false, if_false]
  rw [List.drop_left]
  have e0' : (⟨(p.take c ++ D).toArray⟩ : ByteArray) = x.key := by rw [e0, ofL]
  simp only [e0']
  rcases hk with hk | hk
  · have hn : (UInt8.ofNat x.kind.toNat).toNat = 1 := by rw [hk]; rfl
    have hv : valB x = Code.uvar x.val.size ++ x.val.toList := by unfold valB; rw [if_pos hk]
    simp only [hn, if_true, hv, r4, not_true_eq_false, if_false, ofL]
    have hxe : (⟨x.key, x.seq, ((1 : Nat) : Int), x.val⟩ : Rw) = x := by obtain ⟨a, b, k, v⟩ := x; simp only at hk; subst hk; rfl
    rw [hxe, hx, List.drop_left]
    simp
  · have hn : (UInt8.ofNat x.kind.toNat).toNat = 2 := by rw [hk]; rfl
    have hv : valB x = [] := by unfold valB; rw [if_neg (by omega)]
    simp only [hn, hv, List.nil_append]
    have hvv : x.val = ⟨#[]⟩ := bytes_inj (by rw [hd hk, toL])
    have hxe : (⟨x.key, x.seq, ((2 : Nat) : Int), ⟨#[]⟩⟩ : Rw) = x := by obtain ⟨a, b, k, v⟩ := x; simp only at hk hvv; subst hk; subst hvv; rfl
    rw [hxe, hx]
    simp
theorem cutX_only {s p t : List UInt8} {x : Rw} (h : cutX s p = some (x, t)) : s = encX p x ++ t ∧ chkR x = 0 := by
  unfold cutX at h
  simp only at h
  split at h
  · cases h
  rename_i h1
  split at h
  · cases h
  rename_i h2
  split at h
  · cases h
  rename_i h3
  split at h
  · cases h
  rename_i k s3 h4
  have h1a : (Code.rd 0 s).2.2 = 0 := by simpa using fun e => h1 (.inl e)
  have h1b : (Code.rd 0 s).1 ≤ p.length := by have := fun e => h1 (.inr e); omega
  have u1 := Code.put_uint s h1a
  obtain ⟨S1, hS1⟩ : ∃ S1, S1 = s.drop (Code.rd 0 s).2.1 := ⟨_, rfl⟩
  rw [← hS1] at h h2 h3 h4
  have h2a : (Code.rdField S1 520).2.2 = 0 := by simpa using fun e => h2 (.inl e)
  have h2b : com (p.drop (Code.rd 0 s).1) (Code.rdField S1 520).1 = 0 := by have := fun e => h2 (.inr e); omega
  have u2 := (Code.put_field S1 520 h2a).2.2
  obtain ⟨S2, hS2⟩ : ∃ S2, S2 = S1.drop (Code.rdField S1 520).2.1 := ⟨_, rfl⟩
  rw [← hS2] at h h3 h4
  have h3a : (Code.rd 0 S2).2.2 = 0 := by simpa using h3
  have u3 := Code.put_uint S2 h3a
  have cm := com_put _ _ _ h1b h2b
  have dr : (p.take (Code.rd 0 s).1 ++ (Code.rdField S1 520).1).drop (Code.rd 0 s).1 = (Code.rdField S1 520).1 := by
    rw [List.drop_append_of_le_length (by rw [List.length_take]; omega), List.drop_eq_nil_of_le (by rw [List.length_take]; omega), List.nil_append]
  have es : s = Code.uvar (Code.rd 0 s).1 ++ ((Code.uvar (Code.rdField S1 520).1.length ++ (Code.rdField S1 520).1) ++ (Code.uvar (Code.rd 0 S2).1 ++ (k :: s3))) := by
    rw [u2, u3, u1, ← h4, List.take_append_drop, hS2, List.take_append_drop, hS1, List.take_append_drop]
  obtain ⟨c, hc⟩ : ∃ c, c = (Code.rd 0 s).1 := ⟨_, rfl⟩
  rw [← hc] at h cm dr es
  obtain ⟨f, hf⟩ : ∃ f, f = (Code.rdField S1 520).1 := ⟨_, rfl⟩
  rw [← hf] at h cm dr es
  split at h
  · rename_i hk1
    split at h
    · cases h
    rename_i h5
    split at h
    · cases h
    rename_i h6
    simp only [Option.some.injEq, Prod.mk.injEq] at h
    obtain ⟨rfl, rfl⟩ := h
    have u5 := (Code.put_field s3 2048 (by simpa using h5)).2.2
    refine ⟨?_, by simpa using h6⟩
    unfold encX valB
    simp only [toL, cm, dr]
    have hk2 : (UInt8.ofNat ((k.toNat : Int).toNat)) = k := by simp
    have hsz : (⟨(Code.rdField s3 2048).1.toArray⟩ : ByteArray).size = (Code.rdField s3 2048).1.length := by show (Code.rdField s3 2048).1.toArray.size = _; simp
    rw [hk2, if_pos (by omega), hsz, u5, List.append_assoc, List.take_append_drop]
    simpa using es
  · rename_i hk1
    split at h
    · cases h
    rename_i h6
    simp only [Option.some.injEq, Prod.mk.injEq] at h
    obtain ⟨rfl, rfl⟩ := h
    refine ⟨?_, by simpa using h6⟩
    unfold encX valB
    simp only [toL, cm, dr]
    have hk2 : (UInt8.ofNat ((k.toNat : Int).toNat)) = k := by simp
    rw [hk2, if_neg (by omega)]
    simpa using es
end Go.Proofs.Ytkkegdhnkefogaa
