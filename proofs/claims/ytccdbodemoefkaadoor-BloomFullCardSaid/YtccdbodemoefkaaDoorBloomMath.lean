/-
  Bloom filters as lists of bytes: the bits of a key, what is set, what is counted. No condition.
-/
import Derived.Test.YtccdbodemoefkaaDoorSumHash
namespace Go.Proofs.YtccdbodemoefkaaDoor
set_option maxRecDepth 100000
namespace Blm
def idx (key : List UInt8) (i : Nat) : BitVec 32 := Crc.hash 1#32 key + BitVec.ofNat 32 i * (Crc.hash 2#32 key ||| 1#32)
def pos (m : Nat) (key : List UInt8) (i : Nat) : Nat := (idx key i).toNat % m
def bit (p : Nat) : UInt8 := UInt8.ofNat (2 ^ p)
def tst (c : UInt8) (p : Nat) : Bool := c.toNat.testBit p
def getB (l : List UInt8) (q : Nat) : Bool := tst (l[q / 8]?.getD 0) (q % 8)
def setB (l : List UInt8) (q : Nat) : List UInt8 := l.set (q / 8) (l[q / 8]?.getD 0 ||| bit (q % 8))
def addK (m : Nat) (key : List UInt8) : Nat → List UInt8 → List UInt8
  | 0, l => l
  | i + 1, l => setB (addK m key i l) (pos m key i)
def filt (k n : Nat) (keys : List (List UInt8)) : List UInt8 := keys.foldl (fun l key => addK (8 * n) key k l) (List.replicate n 0)
/-- All of the first i bits of a key are there. -/
def hasK (m : Nat) (l : List UInt8) (key : List UInt8) : Nat → Bool
  | 0 => true
  | i + 1 => hasK m l key i && getB l (pos m key i)
def tab : List Int := [0, 1, 1, 2, 1, 2, 2, 3, 1, 2, 2, 3, 2, 3, 3, 4]
def pop (c : UInt8) : Nat := ((List.range 8).filter fun p => tst c p).length
def ones (l : List UInt8) : Nat := (l.map pop).sum
theorem idx_zero (key : List UInt8) : idx key 0 = Crc.hash 1#32 key := by unfold idx; simp
theorem idx_succ (key : List UInt8) (i : Nat) : idx key (i + 1) = idx key i + (Crc.hash 2#32 key ||| 1#32) := by
  unfold idx
  rw [BitVec.ofNat_add, BitVec.add_mul, BitVec.add_assoc]
  congr 1
  congr 1
  exact BitVec.one_mul _
theorem pos_lt {m : Nat} (h : 0 < m) (key : List UInt8) (i : Nat) : pos m key i < m := Nat.mod_lt _ h
theorem bit_toNat (p : Nat) (hp : p < 8) : (bit p).toNat = 2 ^ p := by
  unfold bit
  have : 2 ^ p < 256 := Nat.pow_lt_pow_right (by omega) (show p < 8 from hp)
  rw [UInt8.toNat_ofNat']
  exact Nat.mod_eq_of_lt this
theorem tst_or (c : UInt8) (p q : Nat) (hp : p < 8) : tst (c ||| bit p) q = (tst c q || decide (p = q)) := by
  unfold tst
  rw [UInt8.toNat_or, Nat.testBit_or, bit_toNat p hp, Nat.testBit_two_pow]
theorem tst_zero (q : Nat) : tst 0 q = false := by unfold tst; simp
theorem tst_all (q : Nat) (hq : q < 8) : tst 255 q = true := by
  have : ∀ q : Fin 8, tst 255 q.val = true := by decide +kernel
  exact this ⟨q, hq⟩
theorem tst_ext {c d : UInt8} (h : ∀ q, q < 8 → tst c q = tst d q) : c = d := by
  apply UInt8.toNat_inj.1
  apply Nat.eq_of_testBit_eq
  intro q
  by_cases hq : q < 8
  · exact h q hq
  · have hc := UInt8.toNat_lt c
    have hd := UInt8.toNat_lt d
    have hp : 2 ^ 8 ≤ 2 ^ q := Nat.pow_le_pow_right (by omega) (by omega)
    rw [Nat.testBit_lt_two_pow (by omega), Nat.testBit_lt_two_pow (by omega)]
theorem tst_sub {c d : UInt8} (h : ∀ q, q < 8 → tst c q = true → tst d q = true) : c &&& ~~~d = 0 := by
  apply tst_ext
  intro q hq
  have h1 := h q hq
  rw [tst_zero]
  unfold tst at h1 ⊢
  have e : (~~~d).toNat = 255 - d.toNat := by simp
  have hd := UInt8.toNat_lt d
  rw [UInt8.toNat_and, Nat.testBit_and, e, show 255 - d.toNat = 2 ^ 8 - (d.toNat + 1) by omega, Nat.testBit_two_pow_sub_succ (by omega)]
  by_cases hc : c.toNat.testBit q = true
  · simp [hc, h1 hc]
  · simp [hc]
theorem setB_length (l : List UInt8) (q : Nat) : (setB l q).length = l.length := by unfold setB; simp
theorem addK_length (m : Nat) (key : List UInt8) (i : Nat) (l : List UInt8) : (addK m key i l).length = l.length := by
  induction i with
  | zero => rfl
  | succ i ih => rw [addK, setB_length, ih]
theorem filt_fold_length (k m : Nat) : ∀ (keys : List (List UInt8)) (l : List UInt8), (keys.foldl (fun l key => addK m key k l) l).length = l.length
  | [], _ => rfl
  | x :: r, l => by rw [List.foldl_cons, filt_fold_length k m r, addK_length]
theorem filt_length (k n : Nat) (keys : List (List UInt8)) : (filt k n keys).length = n := by unfold filt; rw [filt_fold_length]; simp
theorem filt_snoc (k n : Nat) (keys : List (List UInt8)) (x : List UInt8) : filt k n (keys ++ [x]) = addK (8 * n) x k (filt k n keys) := by unfold filt; rw [List.foldl_append]; rfl
theorem getB_setB (l : List UInt8) (p q : Nat) (hp : p < 8 * l.length) : getB (setB l p) q = (getB l q || decide (p = q)) := by
  have h8 : p / 8 < l.length := by omega
  unfold getB setB
  rw [List.getElem?_set]
  by_cases e : p / 8 = q / 8
  · rw [if_pos e, if_pos (by omega), ← e, Option.getD_some, tst_or _ _ _ (by omega)]
    congr 1
    apply decide_eq_decide.2
    omega
  · rw [if_neg e, show decide (p = q) = false from decide_eq_false (by omega), Bool.or_false]
theorem getB_addK (m : Nat) (key : List UInt8) (i : Nat) (l : List UInt8) (hm : m = 8 * l.length) (h0 : 0 < m) (q : Nat) : getB (addK m key i l) q = true ↔ getB l q = true ∨ ∃ j, j < i ∧ pos m key j = q := by
  induction i with
  | zero => simp [addK]
  | succ i ih =>
    rw [addK, getB_setB _ _ _ (by rw [addK_length, ← hm]; exact pos_lt h0 _ _), Bool.or_eq_true, ih]
    constructor
    · rintro ((h | ⟨j, hj, he⟩) | h)
      · exact .inl h
      · exact .inr ⟨j, by omega, he⟩
      · exact .inr ⟨i, by omega, of_decide_eq_true h⟩
    · rintro (h | ⟨j, hj, he⟩)
      · exact .inl (.inl h)
      · by_cases hji : j = i
        · subst hji; exact .inr (decide_eq_true he)
        · exact .inl (.inr ⟨j, by omega, he⟩)
theorem getB_zeros (n q : Nat) : getB (List.replicate n 0) q = false := by
  unfold getB
  rw [List.getElem?_replicate]
  split <;> exact tst_zero _
theorem getB_filt (k n : Nat) (hn : 0 < n) (keys : List (List UInt8)) (q : Nat) : getB (filt k n keys) q = true ↔ ∃ key ∈ keys, ∃ j, j < k ∧ pos (8 * n) key j = q := by
  have gen : ∀ (keys : List (List UInt8)) (l : List UInt8), l.length = n → (getB (keys.foldl (fun l key => addK (8 * n) key k l) l) q = true ↔ getB l q = true ∨ ∃ key ∈ keys, ∃ j, j < k ∧ pos (8 * n) key j = q) := by
    intro keys
    induction keys with
    | nil => intro l _; simp
    | cons x r ih =>
      intro l hl
      rw [List.foldl_cons, ih _ (by rw [addK_length, hl]), getB_addK _ _ _ _ (by rw [hl]) (by omega)]
      constructor
      · rintro ((h | h) | ⟨key, hk, h⟩)
        · exact .inl h
        · exact .inr ⟨x, List.mem_cons_self .., h⟩
        · exact .inr ⟨key, List.mem_cons_of_mem _ hk, h⟩
      · rintro (h | ⟨key, hk, h⟩)
        · exact .inl (.inl h)
        · rcases List.mem_cons.1 hk with rfl | hk
          · exact .inl (.inr h)
          · exact .inr ⟨key, hk, h⟩
  unfold filt
  rw [gen keys _ (by simp), getB_zeros]
  simp
theorem getB_ext {l r : List UInt8} (hl : l.length = r.length) (h : ∀ q, q < 8 * l.length → getB l q = getB r q) : l = r := by
  apply List.ext_getElem hl
  intro i h1 h2
  apply tst_ext
  intro p hp
  have := h (8 * i + p) (by omega)
  unfold getB at this
  rw [show (8 * i + p) / 8 = i by omega, show (8 * i + p) % 8 = p by omega, List.getElem?_eq_getElem h1, List.getElem?_eq_getElem h2] at this
  exact this
theorem filt_same (k n : Nat) (hn : 0 < n) (keys other : List (List UInt8)) (h : ∀ x, x ∈ keys ↔ x ∈ other) : filt k n keys = filt k n other := by
  apply getB_ext (by rw [filt_length, filt_length])
  intro q _
  apply Bool.eq_iff_iff.2
  rw [getB_filt k n hn, getB_filt k n hn]
  exact ⟨fun ⟨x, hx, h'⟩ => ⟨x, (h x).1 hx, h'⟩, fun ⟨x, hx, h'⟩ => ⟨x, (h x).2 hx, h'⟩⟩
theorem filt_sub (k n : Nat) (hn : 0 < n) (some all : List (List UInt8)) (h : ∀ x, x ∈ some → x ∈ all) (i : Nat) (h1 : i < (filt k n some).length) (h2 : i < (filt k n all).length) : (filt k n some)[i] &&& ~~~((filt k n all)[i]) = 0 := by
  apply tst_sub
  intro p hp hs
  have e : ∀ (l : List UInt8) (hi : i < l.length), getB l (8 * i + p) = tst l[i] p := by
    intro l hi
    unfold getB
    rw [show (8 * i + p) / 8 = i by omega, show (8 * i + p) % 8 = p by omega, List.getElem?_eq_getElem hi]
    rfl
  rw [← e _ h1, getB_filt k n hn] at hs
  rw [← e _ h2, getB_filt k n hn]
  obtain ⟨x, hx, h'⟩ := hs
  exact ⟨x, h x hx, h'⟩
theorem hasK_iff (m : Nat) (l key : List UInt8) (i : Nat) : hasK m l key i = true ↔ ∀ j, j < i → getB l (pos m key j) = true := by
  induction i with
  | zero => simp [hasK]
  | succ i ih =>
    rw [hasK, Bool.and_eq_true, ih]
    constructor
    · rintro ⟨h, h'⟩ j hj
      by_cases e : j = i
      · subst e; exact h'
      · exact h j (by omega)
    · intro h
      exact ⟨fun j hj => h j (by omega), h i (by omega)⟩
theorem hasK_false {m : Nat} {l key : List UInt8} {i j : Nat} (hj : j < i) (h : getB l (pos m key j) = false) : hasK m l key i = false := by
  rw [Bool.eq_false_iff]
  intro h'
  rw [hasK_iff] at h'
  rw [h' j hj] at h; cases h
theorem has_filt (k n : Nat) (hn : 0 < n) (keys : List (List UInt8)) (x : List UInt8) (hx : x ∈ keys) : hasK (8 * n) (filt k n keys) x k = true := by
  rw [hasK_iff]
  intro j hj
  rw [getB_filt k n hn]
  exact ⟨x, hx, j, hj, rfl⟩
theorem has_all (k n : Nat) (hn : 0 < n) (x : List UInt8) : hasK (8 * n) (List.replicate n 255) x k = true := by
  rw [hasK_iff]
  intro j hj
  have := pos_lt (m := 8 * n) (by omega) x j
  unfold getB
  rw [List.getElem?_replicate, if_pos (by omega)]
  exact tst_all _ (by omega)
theorem has_none (k n : Nat) (hk : 0 < k) (x : List UInt8) : hasK (8 * n) (List.replicate n 0) x k = false := hasK_false hk (getB_zeros _ _)
theorem pop_table (c : UInt8) : (pop c : Int) = (tab.getD (c.toNat % 16) 0) + tab.getD (c.toNat / 16) 0 := by
  have : ∀ c : Fin 256, (pop (UInt8.ofNat c.val) : Int) = (tab.getD (c.val % 16) 0) + tab.getD (c.val / 16) 0 := by decide +kernel
  simpa using this ⟨c.toNat, UInt8.toNat_lt c⟩
theorem pop_or (c : UInt8) (p : Nat) (hp : p < 8) : pop (c ||| bit p) ≤ pop c + 1 := by
  have : ∀ (c : Fin 256) (p : Fin 8), pop (UInt8.ofNat c.val ||| bit p.val) ≤ pop (UInt8.ofNat c.val) + 1 := by decide +kernel
  simpa using this ⟨c.toNat, UInt8.toNat_lt c⟩ ⟨p, hp⟩
theorem pop_le (c : UInt8) : pop c ≤ 8 := by unfold pop; exact (List.length_filter_le _ _)
/-- What is counted of a byte that is halved again and again. -/
def low (c : Nat) : Nat → Nat
  | 0 => 0
  | i + 1 => low c i + c / 2 ^ i % 2
theorem low_pop (c : UInt8) (i : Nat) (hi : i ≤ 8) (h : c.toNat / 2 ^ i = 0) : low c.toNat i = pop c := by
  have : ∀ (c : Fin 256) (i : Fin 9), c.val / 2 ^ i.val = 0 → low c.val i.val = pop (UInt8.ofNat c.val) := by decide +kernel
  have := this ⟨c.toNat, UInt8.toNat_lt c⟩ ⟨i, by omega⟩ h
  simpa using this
theorem ones_nil : ones [] = 0 := rfl
theorem ones_cons (c : UInt8) (l : List UInt8) : ones (c :: l) = pop c + ones l := rfl
theorem ones_snoc (l : List UInt8) (c : UInt8) : ones (l ++ [c]) = ones l + pop c := by unfold ones; simp
theorem ones_le (l : List UInt8) : ones l ≤ 8 * l.length := by
  induction l with
  | nil => simp [ones]
  | cons x r ih => rw [ones_cons, List.length_cons]; have := pop_le x; omega
theorem ones_replicate (n : Nat) (c : UInt8) : ones (List.replicate n c) = n * pop c := by unfold ones; simp
theorem ones_set : ∀ (l : List UInt8) (i : Nat) (c : UInt8), pop c ≤ pop (l[i]?.getD 0) + 1 → ones (l.set i c) ≤ ones l + 1
  | [], _, _, _ => by simp [ones]
  | x :: r, 0, c, h => by simp only [List.set_cons_zero, ones_cons]; simp at h; omega
  | x :: r, i + 1, c, h => by
    rw [List.set_cons_succ, ones_cons, ones_cons]
    have := ones_set r i c (by simpa using h)
    omega
theorem ones_setB (l : List UInt8) (p : Nat) : ones (setB l p) ≤ ones l + 1 := by unfold setB; exact ones_set _ _ _ (pop_or _ _ (by omega))
theorem ones_addK (m : Nat) (key : List UInt8) (i : Nat) (l : List UInt8) : ones (addK m key i l) ≤ ones l + i := by
  induction i with
  | zero => exact Nat.le_refl _
  | succ i ih => rw [addK]; have := ones_setB (addK m key i l) (pos m key i); omega
theorem ones_filt (k n : Nat) (keys : List (List UInt8)) : ones (filt k n keys) ≤ k * keys.length := by
  have gen : ∀ (keys : List (List UInt8)) (l : List UInt8), ones (keys.foldl (fun l key => addK (8 * n) key k l) l) ≤ ones l + k * keys.length := by
    intro keys
    induction keys with
    | nil => intro l; simp
    | cons x r ih =>
      intro l
      rw [List.foldl_cons, List.length_cons, Nat.mul_add]
      have h1 := ih (addK (8 * n) x k l)
      have h2 := ones_addK (8 * n) x k l
      omega
  have := gen keys (List.replicate n 0)
  rw [ones_replicate, show pop 0 = 0 from rfl] at this
  unfold filt
  omega
/-- The bytes after the first of a filter's text, and the number of probes. -/
def wide (n bits : Nat) : Nat := max ((n * bits + 7) / 8) 8
def probes (bits : Nat) : Nat := max (bits * 7 / 10) 1
theorem wide_pos (n bits : Nat) : 8 ≤ wide n bits := by unfold wide; omega
theorem wide_le (n bits : Nat) (hn : n ≤ 65536) (hb : bits ≤ 32) : wide n bits ≤ 262144 := by
  have : n * bits ≤ 65536 * 32 := Nat.mul_le_mul hn hb
  unfold wide; omega
theorem probes_pos (bits : Nat) : 1 ≤ probes bits := by unfold probes; omega
theorem probes_le (bits : Nat) (hb : bits ≤ 32) : probes bits ≤ 22 := by unfold probes; omega
/-- The text of the filter. -/
def text (keys : List (List UInt8)) (bits : Nat) : List UInt8 := UInt8.ofNat (probes bits) :: filt (probes bits) (wide keys.length bits) keys
/-- What is a filter's text. -/
def okB (f : List UInt8) : Bool := decide (9 ≤ f.length) && decide (f.length ≤ 262145) && decide (1 ≤ (f.headD 0).toNat) && decide ((f.headD 0).toNat ≤ 22)
def hasB (f key : List UInt8) : Bool := if okB f then hasK (8 * (f.length - 1)) f.tail key (f.headD 0).toNat else true
def onesB (f : List UInt8) : Nat := if okB f then ones f.tail else 0
end Blm
end Go.Proofs.YtccdbodemoefkaaDoor
