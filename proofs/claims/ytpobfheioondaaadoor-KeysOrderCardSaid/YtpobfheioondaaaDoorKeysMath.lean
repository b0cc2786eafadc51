/-
  The encodings of state's keys, their order and their ranges: plain mathematics. No model's run in this text. No condition.
-/
import Derived.Test.YtpobfheioondaaaDoorCodeMath3
namespace Go.Proofs.YtpobfheioondaaaDoor.Keys
open Go.Proofs.YtpobfheioondaaaDoor.Code
abbrev Bs := List UInt8
/-- A text with its last byte counted up. -/
def up : Bs → Bs
  | [] => []
  | [c] => [c + 1]
  | c :: d :: l => c :: up (d :: l)
theorem up_snoc (l : Bs) (c : UInt8) : up (l ++ [c]) = l ++ [c + 1] := by
  induction l with
  | nil => rfl
  | cons a l ih =>
    cases l with
    | nil => rfl
    | cons b l => show a :: up (b :: (l ++ [c])) = _; have : b :: (l ++ [c]) = (b :: l) ++ [c] := rfl; rw [this, ih]; rfl
/-- The last byte, if there is one, is not 255. -/
def Low : Bs → Prop
  | [] => False
  | [c] => c.toNat < 255
  | _ :: d :: l => Low (d :: l)
theorem low_snoc (l : Bs) {c : UInt8} (h : c.toNat < 255) : Low (l ++ [c]) := by
  induction l with
  | nil => exact h
  | cons a l ih =>
    cases l with
    | nil => exact h
    | cons b l => exact ih
theorem add_one {c : UInt8} (h : c.toNat < 255) : (c + 1).toNat = c.toNat + 1 := by
  rw [UInt8.toNat_add]; show (c.toNat + 1) % 256 = _; omega
theorem less_ne {a b : UInt8} (x y : Bs) (h : a ≠ b) : Op.bytesLess (a :: x) (b :: y) = decide (a.toNat < b.toNat) := by
  rw [less_cons]
  have : (a == b) = false := beq_eq_false_iff_ne.2 h
  rw [this, Bool.false_and, Bool.or_false]
  congr 1
theorem toNat_ne {a b : UInt8} (h : a ≠ b) : a.toNat ≠ b.toNat := fun e => h (UInt8.toNat_inj.1 e)
/-- A text stands from l on and ahead of l counted up just if it begins with l. -/
theorem within : ∀ (l s : Bs), Low l → ((Op.bytesLess s l = false ∧ Op.bytesLess s (up l) = true) ↔ l <+: s)
  | [], _, h => absurd h (by simp [Low])
  | [c], [], _ => by simp [nil_less]
  | [c], d :: s, h => by
    have hc : c.toNat < 255 := h
    have e := add_one hc
    by_cases hd : d = c
    · subst hd
      rw [less_self_head, less_nil]
      have hne : d ≠ d + 1 := fun k => by have := congrArg UInt8.toNat k; omega
      show (_ ∧ Op.bytesLess (d :: s) [d + 1] = true) ↔ _
      rw [less_ne _ _ hne]
      simp; omega
    · have hn := toNat_ne hd
      rw [less_ne _ _ hd]
      show (_ ∧ Op.bytesLess (d :: s) [c + 1] = true) ↔ _
      have hp : ¬ ([c] <+: d :: s) := fun k => hd (by obtain ⟨r, k⟩ := k; simpa using (List.cons.inj k).1.symm)
      by_cases h1 : d = c + 1
      · subst h1
        rw [less_self_head, less_nil]
        simp [hp]
      · have hn1 := toNat_ne h1
        rw [less_ne _ _ h1]
        simp only [decide_eq_false_iff_not, decide_eq_true_eq, hp, iff_false]
        omega
  | c :: d :: l, [], _ => by simp [nil_less]
  | c :: d :: l, e :: s, h => by
    show (_ ∧ Op.bytesLess (e :: s) (c :: up (d :: l)) = true) ↔ _
    by_cases he : e = c
    · subst he
      rw [less_self_head, less_self_head, List.cons_prefix_cons]
      have := within (d :: l) s h
      rw [this]; simp
    · rw [less_ne _ _ he, less_ne _ _ he]
      have hp : ¬ (c :: d :: l <+: e :: s) := fun k => he (List.cons_prefix_cons.1 k).1.symm
      simp only [decide_eq_false_iff_not, decide_eq_true_eq, hp, iff_false]
      omega
theorem less_up (l : Bs) (h : Low l) : Op.bytesLess l (up l) = true := ((within l l h).2 (List.prefix_refl l)).2
/-- Of two texts of which neither begins the other, the range of the lesser one ends where the other's begins, or ahead of it. -/
theorem apart : ∀ (a c : Bs), Low a → ¬ a <+: c → Op.bytesLess a c = true → Op.bytesLess c (up a) = false
  | [], _, h, _, _ => absurd h (by simp [Low])
  | _ :: _, [], _, _, hl => by rw [less_nil] at hl; cases hl
  | [x], y :: c, h, hp, hl => by
    have hx : x.toNat < 255 := h
    have e := add_one hx
    have hxy : x ≠ y := fun k => hp (by subst k; exact ⟨c, rfl⟩)
    rw [less_ne _ _ hxy] at hl
    have hl := of_decide_eq_true hl
    show Op.bytesLess (y :: c) [x + 1] = false
    by_cases h1 : y = x + 1
    · subst h1; rw [less_self_head, less_nil]
    · rw [less_ne _ _ h1]; exact decide_eq_false (by omega)
  | x :: x2 :: a, y :: c, h, hp, hl => by
    show Op.bytesLess (y :: c) (x :: up (x2 :: a)) = false
    by_cases hxy : x = y
    · subst hxy
      rw [less_self_head] at hl ⊢
      exact apart (x2 :: a) c h (fun k => hp (List.cons_prefix_cons.2 ⟨rfl, k⟩)) hl
    · rw [less_ne _ _ hxy] at hl
      have hl := of_decide_eq_true hl
      rw [less_ne _ _ (fun k => hxy k.symm)]
      exact decide_eq_false (by omega)
/-- The range of a longer text is within the range of its beginning. -/
theorem nest : ∀ (a r : Bs), Low a → Op.bytesLess (up a) (up (a ++ r)) = false
  | [], _, h => absurd h (by simp [Low])
  | [x], [], _ => by
    show Op.bytesLess [x + 1] [x + 1] = false
    rw [less_self_head, less_nil]
  | [x], y :: r, h => by
    have hx : x.toNat < 255 := h
    have e := add_one hx
    show Op.bytesLess [x + 1] (x :: up (y :: r)) = false
    have hne : x + 1 ≠ x := fun k => by have := congrArg UInt8.toNat k; omega
    rw [less_ne _ _ hne]; exact decide_eq_false (by omega)
  | x :: y :: a, r, h => by
    show Op.bytesLess (x :: up (y :: a)) (x :: up ((y :: a) ++ r)) = false
    rw [less_self_head]
    exact nest (y :: a) r h
theorem less_irrefl (x : Bs) : Op.bytesLess x x = false := by
  induction x with
  | nil => rfl
  | cons a x ih => rw [less_self_head, ih]
theorem less_begin (a r : Bs) : Op.bytesLess (a ++ r) a = false := by
  induction a with
  | nil => exact less_nil _
  | cons x a ih => show Op.bytesLess (x :: (a ++ r)) (x :: a) = false; rw [less_self_head, ih]
theorem less_or : ∀ (x y : Bs), x = y ∨ Op.bytesLess x y = true ∨ Op.bytesLess y x = true
  | [], [] => Or.inl rfl
  | [], _ :: _ => Or.inr (Or.inl rfl)
  | _ :: _, [] => Or.inr (Or.inr rfl)
  | a :: x, b :: y => by
    by_cases h : a = b
    · subst h
      rcases less_or x y with h | h | h
      · exact Or.inl (by rw [h])
      · exact Or.inr (Or.inl (by rw [less_self_head, h]))
      · exact Or.inr (Or.inr (by rw [less_self_head, h]))
    · have hn := toNat_ne h
      rw [less_ne _ _ h, less_ne _ _ (fun k => h k.symm)]
      rcases Nat.lt_or_gt_of_ne hn with k | k
      · exact Or.inr (Or.inl (decide_eq_true k))
      · exact Or.inr (Or.inr (decide_eq_true k))
theorem less_asymm : ∀ (x y : Bs), Op.bytesLess x y = true → Op.bytesLess y x = false
  | _, [], h => by rw [less_nil] at h; cases h
  | [], _ :: _, _ => less_nil _
  | a :: x, b :: y, h => by
    by_cases e : a = b
    · subst e; rw [less_self_head] at h ⊢; exact less_asymm x y h
    · rw [less_ne _ _ e] at h; rw [less_ne _ _ (fun k => e k.symm)]
      have := of_decide_eq_true h
      exact decide_eq_false (by omega)
theorem less_trans : ∀ (x y z : Bs), Op.bytesLess x y = true → Op.bytesLess y z = true → Op.bytesLess x z = true
  | _, _, [], _, h => by rw [less_nil] at h; cases h
  | _, [], _ :: _, h, _ => by rw [less_nil] at h; cases h
  | [], _ :: _, _ :: _, _, _ => rfl
  | a :: x, b :: y, c :: z, h, k => by
    by_cases e : a = b
    · subst e
      rw [less_self_head] at h
      by_cases f : a = c
      · subst f; rw [less_self_head] at k ⊢; exact less_trans x y z h k
      · rw [less_ne _ _ f] at k ⊢; exact k
    · rw [less_ne _ _ e] at h
      have h := of_decide_eq_true h
      by_cases f : b = c
      · subst f; rw [less_ne _ _ e]; exact decide_eq_true h
      · rw [less_ne _ _ f] at k
        have k := of_decide_eq_true k
        have g : a ≠ c := fun q => by subst q; omega
        rw [less_ne _ _ g]; exact decide_eq_true (by omega)
/-- A way to hold two against each other that is an order. -/
structure IsOrd {α : Type} (f : α → α → Int) : Prop where
  range : ∀ a b, f a b = -1 ∨ f a b = 0 ∨ f a b = 1
  turn : ∀ a b, f b a = -f a b
  zero : ∀ a b, f a b = 0 ↔ a = b
  trans : ∀ a b c, f a b ≤ 0 → f b c ≤ 0 → f a c ≤ 0
theorem IsOrd.strict {α : Type} {f : α → α → Int} (h : IsOrd f) {a b c : α} (h1 : f a b ≤ 0) (h2 : f b c ≤ 0) (h3 : f a b < 0 ∨ f b c < 0) : f a c < 0 := by
  have ht := h.trans a b c h1 h2
  by_cases h0 : f a c = 0
  · have e := (h.zero a c).1 h0
    subst e
    have := h.turn a b
    omega
  · omega
def ints (a b : Int) : Int := if a < b then -1 else if b < a then 1 else 0
def texts (a b : Bs) : Int := if Op.bytesLess a b then -1 else if Op.bytesLess b a then 1 else 0
theorem ints_ord : IsOrd ints where
  range a b := by unfold ints; split; · simp
                  split <;> simp
  turn a b := by unfold ints; split <;> split <;> first | rfl | (split <;> first | rfl | omega) | omega
  zero a b := by unfold ints; split; · constructor <;> intro <;> omega
                 split <;> constructor <;> intro <;> omega
  trans a b c := by unfold ints; repeat' split
                    all_goals omega
theorem texts_ord : IsOrd texts where
  range a b := by unfold texts; split; · simp
                  split <;> simp
  turn a b := by
    unfold texts
    rcases less_or a b with h | h | h
    · subst h; rw [less_irrefl]; rfl
    · rw [h, less_asymm _ _ h]; rfl
    · rw [h, less_asymm _ _ h]; rfl
  zero a b := by
    unfold texts
    rcases less_or a b with h | h | h
    · subst h; rw [less_irrefl]; simp
    · rw [h]; simp; rintro rfl; rw [less_irrefl] at h; cases h
    · rw [h, less_asymm _ _ h]; simp; rintro rfl; rw [less_irrefl] at h; cases h
  trans a b c := by
    unfold texts
    rcases less_or a b with h | h | h
    · subst h; rw [less_irrefl]; simp
    · rcases less_or b c with k | k | k
      · subst k; rw [h]; simp
      · rw [less_trans _ _ _ h k]; simp
      · rw [k, less_asymm _ _ k]; simp
    · rw [h, less_asymm _ _ h]; simp
/-- A state's key, as it is said here. -/
structure SK where
  st : Int
  gr : Int
  key : Bs
  space : Bs
  sub : Bs
theorem SK.ext' {a b : SK} (h1 : a.st = b.st) (h2 : a.gr = b.gr) (h3 : a.key = b.key) (h4 : a.space = b.space) (h5 : a.sub = b.sub) : a = b := by
  cases a; cases b; simp_all
def next (c d : Int) : Int := if c = 0 then d else c
/-- How two state's keys stand. -/
def cmp (a b : SK) : Int := next (next (next (next (ints a.st b.st) (ints a.gr b.gr)) (texts a.key b.key)) (texts a.space b.space)) (texts a.sub b.sub)
theorem IsOrd.next {α β γ : Type} {f : α → α → Int} {g : β → β → Int} (hf : IsOrd f) (hg : IsOrd g) (p : γ → α) (q : γ → β) :
    (∀ a b, Keys.next (f (p a) (p b)) (g (q a) (q b)) = -1 ∨ Keys.next (f (p a) (p b)) (g (q a) (q b)) = 0 ∨ Keys.next (f (p a) (p b)) (g (q a) (q b)) = 1) := by
  intro a b
  unfold Keys.next
  split
  · exact hg.range _ _
  · exact hf.range _ _
theorem IsOrd.pair {α β : Type} {f : α → α → Int} {g : β → β → Int} (hf : IsOrd f) (hg : IsOrd g) : IsOrd fun (a b : α × β) => Keys.next (f a.1 b.1) (g a.2 b.2) where
  range a b := by
    show Keys.next _ _ = _ ∨ Keys.next _ _ = _ ∨ Keys.next _ _ = _
    unfold Keys.next
    split
    · exact hg.range _ _
    · exact hf.range _ _
  turn a b := by
    show Keys.next _ _ = - Keys.next _ _
    unfold Keys.next
    have h1 := hf.turn a.1 b.1
    have h2 := hg.turn a.2 b.2
    split <;> split <;> omega
  zero a b := by
    show Keys.next _ _ = 0 ↔ _
    unfold Keys.next
    have h1 := hf.zero a.1 b.1
    have h2 := hg.zero a.2 b.2
    rw [Prod.ext_iff, ← h1, ← h2]
    split <;> omega
  trans a b c := by
    show Keys.next _ _ ≤ 0 → Keys.next _ _ ≤ 0 → Keys.next _ _ ≤ 0
    unfold Keys.next
    intro h1 h2
    by_cases k1 : f a.1 b.1 = 0
    · rw [if_pos k1] at h1
      have e := (hf.zero _ _).1 k1
      rw [e]
      by_cases k2 : f b.1 c.1 = 0
      · rw [if_pos k2] at h2 ⊢
        exact hg.trans _ _ _ h1 h2
      · rw [if_neg k2] at h2 ⊢
        exact h2
    · rw [if_neg k1] at h1
      by_cases k2 : f b.1 c.1 = 0
      · have e := (hf.zero _ _).1 k2
        rw [← e, if_neg k1]; exact h1
      · rw [if_neg k2] at h2
        have := hf.strict h1 h2 (Or.inl (by omega))
        rw [if_neg (by omega)]; omega
theorem cmp_ord : IsOrd cmp := by
  have h := (((ints_ord.pair ints_ord).pair texts_ord).pair texts_ord).pair texts_ord
  refine ⟨fun a b => h.range ((((a.st, a.gr), a.key), a.space), a.sub) ((((b.st, b.gr), b.key), b.space), b.sub), fun a b => h.turn ((((a.st, a.gr), a.key), a.space), a.sub) ((((b.st, b.gr), b.key), b.space), b.sub), fun a b => ?_, fun a b c => h.trans ((((a.st, a.gr), a.key), a.space), a.sub) ((((b.st, b.gr), b.key), b.space), b.sub) ((((c.st, c.gr), c.key), c.space), c.sub)⟩
  refine (h.zero ((((a.st, a.gr), a.key), a.space), a.sub) ((((b.st, b.gr), b.key), b.space), b.sub)).trans ⟨fun e => ?_, fun e => by rw [e]⟩
  simp only [Prod.mk.injEq] at e
  obtain ⟨⟨⟨⟨h1, h2⟩, h3⟩, h4⟩, h5⟩ := e
  exact SK.ext' h1 h2 h3 h4 h5
/-- The error that there is for a state's key: 0, or 1 (an argument that may not be), or 2 (too long): the program's own numbers stand elsewhere. -/
structure Valid (k : SK) : Prop where
  st : 0 ≤ k.st ∧ k.st < 64
  gr : 0 ≤ k.gr ∧ k.gr < 64
  key : k.key.length ≤ 64
  space : k.space.length ≤ 64
  sub : k.sub.length ≤ 64
def byteOf (x : Int) : UInt8 := UInt8.ofNat x.toNat
theorem byteOf_nat {x : Int} (h : 0 ≤ x ∧ x < 64) : ((byteOf x).toNat : Int) = x := by
  unfold byteOf; rw [UInt8.toNat_ofNat']; omega
theorem byteOf_inj {x y : Int} (h : 0 ≤ x ∧ x < 64) (h' : 0 ≤ y ∧ y < 64) (e : byteOf x = byteOf y) : x = y := by
  have h1 := byteOf_nat h; have h2 := byteOf_nat h'; rw [e] at h1; omega
/-- The text of the first fields, so many as n says. -/
def first (k : SK) (n : Int) : Bs :=
  [byteOf k.st] ++ (if 2 ≤ n then [byteOf k.gr] else []) ++ (if 3 ≤ n then txt k.key else []) ++ (if 4 ≤ n then txt k.space else [])
def enc (k : SK) : Bs := first k 4 ++ k.sub
theorem first1 (k : SK) : first k 1 = [byteOf k.st] := by simp [first]
theorem first2 (k : SK) : first k 2 = [byteOf k.st, byteOf k.gr] := by simp [first]
theorem first3 (k : SK) : first k 3 = byteOf k.st :: byteOf k.gr :: txt k.key := by simp [first]
theorem first4 (k : SK) : first k 4 = byteOf k.st :: byteOf k.gr :: (txt k.key ++ txt k.space) := by simp [first]
theorem enc_eq (k : SK) : enc k = byteOf k.st :: byteOf k.gr :: (txt k.key ++ (txt k.space ++ k.sub)) := by simp [enc, first4]
theorem low_txt (a t : Bs) : Low (a ++ txt t) := by
  unfold txt
  have : a ++ (esc t ++ [0, 1]) = (a ++ (esc t ++ [0])) ++ [1] := by simp
  rw [this]; exact low_snoc _ (by decide)
theorem low_first (k : SK) (n : Int) (h : 1 ≤ n ∧ n ≤ 4) (hs : 0 ≤ k.st ∧ k.st < 64) (hg : 2 ≤ n → 0 ≤ k.gr ∧ k.gr < 64) : Low (first k n) := by
  rcases (show n = 1 ∨ n = 2 ∨ n = 3 ∨ n = 4 by omega) with rfl | rfl | rfl | rfl
  · rw [first1]; show (byteOf k.st).toNat < 255; have := byteOf_nat hs; omega
  · rw [first2]; show (byteOf k.gr).toNat < 255; have := byteOf_nat (hg (by omega)); omega
  · rw [first3]; exact low_txt [byteOf k.st, byteOf k.gr] k.key
  · rw [first4]; exact low_txt (byteOf k.st :: byteOf k.gr :: txt k.key) k.space
/-- Have two the same first fields? -/
def Same (a b : SK) (n : Int) : Prop := a.st = b.st ∧ (2 ≤ n → a.gr = b.gr) ∧ (3 ≤ n → a.key = b.key) ∧ (4 ≤ n → a.space = b.space)
theorem txt_begin {t u x y : Bs} (h : txt t ++ x = txt u ++ y) : t = u ∧ x = y := by
  have h1 := untxt_txt t x
  have h2 := untxt_txt u y
  rw [h, h2] at h1
  have e : u = t := (Prod.mk.inj h1).1
  subst e
  exact ⟨rfl, List.append_cancel_left h⟩
/-- What is asked of the fields that are told, that a range may be made of them. -/
structure Fit (k : SK) (n : Int) : Prop where
  parts : 1 ≤ n ∧ n ≤ 4
  st : 0 ≤ k.st ∧ k.st < 64
  gr : 2 ≤ n → 0 ≤ k.gr ∧ k.gr < 64
theorem Fit.low {k : SK} {n : Int} (h : Fit k n) : Low (first k n) := low_first k n h.parts h.st h.gr
theorem first_begins {a b : SK} {n : Int} (ha : Fit a n) (hb : Fit b n) (x : Bs) (h : first b n <+: first a n ++ x) : Same a b n := by
  obtain ⟨r, h⟩ := h
  obtain ⟨hn, ha1, ha2⟩ := ha
  obtain ⟨_, hb1, hb2⟩ := hb
  rcases (show n = 1 ∨ n = 2 ∨ n = 3 ∨ n = 4 by omega) with rfl | rfl | rfl | rfl
  · rw [first1, first1] at h
    simp only [List.cons_append, List.nil_append, List.cons.injEq] at h
    exact ⟨byteOf_inj ha1 hb1 h.1.symm, fun h => by omega, fun h => by omega, fun h => by omega⟩
  · rw [first2, first2] at h
    simp only [List.cons_append, List.nil_append, List.cons.injEq] at h
    exact ⟨byteOf_inj ha1 hb1 h.1.symm, fun _ => byteOf_inj (ha2 (by omega)) (hb2 (by omega)) h.2.1.symm, fun h => by omega, fun h => by omega⟩
  · rw [first3, first3] at h
    simp only [List.cons_append, List.cons.injEq] at h
    obtain ⟨h1, h2, h3⟩ := h
    exact ⟨byteOf_inj ha1 hb1 h1.symm, fun _ => byteOf_inj (ha2 (by omega)) (hb2 (by omega)) h2.symm, fun _ => (txt_begin h3).1.symm, fun h => by omega⟩
  · rw [first4, first4] at h
    simp only [List.cons_append, List.append_assoc, List.cons.injEq] at h
    obtain ⟨h1, h2, h3⟩ := h
    obtain ⟨h3, h4⟩ := txt_begin h3
    exact ⟨byteOf_inj ha1 hb1 h1.symm, fun _ => byteOf_inj (ha2 (by omega)) (hb2 (by omega)) h2.symm, fun _ => h3.symm, fun _ => (txt_begin h4).1.symm⟩
theorem first_same {a b : SK} {n : Int} (h : Same a b n) : first a n = first b n := by
  obtain ⟨h1, h2, h3, h4⟩ := h
  unfold first
  rw [h1]
  congr 1
  · congr 1
    · congr 1
      split
      · rename_i h; rw [h2 h]
      · rfl
    · split
      · rename_i h; rw [h3 h]
      · rfl
  · split
    · rename_i h; rw [h4 h]
    · rfl
theorem first_cut (k : SK) {m n : Int} (h : m ≤ n) (hm : 1 ≤ m ∧ m ≤ 4) (hn : n ≤ 4) : ∃ r, first k n = first k m ++ r := by
  unfold first
  rcases (show m = 1 ∨ m = 2 ∨ m = 3 ∨ m = 4 by omega) with rfl | rfl | rfl | rfl <;> rcases (show n = 1 ∨ n = 2 ∨ n = 3 ∨ n = 4 by omega) with rfl | rfl | rfl | rfl <;> first | omega | (simp; done) | (simp; exact ⟨_, rfl⟩)
theorem enc_cut (k : SK) {m : Int} (hm : 1 ≤ m ∧ m ≤ 4) : ∃ r, enc k = first k m ++ r := by
  obtain ⟨r, h⟩ := first_cut k hm.2 hm (Int.le_refl 4)
  exact ⟨r ++ k.sub, by unfold enc; rw [h, List.append_assoc]⟩
/-- A state's key stands in the range of another one's first fields just if it has the same ones. -/
theorem enc_within {a b : SK} {n : Int} (ha : Fit a n) (hb : Fit b n) : (Op.bytesLess (enc a) (first b n) = false ∧ Op.bytesLess (enc a) (up (first b n)) = true) ↔ Same a b n := by
  rw [within _ _ hb.low]
  obtain ⟨r, h⟩ := enc_cut a ha.parts
  rw [h]
  constructor
  · exact first_begins ha hb r
  · intro hs; rw [first_same hs]; exact ⟨r, rfl⟩
theorem first_apart {a b : SK} {n : Int} (ha : Fit a n) (hb : Fit b n) (h : ¬ Same a b n) : Op.bytesLess (first b n) (up (first a n)) = false ∨ Op.bytesLess (first a n) (up (first b n)) = false := by
  have p1 : ¬ first a n <+: first b n := fun k => h (by
    have := first_begins hb ha [] (by rw [List.append_nil]; exact k)
    exact ⟨this.1.symm, fun q => (this.2.1 q).symm, fun q => (this.2.2.1 q).symm, fun q => (this.2.2.2 q).symm⟩)
  have p2 : ¬ first b n <+: first a n := fun k => h (first_begins ha hb [] (by rw [List.append_nil]; exact k))
  rcases less_or (first a n) (first b n) with e | e | e
  · exact absurd (by rw [e]; exact List.prefix_refl _) p1
  · exact Or.inl (apart _ _ ha.low p1 e)
  · exact Or.inr (apart _ _ hb.low p2 e)
theorem less_same (t x y : Bs) : Op.bytesLess (t ++ x) (t ++ y) = Op.bytesLess x y := by
  induction t with
  | nil => rfl
  | cons a t ih => show Op.bytesLess (a :: (t ++ x)) (a :: (t ++ y)) = _; rw [less_self_head, ih]
theorem less_txts (t u x y : Bs) : Op.bytesLess (txt t ++ x) (txt u ++ y) = decide (next (texts t u) (texts x y) < 0) := by
  by_cases h : t = u
  · subst h
    rw [less_same, (texts_ord.zero t t).2 rfl]
    show _ = decide (texts x y < 0)
    unfold texts
    cases hl : Op.bytesLess x y
    · cases hl2 : Op.bytesLess y x <;> rfl
    · rfl
  · rw [less_txt _ _ _ _ h]
    have h0 : texts t u ≠ 0 := fun k => h ((texts_ord.zero t u).1 k)
    unfold next
    rw [if_neg h0]
    unfold texts
    cases hl : Op.bytesLess t u
    · cases hl2 : Op.bytesLess u t <;> rfl
    · rfl
theorem texts_neg (x y : Bs) : decide (texts x y < 0) = Op.bytesLess x y := by
  unfold texts
  cases hl : Op.bytesLess x y
  · cases hl2 : Op.bytesLess y x <;> rfl
  · rfl
theorem next_assoc (a b c : Int) : next (next a b) c = next a (next b c) := by
  unfold next; by_cases h : a = 0
  · simp [h]
  · simp [h]
theorem next_neg {a b c : Int} (h : decide (b < 0) = decide (c < 0)) : decide (next a b < 0) = decide (next a c < 0) := by
  unfold next; split
  · exact h
  · rfl
theorem less_bytes {a b : Int} (ha : 0 ≤ a ∧ a < 64) (hb : 0 ≤ b ∧ b < 64) (x y : Bs) (c : Int) (h : Op.bytesLess x y = decide (c < 0)) : Op.bytesLess (byteOf a :: x) (byteOf b :: y) = decide (next (ints a b) c < 0) := by
  have h1 := byteOf_nat ha
  have h2 := byteOf_nat hb
  by_cases e : a = b
  · subst e
    rw [less_self_head, h, (ints_ord.zero a a).2 rfl]; rfl
  · have hne : byteOf a ≠ byteOf b := fun k => e (byteOf_inj ha hb k)
    rw [less_ne _ _ hne]
    have h0 : ints a b ≠ 0 := fun k => e ((ints_ord.zero a b).1 k)
    unfold next
    rw [if_neg h0]
    unfold ints
    congr 1
    apply propext
    split
    · constructor <;> intro <;> omega
    · split
      · constructor <;> intro <;> omega
      · omega
/-- Two valid ones stand as their texts do. -/
theorem enc_less {a b : SK} (ha : Valid a) (hb : Valid b) : Op.bytesLess (enc a) (enc b) = decide (cmp a b < 0) := by
  rw [enc_eq, enc_eq]
  unfold cmp
  rw [next_assoc, next_assoc, next_assoc]
  refine less_bytes ha.st hb.st _ _ _ (less_bytes ha.gr hb.gr _ _ _ ?_)
  rw [less_txts]
  refine next_neg ?_
  rw [texts_neg, less_txts]
theorem enc_inj {a b : SK} (ha : Valid a) (hb : Valid b) (h : enc a = enc b) : a = b := by
  have h1 := enc_less ha hb
  have h2 := enc_less hb ha
  rw [h, less_irrefl] at h1
  rw [h, less_irrefl] at h2
  have h1 := of_decide_eq_false h1.symm
  have h2 := of_decide_eq_false h2.symm
  have := cmp_ord.turn a b
  exact (cmp_ord.zero a b).1 (by omega)
/-- What is asked of a state's key: 0, or the error's number. -/
def check (k : SK) : Nat := if ¬ (0 ≤ k.st ∧ k.st < 64) ∨ ¬ (0 ≤ k.gr ∧ k.gr < 64) then 2 else if 64 < k.key.length ∨ 64 < k.space.length ∨ 64 < k.sub.length then 3 else 0
theorem check_valid {k : SK} (h : Valid k) : check k = 0 := by
  obtain ⟨h1, h2, h3, h4, h5⟩ := h
  unfold check
  rw [if_neg (by omega), if_neg (by omega)]
theorem valid_check {k : SK} (h : check k = 0) : Valid k := by
  unfold check at h
  split at h
  · cases h
  · split at h
    · cases h
    · constructor <;> omega
def none5 : SK := ⟨0, 0, [], [], []⟩
/-- What is read of a text: the state's key, and the error's number. -/
def dec : Bs → SK × Nat
  | a :: b :: t =>
    if (untxt t).2.2 ≠ 0 then (none5, 7) else
    if (untxt (t.drop (untxt t).2.1)).2.2 ≠ 0 then (none5, 7) else
    if check ⟨a.toNat, b.toNat, (untxt t).1, (untxt (t.drop (untxt t).2.1)).1, (t.drop (untxt t).2.1).drop (untxt (t.drop (untxt t).2.1)).2.1⟩ ≠ 0 then (none5, 7) else
    (⟨a.toNat, b.toNat, (untxt t).1, (untxt (t.drop (untxt t).2.1)).1, (t.drop (untxt t).2.1).drop (untxt (t.drop (untxt t).2.1)).2.1⟩, 0)
  | _ => (none5, 7)
theorem dec_enc {k : SK} (h : Valid k) : dec (enc k) = (k, 0) := by
  rw [enc_eq]
  unfold dec
  have e1 : untxt (txt k.key ++ (txt k.space ++ k.sub)) = (k.key, (txt k.key).length, 0) := untxt_txt _ _
  have e2 : (txt k.key ++ (txt k.space ++ k.sub)).drop (txt k.key).length = txt k.space ++ k.sub := List.drop_left
  have e3 : untxt (txt k.space ++ k.sub) = (k.space, (txt k.space).length, 0) := untxt_txt _ _
  have e4 : (txt k.space ++ k.sub).drop (txt k.space).length = k.sub := List.drop_left
  have e5 : (⟨((byteOf k.st).toNat : Int), ((byteOf k.gr).toNat : Int), k.key, k.space, k.sub⟩ : SK) = k := by rw [byteOf_nat h.st, byteOf_nat h.gr]
  simp only [e1, e2, e3, e4, e5, check_valid h]
  simp
end Go.Proofs.YtpobfheioondaaaDoor.Keys
