/-
  The order of what is put: plain mathematics. No model's run in this text. No condition.
-/
import Derived.Test.YtpobfheioondaaaDoorCodeMath2
import GoSem.Op.String
namespace Go.Proofs.YtpobfheioondaaaDoor.Code
theorem less_cons (a b : UInt8) (x y : List UInt8) : Op.bytesLess (a :: x) (b :: y) = (decide (a < b) || (a == b && Op.bytesLess x y)) := by rw [Op.bytesLess]
theorem less_self_head (a : UInt8) (x y : List UInt8) : Op.bytesLess (a :: x) (a :: y) = Op.bytesLess x y := by
  rw [less_cons]; have : ¬ a < a := by rw [UInt8.lt_iff_toNat_lt]; omega
  simp [this]
theorem less_nil (x : List UInt8) : Op.bytesLess x [] = false := by cases x <;> rfl
theorem nil_less (b : UInt8) (y : List UInt8) : Op.bytesLess [] (b :: y) = true := rfl
theorem less_lt {a b : UInt8} (h : a < b) (x y : List UInt8) : Op.bytesLess (a :: x) (b :: y) = true := by rw [less_cons]; simp [h]
theorem less_gt {a b : UInt8} (h : b < a) (x y : List UInt8) : Op.bytesLess (a :: x) (b :: y) = false := by
  rw [less_cons]
  have h1 : ¬ a < b := by rw [UInt8.lt_iff_toNat_lt] at h ⊢; omega
  have h2 : ¬ a = b := by rintro rfl; rw [UInt8.lt_iff_toNat_lt] at h; omega
  simp [h1, h2]
theorem less_be (i : Nat) : ∀ U V : Nat, Op.bytesLess (be i U) (be i V) = decide (U % 256 ^ i < V % 256 ^ i) := by
  induction i with
  | zero => intro U V; simp [be, Nat.mod_one, less_nil]
  | succ i ih =>
    intro U V
    rw [be_front, be_front]
    have eU : U % 256 ^ (i + 1) = U % 256 ^ i + 256 ^ i * (U / 256 ^ i % 256) := by rw [Nat.pow_succ, Nat.mod_mul]
    have eV : V % 256 ^ (i + 1) = V % 256 ^ i + 256 ^ i * (V / 256 ^ i % 256) := by rw [Nat.pow_succ, Nat.mod_mul]
    have hp : 0 < 256 ^ i := Nat.pow_pos (by omega)
    have mU := Nat.mod_lt U hp
    have mV := Nat.mod_lt V hp
    have tU : (UInt8.ofNat (U / 256 ^ i)).toNat = U / 256 ^ i % 256 := by rw [UInt8.toNat_ofNat']
    have tV : (UInt8.ofNat (V / 256 ^ i)).toNat = V / 256 ^ i % 256 := by rw [UInt8.toNat_ofNat']
    rw [eU, eV]
    rcases Nat.lt_trichotomy (U / 256 ^ i % 256) (V / 256 ^ i % 256) with h | h | h
    · rw [less_lt (by rw [UInt8.lt_iff_toNat_lt, tU, tV]; exact h)]
      have := Nat.mul_le_mul_left (256 ^ i) (show U / 256 ^ i % 256 + 1 ≤ V / 256 ^ i % 256 by omega)
      rw [Nat.mul_add] at this
      symm; apply decide_eq_true; omega
    · have e : UInt8.ofNat (U / 256 ^ i) = UInt8.ofNat (V / 256 ^ i) := UInt8.toNat_inj.1 (by rw [tU, tV]; exact h)
      rw [e, less_self_head, ih, h]
      congr 1; apply propext; omega
    · rw [less_gt (by rw [UInt8.lt_iff_toNat_lt, tU, tV]; exact h)]
      have := Nat.mul_le_mul_left (256 ^ i) (show V / 256 ^ i % 256 + 1 ≤ U / 256 ^ i % 256 by omega)
      rw [Nat.mul_add] at this
      symm; apply decide_eq_false; omega
theorem be_inj {U V : Nat} (hU : U < 2 ^ 64) (hV : V < 2 ^ 64) (h : be 8 U = be 8 V) : U = V := by
  have := congrArg unbe h
  rw [unbe_be, unbe_be, Nat.mod_eq_of_lt hU, Nat.mod_eq_of_lt hV] at this
  exact this
theorem pos_of_ne {c : UInt8} (h : c ≠ 0) : (0 : UInt8) < c := by
  rw [UInt8.lt_iff_toNat_lt]
  have : c.toNat ≠ 0 := fun e => h (UInt8.toNat_inj.1 e)
  show 0 < c.toNat; omega
theorem txt_cons_zero (t x : List UInt8) : txt (0 :: t) ++ x = 0 :: 255 :: (txt t ++ x) := by simp [txt, esc]
theorem txt_cons {c : UInt8} (h : c ≠ 0) (t x : List UInt8) : txt (c :: t) ++ x = c :: (txt t ++ x) := by simp [txt, esc, h]
theorem less_txt : ∀ (t u x y : List UInt8), t ≠ u → Op.bytesLess (txt t ++ x) (txt u ++ y) = Op.bytesLess t u
  | [], [], _, _, h => absurd rfl h
  | [], d :: u, x, y, _ => by
    rw [nil_less]
    have e : txt [] ++ x = 0 :: 1 :: x := rfl
    rw [e]
    by_cases hd : d = 0
    · subst hd; rw [txt_cons_zero, less_self_head]; exact less_lt (by decide) _ _
    · rw [txt_cons hd]; exact less_lt (pos_of_ne hd) _ _
  | c :: t, [], x, y, _ => by
    rw [less_nil]
    have e : txt [] ++ y = 0 :: 1 :: y := rfl
    rw [e]
    by_cases hc : c = 0
    · subst hc; rw [txt_cons_zero, less_self_head]; exact less_gt (by decide) _ _
    · rw [txt_cons hc]; exact less_gt (pos_of_ne hc) _ _
  | c :: t, d :: u, x, y, h => by
    by_cases hcd : c = d
    · subst hcd
      have ht : t ≠ u := fun e => h (by rw [e])
      rw [less_self_head]
      by_cases hc : c = 0
      · subst hc; rw [txt_cons_zero, txt_cons_zero, less_self_head, less_self_head]; exact less_txt t u x y ht
      · rw [txt_cons hc, txt_cons hc, less_self_head]; exact less_txt t u x y ht
    · by_cases hc : c = 0
      · subst hc
        have hd : d ≠ 0 := fun e => hcd e.symm
        rw [txt_cons_zero, txt_cons hd, less_lt (pos_of_ne hd), less_lt (pos_of_ne hd)]
      · by_cases hd : d = 0
        · subst hd
          rw [txt_cons_zero, txt_cons hc, less_gt (pos_of_ne hc), less_gt (pos_of_ne hc)]
        · rw [txt_cons hc, txt_cons hd, less_cons, less_cons]
          have : (c == d) = false := beq_eq_false_iff_ne.2 hcd
          simp [this]
theorem txt_begins {t u : List UInt8} (h : (txt u).take (txt t).length = txt t) : t = u := by
  have e : txt u = txt t ++ (txt u).drop (txt t).length := by
    conv => lhs; rw [← List.take_append_drop (txt t).length (txt u), h]
  have h1 := untxt_txt u []
  have h2 := untxt_txt t ((txt u).drop (txt t).length)
  rw [← e] at h2
  rw [List.append_nil, h2] at h1
  exact (Prod.ext_iff.1 h1).1
theorem txt_inj {t u : List UInt8} (h : txt t = txt u) : t = u := txt_begins (by rw [h, List.take_of_length_le (Nat.le_refl _)])
end Go.Proofs.YtpobfheioondaaaDoor.Code
