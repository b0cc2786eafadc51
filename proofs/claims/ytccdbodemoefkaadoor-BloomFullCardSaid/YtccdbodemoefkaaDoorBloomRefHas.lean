/-
  The contracts of the document's own Check, Has and Ones, over the plain filter. Condition: texts of a length that there is.
-/
import Derived.Test.YtccdbodemoefkaaDoorBloomCount
import Derived.Test.YtccdbodemoefkaaDoorBloomRef
namespace Go.Proofs.YtccdbodemoefkaaDoor
set_option maxRecDepth 100000
open Go.RowKit
theorem refcheck_any (f : ByteArray) (hf : f.size ≤ maxLen) (w : World) :
    Calls Tryd.prog 8 #[.string f] w fun e w' => e = .returned (.int .i64 (if Blm.okB f.data.toList then 0 else 7)) ∧ w' = w := by
  unfold maxLen at hf
  by_cases c1 : f.size < 9
  · have ho : Blm.okB f.data.toList = false := by
      unfold Blm.okB; rw [okB_size]; simp; omega
    rw [ho]
    go_enter Tryd.func8, Tryd.ntmps8
    go_wp2
    go_returns
    exact ⟨rfl, rfl⟩
  · have h0 : 0 < f.size := by omega
    rw [okB_of f h0]
    have i0 : (0 : Int) < (f.size : Int) := by omega
    by_cases c2 : 262145 < f.size
    · rw [show decide (f.size ≤ 262145) = false from decide_eq_false (by omega)]
      simp only [Bool.and_false, Bool.false_and]
      go_enter Tryd.func8, Tryd.ntmps8
      go_wp2
      go_returns
      exact ⟨rfl, rfl⟩
    · rw [show decide (f.size ≤ 262145) = true from decide_eq_true (by omega), show decide (9 ≤ f.size) = true from decide_eq_true (by omega)]
      simp only [Bool.true_and]
      by_cases c3 : f[0].toNat = 0
      · rw [show decide (1 ≤ f[0].toNat) = false from decide_eq_false (by omega), Bool.false_and]
        go_enter Tryd.func8, Tryd.ntmps8
        go_wp2
        go_returns
        exact ⟨rfl, rfl⟩
      · rw [show decide (1 ≤ f[0].toNat) = true from decide_eq_true (by omega), Bool.true_and]
        have q3 : ((f[0].toNat : Int) == 0) = false := by simp; omega
        by_cases c4 : 22 < f[0].toNat
        · rw [show decide (f[0].toNat ≤ 22) = false from decide_eq_false (by omega)]
          go_enter Tryd.func8, Tryd.ntmps8
          go_wp2
          go_returns
          exact ⟨rfl, rfl⟩
        · rw [show decide (f[0].toNat ≤ 22) = true from decide_eq_true (by omega)]
          have q4 : (f[0].toNat : Int) ≤ 22 := by omega
          go_enter Tryd.func8, Tryd.ntmps8
          go_wp2
          go_returns
          exact ⟨rfl, rfl⟩
theorem odd_code (c : UInt8) (q : Nat) (hq : q < 8) : (((c.toNat : Int) / 2 ^ q).tmod 2 == 0) = !Blm.tst c q := by
  have : ∀ (c : Fin 256) (q : Fin 8), (((c.val : Int) / 2 ^ q.val).tmod 2 == 0) = !Blm.tst (UInt8.ofNat c.val) q.val := by decide +kernel
  have := this ⟨c.toNat, UInt8.toNat_lt c⟩ ⟨q, hq⟩
  simpa using this
theorem getB_tail (f : ByteArray) (p p8 r8 : Nat) (e8 : p8 = p / 8) (f8 : r8 = p % 8) (h : 1 + p8 < f.size) : Blm.getB f.data.toList.tail p = Blm.tst f[1 + p8] r8 := by
  subst e8 f8
  unfold Blm.getB
  rw [List.getElem?_eq_getElem (by rw [List.length_tail, okB_size]; omega), Option.getD_some, List.getElem_tail]
  congr 1
  show f.data.toList[p / 8 + 1]'_ = f.data.toList[1 + p / 8]'_
  congr 1
  omega
set_option maxRecDepth 100000 in
set_option maxHeartbeats 2000000 in
theorem refhas_any (f key : ByteArray) (hf : f.size ≤ maxLen) (hkey : key.size ≤ maxLen) (w : World) :
    Calls Tryd.prog 10 #[.string f, .string key] w fun e w' => e = .returned (.bool (Blm.hasB f.data.toList key.data.toList)) ∧ w' = w := by
  have C := Lib.hid (refcheck_any f hf w)
  unfold Blm.hasB
  cases ho : Blm.okB f.data.toList with
  | false =>
    rw [ho] at C
    go_enter Tryd.func10, Tryd.ntmps10
    go_wp2_with (go_at_call 8; ((with_reducible refine C.out.mono ?_); rintro e w1 ⟨rfl, rfl⟩))
    go_returns
    exact ⟨rfl, rfl⟩
  | true =>
    rw [ho] at C
    obtain ⟨h9, h10⟩ := okB_range ho
    have h0 : 0 < f.size := by omega
    have hk : f[0].toNat ≤ 22 := by
      rw [okB_of f h0] at ho; simp at ho; omega
    rw [head_at f h0, okB_size]
    have BC := Lib.hid (fun (j : Nat) (hj : j ≤ 1000) (u : World) => Lib.hid (by
      have h := bit_any key hkey j (8 * (f.size - 1)) hj (by omega) (by omega) u
      rw [show ((8 * (f.size - 1) : Nat) : Int) = ((f.size : Int) - 1) * 8 by omega] at h
      exact h))
    obtain ⟨M, hM⟩ := named (8 * (f.size - 1))
    rw [← hM.out] at BC ⊢
    have hM1 : Hid (M = 8 * (f.size - 1)) := hM
    have i0 : (0 : Int) < (f.size : Int) := by omega
    clear ho
    go_enter Tryd.func10, Tryd.ntmps10
    go_wp2_with (go_at_call 8; ((with_reducible refine C.out.mono ?_); rintro e w1 ⟨rfl, rfl⟩))
    go_loopw [5] (fun d wr => ∃ j : Nat, j ≤ f[0].toNat ∧ d = .int .i64 j ∧ Hid (Blm.hasK M f.data.toList.tail key.data.toList j = true) ∧ wr = w1) (fun d _ => f[0].toNat - (intOf d).toNat)
    case atStart => exact ⟨0, by omega, rfl, Lib.hid rfl, rfl⟩
    case round =>
      obtain ⟨j, hj, rfl, hh, rfl⟩ := hrel
      by_cases hlt : j < f[0].toNat
      · have C1 := fun u => BC.out j (by omega) u
        obtain ⟨p, hp⟩ := named (Blm.pos M key.data.toList j)
        have hp1 : p < 8 * (f.size - 1) := by rw [hp.out, hM1.out]; exact Blm.pos_lt (by omega) _ _
        rw [← hp.out] at C1
        obtain ⟨p8, e8⟩ : ∃ p8 : Nat, Hid (p8 = p / 8) := ⟨_, Lib.hid rfl⟩
        obtain ⟨r8, f8⟩ : ∃ r8 : Nat, Hid (r8 = p % 8) := ⟨_, Lib.hid rfl⟩
        have d1 : (p : Int) / 8 = (p8 : Int) := by rw [e8.out]; omega
        have d2 : (p : Int) % 8 = (r8 : Int) := by rw [f8.out]; omega
        have d3 : 1 + p8 < f.size := by rw [e8.out]; omega
        have d4 : r8 < 8 := by rw [f8.out]; omega
        have d5 : (1 : Int) + (p8 : Int) < (f.size : Int) := by omega
        have d6 : (r8 : Int) < 8 := by omega
        have d7 : (0 : Int) ≤ (r8 : Int) := by omega
        have d8 : (0 : Int) ≤ (p8 : Int) := by omega
        have d9 : (f.size : Int) ≤ 262145 := by omega
        have hg := getB_tail f p p8 r8 e8.out f8.out d3
        have oc := odd_code f[1 + p8] r8 d4
        cases ht : Blm.tst f[1 + p8] r8 with
        | false =>
          rw [ht] at oc hg
          have oc' : (((f[1 + p8].toNat : Int) / 2 ^ r8).tmod 2 == 0) = true := oc
          have hz : Hid (Blm.hasK M f.data.toList.tail key.data.toList f[0].toNat = false) := Lib.hid (Blm.hasK_false hlt (by rw [← hp.out]; exact hg))
          clear hg ht oc
          go_upto_if 34 with (go_at_call 16; ((with_reducible refine (C1 _).out.mono ?_); rintro e w3 ⟨rfl, rfl⟩))
          clear oc'
          go_wp2
          go_returns
          exact ⟨by rw [hz.out]; rfl, rfl⟩
        | true =>
          rw [ht] at oc hg
          have oc' : (((f[1 + p8].toNat : Int) / 2 ^ r8).tmod 2 == 0) = false := oc
          have hz : Hid (Blm.hasK M f.data.toList.tail key.data.toList (j + 1) = true) := Lib.hid (by rw [Blm.hasK, hh.out, ← hp.out, hg]; rfl)
          clear hg ht oc
          go_upto_if 34 with (go_at_call 16; ((with_reducible refine (C1 _).out.mono ?_); rintro e w3 ⟨rfl, rfl⟩))
          clear oc'
          go_wp2
          go_roundw
          case rel => exact ⟨j + 1, by omega, by go_num, hz, trivial⟩
          case measure => simp [intOf]; omega
      · obtain rfl : j = f[0].toNat := by omega
        go_wp2
        go_returns
        exact ⟨by rw [hh.out]; rfl, rfl⟩
/-- Of a byte, what is left behind i halvings. -/
theorem half_num (c i : Nat) : c / 2 ^ i / 2 = c / 2 ^ (i + 1) := by rw [Nat.div_div_eq_div_mul, ← Nat.pow_succ]
set_option maxRecDepth 100000 in
set_option maxHeartbeats 2000000 in
theorem refones_any (f : ByteArray) (hf : f.size ≤ maxLen) (w : World) :
    Calls Tryd.prog 12 #[.string f] w fun e w' => e = .returned (.int .i64 (Blm.onesB f.data.toList : Int)) ∧ w' = w := by
  have C := Lib.hid (fun u : World => refcheck_any f hf u)
  unfold maxLen at hf
  unfold Blm.onesB
  cases ho : Blm.okB f.data.toList with
  | false =>
    simp only [ho] at C
    go_enter Tryd.func12, Tryd.ntmps12
    go_wp2
    go_loopw [3, 4] (fun s d wr => s = .int .i64 0 ∧ d = .int .i64 1 ∧ wr = w) (fun _ _ _ => 0)
    case atStart => exact ⟨rfl, rfl, rfl⟩
    case round =>
      obtain ⟨rfl, rfl, rfl⟩ := hrel
      by_cases h1 : f.size ≤ 1
      · have i1 : (f.size : Int) ≤ 1 := by omega
        go_wp2
        go_returns
        exact ⟨rfl, rfl⟩
      · have i1 : (1 : Int) < (f.size : Int) := by omega
        go_wp2_with (go_at_call 8; ((with_reducible refine (C.out _).mono ?_); rintro e w1 ⟨rfl, rfl⟩))
        go_returns
        exact ⟨rfl, rfl⟩
  | true =>
    simp only [ho] at C
    obtain ⟨h9, h10⟩ := okB_range ho
    clear ho
    go_enter Tryd.func12, Tryd.ntmps12
    go_wp2
    go_loopw [3, 4] (fun s d wr => ∃ i : Nat, 1 ≤ i ∧ i ≤ f.size ∧ s = .int .i64 (Blm.ones (f.data.toList.tail.take (i - 1)) : Int) ∧ d = .int .i64 i ∧ wr = w) (fun _ d _ => f.size - (intOf d).toNat)
    case atStart => exact ⟨1, Nat.le_refl _, by omega, rfl, rfl, rfl⟩
    case round =>
      obtain ⟨i, hi1, hi2, rfl, rfl, rfl⟩ := hrel
      by_cases hlt : i < f.size
      · have hs := Lib.hid (ones_step f i hi1 hlt)
        have hle := Blm.ones_le (f.data.toList.tail.take (i - 1))
        rw [List.length_take] at hle
        have hle2 : Blm.ones (f.data.toList.tail.take (i - 1)) ≤ 2097160 := by omega
        clear hle
        obtain ⟨S, hS⟩ := named (Blm.ones (f.data.toList.tail.take (i - 1)))
        rw [← hS.out] at hle2 hs ⊢
        rw [← Blm.pop_table] at hs
        have b8 := UInt8.toNat_lt f[i]
        have hp := fun (j : Nat) (h8 : j ≤ 8) (h0 : f[i].toNat / 2 ^ j = 0) => Blm.low_pop f[i] j h8 h0
        obtain ⟨x, hx⟩ := named f[i].toNat
        rw [← hx.out] at b8 hp
        have HP := Lib.hid hp
        have i1 : (i : Int) < (f.size : Int) := by omega
        have i2 : (0 : Int) ≤ (i : Int) := by omega
        have hxi : (f[i].toNat : Int) = (x : Int) := by rw [hx.out]
        clear hp hx
        go_wp2_with (go_at_call 8; ((with_reducible refine (C.out _).mono ?_); rintro e w1 ⟨rfl, rfl⟩))
        go_loopw [3, 5] (fun s c wr => ∃ j : Nat, j ≤ 8 ∧ s = .int .i64 ((S + Blm.low x j : Nat) : Int) ∧ c = .int .u8 ((x / 2 ^ j : Nat) : Int) ∧ wr = w1) (fun _ c _ => (intOf c).toNat)
        case atStart => exact ⟨0, by omega, by simp [Blm.low], by simp, rfl⟩
        case round =>
          obtain ⟨j, hj, rfl, rfl, rfl⟩ := hrel
          obtain ⟨v, hv⟩ := named (x / 2 ^ j)
          rw [← hv.out]
          have v1 : v ≤ 255 := by rw [hv.out]; exact Nat.le_trans (Nat.div_le_self _ _) (by omega)
          obtain ⟨L, hL⟩ := named (Blm.low x j)
          rw [← hL.out]
          have l1 : Hid (Blm.low x (j + 1) = L + v % 2) := Lib.hid (by rw [Blm.low, ← hL.out, ← hv.out])
          have l2 : Hid (x / 2 ^ (j + 1) = v / 2) := Lib.hid (by rw [← half_num, ← hv.out])
          by_cases h0 : v = 0
          · subst h0
            have hlow := HP.out j hj hv.out.symm
            have hz : Hid (Blm.ones (f.data.toList.tail.take i) = S + L) := Lib.hid (by rw [hL.out, hlow]; have := hs.out; omega)
            clear hlow
            go_wp2
            go_roundw
            case rel => exact ⟨i + 1, by omega, by omega, by rw [show i + 1 - 1 = i by omega, hz.out], by go_num, trivial⟩
            case measure => simp [intOf]; omega
          · have h1 : (0 : Int) < (v : Int) := by omega
            have h8 : j + 1 ≤ 8 := by
              rcases Nat.lt_or_ge j 8 with h | h
              · exact h
              · exfalso
                apply h0
                rw [hv.out, show j = 8 by omega]
                exact Nat.div_eq_of_lt b8
            have hl : L ≤ 16 := by
              have : ∀ m n, Blm.low n m ≤ m := by
                intro m n
                induction m with
                | zero => exact Nat.le_refl _
                | succ m ih => rw [Blm.low]; omega
              rw [hL.out]
              exact Nat.le_trans (this j x) (by omega)
            go_wp2
            go_roundw
            case rel => exact ⟨j + 1, h8, by rw [l1.out]; push_cast; rw [Int.add_assoc], by rw [l2.out]; rfl, trivial⟩
            case measure => simp [intOf]; omega
      · obtain rfl : i = f.size := by omega
        have hall : f.data.toList.tail.take (f.size - 1) = f.data.toList.tail := List.take_of_length_le (by rw [List.length_tail, okB_size]; exact Nat.le_refl _)
        rw [hall]
        clear hall
        go_wp2
        go_returns
        exact ⟨rfl, rfl⟩
end Go.Proofs.YtccdbodemoefkaaDoor
