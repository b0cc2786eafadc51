/-
  The contracts of the program's Check and Has, over the plain filter. Condition: texts of a length that there is.
-/
import Derived.Test.YtccdbodemoefkaaDoorBloomProbe
import Derived.Test.YtccdbodemoefkaaDoorBut
import Derived.RangeFuncBox
import Derived.RangeFuncNested
import Derived.Handy
import Derived.BigRegion
import Derived.Deep.RegionHeld
import Derived.Deep.DeepCutAuto
namespace Go.Proofs.YtccdbodemoefkaaDoor
set_option maxRecDepth 100000
open Go.RowKit
theorem okB_size (f : ByteArray) : f.data.toList.length = f.size := by rw [Array.length_toList]; rfl
theorem head_at (f : ByteArray) (h : 0 < f.size) : f.data.toList.headD 0 = f[0] := by
  obtain ⟨⟨l⟩⟩ := f
  cases l with
  | nil => simp [ByteArray.size] at h
  | cons x r => rfl
theorem at_list (f : ByteArray) (i : Nat) (h : i < f.size) (h' : i < f.data.toList.length) : f.data.toList[i] = f[i] := rfl
theorem tail_text (f : ByteArray) (h : 0 < f.size) : (f.extract 1 f.size).data.toList = f.data.toList.tail := by
  rw [ByteArray.data_extract, Array.toList_extract, ← List.drop_one, List.extract_eq_take_drop, List.take_of_length_le (by simp)]
theorem okB_of (f : ByteArray) (h : 0 < f.size) : Blm.okB f.data.toList = (decide (9 ≤ f.size) && decide (f.size ≤ 262145) && decide (1 ≤ f[0].toNat) && decide (f[0].toNat ≤ 22)) := by
  unfold Blm.okB
  rw [okB_size, head_at f h]
theorem check_any (f : ByteArray) (hf : f.size ≤ maxLen) (w : World) :
    Calls Tryd.prog 7 #[.string f] w fun e w' => e = .returned (.int .i64 (if Blm.okB f.data.toList then 0 else 7)) ∧ w' = w := by
  unfold maxLen at hf
  by_cases c1 : f.size < 9
  · have ho : Blm.okB f.data.toList = false := by
      unfold Blm.okB; rw [okB_size]; simp; omega
    rw [ho]
    go_enter Tryd.func7, Tryd.ntmps7
    go_wp2
    go_returns
    exact ⟨rfl, rfl⟩
  · have h0 : 0 < f.size := by omega
    rw [okB_of f h0]
    have i0 : (0 : Int) < (f.size : Int) := by omega
    by_cases c2 : 262145 < f.size
    · rw [show decide (f.size ≤ 262145) = false from decide_eq_false (by omega)]
      simp only [Bool.and_false, Bool.false_and]
      go_enter Tryd.func7, Tryd.ntmps7
      go_wp2
      go_returns
      exact ⟨rfl, rfl⟩
    · rw [show decide (f.size ≤ 262145) = true from decide_eq_true (by omega), show decide (9 ≤ f.size) = true from decide_eq_true (by omega)]
      simp only [Bool.true_and]
      by_cases c3 : f[0].toNat = 0
      · rw [show decide (1 ≤ f[0].toNat) = false from decide_eq_false (by omega), Bool.false_and]
        go_enter Tryd.func7, Tryd.ntmps7
        go_wp2
        go_returns
        exact ⟨rfl, rfl⟩
      · rw [show decide (1 ≤ f[0].toNat) = true from decide_eq_true (by omega), Bool.true_and]
        have q3 : ((f[0].toNat : Int) == 0) = false := by simp; omega
        by_cases c4 : 22 < f[0].toNat
        · rw [show decide (f[0].toNat ≤ 22) = false from decide_eq_false (by omega)]
          go_enter Tryd.func7, Tryd.ntmps7
          go_wp2
          go_returns
          exact ⟨rfl, rfl⟩
        · rw [show decide (f[0].toNat ≤ 22) = true from decide_eq_true (by omega)]
          have q4 : (f[0].toNat : Int) ≤ 22 := by omega
          go_enter Tryd.func7, Tryd.ntmps7
          go_wp2
          go_returns
          exact ⟨rfl, rfl⟩
theorem tst_code (c : UInt8) (q : Nat) (hq : q < 8) : (bits .and .u8 ((c.toNat : Int) / 2 ^ q) 1 == 1) = Blm.tst c q := by
  have : ∀ (c : Fin 256) (q : Fin 8), (bits .and .u8 ((c.val : Int) / 2 ^ q.val) 1 == 1) = Blm.tst (UInt8.ofNat c.val) q.val := by decide +kernel
  have := this ⟨c.toNat, UInt8.toNat_lt c⟩ ⟨q, hq⟩
  simpa using this
/-- The closure of Has: whether the bit is there, which it notes down. -/
theorem hasClo_any (S : ByteArray) (hS : S.size ≤ maxLen) (p q : Nat) (hp : p < S.size) (hq : q < 8) (g1 g2 : Nat) (h12 : g1 ≠ g2) (b0 : Bool) (u : World) (h1 : Boxed u g1 9 (.string S)) (h2 : Boxed u g2 4 (.bool b0)) :
    Calls Tryd.prog 15 #[.int .u32 (p : Int), .int .u32 (q : Int), .pointer (some ⟨g1, 0, none⟩), .pointer (some ⟨g2, 0, none⟩)] u fun e w' => e = .returned (.bool (Blm.tst S[p] q)) ∧ w' = u.setCell ⟨g2, 0, none⟩ (.bool (Blm.tst S[p] q)) := by
  unfold maxLen at hS
  have x1 := h1.cell
  have x2 := h2.cell
  have x3 := h2.frozen
  have x4 := (h2.set (.bool (Blm.tst S[p] q))).cell
  have ht := tst_code S[p] q hq
  have i1 : (p : Int) < (S.size : Int) := by omega
  have i2 : (0 : Int) ≤ (p : Int) := by omega
  have i3 : (q : Int) < 8 := by omega
  have i4 : (0 : Int) ≤ (q : Int) := by omega
  clear h1 h2
  go_enter Tryd.func15, Tryd.ntmps15
  go_wp2
  go_returns
  exact ⟨rfl, rfl⟩
theorem hasClo_enters : ∀ (args : Array Value) (w : World), (callFunc 15 args).run Tryd.prog w = .ok (.enter 15 args) w := enters_of Tryd.func15 (by kernel_rfl) rfl
/-- What stands while the bits of a key are looked at. -/
structure Look (w0 : World) (g1 g2 : Nat) (S : ByteArray) (b : Bool) (u : World) : Prop where
  below : Below w0.heap.size w0 u
  set : Boxed u g1 9 (.string S)
  has : Boxed u g2 4 (.bool b)
theorem Look.grow {w0 u u' : World} {g1 g2 : Nat} {S : ByteArray} {b : Bool} (h : Look w0 g1 g2 S b u) (hb : Below u.heap.size u u') : Look w0 g1 g2 S b u' :=
  ⟨h.below.trans (hb.mono h.below.size), (hb.block g1 h.set.lt).trans h.set, (hb.block g2 h.has.lt).trans h.has⟩
theorem Look.note {w0 u : World} {g1 g2 : Nat} {S : ByteArray} {b : Bool} (h : Look w0 g1 g2 S b u) (h12 : g1 ≠ g2) (h2 : w0.heap.size ≤ g2) (c : Bool) : Look w0 g1 g2 S c (u.setCell ⟨g2, 0, none⟩ (.bool c)) :=
  ⟨h.below.setCell h2 _, h.set.other h12 _, h.has.set _⟩
theorem look_any (key : ByteArray) (hkey : key.size ≤ maxLen) (k : Nat) (hk : k ≤ 1000) (S : ByteArray) (hn : 0 < S.size) (hn2 : S.size ≤ 268435456) (w0 w : World) (g1 g2 : Nat) (h12 : g1 ≠ g2) (h2 : w0.heap.size ≤ g2) (h : Look w0 g1 g2 S true w) :
    Calls Tryd.prog 14 #[.string key, .int .i64 (k : Int), .int .i64 (S.size : Int), .func (.func 15) #[] #[.pointer (some ⟨g1, 0, none⟩), .pointer (some ⟨g2, 0, none⟩)]] w fun e w' => e = .returned (.tuple #[]) ∧ Look w0 g1 g2 S (Blm.hasK (8 * S.size) S.data.toList key.data.toList k) w' := by
  refine (probe_any key hkey k S.size hk hn hn2 15 _ hasClo_enters w
    (fun i u => Blm.hasK (8 * S.size) S.data.toList key.data.toList i = true ∧ Look w0 g1 g2 S true u)
    (fun u => Blm.hasK (8 * S.size) S.data.toList key.data.toList k = false ∧ Look w0 g1 g2 S false u)
    (fun u hb => ⟨rfl, h.grow hb⟩) ?_).mono ?_
  · rintro i u hi ⟨hh, hl⟩
    have hp := Blm.pos_lt (m := 8 * S.size) (by omega) key.data.toList i
    obtain ⟨p, ep⟩ := named (Blm.pos (8 * S.size) key.data.toList i)
    rw [← ep.out] at hp ⊢
    have hg : Blm.getB S.data.toList p = Blm.tst (S[p / 8]'(by omega)) (p % 8) := by
      unfold Blm.getB
      rw [List.getElem?_eq_getElem (by rw [okB_size]; omega)]
      rfl
    refine (hasClo_any S (by unfold maxLen; omega) (p / 8) (p % 8) (by omega) (by omega) g1 g2 h12 true u hl.set hl.has).mono ?_
    rintro e w' ⟨rfl, rfl⟩
    refine ⟨_, rfl, fun ht => ?_, fun ht => ?_⟩
    · rw [ht]
      refine ⟨?_, hl.note h12 h2 true⟩
      rw [Blm.hasK, hh, ← ep.out, hg, ht]; rfl
    · rw [ht]
      refine ⟨Blm.hasK_false hi ?_, hl.note h12 h2 false⟩
      rw [← ep.out, hg, ht]
  · rintro e w' ⟨rfl, ⟨h1, h'⟩ | ⟨h1, h'⟩⟩
    · rw [h1]; exact ⟨rfl, h'⟩
    · rw [h1]; exact ⟨rfl, h'⟩
set_option maxHeartbeats 4000000 in
theorem has_any (f key : ByteArray) (hf : f.size ≤ maxLen) (hkey : key.size ≤ maxLen) (w : World) :
    Calls Tryd.prog 9 #[.string f, .string key] w fun e w' => e = .returned (.bool (Blm.hasB f.data.toList key.data.toList)) ∧ Below w.heap.size w w' := by
  have C := Lib.hid (check_any f hf w)
  unfold Blm.hasB
  cases ho : Blm.okB f.data.toList with
  | false =>
    rw [ho] at C
    go_enter Tryd.func9, Tryd.ntmps9
    go_wp2_with (go_at_call 7; ((with_reducible refine C.out.mono ?_); rintro e w1 ⟨rfl, rfl⟩))
    go_returns
    exact ⟨rfl, Below.refl _ _⟩
  | true =>
    rw [ho] at C
    have h9 : 9 ≤ f.size ∧ f.size ≤ 262145 := by
      unfold Blm.okB at ho; rw [okB_size] at ho; simp at ho; omega
    have h0 : 0 < f.size := by omega
    rw [head_at f h0, okB_size, ← tail_text f h0]
    have hk : f[0].toNat ≤ 22 := by
      rw [okB_of f h0] at ho; simp at ho; omega
    have hSz : (f.extract 1 f.size).size = f.size - 1 := by simp
    obtain ⟨S, hS⟩ := named (f.extract 1 f.size)
    rw [← hS.out] at hSz ⊢
    rw [← hSz]
    have L := fun (u : World) (h : Look w w.heap.size (w.heap.size + 1) S true u) => Lib.hid (look_any key hkey f[0].toNat (by omega) S (by omega) (by omega) w u w.heap.size (w.heap.size + 1) (by omega) (by omega) h)
    have LH := Lib.hid L
    have hwr : IntKind.i64.wrap (f[0].toNat : Int) = (f[0].toNat : Int) := by rw [IntKind.wrap_i64]; omega
    clear L ho
    have HZ := Lib.hid hSz
    clear hSz
    have i0 : (0 : Int) < (f.size : Int) := by omega
    have i1 : (1 : Int) ≤ (f.size : Int) := by omega
    go_enter Tryd.func9, Tryd.ntmps9
    go_upto_region 5 with (go_at_call 7; ((with_reducible refine C.out.mono ?_); rintro e w1 ⟨rfl, rfl⟩))
    rw [← hS.out]
    have hl : Look w1 w1.heap.size (w1.heap.size + 1) S true ((w1.alloc (.cells #[.string S] 9)).alloc (.cells #[.bool true] 4)) := by
      refine ⟨below_of (below_alloc _ _) (below_alloc _ _), (Boxed.new _ _ _).alloc _, ?_⟩
      have := Boxed.new (w1.alloc (.cells #[.string S] 9)) 4 (.bool true)
      rwa [World.size_alloc] at this
    generalize hW : ((w1.alloc (.cells #[.string S] 9)).alloc (.cells #[.bool true] 4)) = W at hl ⊢
    clear hW
    have x1 := hl.set.cell
    have c1 := LH.out W.drew ⟨hl.below.drew, hl.set, hl.has⟩
    have HL := Lib.hid hl
    clear hl LH
    go_region_with (go_at_call 14; ((with_reducible refine c1.out.mono ?_); rintro e w2 ⟨rfl, l2⟩))
    all_goals have x9 := l2.has.cell
    all_goals have b9 := Lib.hid l2.below
    all_goals clear l2
    all_goals go_wp2
    all_goals go_returns
    all_goals exact ⟨rfl, b9.out⟩
end Go.Proofs.YtccdbodemoefkaaDoor
