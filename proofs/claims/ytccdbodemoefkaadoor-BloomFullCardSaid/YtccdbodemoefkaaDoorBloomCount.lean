/-
  The program's table of counts, and its Ones, over the plain filter. Condition: a text of a length that there is.
-/
import Derived.Test.YtccdbodemoefkaaDoorBloomHas
import Derived.Lib.LaidTab
import Derived.MakeChecks
namespace Go.Proofs.YtccdbodemoefkaaDoor
set_option maxRecDepth 100000
open Go.RowKit
/-- The program's table lies in memory. -/
def Tab (w : World) : Prop := ∀ i, i < 16 → w.cell? ⟨0, i, none⟩ = some (.int .i64 (Blm.tab.getD i 0))
theorem tab_laid {w : World} (h : laidMetH Tryd.prog [("freshet/bloom.counts", Rows.laid_freshet_bloom_counts)] w) : Tab w := by
  rw [MakeChecks.laidMetH_plain _ _ _ (by kernel_rfl)] at h
  have hT : Lib.TabIs Tryd.prog w "freshet/bloom.counts" .i64 Blm.tab := Lib.tabIs_of_head (rest := []) (g := 0) (t := 37) (e := 3) (n := 16) (by kernel_rfl) (by kernel_rfl) (by kernel_rfl) (by kernel_rfl) (by kernel_rfl) (by kernel_rfl) h
  intro i hi
  exact hT.cell (by kernel_rfl) i hi
theorem Tab.below {B : Nat} {u w : World} (h : Tab u) (hb : Below B u w) (hB : u.heap.size ≤ B) : Tab w := fun i hi =>
  (hb.cell (p := ⟨0, i, none⟩) (Nat.lt_of_lt_of_le (World.block_lt_of_cell? _ _ (h i hi)) hB)).trans (h i hi)
theorem low4_code (c : UInt8) : bits .and .u8 (c.toNat : Int) 15 = ((c.toNat % 16 : Nat) : Int) := by
  have : ∀ c : Fin 256, bits .and .u8 (c.val : Int) 15 = ((c.val % 16 : Nat) : Int) := by decide +kernel
  exact this ⟨c.toNat, UInt8.toNat_lt c⟩
theorem tab_le (i : Nat) : 0 ≤ Blm.tab.getD i 0 ∧ Blm.tab.getD i 0 ≤ 4 := by
  by_cases h : i < 16
  · have : ∀ i : Fin 16, 0 ≤ Blm.tab.getD i.val 0 ∧ Blm.tab.getD i.val 0 ≤ 4 := by decide +kernel
    exact this ⟨i, h⟩
  · have : Blm.tab.getD i 0 = 0 := by rw [List.getD_eq_getElem?_getD, List.getElem?_eq_none (by show 16 ≤ i; omega)]; rfl
    rw [this]; omega
theorem ones_step (f : ByteArray) (i : Nat) (h1 : 1 ≤ i) (h : i < f.size) : (Blm.ones (f.data.toList.tail.take i) : Int) = Blm.ones (f.data.toList.tail.take (i - 1)) + (Blm.tab.getD (f[i].toNat % 16) 0 + Blm.tab.getD (f[i].toNat / 16) 0) := by
  rw [← Blm.pop_table]
  have hl : i - 1 < f.data.toList.tail.length := by rw [List.length_tail, okB_size]; omega
  have e : f.data.toList.tail.take i = f.data.toList.tail.take (i - 1) ++ [f[i]] := by
    have e1 := List.take_succ_eq_append_getElem hl
    rw [show i - 1 + 1 = i by omega, List.getElem_tail] at e1
    rw [e1]
    congr 2
    show f.data.toList[i - 1 + 1]'_ = f.data.toList[i]'_
    congr 1
    omega
  rw [e, Blm.ones_snoc]
  push_cast
  rfl
theorem okB_range {f : ByteArray} (h : Blm.okB f.data.toList = true) : 9 ≤ f.size ∧ f.size ≤ 262145 := by
  unfold Blm.okB at h; rw [okB_size] at h; simp at h; omega
set_option maxHeartbeats 2000000 in
theorem ones_any (f : ByteArray) (hf : f.size ≤ maxLen) (w : World) (ht : Tab w) :
    Calls Tryd.prog 11 #[.string f] w fun e w' => e = .returned (.int .i64 (Blm.onesB f.data.toList : Int)) ∧ Below w.heap.size w w' := by
  have C := Lib.hid (check_any f hf w)
  unfold Blm.onesB
  cases ho : Blm.okB f.data.toList with
  | false =>
    rw [ho] at C
    go_enter Tryd.func11, Tryd.ntmps11
    go_wp2_with (go_at_call 7; ((with_reducible refine C.out.mono ?_); rintro e w1 ⟨rfl, rfl⟩))
    go_returns
    exact ⟨rfl, Below.refl _ _⟩
  | true =>
    rw [ho] at C
    obtain ⟨h9, h10⟩ := okB_range ho
    have HT := Lib.hid ht
    clear ho ht
    go_enter Tryd.func11, Tryd.ntmps11
    go_wp2_with (go_at_call 7; ((with_reducible refine C.out.mono ?_); rintro e w1 ⟨rfl, rfl⟩))
    go_loopw [3, 4] (fun s d wr => ∃ i : Nat, 1 ≤ i ∧ i ≤ f.size ∧ s = .int .i64 (Blm.ones (f.data.toList.tail.take (i - 1)) : Int) ∧ d = .int .i64 i ∧ Hid (Below w1.heap.size w1 wr)) (fun _ d _ => f.size - (intOf d).toNat)
    case atStart => exact ⟨1, Nat.le_refl _, by omega, rfl, rfl, Lib.hid (Below.refl _ _)⟩
    case round =>
      obtain ⟨i, hi1, hi2, rfl, rfl, hB⟩ := hrel
      by_cases hlt : i < f.size
      · have hs := Lib.hid (ones_step f i hi1 hlt)
        have hle := Blm.ones_le (f.data.toList.tail.take (i - 1))
        rw [List.length_take] at hle
        have hle2 : Blm.ones (f.data.toList.tail.take (i - 1)) ≤ 2097160 := by omega
        clear hle
        obtain ⟨S, hS⟩ := named (Blm.ones (f.data.toList.tail.take (i - 1)))
        rw [← hS.out] at hle2 hs ⊢
        have t := HT.out.below hB.out (Nat.le_refl _)
        have e1 := low4_code f[i]
        have e2 : (f[i].toNat : Int) / 16 = ((f[i].toNat / 16 : Nat) : Int) := rfl
        have b8 := UInt8.toNat_lt f[i]
        obtain ⟨lo, hlo⟩ := named (f[i].toNat % 16)
        obtain ⟨hi', hhi⟩ := named (f[i].toNat / 16)
        have l1 : lo < 16 := by rw [hlo.out]; omega
        have l2 : hi' < 16 := by rw [hhi.out]; omega
        rw [← hlo.out] at e1 hs
        rw [← hhi.out] at e2 hs
        have c1 := t lo l1
        have c2 := t hi' l2
        obtain ⟨p1, p2⟩ := tab_le lo
        obtain ⟨q1, q2⟩ := tab_le hi'
        obtain ⟨A1, hA1⟩ := named (Blm.tab.getD lo 0)
        obtain ⟨A2, hA2⟩ := named (Blm.tab.getD hi' 0)
        rw [← hA1.out] at c1 p1 p2 hs
        rw [← hA2.out] at c2 q1 q2 hs
        have i1 : (i : Int) < (f.size : Int) := by omega
        have i2 : (0 : Int) ≤ (i : Int) := by omega
        clear t b8
        go_wp2
        go_region
        go_wp2
        go_roundw
        case rel => exact ⟨i + 1, by omega, by omega, by rw [show i + 1 - 1 = i by omega, hs.out], by go_num, Lib.hid hB.out.drew⟩
        case measure => simp [intOf]; omega
      · obtain rfl : i = f.size := by omega
        have hall : f.data.toList.tail.take (f.size - 1) = f.data.toList.tail := List.take_of_length_le (by rw [List.length_tail, okB_size]; exact Nat.le_refl _)
        rw [hall]
        clear hall
        go_wp2
        go_returns
        exact ⟨rfl, hB.out⟩
end Go.Proofs.YtccdbodemoefkaaDoor
