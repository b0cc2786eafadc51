/-
  The contracts of keys.Range, of keys.Encode and of keys.Group, whatever is handed in. Condition: the library's one variable holds some number; a text of a length that there is.
-/
import Derived.Test.YtpobfheioondaaaDoorKeysRange
import Derived.Test.YtpobfheioondaaaDoorSumHash
import Derived.Deep.RegionWith
namespace Go.Proofs.YtpobfheioondaaaDoor
open Go.RowKit
theorem range_out (st gr : Int) (k p u : ByteArray) (n : Int) (h : ¬ (1 ≤ n ∧ n ≤ 4)) (w : World) :
    Calls Tryd.prog 23 #[keyVal st gr k p u, .int .i64 n] w fun e w' => e = .returned (.tuple #[.string noText, .string noText, .int .i64 2]) ∧ Below w.heap.size w w' := by
  have n1 : (n == 1) = false := beq_eq_false_iff_ne.2 (by omega)
  have n2 : (n == 2) = false := beq_eq_false_iff_ne.2 (by omega)
  have n3 : (n == 3) = false := beq_eq_false_iff_ne.2 (by omega)
  have n4 : (n == 4) = false := beq_eq_false_iff_ne.2 (by omega)
  clear h
  go_enter Tryd.func23, Tryd.ntmps23
  go_wp2
  go_returns
  exact ⟨rfl, below_alloc _ _⟩
theorem range_any (st gr : Int) (k p u : ByteArray) (n : Int) (m : Int) (w : World) (hm : Max w m) :
    Calls Tryd.prog 23 #[keyVal st gr k p u, .int .i64 n] w fun e w' => e = .returned (.tuple #[.string ⟨(Keys.rng (skOf st gr k p u) n).1.toArray⟩, .string ⟨(Keys.rng (skOf st gr k p u) n).2.1.toArray⟩, .int .i64 ((Keys.rng (skOf st gr k p u) n).2.2 : Int)]) ∧ Below w.heap.size w w' := by
  by_cases h : 1 ≤ n ∧ n ≤ 4
  · rcases (show n = 1 ∨ n = 2 ∨ n = 3 ∨ n = 4 by omega) with rfl | rfl | rfl | rfl
    · exact range_1 st gr k p u m w hm
    · exact range_2 st gr k p u m w hm
    · exact range_3 st gr k p u m w hm
    · exact range_4 st gr k p u m w hm
  · have e : Keys.rng (skOf st gr k p u) n = ([], [], 2) := by unfold Keys.rng; rw [if_pos h]
    rw [e]
    exact range_out st gr k p u n h w
set_option maxHeartbeats 4000000 in
theorem encode_any (st gr : Int) (k p u : ByteArray) (m : Int) (w : World) (hm : Max w m) :
    Calls Tryd.prog 14 #[keyVal st gr k p u] w fun e w' => e = .returned (.tuple #[.string ⟨(Keys.encode (skOf st gr k p u)).1.toArray⟩, .int .i64 ((Keys.encode (skOf st gr k p u)).2 : Int)]) ∧ Below w.heap.size w w' := by
  have c1 := fun v => check_any st gr k p u v
  by_cases hE : Keys.check (skOf st gr k p u) = 0
  · rw [Keys.encode_ok hE]
    rw [hE] at c1
    have hv := Keys.valid_check hE
    have hk : k.size ≤ 64 := by have := hv.key; rwa [show (skOf st gr k p u).key = k.data.toList from rfl, size_len] at this
    have hp : p.size ≤ 64 := by have := hv.space; rwa [show (skOf st gr k p u).space = p.data.toList from rfl, size_len] at this
    have hu : (u.size : Int) ≤ 64 := by have := hv.sub; rw [show (skOf st gr k p u).sub = u.data.toList from rfl, size_len] at this; omega
    have c2 := fun v h => first_4 st gr k p u hv.st hv.gr hk hp m v h
    have hlen := Keys.first_len hv.key hv.space 4
    have hcat : (⟨(Keys.enc (skOf st gr k p u)).toArray⟩ : ByteArray) = ⟨(Keys.first (skOf st gr k p u) 4).toArray⟩ ++ u := by
      apply ByteArray.ext; rw [ByteArray.data_append]; apply Array.toList_inj.1; simp [Keys.enc]
    show Calls _ _ _ _ fun e w' => e = .returned (.tuple #[.string ⟨(Keys.enc (skOf st gr k p u)).toArray⟩, .int .i64 0]) ∧ _
    rw [hcat]
    have hF : ((⟨(Keys.first (skOf st gr k p u) 4).toArray⟩ : ByteArray).size : Int) ≤ 262 := by
      show ((Keys.first (skOf st gr k p u) 4).toArray.size : Int) ≤ 262
      rw [List.size_toArray]; omega
    obtain ⟨F, hFF⟩ := named (⟨(Keys.first (skOf st gr k p u) 4).toArray⟩ : ByteArray)
    rw [← hFF.out] at c2 hF ⊢
    have C1 := Lib.hid c1
    have C2 := Lib.hid c2
    clear c1 c2 hlen hcat hE hv
    go_enter Tryd.func14, Tryd.ntmps14
    go_wp2_with (go_at_call 16; ((with_reducible refine (C1.out _).mono ?_); rintro e w1 ⟨rfl, hb⟩; have hB1 := below_after hb; have hm1 := carry' hb hm; obtain ⟨b0, b1, b2, b3, b4⟩ := kept_box hb; have hlt := World.block_lt_of_cell? _ _ b4))
    go_region_with (go_at_call 28; refine (C2.out _ ?_).mono ?_; (first | with_reducible exact hm1 | exact hm1); rintro e w' ⟨rfl, hb⟩; have hB2 : Hid (Below w.heap.size w w') := Lib.hid (below_of (w := w) (by first | exact hB1 | exact hB1.drew) hb); have q4 := (hb.cell (p := ⟨w.heap.size, 4, none⟩) (by first | exact hlt | (simp; exact hlt))).trans b4)
    all_goals go_wp2
    all_goals go_returns
    all_goals exact ⟨rfl, by first | exact hB2.out | exact hB2.out.drew⟩
  · rw [Keys.encode_no hE]
    have hlen : Keys.check (skOf st gr k p u) < 10 := Keys.check_lt _
    obtain ⟨E, hEE⟩ := named (Keys.check (skOf st gr k p u))
    rw [← hEE.out] at c1 hE ⊢
    show Calls _ _ _ _ fun e w' => e = .returned (.tuple #[.string noText, .int .i64 (E : Int)]) ∧ _
    have hne : ((E : Int) != 0) = true := bne_iff_ne.2 (by omega)
    have C1 := Lib.hid c1
    clear c1 hE hlen
    go_enter Tryd.func14, Tryd.ntmps14
    go_wp2_with (go_at_call 16; ((with_reducible refine (C1.out _).mono ?_); rintro e w' ⟨rfl, hb⟩; have hB' := below_after hb))
    go_returns
    exact ⟨rfl, by assumption⟩
end Go.Proofs.YtpobfheioondaaaDoor
