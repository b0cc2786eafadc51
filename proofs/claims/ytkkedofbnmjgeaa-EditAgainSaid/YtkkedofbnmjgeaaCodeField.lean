/-
  The contracts of code.Field and of the document's own: each answers the plain mathematics' field. Condition: a text of a length that there is.
-/
import Derived.Test.YtkkedofbnmjgeaaCodeText
import Derived.Deep.RegionHeld3
namespace Go.Proofs.Ytkkedofbnmjgeaa
set_option maxRecDepth 100000
open Go.RowKit
theorem CurAt.put {w : World} {b : Nat} {s : ByteArray} {k : Nat} (h : CurAt w b s k) (j : Nat) (x : Int) (hx : x = (j : Int)) : CurAt (w.setCell ⟨b, 1, none⟩ (.int .i64 x)).drew b s j := by
  subst hx; exact ⟨(h.set j).c0, (h.set j).c1, (h.set j).f1⟩
theorem clone_any (s : ByteArray) (hs : s.size ≤ 281474976710656) (w : World) : Calls Try.prog 63 #[.string s] w fun e w' => e = .returned (.string s) ∧ Below w.heap.size w w' := by
  go_enter Try.func63, Try.ntmps63
  go_wp2_with (go_at_call 75; refine (Any.stringslite_Clone Try.laysM316 s _ hs).mono ?_; rintro e w' ⟨rfl, hb⟩)
  go_ret
  exact ⟨rfl, hb⟩
set_option maxRecDepth 100000 in
set_option maxHeartbeats 4000000 in
theorem take_none (s : ByteArray) (hs : s.size ≤ maxLen) (b k n : Nat) (w : World) (h : CurAt w b s k) (hk : k ≤ s.size) (hlt : s.size - k < n) :
    Calls Try.prog 90 #[.pointer (some ⟨b, 0, none⟩), .int .u64 (n : Int)] w fun e w' => e = .returned (.tuple #[.string ⟨#[]⟩, .bool false]) ∧ But b w w' := by
  unfold maxLen at hs
  obtain ⟨h0, h1, hf⟩ := h
  have hd : (s.size : Int) - (k : Int) < (n : Int) := by omega
  have hd0 : 0 ≤ (s.size : Int) - (k : Int) := by omega
  go_enter Try.func90, Try.ntmps90
  go_wp2
  go_quiet (fail)
  go_wp2
  go_returns
  exact ⟨rfl, (But.refl _ _).drewN⟩
set_option maxRecDepth 100000 in
set_option maxHeartbeats 4000000 in
theorem take_some (s : ByteArray) (hs : s.size ≤ maxLen) (b k n : Nat) (hcap : n ≤ 281474976710656) (w : World) (h : CurAt w b s k) (hk : k + n ≤ s.size) :
    Calls Try.prog 90 #[.pointer (some ⟨b, 0, none⟩), .int .u64 (n : Int)] w fun e w' => e = .returned (.tuple #[.string (s.extract k (k + n)), .bool true]) ∧ CurAt w' b s (k + n) ∧ But b w w' := by
  unfold maxLen at hs
  have hlt := h.lt
  obtain ⟨h0, h1, hf⟩ := h
  have hd : (n : Int) ≤ (s.size : Int) - (k : Int) := by omega
  have hd0 : 0 ≤ (s.size : Int) - (k : Int) := by omega
  go_enter Try.func90, Try.ntmps90
  go_wp2
  go_quiet (fail)
  go_wp2
  go_region_with (first | (go_at_call 63; refine (clone_any (s.extract k (k + n)) (by rw [ByteArray.size_extract]; omega) _).mono ?_; rintro e w' ⟨rfl, hb⟩))
  all_goals go_wp2
  all_goals go_returns
  all_goals
    refine ⟨rfl, ?_, ?_⟩
    · refine CurAt.below ?_ hb (by simpa using hlt)
      exact CurAt.put (CurAt.drewN ⟨h0, h1, hf⟩) (k + n) _ (by omega)
    · exact (((But.refl b w).drewN (n := _)).setCell (p := ⟨b, 1, none⟩) rfl _).drew.trans (But.of_below hb (Nat.le_refl _))
theorem field_list (s : ByteArray) (k n : Nat) : (s.extract k (k + n)) = ⟨((s.data.toList.drop k).take n).toArray⟩ := by
  apply ByteArray.ext
  apply Array.toList_inj.1
  rw [ByteArray.data_extract, Array.toList_extract, List.extract_eq_take_drop, Nat.add_sub_cancel_left]
set_option maxRecDepth 100000 in
set_option maxHeartbeats 4000000 in
theorem field_gen (s : ByteArray) (hs' : s.size ≤ maxLen) (x : Int) (hx : -9223372036854775808 ≤ x ∧ x ≤ 9223372036854775807) (hcap : s.size ≤ 281474976710656 ∨ x ≤ 281474976710656) (w : World) :
    Calls Try.prog 78 #[.string s, .int .i64 x] w fun e w' =>
      e = .returned (.tuple #[.string ⟨(Code.rdField s.data.toList x).1.toArray⟩, .int .i64 ((Code.rdField s.data.toList x).2.1 : Int), .int .i64 ((Code.rdField s.data.toList x).2.2 : Int)]) ∧ Below w.heap.size w w' := by
  have hmf := makes_func
  have hsz := Code.rd_size s.data.toList
  have hfit := Code.rd_fits s.data.toList
  have hE := Code.rd_err 0 s.data.toList
  have hn := number_any s hs' w.heap.size 0 _ (cur_new w s 117) (by omega)
  rw [List.drop_zero] at hn
  have hlen : s.data.toList.length = s.size := by simp
  rw [hlen] at hsz
  have hF : Hid (Code.rdField s.data.toList x = if (Code.rd 0 s.data.toList).2.2 ≠ 0 then ([], 0, (Code.rd 0 s.data.toList).2.2) else if x < (Code.rd 0 s.data.toList).1 then ([], 0, 3) else if s.size - (Code.rd 0 s.data.toList).2.1 < (Code.rd 0 s.data.toList).1 then ([], 0, 6) else ((s.data.toList.drop (Code.rd 0 s.data.toList).2.1).take (Code.rd 0 s.data.toList).1, (Code.rd 0 s.data.toList).2.1 + (Code.rd 0 s.data.toList).1, 0)) := Lib.hid (by rw [← hlen]; rfl)
  obtain ⟨⟨n, k, e⟩, HR⟩ := named (Code.rd 0 s.data.toList)
  rw [← HR.out] at hn hE hsz hfit hF
  obtain ⟨T, HT⟩ := named (Code.rdField s.data.toList x)
  rw [← HT.out] at hF ⊢
  have HN := Lib.hid hn
  clear hn hlen
  have hsz : k ≤ s.size := hsz
  have hfit : n < 2 ^ 64 := hfit
  have hs2 := hs'
  unfold maxLen at hs2
  go_enter Try.func78, Try.ntmps78
  go_wp2
  refine wp_scope_fwd 0 rfl ?_
  go_wp2_with fail
  refine HN.out.mono ?_
  rintro e' w1 ⟨rfl, hc, hB⟩
  have hB1 := below_but hB
  rcases hE with h0 | ⟨h67, _, _⟩
  · have h0 : e = 0 := h0
    subst h0
    have hcc := hc rfl
    rw [Nat.zero_add] at hcc
    clear hc
    by_cases hlong : x < (n : Int)
    · by_cases hneg : x < 0
      · go_wp2
        go_step3
        refine ⟨rfl, ?_⟩
        go_wp2
        rw [Exit.noGoto_ret]
        go_returns
        have := hF.out
        rw [if_neg (by simp), if_pos hlong] at this
        rw [this]
        exact ⟨rfl, hB1⟩
      · have hpos : 0 ≤ x := by omega
        have hw : x % 18446744073709551616 = x := by omega
        go_wp2
        go_step3
        refine ⟨rfl, ?_⟩
        go_wp2
        rw [Exit.noGoto_ret]
        go_returns
        have := hF.out
        rw [if_neg (by simp), if_pos hlong] at this
        rw [this]
        exact ⟨rfl, hB1⟩
    · have hpos : 0 ≤ x := by omega
      have hnl : (n : Int) ≤ x := by omega
      by_cases hshort : s.size - k < n
      · have hns : Hid (s.size - k < n) := hshort
        go_wp2_with fail
        refine (take_none s hs' w.heap.size k n w1 hcc hsz hshort).mono ?_
        rintro e' w2 ⟨rfl, hB2⟩
        go_wp2
        go_step3
        refine ⟨rfl, ?_⟩
        go_wp2
        rw [Exit.noGoto_ret]
        go_returns
        have := hF.out
        rw [if_neg (by simp), if_neg (show ¬ x < (n : Int) by omega), if_pos hns.out] at this
        rw [this]
        exact ⟨rfl, hB1.trans (hB2.below (Nat.le_refl _) hB1.size)⟩
      · go_wp2_with fail
        refine (take_some s hs' w.heap.size k n (by omega) w1 hcc (by omega)).mono ?_
        rintro e' w2 ⟨rfl, ⟨c0, c1, f1⟩, hB2⟩
        have hT := hF.out
        rw [if_neg (by simp), if_neg (show ¬ x < (n : Int) by omega), if_neg hshort] at hT
        have HT2 := Lib.hid hT
        clear hT
        go_wp2
        go_quiet (fail)
        go_wp2
        rw [jump_ret]
        go_returns
        rw [HT2.out, field_list]
        exact ⟨rfl, below_drewN (hB1.trans (hB2.below (Nat.le_refl _) hB1.size))⟩
  · have h67 : e = 6 ∨ e = 7 := h67
    have hz : ((e : Int) == 0) = false := beq_eq_false_iff_ne.2 (by omega)
    clear hc
    have hne : Hid (¬ e = 0) := Lib.hid (by omega)
    go_wp2
    go_step3
    refine ⟨rfl, ?_⟩
    go_wp2
    rw [Exit.noGoto_ret]
    go_returns
    have := hF.out
    rw [if_pos hne.out] at this
    rw [this]
    exact ⟨rfl, hB1⟩
theorem field_any (s : ByteArray) (hs : s.size ≤ reachBytes) (x : Int) (hx : -9223372036854775808 ≤ x ∧ x ≤ 9223372036854775807) (w : World) :
    Calls Try.prog 78 #[.string s, .int .i64 x] w fun e w' =>
      e = .returned (.tuple #[.string ⟨(Code.rdField s.data.toList x).1.toArray⟩, .int .i64 ((Code.rdField s.data.toList x).2.1 : Int), .int .i64 ((Code.rdField s.data.toList x).2.2 : Int)]) ∧ Below w.heap.size w w' :=
  field_gen s (reach_max hs) x hx (Or.inl (by unfold reachBytes at hs; omega)) w
end Go.Proofs.Ytkkedofbnmjgeaa
