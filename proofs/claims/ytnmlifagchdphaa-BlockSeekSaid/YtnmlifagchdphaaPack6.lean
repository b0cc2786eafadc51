/-
  The contracts of code.Field and of the document's own: each answers the plain mathematics' field. Condition: a text of a length that there is.
-/
import Derived.Test.YtnmlifagchdphaaPack5
import Derived.Deep.RegionHeld3
import Derived.Laws.OwnMore
import Derived.Deep.AppendLies
import Derived.Deep.Upon
namespace Go.Proofs.Ytnmlifagchdphaa
set_option maxRecDepth 100000
open Go.RowKit
theorem CurAt.put {w : World} {b : Nat} {s : ByteArray} {k : Nat} (h : CurAt w b s k) (j : Nat) (x : Int) (hx : x = (j : Int)) : CurAt (w.setCell ⟨b, 1, none⟩ (.int .i64 x)).drew b s j := by
  subst hx; exact ⟨(h.set j).c0, (h.set j).c1, (h.set j).f1⟩
theorem clone_any (s : ByteArray) (hs : s.size ≤ 281474976710656) (w : World) : Calls Try.prog 48 #[.string s] w fun e w' => e = .returned (.string s) ∧ Below w.heap.size w w' := by
  go_enter Try.func48, Try.ntmps48
  go_wp2_with (go_at_call 54; refine (Any.stringslite_Clone Try.laysM316 s _ hs).mono ?_; rintro e w' ⟨rfl, hb⟩)
  go_ret
  exact ⟨rfl, hb⟩
set_option maxRecDepth 100000 in
set_option maxHeartbeats 4000000 in
theorem take_none (s : ByteArray) (hs : s.size ≤ maxLen) (b k n : Nat) (w : World) (h : CurAt w b s k) (hk : k ≤ s.size) (hlt : s.size - k < n) :
    Calls Try.prog 57 #[.pointer (some ⟨b, 0, none⟩), .int .u64 (n : Int)] w fun e w' => e = .returned (.tuple #[.string ⟨#[]⟩, .bool false]) ∧ But b w w' := by
  unfold maxLen at hs
  obtain ⟨h0, h1, hf⟩ := h
  have hd : (s.size : Int) - (k : Int) < (n : Int) := by omega
  have hd0 : 0 ≤ (s.size : Int) - (k : Int) := by omega
  go_enter Try.func57, Try.ntmps57
  go_wp2
  go_quiet (fail)
  go_wp2
  go_returns
  exact ⟨rfl, (But.refl _ _).drewN⟩
set_option maxRecDepth 100000 in
set_option maxHeartbeats 4000000 in
theorem take_some (s : ByteArray) (hs : s.size ≤ maxLen) (b k n : Nat) (hcap : n ≤ 281474976710656) (w : World) (h : CurAt w b s k) (hk : k + n ≤ s.size) :
    Calls Try.prog 57 #[.pointer (some ⟨b, 0, none⟩), .int .u64 (n : Int)] w fun e w' => e = .returned (.tuple #[.string (s.extract k (k + n)), .bool true]) ∧ CurAt w' b s (k + n) ∧ But b w w' := by
  unfold maxLen at hs
  have hlt := h.lt
  obtain ⟨h0, h1, hf⟩ := h
  have hd : (n : Int) ≤ (s.size : Int) - (k : Int) := by omega
  have hd0 : 0 ≤ (s.size : Int) - (k : Int) := by omega
  go_enter Try.func57, Try.ntmps57
  go_wp2
  go_quiet (fail)
  go_wp2
  go_region_with (first | (go_at_call 48; refine (clone_any (s.extract k (k + n)) (by rw [ByteArray.size_extract]; omega) _).mono ?_; rintro e w' ⟨rfl, hb⟩))
  all_goals go_wp2
  all_goals go_returns
  all_goals
    refine ⟨rfl, ?_, ?_⟩
    · refine CurAt.below ?_ hb (by simpa using hlt)
      exact CurAt.put (CurAt.drewN ⟨h0, h1, hf⟩) (k + n) _ (by omega)
    · exact (((But.refl b w).drewN (n := _)).setCell (p := ⟨b, 1, none⟩) rfl _).drew.trans (But.of_below hb (Nat.le_refl _))
theorem field_list (s : ByteArray) (k n : Nat) : (s.extract k (k + n)) = ⟨((s.data.toList.drop k).take n).toArray⟩ := by
  apply ByteArray.ext
  apply Array.toList_inj.1
  rw [ByteArray.data_extract, Array.toList_extract, List.extract_eq_take_drop, Nat.add_sub_cancel_left]
set_option maxRecDepth 100000 in
set_option maxHeartbeats 4000000 in
theorem field_gen (s : ByteArray) (hs' : s.size ≤ maxLen) (x : Int) (hx : -9223372036854775808 ≤ x ∧ x ≤ 9223372036854775807) (hcap : s.size ≤ 281474976710656 ∨ x ≤ 281474976710656) (w : World) :
    Calls Try.prog 53 #[.string s, .int .i64 x] w fun e w' =>
      e = .returned (.tuple #[.string ⟨(Code.rdField s.data.toList x).1.toArray⟩, .int .i64 ((Code.rdField s.data.toList x).2.1 : Int), .int .i64 ((Code.rdField s.data.toList x).2.2 : Int)]) ∧ Below w.heap.size w w' := by
  have hmf := makes_func
  have hsz := Code.rd_size s.data.toList
  have hfit := Code.rd_fits s.data.toList
  have hE := Code.rd_err 0 s.data.toList
  have hn := number_any s hs' w.heap.size 0 _ (cur_new w s 89) (by omega)
  rw [List.drop_zero] at hn
  have hlen : s.data.toList.length = s.size := by simp
  rw [hlen] at hsz
  have hF : Hid (Code.rdField s.data.toList x = if (Code.rd 0 s.data.toList).2.2 ≠ 0 then ([], 0, (Code.rd 0 s.data.toList).2.2) else if x < (Code.rd 0 s.data.toList).1 then ([], 0, 3) else if s.size - (Code.rd 0 s.data.toList).2.1 < (Code.rd 0 s.data.toList).1 then ([], 0, 6) else ((s.data.toList.drop (Code.rd 0 s.data.toList).2.1).take (Code.rd 0 s.data.toList).1, (Code.rd 0 s.data.toList).2.1 + (Code.rd 0 s.data.toList).1, 0)) := Lib.hid (by rw [← hlen]; rfl)
  obtain ⟨⟨n, k, e⟩, HR⟩ := named (Code.rd 0 s.data.toList)
  rw [← HR.out] at hn hE hsz hfit hF
  obtain ⟨T, HT⟩ := named (Code.rdField s.data.toList x)
  rw [← HT.out] at hF ⊢
  have HN := Lib.hid hn
  clear hn hlen
  have hsz : k ≤ s.size := hsz
  have hfit : n < 2 ^ 64 := hfit
  have hs2 := hs'
  unfold maxLen at hs2
  go_enter Try.func53, Try.ntmps53
  go_wp2
  refine wp_scope_fwd 0 rfl ?_
  go_wp2_with fail
  refine HN.out.mono ?_
  rintro e' w1 ⟨rfl, hc, hB⟩
  have hB1 := below_but hB
  rcases hE with h0 | ⟨h67, _, _⟩
  · have h0 : e = 0 := h0
    subst h0
    have hcc := hc rfl
    rw [Nat.zero_add] at hcc
    clear hc
    by_cases hlong : x < (n : Int)
    · by_cases hneg : x < 0
      · go_wp2
        go_step3
        refine ⟨rfl, ?_⟩
        go_wp2
        rw [Exit.noGoto_ret]
        go_returns
        have := hF.out
        rw [if_neg (by simp), if_pos hlong] at this
        rw [this]
        exact ⟨rfl, hB1⟩
      · have hpos : 0 ≤ x := by omega
        have hw : x % 18446744073709551616 = x := by omega
        go_wp2
        go_step3
        refine ⟨rfl, ?_⟩
        go_wp2
        rw [Exit.noGoto_ret]
        go_returns
        have := hF.out
        rw [if_neg (by simp), if_pos hlong] at this
        rw [this]
        exact ⟨rfl, hB1⟩
    · have hpos : 0 ≤ x := by omega
      have hnl : (n : Int) ≤ x := by omega
      by_cases hshort : s.size - k < n
      · have hns : Hid (s.size - k < n) := hshort
        go_wp2_with fail
        refine (take_none s hs' w.heap.size k n w1 hcc hsz hshort).mono ?_
        rintro e' w2 ⟨rfl, hB2⟩
        go_wp2
        go_step3
        refine ⟨rfl, ?_⟩
        go_wp2
        rw [Exit.noGoto_ret]
        go_returns
        have := hF.out
        rw [if_neg (by simp), if_neg (show ¬ x < (n : Int) by omega), if_pos hns.out] at this
        rw [this]
        exact ⟨rfl, hB1.trans (hB2.below (Nat.le_refl _) hB1.size)⟩
      · go_wp2_with fail
        refine (take_some s hs' w.heap.size k n (by omega) w1 hcc (by omega)).mono ?_
        rintro e' w2 ⟨rfl, ⟨c0, c1, f1⟩, hB2⟩
        have hT := hF.out
        rw [if_neg (by simp), if_neg (show ¬ x < (n : Int) by omega), if_neg hshort] at hT
        have HT2 := Lib.hid hT
        clear hT
        go_wp2
        go_quiet (fail)
        go_wp2
        rw [jump_ret]
        go_returns
        rw [HT2.out, field_list]
        exact ⟨rfl, below_drewN (hB1.trans (hB2.below (Nat.le_refl _) hB1.size))⟩
  · have h67 : e = 6 ∨ e = 7 := h67
    have hz : ((e : Int) == 0) = false := beq_eq_false_iff_ne.2 (by omega)
    clear hc
    have hne : Hid (¬ e = 0) := Lib.hid (by omega)
    go_wp2
    go_step3
    refine ⟨rfl, ?_⟩
    go_wp2
    rw [Exit.noGoto_ret]
    go_returns
    have := hF.out
    rw [if_pos hne.out] at this
    rw [this]
    exact ⟨rfl, hB1⟩
theorem field_any (s : ByteArray) (hs : s.size ≤ reachBytes) (x : Int) (hx : -9223372036854775808 ≤ x ∧ x ≤ 9223372036854775807) (w : World) :
    Calls Try.prog 53 #[.string s, .int .i64 x] w fun e w' =>
      e = .returned (.tuple #[.string ⟨(Code.rdField s.data.toList x).1.toArray⟩, .int .i64 ((Code.rdField s.data.toList x).2.1 : Int), .int .i64 ((Code.rdField s.data.toList x).2.2 : Int)]) ∧ Below w.heap.size w w' :=
  field_gen s (reach_max hs) x hx (Or.inl (by unfold reachBytes at hs; omega)) w
end Go.Proofs.Ytnmlifagchdphaa
/-
  The contracts of cutNumber and cutField. Condition: texts of at most 2^20 bytes.
-/
namespace Go.Proofs.Ytnmlifagchdphaa
set_option maxRecDepth 100000
open Go.RowKit
theorem uint_list (L : List UInt8) (h : L.length ≤ 1048576) (w : World) :
    Calls Try.prog 52 #[.string ⟨L.toArray⟩] w fun e w' => e = .returned (.tuple #[.int .u64 ((Code.rd 0 L).1 : Int), .int .i64 ((Code.rd 0 L).2.1 : Int), .int .i64 ((Code.rd 0 L).2.2 : Int)]) ∧ Below w.heap.size w w' :=
  uint_any ⟨L.toArray⟩ (by rw [ofList_size]; unfold maxLen; omega) w
theorem field_list' (L : List UInt8) (h : L.length ≤ 1048576) (x : Int) (hx : 0 ≤ x ∧ x ≤ 4096) (w : World) :
    Calls Try.prog 53 #[.string ⟨L.toArray⟩, .int .i64 x] w fun e w' => e = .returned (.tuple #[.string ⟨(Code.rdField L x).1.toArray⟩, .int .i64 ((Code.rdField L x).2.1 : Int), .int .i64 ((Code.rdField L x).2.2 : Int)]) ∧ Below w.heap.size w w' :=
  field_any ⟨L.toArray⟩ (by rw [ofList_size]; unfold reachBytes; omega) x (by omega) w
set_option maxRecDepth 100000 in
set_option maxHeartbeats 2000000 in
theorem cutnum_any (L : List UInt8) (h : L.length ≤ 1048576) (w : World) :
    Calls Try.prog 46 #[.string ⟨L.toArray⟩] w fun e w' => e = .returned (.tuple #[.int .u64 ((Code.rd 0 L).1 : Int), .string ⟨(L.drop (Code.rd 0 L).2.1).toArray⟩, .bool (decide ((Code.rd 0 L).2.2 = 0))]) ∧ Below w.heap.size w w' := by
  have U := Lib.hid (uint_list L h w)
  have S := slL_from L (Code.rd 0 L).2.1 (Code.rd_size L) _ rfl
  obtain ⟨⟨n, k, e⟩, hR⟩ := named (Code.rd 0 L)
  rw [← hR.out] at U S ⊢
  simp only at U S ⊢
  obtain ⟨T, hT⟩ := named (L.drop k)
  rw [← hT.out] at S ⊢
  obtain ⟨B, hB⟩ := named (decide (e = 0))
  rw [← hB.out]
  have g : (((e : Nat) : Int) == 0) = B := by rw [hB.out, Bool.eq_iff_iff]; simp
  go_enter Try.func46, Try.ntmps46
  go_wp2_with (go_at_call 52; ((with_reducible refine U.out.mono ?_); rintro e w1 ⟨rfl, hb1⟩))
  go_quiet (fail)
  go_wp2_with fail
  go_returns
  exact ⟨rfl, below_drewN hb1⟩
theorem rdField_size (L : List UInt8) (x : Int) : (Code.rdField L x).2.1 ≤ L.length := by
  rcases Code.rdField_err L x with h | ⟨_, _, h⟩
  · exact (Code.put_field L x h).2.1
  · rw [h]; omega
set_option maxRecDepth 100000 in
set_option maxHeartbeats 2000000 in
theorem cutfld_any (L : List UInt8) (h : L.length ≤ 1048576) (x : Int) (hx : 0 ≤ x ∧ x ≤ 4096) (w : World) :
    Calls Try.prog 47 #[.string ⟨L.toArray⟩, .int .i64 x] w fun e w' => e = .returned (.tuple #[.string ⟨(Code.rdField L x).1.toArray⟩, .string ⟨(L.drop (Code.rdField L x).2.1).toArray⟩, .bool (decide ((Code.rdField L x).2.2 = 0))]) ∧ Below w.heap.size w w' := by
  have U := Lib.hid (field_list' L h x hx w)
  have S := slL_from L (Code.rdField L x).2.1 (rdField_size L x) _ rfl
  obtain ⟨⟨n, k, e⟩, hR⟩ := named (Code.rdField L x)
  rw [← hR.out] at U S ⊢
  simp only at U S ⊢
  obtain ⟨T, hT⟩ := named (L.drop k)
  rw [← hT.out] at S ⊢
  obtain ⟨B, hB⟩ := named (decide (e = 0))
  rw [← hB.out]
  have g : (((e : Nat) : Int) == 0) = B := by rw [hB.out, Bool.eq_iff_iff]; simp
  go_enter Try.func47, Try.ntmps47
  go_wp2_with (go_at_call 53; ((with_reducible refine U.out.mono ?_); rintro e w1 ⟨rfl, hb1⟩))
  go_quiet (fail)
  go_wp2_with fail
  go_returns
  exact ⟨rfl, below_drewN hb1⟩
end Go.Proofs.Ytnmlifagchdphaa
/-
  The contract of cutRow. Condition: at most 65536 bytes, behind a key of at most 520.
-/
namespace Go.Proofs.Ytnmlifagchdphaa
set_option maxRecDepth 100000
open Go.RowKit
def cutV : Option (Rw × List UInt8) → Value
  | none => .tuple #[rowV rwZ, .string ⟨#[]⟩, .bool false]
  | some (x, t) => .tuple #[rowV x, .string ⟨t.toArray⟩, .bool true]
theorem below_put4 {B N : Nat} {w V : World} (h : Below B w V) (hN : B ≤ N) (x : Rw) : Below B w ((((V.setCell ⟨N, 0, none⟩ (.string x.key)).setCell ⟨N, 1, none⟩ (.int .u64 (x.seq : Int))).setCell ⟨N, 2, none⟩ (.int .i64 x.kind)).setCell ⟨N, 3, none⟩ (.string x.val)) :=
  (((h.setCell (p := ⟨N, 0, none⟩) hN _).setCell (p := ⟨N, 1, none⟩) hN _).setCell (p := ⟨N, 2, none⟩) hN _).setCell (p := ⟨N, 3, none⟩) hN _
theorem rowAt_set0 {b s : Nat} {k v : ByteArray} {i : Int} {W : World} (h : RowAt b ⟨k, s, i, v⟩ W) (k' : ByteArray) : RowAt b ⟨k', s, i, v⟩ (W.setCell ⟨b, 0, none⟩ (.string k')) := (heap_setCell_same _ _ _ _ _ _ h).trans rfl
theorem rowAt_set1 {b s : Nat} {k v : ByteArray} {i : Int} {W : World} (h : RowAt b ⟨k, s, i, v⟩ W) (s' : Nat) : RowAt b ⟨k, s', i, v⟩ (W.setCell ⟨b, 1, none⟩ (.int .u64 (s' : Int))) := (heap_setCell_same _ _ _ _ _ _ h).trans rfl
theorem rowAt_set2 {b s : Nat} {k v : ByteArray} {i : Int} {W : World} (h : RowAt b ⟨k, s, i, v⟩ W) (i' : Int) : RowAt b ⟨k, s, i', v⟩ (W.setCell ⟨b, 2, none⟩ (.int .i64 i')) := (heap_setCell_same _ _ _ _ _ _ h).trans rfl
theorem rowAt_set3 {b s : Nat} {k v : ByteArray} {i : Int} {W : World} (h : RowAt b ⟨k, s, i, v⟩ W) (v' : ByteArray) : RowAt b ⟨k, s, i, v'⟩ (W.setCell ⟨b, 3, none⟩ (.string v')) := (heap_setCell_same _ _ _ _ _ _ h).trans rfl
theorem rdField_most (L : List UInt8) (x : Int) (h : (Code.rdField L x).2.2 = 0) : ((Code.rdField L x).1.length : Int) ≤ x := by
  unfold Code.rdField at h ⊢
  by_cases h1 : (Code.rd 0 L).2.2 ≠ 0
  · rw [if_pos h1] at h; exact absurd h h1
  · rw [if_neg h1] at h ⊢
    by_cases h2 : x < (Code.rd 0 L).1
    · rw [if_pos h2] at h; cases h
    · rw [if_neg h2] at h ⊢
      by_cases h3 : L.length - (Code.rd 0 L).2.1 < (Code.rd 0 L).1
      · rw [if_pos h3] at h; cases h
      · rw [if_neg h3]
        show (((L.drop (Code.rd 0 L).2.1).take (Code.rd 0 L).1).length : Int) ≤ x
        rw [List.length_take]
        omega
theorem cutX_eq (s p : List UInt8) : cutX s p =
  if (Code.rd 0 s).2.2 ≠ 0 ∨ p.length < (Code.rd 0 s).1 then none else
  if (Code.rdField (s.drop (Code.rd 0 s).2.1) 520).2.2 ≠ 0 ∨ 0 < com (p.drop (Code.rd 0 s).1) (Code.rdField (s.drop (Code.rd 0 s).2.1) 520).1 then none else
  if (Code.rd 0 ((s.drop (Code.rd 0 s).2.1).drop (Code.rdField (s.drop (Code.rd 0 s).2.1) 520).2.1)).2.2 ≠ 0 then none else
  match ((s.drop (Code.rd 0 s).2.1).drop (Code.rdField (s.drop (Code.rd 0 s).2.1) 520).2.1).drop (Code.rd 0 ((s.drop (Code.rd 0 s).2.1).drop (Code.rdField (s.drop (Code.rd 0 s).2.1) 520).2.1)).2.1 with
  | [] => none
  | k :: s3 =>
    if k.toNat = 1 then
      if (Code.rdField s3 2048).2.2 ≠ 0 then none else
      if chkR ⟨⟨(p.take (Code.rd 0 s).1 ++ (Code.rdField (s.drop (Code.rd 0 s).2.1) 520).1).toArray⟩, (Code.rd 0 ((s.drop (Code.rd 0 s).2.1).drop (Code.rdField (s.drop (Code.rd 0 s).2.1) 520).2.1)).1, (k.toNat : Int), ⟨(Code.rdField s3 2048).1.toArray⟩⟩ ≠ 0 then none else some (⟨⟨(p.take (Code.rd 0 s).1 ++ (Code.rdField (s.drop (Code.rd 0 s).2.1) 520).1).toArray⟩, (Code.rd 0 ((s.drop (Code.rd 0 s).2.1).drop (Code.rdField (s.drop (Code.rd 0 s).2.1) 520).2.1)).1, (k.toNat : Int), ⟨(Code.rdField s3 2048).1.toArray⟩⟩, s3.drop (Code.rdField s3 2048).2.1)
    else
      if chkR ⟨⟨(p.take (Code.rd 0 s).1 ++ (Code.rdField (s.drop (Code.rd 0 s).2.1) 520).1).toArray⟩, (Code.rd 0 ((s.drop (Code.rd 0 s).2.1).drop (Code.rdField (s.drop (Code.rd 0 s).2.1) 520).2.1)).1, (k.toNat : Int), ⟨#[]⟩⟩ ≠ 0 then none else some (⟨⟨(p.take (Code.rd 0 s).1 ++ (Code.rdField (s.drop (Code.rd 0 s).2.1) 520).1).toArray⟩, (Code.rd 0 ((s.drop (Code.rd 0 s).2.1).drop (Code.rdField (s.drop (Code.rd 0 s).2.1) 520).2.1)).1, (k.toNat : Int), ⟨#[]⟩⟩, s3) := rfl
set_option maxRecDepth 100000 in
set_option maxHeartbeats 8000000 in
theorem cutrow_any (L P : List UInt8) (hL : L.length ≤ 65536) (hP : P.length ≤ 520) (w : World) :
    Calls Try.prog 31 #[.string ⟨L.toArray⟩, .string ⟨P.toArray⟩] w fun e w' => e = .returned (cutV (cutX L P)) ∧ Below w.heap.size w w' := by
  have hE := Lib.hid (cutX_eq L P)
  obtain ⟨X, hX⟩ := named (cutX L P)
  rw [← hX.out] at hE ⊢
  have C1 := Lib.hid (fun u => cutnum_any L (by omega) u)
  have l1 := Code.rd_fits L
  have s1 := Code.rd_size L
  obtain ⟨⟨n1, k1, e1⟩, hR1⟩ := named (Code.rd 0 L)
  rw [← hR1.out] at hE C1 l1 s1
  simp only at hE C1 l1 s1
  obtain ⟨S1, hS1⟩ := named (L.drop k1)
  have hl1 : S1.length ≤ 65536 := by rw [hS1.out, List.length_drop]; omega
  rw [← hS1.out] at hE C1
  have C2 := Lib.hid (fun u => cutfld_any S1 (by omega) 520 (by omega) u)
  have m2 := rdField_most S1 520
  obtain ⟨⟨D, k2, e2⟩, hR2⟩ := named (Code.rdField S1 520)
  rw [← hR2.out] at hE C2 m2
  simp only at hE C2 m2
  obtain ⟨S2, hS2⟩ := named (S1.drop k2)
  have hl2 : S2.length ≤ 65536 := by rw [hS2.out, List.length_drop]; omega
  rw [← hS2.out] at hE C2
  have C3 := Lib.hid (fun u => cutnum_any S2 (by omega) u)
  obtain ⟨⟨n3, k3, e3⟩, hR3⟩ := named (Code.rd 0 S2)
  rw [← hR3.out] at hE C3
  simp only at hE C3
  obtain ⟨S3, hS3⟩ := named (S2.drop k3)
  have hl3 : S3.length ≤ 65536 := by rw [hS3.out, List.length_drop]; omega
  rw [← hS3.out] at hE C3
  have CM := Lib.hid (fun (hD : D.length ≤ 520) u => common_any ⟨(P.drop n1).toArray⟩ ⟨D.toArray⟩ (by rw [ofList_size, List.length_drop]; unfold maxLen; omega) (by rw [ofList_size]; unfold maxLen; omega) u)
  clear hX hR1 hS1 hR2 hS2 hR3 hS3 s1
  obtain ⟨B1, hB1⟩ := named (decide (e1 = 0))
  obtain ⟨B2, hB2⟩ := named (decide (e2 = 0))
  obtain ⟨B3, hB3⟩ := named (decide (e3 = 0))
  rw [← hB1.out] at C1
  rw [← hB2.out] at C2
  rw [← hB3.out] at C3
  have R0 := Lib.hid (RowAt.new rwZ w)
  have W0 := Lib.hid (below_alloc w (.cells #[.string ⟨#[]⟩, .int .u64 0, .int .i64 0, .string ⟨#[]⟩] 33))
  have wP : IntKind.u64.wrap (P.length : Int) = (P.length : Int) := wrap_u64_nat (by omega)
  have PL : (⟨P.toArray⟩ : ByteArray).size = P.length := ofList_size P
  simp only [rwZ] at R0
  go_enter Try.func31, Try.ntmps31
  go_wp2_with fail
  refine wp_scope_fwd 0 rfl ?_
  go_upto_region 4 with (go_at_call 46; ((with_reducible refine (C1.out _).mono ?_); rintro e u1 ⟨rfl, hb1⟩))
  have R1 := Lib.hid (R0.out.below hb1)
  have W1 := Lib.hid (below_of W0.out hb1)
  clear hb1 R0 W0 C1
  obtain ⟨⟨c0, c1, c2, c3⟩, cf⟩ := R1.out.cells
  simp only at c0 c1 c2 c3
  have f0 := cf 0
  have f1 := cf 1
  have f2 := cf 2
  have f3 := cf 3
  clear cf
  by_cases q1 : e1 = 0
  case neg =>
    obtain rfl : B1 = false := by rw [hB1.out]; simpa using q1
    rw [if_pos (.inl q1)] at hE
    have Z := Lib.hid (And.intro (rowAt_put R1.out rwZ) (below_put4 W1.out (Nat.le_refl _) rwZ))
    simp only [rwZ] at Z
    go_wp2_with fail
    go_step3
    refine ⟨rfl, ?_⟩
    go_wp2_with fail
    rw [Exit.noGoto_ret]
    generalize (((u1.setCell ⟨w.heap.size, 0, none⟩ (.string ⟨#[]⟩)).setCell ⟨w.heap.size, 1, none⟩ (.int .u64 0)).setCell ⟨w.heap.size, 2, none⟩ (.int .i64 0)).setCell ⟨w.heap.size, 3, none⟩ (.string ⟨#[]⟩) = VZ at *
    clear c0 c1 c2 c3 f0 f1 f2 f3
    obtain ⟨⟨a0, a1, a2, a3⟩, _⟩ := Z.out.1.cells
    simp only at a0 a1 a2 a3
    refine bodyPost_ret (v := .tuple #[rowV rwZ, .string ⟨#[]⟩, .bool false]) (by simp [results, Try.results31, go_sem, a0, a1, a2, a3, rwZ]) rfl ?_
    exact ⟨by rw [hE.out]; rfl, Z.out.2⟩
  subst q1
  obtain rfl : B1 = true := by rw [hB1.out]; rfl
  by_cases q2 : P.length < n1
  case pos =>
    rw [if_pos (.inr q2)] at hE
    have g1 : (P.length : Int) < (n1 : Int) := by omega
    have Z := Lib.hid (And.intro (rowAt_put R1.out rwZ) (below_put4 W1.out (Nat.le_refl _) rwZ))
    simp only [rwZ] at Z
    go_wp2_with fail
    go_step3
    refine ⟨rfl, ?_⟩
    go_wp2_with fail
    rw [Exit.noGoto_ret]
    generalize (((u1.setCell ⟨w.heap.size, 0, none⟩ (.string ⟨#[]⟩)).setCell ⟨w.heap.size, 1, none⟩ (.int .u64 0)).setCell ⟨w.heap.size, 2, none⟩ (.int .i64 0)).setCell ⟨w.heap.size, 3, none⟩ (.string ⟨#[]⟩) = VZ at *
    clear c0 c1 c2 c3 f0 f1 f2 f3
    obtain ⟨⟨a0, a1, a2, a3⟩, _⟩ := Z.out.1.cells
    simp only at a0 a1 a2 a3
    refine bodyPost_ret (v := .tuple #[rowV rwZ, .string ⟨#[]⟩, .bool false]) (by simp [results, Try.results31, go_sem, a0, a1, a2, a3, rwZ]) rfl ?_
    exact ⟨by rw [hE.out]; rfl, Z.out.2⟩
  rw [if_neg (by omega)] at hE
  have g1 : decide (P.length < n1) = false := by simpa using q2
  clear hB1
  go_upto_region 6 with (go_at_call 47; ((with_reducible refine (C2.out _).mono ?_); rintro e u2 ⟨rfl, hb2⟩))
  clear c0 c1 c2 c3 f0 f1 f2 f3
  have R2 := Lib.hid (R1.out.below hb2)
  have W2 := Lib.hid (below_of W1.out hb2)
  clear hb2 R1 W1 C2
  obtain ⟨⟨c0, c1, c2, c3⟩, cf⟩ := R2.out.cells
  simp only at c0 c1 c2 c3
  have f0 := cf 0
  have f1 := cf 1
  have f2 := cf 2
  have f3 := cf 3
  clear cf
  by_cases q3 : e2 = 0
  case neg =>
    obtain rfl : B2 = false := by rw [hB2.out]; simpa using q3
    rw [if_pos (.inl q3)] at hE
    have Z := Lib.hid (And.intro (rowAt_put R2.out rwZ) (below_put4 W2.out (Nat.le_refl _) rwZ))
    simp only [rwZ] at Z
    go_wp2_with fail
    go_step3
    refine ⟨rfl, ?_⟩
    go_wp2_with fail
    rw [Exit.noGoto_ret]
    generalize (((u2.setCell ⟨w.heap.size, 0, none⟩ (.string ⟨#[]⟩)).setCell ⟨w.heap.size, 1, none⟩ (.int .u64 0)).setCell ⟨w.heap.size, 2, none⟩ (.int .i64 0)).setCell ⟨w.heap.size, 3, none⟩ (.string ⟨#[]⟩) = VZ at *
    clear c0 c1 c2 c3 f0 f1 f2 f3
    obtain ⟨⟨a0, a1, a2, a3⟩, _⟩ := Z.out.1.cells
    simp only at a0 a1 a2 a3
    refine bodyPost_ret (v := .tuple #[rowV rwZ, .string ⟨#[]⟩, .bool false]) (by simp [results, Try.results31, go_sem, a0, a1, a2, a3, rwZ]) rfl ?_
    exact ⟨by rw [hE.out]; rfl, Z.out.2⟩
  subst q3
  obtain rfl : B2 = true := by rw [hB2.out]; rfl
  clear hB2
  have hD : D.length ≤ 520 := by have := m2 rfl; omega
  have CM := Lib.hid (CM.out hD)
  rw [ofList_toList, ofList_toList] at CM
  have S5 := exL_from P n1
  have hn1 : n1 ≤ P.length := by omega
  obtain ⟨G, hG⟩ := named (com (P.drop n1) D)
  rw [← hG.out] at CM hE
  obtain ⟨DP, hDP⟩ := named (P.drop n1)
  rw [← hDP.out] at S5 CM
  clear hG hDP m2
  by_cases q4 : 0 < G
  case pos =>
    rw [if_pos (.inr q4)] at hE
    have g2 : (0 : Int) < (G : Int) := by omega
    go_wp2_with (go_at_call 41; ((with_reducible refine (CM.out _).mono ?_); rintro e u3 ⟨rfl, hb3⟩; have R3 := Lib.hid (R2.out.below hb3); have W3 := Lib.hid (below_of W2.out hb3); clear hb3))
    clear c0 c1 c2 c3 f0 f1 f2 f3
    obtain ⟨⟨c0, c1, c2, c3⟩, cf⟩ := R3.out.cells
    simp only at c0 c1 c2 c3
    have f0 := cf 0
    have f1 := cf 1
    have f2 := cf 2
    have f3 := cf 3
    clear cf
    have Z := Lib.hid (And.intro (rowAt_put R3.out rwZ) (below_put4 W3.out (Nat.le_refl _) rwZ))
    simp only [rwZ] at Z
    go_step3
    refine ⟨rfl, ?_⟩
    go_wp2_with fail
    rw [Exit.noGoto_ret]
    generalize (((u3.setCell ⟨w.heap.size, 0, none⟩ (.string ⟨#[]⟩)).setCell ⟨w.heap.size, 1, none⟩ (.int .u64 0)).setCell ⟨w.heap.size, 2, none⟩ (.int .i64 0)).setCell ⟨w.heap.size, 3, none⟩ (.string ⟨#[]⟩) = VZ at *
    clear c0 c1 c2 c3 f0 f1 f2 f3
    obtain ⟨⟨a0, a1, a2, a3⟩, _⟩ := Z.out.1.cells
    simp only at a0 a1 a2 a3
    refine bodyPost_ret (v := .tuple #[rowV rwZ, .string ⟨#[]⟩, .bool false]) (by simp [results, Try.results31, go_sem, a0, a1, a2, a3, rwZ]) rfl ?_
    exact ⟨by rw [hE.out]; rfl, Z.out.2⟩
  rw [if_neg (by omega)] at hE
  have g2 : decide (0 < G) = false := by simpa using q4
  have S6 := exL_upto P n1
  obtain ⟨TK, hTK⟩ := named (P.take n1)
  rw [← hTK.out] at S6 hE
  have hTl : TK.length ≤ 520 := by rw [hTK.out, List.length_take]; omega
  have z1 : ¬ 9223372036854775807 < TK.length + D.length := by omega
  have CL := Lib.hid (fun u => clone_any ⟨(TK ++ D).toArray⟩ (by rw [ofList_size, List.length_append]; omega) u)
  obtain ⟨KY, hKY⟩ := named (⟨(TK ++ D).toArray⟩ : ByteArray)
  rw [← hKY.out] at CL hE
  have CAT : (⟨TK.toArray⟩ : ByteArray) ++ ⟨D.toArray⟩ = KY := by rw [hKY.out, cat_ba]
  clear hTK hKY
  go_upto_region 9 with (first
    | (go_at_call 41; ((with_reducible refine (CM.out _).mono ?_); rintro e u3 ⟨rfl, hb3⟩; have R3 := Lib.hid (R2.out.below hb3); have W3 := Lib.hid (below_of W2.out hb3); clear hb3))
    | (go_at_call 48; ((with_reducible refine (CL.out _).mono ?_); rintro e u4 ⟨rfl, hb4⟩; have R4 := Lib.hid (R3.out.below hb4); have W4 := Lib.hid (below_of W3.out hb4); clear hb4; obtain ⟨⟨d0, d1, d2, d3⟩, df⟩ := R4.out.cells; simp only at d0 d1 d2 d3; have e0 := df 0; clear df; have R5 := Lib.hid (rowAt_set0 R4.out KY); have W5 := Lib.hid (W4.out.setCell (p := ⟨w.heap.size, 0, none⟩) (Nat.le_refl _) (.string KY))))
    | (go_at_call 46; ((with_reducible refine (C3.out _).mono ?_); rintro e u5 ⟨rfl, hb5⟩; have R6 := Lib.hid (R5.out.below hb5); have W6 := Lib.hid (below_of W5.out hb5); clear hb5; obtain ⟨⟨j0, j1, j2, j3⟩, jf⟩ := R6.out.cells; simp only at j0 j1 j2 j3; have k1 := jf 1; clear jf)))
  have R7 := Lib.hid (rowAt_set1 R6.out n3)
  have W7 := Lib.hid (W6.out.setCell (p := ⟨w.heap.size, 1, none⟩) (Nat.le_refl _) (.int .u64 (n3 : Int)))
  clear c0 c1 c2 c3 f0 f1 f2 f3 d0 d1 d2 d3 e0 j0 j1 j2 j3 k1 R2 R3 R4 R5 R6 W2 W3 W4 W5 W6 CM C3 CL CAT
  generalize u5.setCell ⟨w.heap.size, 1, none⟩ (.int .u64 (n3 : Int)) = v7 at *
  obtain ⟨⟨c0, c1, c2, c3⟩, cf⟩ := R7.out.cells
  simp only at c0 c1 c2 c3
  have f0 := cf 0
  have f1 := cf 1
  have f2 := cf 2
  have f3 := cf 3
  clear cf
  by_cases q5 : e3 = 0
  case neg =>
    obtain rfl : B3 = false := by rw [hB3.out]; simpa using q5
    rw [if_pos q5] at hE
    have Z := Lib.hid (And.intro (rowAt_put R7.out rwZ) (below_put4 W7.out (Nat.le_refl _) rwZ))
    simp only [rwZ] at Z
    go_wp2_with fail
    go_step3
    refine ⟨rfl, ?_⟩
    go_wp2_with fail
    rw [Exit.noGoto_ret]
    generalize (((v7.setCell ⟨w.heap.size, 0, none⟩ (.string ⟨#[]⟩)).setCell ⟨w.heap.size, 1, none⟩ (.int .u64 0)).setCell ⟨w.heap.size, 2, none⟩ (.int .i64 0)).setCell ⟨w.heap.size, 3, none⟩ (.string ⟨#[]⟩) = VZ at *
    clear c0 c1 c2 c3 f0 f1 f2 f3
    obtain ⟨⟨a0, a1, a2, a3⟩, _⟩ := Z.out.1.cells
    simp only at a0 a1 a2 a3
    refine bodyPost_ret (v := .tuple #[rowV rwZ, .string ⟨#[]⟩, .bool false]) (by simp [results, Try.results31, go_sem, a0, a1, a2, a3, rwZ]) rfl ?_
    exact ⟨by rw [hE.out]; rfl, Z.out.2⟩
  subst q5
  obtain rfl : B3 = true := by rw [hB3.out]; rfl
  rw [if_neg (by simp)] at hE
  clear hB3
  by_cases q6 : S3 = []
  case pos =>
    have g6 : S3.isEmpty = true := by rw [q6]; rfl
    have hE : Hid (X = none) := Lib.hid (by rw [hE.out, q6])
    clear q6
    have Z := Lib.hid (And.intro (rowAt_put R7.out rwZ) (below_put4 W7.out (Nat.le_refl _) rwZ))
    simp only [rwZ] at Z
    go_wp2_with fail
    go_step3
    refine ⟨rfl, ?_⟩
    go_wp2_with fail
    rw [Exit.noGoto_ret]
    generalize (((v7.setCell ⟨w.heap.size, 0, none⟩ (.string ⟨#[]⟩)).setCell ⟨w.heap.size, 1, none⟩ (.int .u64 0)).setCell ⟨w.heap.size, 2, none⟩ (.int .i64 0)).setCell ⟨w.heap.size, 3, none⟩ (.string ⟨#[]⟩) = VZ at *
    clear c0 c1 c2 c3 f0 f1 f2 f3
    obtain ⟨⟨a0, a1, a2, a3⟩, _⟩ := Z.out.1.cells
    simp only at a0 a1 a2 a3
    refine bodyPost_ret (v := .tuple #[rowV rwZ, .string ⟨#[]⟩, .bool false]) (by simp [results, Try.results31, go_sem, a0, a1, a2, a3, rwZ]) rfl ?_
    exact ⟨by rw [hE.out]; rfl, Z.out.2⟩
  obtain ⟨k, S4, hS4⟩ : ∃ k S4, S3 = k :: S4 := by
    cases S3 with
    | nil => exact absurd rfl q6
    | cons k S4 => exact ⟨k, S4, rfl⟩
  have g6 : S3.isEmpty = false := by rw [hS4]; rfl
  have I0 := idxL S3 0 k (by rw [hS4]; rfl) 0 rfl
  have EX := exL_from S3 1
  have E2 := slL_from S3 1 (by rw [hS4]; simp) 1 rfl
  have hdr : S3.drop 1 = S4 := by rw [hS4]; rfl
  have h1l : 1 ≤ S3.length := by rw [hS4]; simp
  have h0l : 0 < S3.length := by omega
  rw [hdr] at EX E2
  have hl4 : S4.length ≤ 65536 := by rw [hS4] at hl3; simp at hl3; omega
  rw [hS4] at hE
  simp only at hE
  have hkb := UInt8.toNat_lt k
  obtain ⟨K, hK⟩ := named k.toNat
  rw [← hK.out] at hE hkb I0
  have wK : IntKind.i64.wrap (K : Int) = (K : Int) := by rw [IntKind.wrap_i64]; omega
  clear hS4 hdr q6 hK
  have R8 := Lib.hid (rowAt_set2 R7.out (K : Int))
  have W8 := Lib.hid (W7.out.setCell (p := ⟨w.heap.size, 2, none⟩) (Nat.le_refl _) (.int .i64 (K : Int)))
  go_upto_region 10 with fail
  go_region
  have R9 : Hid (RowAt w.heap.size ⟨KY, n3, (K : Int), ⟨#[]⟩⟩ (v7.setCell ⟨w.heap.size, 2, none⟩ (.int .i64 (K : Int))).drew) := R8
  have W9 := Lib.hid W8.out.drew
  clear c0 c1 c2 c3 f0 f1 f2 f3 R7 R8 W7 W8 I0 EX E2
  generalize (v7.setCell ⟨w.heap.size, 2, none⟩ (.int .i64 (K : Int))).drew = v9 at *
  obtain ⟨⟨c0, c1, c2, c3⟩, cf⟩ := R9.out.cells
  simp only at c0 c1 c2 c3
  have f0 := cf 0
  have f1 := cf 1
  have f2 := cf 2
  have f3 := cf 3
  clear cf
  by_cases q7 : K = 1
  case pos =>
    rw [if_pos q7] at hE
    have g7 : ((K : Int) == 1) = true := by rw [beq_iff_eq]; omega
    have g7b : (K == 1) = true := by rw [beq_iff_eq]; exact q7
    have C4 := Lib.hid (fun u => cutfld_any S4 (by omega) 2048 (by omega) u)
    obtain ⟨⟨V, k4, e4⟩, hR4⟩ := named (Code.rdField S4 2048)
    rw [← hR4.out] at hE C4
    simp only at hE C4
    obtain ⟨S5, hS5⟩ := named (S4.drop k4)
    rw [← hS5.out] at hE C4
    obtain ⟨B4, hB4⟩ := named (decide (e4 = 0))
    rw [← hB4.out] at C4
    clear hS5 hR4 q7
    go_upto_region 13 with (go_at_call 47; ((with_reducible refine (C4.out _).mono ?_); rintro e u6 ⟨rfl, hb6⟩; have R10 := Lib.hid (R9.out.below hb6); have W10 := Lib.hid (below_of W9.out hb6); clear hb6; obtain ⟨⟨d0, d1, d2, d3⟩, df⟩ := R10.out.cells; simp only at d0 d1 d2 d3; have e0 := df 3; clear df))
    have R11 := Lib.hid (rowAt_set3 R10.out ⟨V.toArray⟩)
    have W11 := Lib.hid (W10.out.setCell (p := ⟨w.heap.size, 3, none⟩) (Nat.le_refl _) (.string ⟨V.toArray⟩))
    clear c0 c1 c2 c3 f0 f1 f2 f3 d0 d1 d2 d3 e0 R10 W10 R9 W9 C4
    generalize u6.setCell ⟨w.heap.size, 3, none⟩ (.string ⟨V.toArray⟩) = v11 at *
    obtain ⟨⟨c0, c1, c2, c3⟩, cf⟩ := R11.out.cells
    simp only at c0 c1 c2 c3
    have f0 := cf 0
    have f1 := cf 1
    have f2 := cf 2
    have f3 := cf 3
    clear cf
    by_cases q8 : e4 = 0
    case neg =>
      obtain rfl : B4 = false := by rw [hB4.out]; simpa using q8
      rw [if_pos q8] at hE
      have Z := Lib.hid (And.intro (rowAt_put R11.out rwZ) (below_put4 W11.out (Nat.le_refl _) rwZ))
      simp only [rwZ] at Z
      go_wp2_with fail
      go_step3
      refine ⟨rfl, ?_⟩
      go_wp2_with fail
      rw [Exit.noGoto_ret]
      generalize (((v11.setCell ⟨w.heap.size, 0, none⟩ (.string ⟨#[]⟩)).setCell ⟨w.heap.size, 1, none⟩ (.int .u64 0)).setCell ⟨w.heap.size, 2, none⟩ (.int .i64 0)).setCell ⟨w.heap.size, 3, none⟩ (.string ⟨#[]⟩) = VZ at *
      clear c0 c1 c2 c3 f0 f1 f2 f3
      obtain ⟨⟨a0, a1, a2, a3⟩, _⟩ := Z.out.1.cells
      simp only at a0 a1 a2 a3
      refine bodyPost_ret (v := .tuple #[rowV rwZ, .string ⟨#[]⟩, .bool false]) (by simp [results, Try.results31, go_sem, a0, a1, a2, a3, rwZ]) rfl ?_
      exact ⟨by rw [hE.out]; rfl, Z.out.2⟩
    subst q8
    obtain rfl : B4 = true := by rw [hB4.out]; rfl
    rw [if_neg (by simp)] at hE
    clear hB4
    obtain ⟨E, hEE⟩ := named (chkR ⟨KY, n3, (K : Int), ⟨V.toArray⟩⟩)
    have CK : Hid (∀ u, Calls Try.prog 39 #[.agg #[.string KY, .int .u64 (n3 : Int), .int .i64 (K : Int), .string ⟨V.toArray⟩]] u fun e w' => e = .returned (.int .i64 (E : Nat)) ∧ Below u.heap.size u w') := Lib.hid (fun u => by rw [hEE.out]; exact chk_any ⟨KY, n3, (K : Int), ⟨V.toArray⟩⟩ u)
    rw [← hEE.out] at hE
    by_cases q9 : E = 0
    case neg =>
      rw [if_pos q9] at hE
      have g9 : ((E : Int) != 0) = true := by rw [bne_iff_ne]; omega
      clear hEE
      go_wp2_with (go_at_call 39; ((with_reducible refine (CK.out _).mono ?_); rintro e u9 ⟨rfl, hb9⟩; have R20 := Lib.hid (R11.out.below hb9); have W20 := Lib.hid (below_of W11.out hb9); clear hb9))
      clear c0 c1 c2 c3 f0 f1 f2 f3
      obtain ⟨⟨c0, c1, c2, c3⟩, cf⟩ := R20.out.cells
      simp only at c0 c1 c2 c3
      have f0 := cf 0
      have f1 := cf 1
      have f2 := cf 2
      have f3 := cf 3
      clear cf
      have Z := Lib.hid (And.intro (rowAt_put R20.out rwZ) (below_put4 W20.out (Nat.le_refl _) rwZ))
      simp only [rwZ] at Z
      go_step3
      refine ⟨rfl, ?_⟩
      go_wp2_with fail
      rw [Exit.noGoto_ret]
      generalize (((u9.setCell ⟨w.heap.size, 0, none⟩ (.string ⟨#[]⟩)).setCell ⟨w.heap.size, 1, none⟩ (.int .u64 0)).setCell ⟨w.heap.size, 2, none⟩ (.int .i64 0)).setCell ⟨w.heap.size, 3, none⟩ (.string ⟨#[]⟩) = VZ at *
      clear c0 c1 c2 c3 f0 f1 f2 f3
      obtain ⟨⟨a0, a1, a2, a3⟩, _⟩ := Z.out.1.cells
      simp only at a0 a1 a2 a3
      refine bodyPost_ret (v := .tuple #[rowV rwZ, .string ⟨#[]⟩, .bool false]) (by simp [results, Try.results31, go_sem, a0, a1, a2, a3, rwZ]) rfl ?_
      exact ⟨by rw [hE.out]; rfl, Z.out.2⟩
    subst q9
    rw [if_neg (by simp)] at hE
    clear hEE
    go_upto_region 15 with (go_at_call 39; ((with_reducible refine (CK.out _).mono ?_); rintro e u9 ⟨rfl, hb9⟩; have R20 := Lib.hid (R11.out.below hb9); have W20 := Lib.hid (below_of W11.out hb9); clear hb9))
    clear c0 c1 c2 c3 f0 f1 f2 f3
    obtain ⟨⟨c0, c1, c2, c3⟩, cf⟩ := R20.out.cells
    simp only at c0 c1 c2 c3
    have f0 := cf 0
    have f1 := cf 1
    have f2 := cf 2
    have f3 := cf 3
    clear cf
    have Z := Lib.hid (And.intro (rowAt_put R20.out ⟨KY, n3, (K : Int), ⟨V.toArray⟩⟩) (below_put4 W20.out (Nat.le_refl _) ⟨KY, n3, (K : Int), ⟨V.toArray⟩⟩))
    simp only at Z
    go_wp2_with fail
    rw [jump_ret]
    generalize (((u9.setCell ⟨w.heap.size, 0, none⟩ (.string KY)).setCell ⟨w.heap.size, 1, none⟩ (.int .u64 (n3 : Int))).setCell ⟨w.heap.size, 2, none⟩ (.int .i64 (K : Int))).setCell ⟨w.heap.size, 3, none⟩ (.string ⟨V.toArray⟩) = VZ at *
    clear c0 c1 c2 c3 f0 f1 f2 f3
    obtain ⟨⟨a0, a1, a2, a3⟩, _⟩ := Z.out.1.cells
    simp only at a0 a1 a2 a3
    refine bodyPost_ret (v := .tuple #[rowV ⟨KY, n3, (K : Int), ⟨V.toArray⟩⟩, .string ⟨S5.toArray⟩, .bool true]) (by simp [results, Try.results31, go_sem, a0, a1, a2, a3]) rfl ?_
    exact ⟨by rw [hE.out]; rfl, Z.out.2⟩
  rw [if_neg q7] at hE
  have g7 : ((K : Int) == 1) = false := by rw [beq_eq_false_iff_ne]; omega
  have g7b : (K == 1) = false := by rw [beq_eq_false_iff_ne]; exact q7
  obtain ⟨E, hEE⟩ := named (chkR ⟨KY, n3, (K : Int), ⟨#[]⟩⟩)
  have CK : Hid (∀ u, Calls Try.prog 39 #[.agg #[.string KY, .int .u64 (n3 : Int), .int .i64 (K : Int), .string ⟨#[]⟩]] u fun e w' => e = .returned (.int .i64 (E : Nat)) ∧ Below u.heap.size u w') := Lib.hid (fun u => by rw [hEE.out]; exact chk_any ⟨KY, n3, (K : Int), ⟨#[]⟩⟩ u)
  rw [← hEE.out] at hE
  by_cases q9 : E = 0
  case neg =>
    rw [if_pos q9] at hE
    have g9 : ((E : Int) != 0) = true := by rw [bne_iff_ne]; omega
    clear hEE
    go_wp2_with (go_at_call 39; ((with_reducible refine (CK.out _).mono ?_); rintro e u9 ⟨rfl, hb9⟩; have R20 := Lib.hid (R9.out.below hb9); have W20 := Lib.hid (below_of W9.out hb9); clear hb9))
    clear c0 c1 c2 c3 f0 f1 f2 f3
    obtain ⟨⟨c0, c1, c2, c3⟩, cf⟩ := R20.out.cells
    simp only at c0 c1 c2 c3
    have f0 := cf 0
    have f1 := cf 1
    have f2 := cf 2
    have f3 := cf 3
    clear cf
    have Z := Lib.hid (And.intro (rowAt_put R20.out rwZ) (below_put4 W20.out (Nat.le_refl _) rwZ))
    simp only [rwZ] at Z
    go_step3
    refine ⟨rfl, ?_⟩
    go_wp2_with fail
    rw [Exit.noGoto_ret]
    generalize (((u9.setCell ⟨w.heap.size, 0, none⟩ (.string ⟨#[]⟩)).setCell ⟨w.heap.size, 1, none⟩ (.int .u64 0)).setCell ⟨w.heap.size, 2, none⟩ (.int .i64 0)).setCell ⟨w.heap.size, 3, none⟩ (.string ⟨#[]⟩) = VZ at *
    clear c0 c1 c2 c3 f0 f1 f2 f3
    obtain ⟨⟨a0, a1, a2, a3⟩, _⟩ := Z.out.1.cells
    simp only at a0 a1 a2 a3
    refine bodyPost_ret (v := .tuple #[rowV rwZ, .string ⟨#[]⟩, .bool false]) (by simp [results, Try.results31, go_sem, a0, a1, a2, a3, rwZ]) rfl ?_
    exact ⟨by rw [hE.out]; rfl, Z.out.2⟩
  subst q9
  rw [if_neg (by simp)] at hE
  clear hEE
  go_upto_region 15 with (go_at_call 39; ((with_reducible refine (CK.out _).mono ?_); rintro e u9 ⟨rfl, hb9⟩; have R20 := Lib.hid (R9.out.below hb9); have W20 := Lib.hid (below_of W9.out hb9); clear hb9))
  clear c0 c1 c2 c3 f0 f1 f2 f3
  obtain ⟨⟨c0, c1, c2, c3⟩, cf⟩ := R20.out.cells
  simp only at c0 c1 c2 c3
  have f0 := cf 0
  have f1 := cf 1
  have f2 := cf 2
  have f3 := cf 3
  clear cf
  have Z := Lib.hid (And.intro (rowAt_put R20.out ⟨KY, n3, (K : Int), ⟨#[]⟩⟩) (below_put4 W20.out (Nat.le_refl _) ⟨KY, n3, (K : Int), ⟨#[]⟩⟩))
  simp only at Z
  go_wp2_with fail
  rw [jump_ret]
  generalize (((u9.setCell ⟨w.heap.size, 0, none⟩ (.string KY)).setCell ⟨w.heap.size, 1, none⟩ (.int .u64 (n3 : Int))).setCell ⟨w.heap.size, 2, none⟩ (.int .i64 (K : Int))).setCell ⟨w.heap.size, 3, none⟩ (.string ⟨#[]⟩) = VZ at *
  clear c0 c1 c2 c3 f0 f1 f2 f3
  obtain ⟨⟨a0, a1, a2, a3⟩, _⟩ := Z.out.1.cells
  simp only at a0 a1 a2 a3
  refine bodyPost_ret (v := .tuple #[rowV ⟨KY, n3, (K : Int), ⟨#[]⟩⟩, .string ⟨S4.toArray⟩, .bool true]) (by simp [results, Try.results31, go_sem, a0, a1, a2, a3]) rfl ?_
  exact ⟨by rw [hE.out]; rfl, Z.out.2⟩
end Go.Proofs.Ytnmlifagchdphaa
/-
  'append(a, b...)': a the call's own row, b another row, nil or not: one law for whatever element. No condition.
-/
namespace Go.Proofs.Ytnmlifagchdphaa
set_option maxRecDepth 100000
open Go.RowKit
theorem wp_append_two {P : Program} {o : Oper} {a : Act} {w : World} {K : Act → World → Prop} {Q : Exit → Act → World → Prop} (s x : Operand) (t : TypeId)
    (ho : o.op = .call { callee := .builtin .append, args := #[s, x], argTypes := #[t, t] }) (B B' : Nat) (e : TypeId) (size bytes : Nat) (z : Value) (ht : P.underlying t = some (.slice e))
    (hinf : (P.info? e).map (fun i => (i.zero, i.size, i.bytes)) = some (some z, size, bytes)) (hzs : z.cells.size = size) (hsz : 0 < size) (hby : bytes ≤ 64)
    (v : Value) (k : Nat) (xs : List Value) (sv : Value) (n : Nat) (ys : List Value) (hown : w.ownsRow B e size v k xs) (hsrc : w.ownsRow B' e size sv n ys) (hs : a.eval s = v) (hx : a.eval x = sv) (h1 : ∀ u ∈ ys, u.oneCell' = true) (hk : k ≤ 1048576) (hn : n ≤ 1048576) (hB : B ≤ w.heap.size)
    (h : ∀ v' w', w'.ownsRow B e size v' (k + n) (xs ++ ys) → w.grownBy w' v.ownBlock → (∃ va vc, v' = .slice va (k + n) vc) → K (a.put o.dst v') w') : o.wp P a w K Q := by
  obtain ⟨i0, hi, hz0, hz1, hz2⟩ := info_parts hinf
  have shape : ∀ {v' : Value} {w' : World} {l : List Value}, w'.ownsRow B e size v' (k + n) l → ∃ va vc, v' = .slice va (k + n) vc := fun hr => by
    rcases hr.2 with ⟨e1, e0⟩ | ⟨g', cap, cur, e1, _⟩
    · exact ⟨none, 0, by rw [e1, e0]⟩
    · exact ⟨_, _, e1⟩
  rcases hsrc.2 with ⟨rfl, rfl⟩ | ⟨g, cap, cur, rfl, hg, hb, hle, hm, hcs, htk⟩
  · have hy : ys = [] := List.length_eq_zero_iff.1 (by simpa using hsrc.1)
    subst hy
    have hrun : (Builtin.append_ #[t, t] o.type #[v, .slice none 0 0]).run P w = .ok v w := by
      rcases hown.2 with ⟨rfl, _⟩ | ⟨g, cap, cur, rfl, _, _, hle, _⟩
      · exact run_append_nothing w _ _ _ e i0 ht hi none 0 0 (Nat.le_refl _) _ (Src.ofNil w ht 0)
      · exact run_append_nothing w _ _ _ e i0 ht hi _ k cap hle _ (Src.ofNil w ht 0)
    have h2 : w.ownsRow B e size v (k + 0) (xs ++ []) := by rw [Nat.add_zero, List.append_nil]; exact hown
    unfold Oper.wp
    simp [execOp, ho, resolve, invoke, builtin, hs, hx, hrun, Result.andThen]
    exact h v w h2 ⟨rfl, rfl, rfl, Nat.le_refl _, fun _ _ _ => rfl⟩ (shape h2)
  · have hb2 : (k + n) * bytes ≤ 140737488355328 := Nat.le_trans (Nat.mul_le_mul_left (k + n) hby) (by omega)
    exact wp_append_own w s x t ho B e i0 z size bytes ht hi hz0 hz1 hz2 hzs hsz v k xs hs hown ⟨g, 0, none⟩ n cap ys hx hsrc.1 (fun j u hj => World.ownsRow.cells hsrc (g := g) rfl j u hj) h1 (by unfold maxLen; omega) hb2 hB fun v' w' a1 a2 _ => h v' w' a1 a2 (shape a1)
theorem wpList_append_two {P : Program} {ops : Array Oper} {rest : List Oper} {o : Oper} {a : Act} {w : World} {Q : Exit → Act → World → Prop} (hgd : o.guard = none) (s x : Operand) (t : TypeId)
    (ho : o.op = .call { callee := .builtin .append, args := #[s, x], argTypes := #[t, t] }) (B B' : Nat) (e : TypeId) (size bytes : Nat) (z : Value) (ht : P.underlying t = some (.slice e))
    (hinf : (P.info? e).map (fun i => (i.zero, i.size, i.bytes)) = some (some z, size, bytes)) (hzs : z.cells.size = size) (hsz : 0 < size) (hby : bytes ≤ 64)
    (v : Value) (k : Nat) (xs : List Value) (sv : Value) (n : Nat) (ys : List Value) (hown : w.ownsRow B e size v k xs) (hsrc : w.ownsRow B' e size sv n ys) (hs : a.eval s = v) (hx : a.eval x = sv) (h1 : ∀ u ∈ ys, u.oneCell' = true) (hk : k ≤ 1048576) (hn : n ≤ 1048576) (hB : B ≤ w.heap.size)
    (h : ∀ v' w', w'.ownsRow B e size v' (k + n) (xs ++ ys) → w.grownBy w' v.ownBlock → (∃ va vc, v' = .slice va (k + n) vc) → wpList P ops Q rest (a.put o.dst v') w') : wpList P ops Q (o :: rest) a w :=
  wpList_plain hgd fun _ hK => wp_append_two s x t ho B B' e size bytes z ht hinf hzs hsz hby v k xs sv n ys hown hsrc hs hx h1 hk hn hB fun v' w' a1 a2 a3 => hK _ _ (h v' w' a1 a2 a3)
theorem step_append_two {P : Program} {ops : Array Oper} {o : Oper} {a : Act} {w : World} {K : Act → World → Prop} {Q : Exit → Act → World → Prop} {E : Prop} (hgd : o.guard = none) (s x : Operand) (t : TypeId)
    (ho : o.op = .call { callee := .builtin .append, args := #[s, x], argTypes := #[t, t] }) (B B' : Nat) (e : TypeId) (size bytes : Nat) (z : Value) (ht : P.underlying t = some (.slice e))
    (hinf : (P.info? e).map (fun i => (i.zero, i.size, i.bytes)) = some (some z, size, bytes)) (hzs : z.cells.size = size) (hsz : 0 < size) (hby : bytes ≤ 64)
    (v : Value) (k : Nat) (xs : List Value) (sv : Value) (n : Nat) (ys : List Value) (hown : w.ownsRow B e size v k xs) (hsrc : w.ownsRow B' e size sv n ys) (hs : a.eval s = v) (hx : a.eval x = sv) (h1 : ∀ u ∈ ys, u.oneCell' = true) (hk : k ≤ 1048576) (hn : n ≤ 1048576) (hB : B ≤ w.heap.size)
    (h : ∀ v' w', w'.ownsRow B e size v' (k + n) (xs ++ ys) → w.grownBy w' v.ownBlock → (∃ va vc, v' = .slice va (k + n) vc) → K (a.put o.dst v') w') :
    if Region.wanted o (yielded ops a.tmps) = true then Oper.wp P o a w K Q else E := by
  have hw : Region.wanted o (yielded ops a.tmps) = true := by simp [Region.wanted, hgd]
  rw [if_pos hw]
  exact wp_append_two s x t ho B B' e size bytes z ht hinf hzs hsz hby v k xs sv n ys hown hsrc hs hx h1 hk hn hB h
/-- A block of one element is an own row. -/
theorem row_single {w : World} {g B size : Nat} {e : TypeId} {cs : Array Value} (h : w.heap[g]? = some (.cells cs e (0, 0))) (hs : cs.size = size) (hB : B ≤ g) : w.ownsRow B e size (.slice (some ⟨g, 0, none⟩) 1 1) 1 cs.toList := by
  refine ⟨by simp [hs], .inr ⟨g, 1, cs, rfl, hB, h, Nat.le_refl _, by unfold maxLen; omega, by omega, ?_⟩⟩
  rw [List.take_of_length_le (by simp; omega)]
end Go.Proofs.Ytnmlifagchdphaa
