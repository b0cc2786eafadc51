/-
  The contract of the document's own Get of frames: it answers what the plain mathematics reads. Condition: a text of a length that there is.
-/
import Derived.Test.YtdhomindchjoiaaFrameRef
namespace Go.Proofs.Ytdhomindchjoiaa
open Go.RowKit
theorem frame_slice (s : ByteArray) (i j : Nat) (hij : i ≤ j) (hj : j ≤ s.size) (x y : Int) (hx : x = i) (hy : y = j) (u : World) :
    (Instr.slice 9 (.string s) (some (.int .i64 x)) (some (.int .i64 y)) none).run Try.prog u = .ok (.string ⟨((s.data.toList.drop i).take (j - i)).toArray⟩) u := by
  subst hx hy
  rw [run_slice_string_if u 9 s .i64 .i64 _ _ Try.underlying9, if_pos ⟨by omega, by omega⟩, if_pos ⟨by omega, by omega⟩]
  congr 2
  apply ByteArray.ext
  apply Array.toList_inj.1
  rw [ByteArray.data_extract, Array.toList_extract, List.extract_eq_take_drop]
  simp
theorem frame_to (s : ByteArray) (j : Nat) (hj : j ≤ s.size) (y : Int) (hy : y = j) (u : World) :
    (Instr.slice 9 (.string s) none (some (.int .i64 y)) none).run Try.prog u = .ok (.string ⟨(s.data.toList.take j).toArray⟩) u := by
  subst hy
  rw [run_slice_string_to_if u 9 s .i64 _ Try.underlying9, if_pos ⟨by omega, by omega⟩]
  congr 2
  apply ByteArray.ext
  apply Array.toList_inj.1
  rw [ByteArray.data_extract, Array.toList_extract, List.extract_eq_take_drop]
  simp
abbrev emptyText : ByteArray := ⟨#[]⟩
theorem refget_err (s : ByteArray) (N K : Int) (E : Nat) (hE : ((E : Int) != 0) = true) (c : ∀ v, Calls Try.prog 27 #[.string s] v fun e v' => e = .returned (.tuple #[.int .u64 N, .int .i64 K, .int .i64 (E : Int)]) ∧ v' = v) (w : World) :
    Calls Try.prog 17 #[.string s] w fun e w' => e = .returned (.tuple #[.string emptyText, .int .i64 0, .int .i64 (E : Int)]) ∧ Below w.heap.size w w' := by
  have C := Lib.hid c
  clear c
  go_enter Try.func17, Try.ntmps17
  go_wp2_with (go_at_call 27; ((with_reducible refine (C.out _).mono ?_); rintro e w' ⟨rfl, rfl⟩))
  go_returns
  exact ⟨rfl, Below.refl _ _⟩
theorem refget_long (s : ByteArray) (N K : Int) (hN : 65536 < N) (c : ∀ v, Calls Try.prog 27 #[.string s] v fun e v' => e = .returned (.tuple #[.int .u64 N, .int .i64 K, .int .i64 0]) ∧ v' = v) (w : World) :
    Calls Try.prog 17 #[.string s] w fun e w' => e = .returned (.tuple #[.string emptyText, .int .i64 0, .int .i64 3]) ∧ Below w.heap.size w w' := by
  have C := Lib.hid c
  clear c
  go_enter Try.func17, Try.ntmps17
  go_wp2_with (go_at_call 27; ((with_reducible refine (C.out _).mono ?_); rintro e w' ⟨rfl, rfl⟩))
  go_returns
  exact ⟨rfl, Below.refl _ _⟩
theorem refget_short (s : ByteArray) (N K e : Int) (hN0 : 0 ≤ N) (hN : N ≤ 65536) (hK : 0 ≤ K) (hK2 : K ≤ 281474976710656) (he : K + N = e) (hlt : (s.size : Int) < e + 4) (c : ∀ v, Calls Try.prog 27 #[.string s] v fun e v' => e = .returned (.tuple #[.int .u64 N, .int .i64 K, .int .i64 0]) ∧ v' = v) (w : World) :
    Calls Try.prog 17 #[.string s] w fun e w' => e = .returned (.tuple #[.string emptyText, .int .i64 0, .int .i64 6]) ∧ Below w.heap.size w w' := by
  have C := Lib.hid c
  have b0 : 0 ≤ e := by omega
  have b1 : e ≤ 381474976710656 := by omega
  clear c
  go_enter Try.func17, Try.ntmps17
  go_wp2_with (go_at_call 27; ((with_reducible refine (C.out _).mono ?_); rintro e w' ⟨rfl, rfl⟩))
  go_returns
  exact ⟨rfl, Below.refl _ _⟩
/-- What Get meets where the bytes are long enough. -/
structure GetWay (s X Y S : ByteArray) (N K e : Int) : Prop where
  n0 : 0 ≤ N
  n1 : N ≤ 65536
  k0 : 0 ≤ K
  k1 : K ≤ 281474976710656
  at' : K + N = e
  len : e + 4 ≤ (s.size : Int)
  sX : ∀ u, (Instr.slice 9 (.string s) none (some (.int .i64 e)) none).run Try.prog u = .ok (.string X) u
  sY : ∀ u, (Instr.slice 9 (.string s) (some (.int .i64 e)) (some (.int .i64 (e + 4))) none).run Try.prog u = .ok (.string Y) u
  uint : ∀ v, Calls Try.prog 27 #[.string s] v fun e v' => e = .returned (.tuple #[.int .u64 N, .int .i64 K, .int .i64 0]) ∧ v' = v
  sum : ∀ v, Calls Try.prog 24 #[.string X] v fun e v' => e = .returned (.string S) ∧ Below v.heap.size v v'
set_option maxHeartbeats 4000000 in
theorem refget_form (s X Y S : ByteArray) (N K e : Int) (h : GetWay s X Y S N K e) (hne : (S.toList == Y.toList) = false) (w : World) :
    Calls Try.prog 17 #[.string s] w fun e w' => e = .returned (.tuple #[.string emptyText, .int .i64 0, .int .i64 7]) ∧ Below w.heap.size w w' := by
  obtain ⟨n0, n1, k0, k1, he, len, sX, sY, c1, c2⟩ := h
  have C1 := Lib.hid c1
  have C2 := Lib.hid c2
  have b0 : 0 ≤ e := by omega
  have b1 : e ≤ 381474976710656 := by omega
  have w4 : IntKind.i64.wrap (e + 4) = e + 4 := by rw [IntKind.wrap_i64]; omega
  clear c1 c2
  go_enter Try.func17, Try.ntmps17
  go_wp2_with (go_at_call 27; ((with_reducible refine (C1.out _).mono ?_); rintro e w' ⟨rfl, rfl⟩))
  go_region_with (go_at_call 24; ((with_reducible refine (C2.out _).mono ?_); rintro e w2 ⟨rfl, hb2⟩))
  all_goals go_wp2
  all_goals go_returns
  all_goals exact ⟨rfl, by first | exact hb2 | exact below_of (w := _) ((Below.refl _ _).drew) hb2⟩
set_option maxHeartbeats 4000000 in
theorem refget_ok (s X Y S : ByteArray) (N K e : Int) (h : GetWay s X Y S N K e) (hne : (S.toList == Y.toList) = true) (P : ByteArray) (sP : ∀ u, (Instr.slice 9 (.string s) (some (.int .i64 K)) (some (.int .i64 e)) none).run Try.prog u = .ok (.string P) u) (w : World) :
    Calls Try.prog 17 #[.string s] w fun r w' => r = .returned (.tuple #[.string P, .int .i64 (e + 4), .int .i64 0]) ∧ Below w.heap.size w w' := by
  obtain ⟨n0, n1, k0, k1, he, len, sX, sY, c1, c2⟩ := h
  have C1 := Lib.hid c1
  have C2 := Lib.hid c2
  have b0 : 0 ≤ e := by omega
  have b1 : e ≤ 381474976710656 := by omega
  have w4 : IntKind.i64.wrap (e + 4) = e + 4 := by rw [IntKind.wrap_i64]; omega
  clear c1 c2
  go_enter Try.func17, Try.ntmps17
  go_wp2_with (go_at_call 27; ((with_reducible refine (C1.out _).mono ?_); rintro e w' ⟨rfl, rfl⟩))
  go_region_with (go_at_call 24; ((with_reducible refine (C2.out _).mono ?_); rintro e w2 ⟨rfl, hb2⟩))
  all_goals go_wp2
  all_goals go_returns
  all_goals exact ⟨rfl, by first | exact hb2 | exact below_of (w := _) ((Below.refl _ _).drew) hb2⟩
theorem frame_toList (x : ByteArray) : x.toList = x.data.toList := Lib.toList_data x
/-- Whatever the bytes, the document's Get answers what the plain mathematics reads of them. -/
theorem refget_any (s : ByteArray) (hs : s.size ≤ 200000000000000) (w : World) :
    Calls Try.prog 17 #[.string s] w fun e w' => e = .returned (.tuple #[.string ⟨(Frame.get s.data.toList).1.toArray⟩, .int .i64 ((Frame.get s.data.toList).2.1 : Int), .int .i64 ((Frame.get s.data.toList).2.2 : Int)]) ∧ Below w.heap.size w w' := by
  have hs' : s.size ≤ maxLen := by unfold maxLen; omega
  have c := fun v => refuint_any s hs' v
  have hl := frame_len s
  unfold Frame.get
  by_cases h1 : (Code.rd 0 s.data.toList).2.2 = 0
  · rw [if_neg (by simpa using h1)]
    rw [h1] at c
    by_cases h2 : 65536 < (Code.rd 0 s.data.toList).1
    · rw [if_pos h2]
      exact refget_long s _ _ (by omega) c w
    · rw [if_neg h2]
      have hk := Code.rd_size s.data.toList
      by_cases h3 : s.data.toList.length < (Code.rd 0 s.data.toList).2.1 + (Code.rd 0 s.data.toList).1 + 4
      · rw [if_pos h3]
        exact refget_short s _ _ _ (by omega) (by omega) (by omega) (by omega) rfl (by omega) c w
      · rw [if_neg h3]
        have hX : (⟨(s.data.toList.take ((Code.rd 0 s.data.toList).2.1 + (Code.rd 0 s.data.toList).1)).toArray⟩ : ByteArray).size ≤ maxLen := by
          rw [frame_size, List.length_take]; unfold maxLen; omega
        have hw : GetWay s ⟨(s.data.toList.take ((Code.rd 0 s.data.toList).2.1 + (Code.rd 0 s.data.toList).1)).toArray⟩ ⟨((s.data.toList.drop ((Code.rd 0 s.data.toList).2.1 + (Code.rd 0 s.data.toList).1)).take 4).toArray⟩
            ⟨(Frame.seal' (s.data.toList.take ((Code.rd 0 s.data.toList).2.1 + (Code.rd 0 s.data.toList).1))).toArray⟩ ((Code.rd 0 s.data.toList).1 : Int) ((Code.rd 0 s.data.toList).2.1 : Int) (((Code.rd 0 s.data.toList).2.1 : Int) + ((Code.rd 0 s.data.toList).1 : Int)) := by
          refine ⟨by omega, by omega, by omega, by omega, rfl, by omega, frame_to s _ (by omega) _ (by omega), ?_, c, fun v => refseal_any _ hX v⟩
          intro u
          have := frame_slice s ((Code.rd 0 s.data.toList).2.1 + (Code.rd 0 s.data.toList).1) ((Code.rd 0 s.data.toList).2.1 + (Code.rd 0 s.data.toList).1 + 4) (by omega) (by omega) (((Code.rd 0 s.data.toList).2.1 : Int) + ((Code.rd 0 s.data.toList).1 : Int)) (((Code.rd 0 s.data.toList).2.1 : Int) + ((Code.rd 0 s.data.toList).1 : Int) + 4) (by omega) (by omega) u
          rwa [Nat.add_sub_cancel_left] at this
        by_cases h4 : Frame.seal' (s.data.toList.take ((Code.rd 0 s.data.toList).2.1 + (Code.rd 0 s.data.toList).1)) = (s.data.toList.drop ((Code.rd 0 s.data.toList).2.1 + (Code.rd 0 s.data.toList).1)).take 4
        · rw [if_neg (by simpa using h4)]
          have sP : ∀ u, (Instr.slice 9 (.string s) (some (.int .i64 ((Code.rd 0 s.data.toList).2.1 : Int))) (some (.int .i64 (((Code.rd 0 s.data.toList).2.1 : Int) + ((Code.rd 0 s.data.toList).1 : Int)))) none).run Try.prog u = .ok (.string ⟨((s.data.toList.drop (Code.rd 0 s.data.toList).2.1).take (Code.rd 0 s.data.toList).1).toArray⟩) u := fun u => by
            have := frame_slice s (Code.rd 0 s.data.toList).2.1 ((Code.rd 0 s.data.toList).2.1 + (Code.rd 0 s.data.toList).1) (by omega) (by omega) _ (((Code.rd 0 s.data.toList).2.1 : Int) + ((Code.rd 0 s.data.toList).1 : Int)) rfl (by omega) u
            rwa [Nat.add_sub_cancel_left] at this
          have := refget_ok s _ _ _ _ _ _ hw (by rw [frame_toList, frame_toList, h4]; simp) _ sP w
          refine this.mono fun e w' ⟨he, hb⟩ => ⟨?_, hb⟩
          rw [he]
          simp only [Int.natCast_add]
          rfl
        · rw [if_pos h4]
          exact refget_form s _ _ _ _ _ _ hw (by rw [frame_toList, frame_toList]; exact beq_eq_false_iff_ne.2 h4) w
  · rw [if_pos h1]
    exact refget_err s _ _ _ (bne_iff_ne.2 (fun h => h1 (by exact_mod_cast h))) c w
end Go.Proofs.Ytdhomindchjoiaa
