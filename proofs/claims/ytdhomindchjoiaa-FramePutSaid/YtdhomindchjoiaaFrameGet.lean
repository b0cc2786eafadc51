/-
  The contract of the program's frame.Get: it answers what the plain mathematics reads. Condition: a text of a length that there is.
-/
import Derived.Test.YtdhomindchjoiaaFrameProg
import Derived.Test.YtdhomindchjoiaaFrameGetRef
namespace Go.Proofs.Ytdhomindchjoiaa
open Go.RowKit
theorem getp_err (s P : ByteArray) (K : Int) (E : Nat) (hE : ((E : Int) != 0) = true) (c : ∀ v, Calls Try.prog 26 #[.string s, .int .i64 65536] v fun e v' => e = .returned (.tuple #[.string P, .int .i64 K, .int .i64 (E : Int)]) ∧ Below v.heap.size v v') (w : World) :
    Calls Try.prog 16 #[.string s] w fun e w' => e = .returned (.tuple #[.string emptyText, .int .i64 0, .int .i64 (E : Int)]) ∧ Below w.heap.size w w' := by
  have C := Lib.hid c
  clear c
  go_enter Try.func16, Try.ntmps16
  go_wp2_with (go_at_call 26; ((with_reducible refine (C.out _).mono ?_); rintro e w' ⟨rfl, hb⟩))
  go_returns
  exact ⟨rfl, by assumption⟩
theorem getp_short (s P : ByteArray) (K : Int) (hK : 0 ≤ K) (hK2 : K ≤ 281474976710656) (hlt : (s.size : Int) < K + 4) (c : ∀ v, Calls Try.prog 26 #[.string s, .int .i64 65536] v fun e v' => e = .returned (.tuple #[.string P, .int .i64 K, .int .i64 0]) ∧ Below v.heap.size v v') (w : World) :
    Calls Try.prog 16 #[.string s] w fun e w' => e = .returned (.tuple #[.string emptyText, .int .i64 0, .int .i64 6]) ∧ Below w.heap.size w w' := by
  have C := Lib.hid c
  have w4 : IntKind.i64.wrap (K + 4) = K + 4 := by rw [IntKind.wrap_i64]; omega
  clear c
  go_enter Try.func16, Try.ntmps16
  go_wp2_with (go_at_call 26; ((with_reducible refine (C.out _).mono ?_); rintro e w' ⟨rfl, hb⟩))
  go_returns
  exact ⟨rfl, by assumption⟩
/-- What the program's Get meets where the bytes are long enough. -/
structure GetpWay (s P X Y S : ByteArray) (K : Int) : Prop where
  k0 : 0 ≤ K
  k1 : K ≤ 281474976710656
  len : K + 4 ≤ (s.size : Int)
  sX : ∀ u, (Instr.slice 9 (.string s) none (some (.int .i64 K)) none).run Try.prog u = .ok (.string X) u
  sY : ∀ u, (Instr.slice 9 (.string s) (some (.int .i64 K)) (some (.int .i64 (K + 4))) none).run Try.prog u = .ok (.string Y) u
  field : ∀ v, Calls Try.prog 26 #[.string s, .int .i64 65536] v fun e v' => e = .returned (.tuple #[.string P, .int .i64 K, .int .i64 0]) ∧ Below v.heap.size v v'
  sum : ∀ v, Calls Try.prog 22 #[.string X] v fun e v' => e = .returned (.string S) ∧ Below v.heap.size v v'
set_option maxHeartbeats 4000000 in
theorem getp_form (s P X Y S : ByteArray) (K : Int) (h : GetpWay s P X Y S K) (hne : (Y.toList == S.toList) = false) (w : World) :
    Calls Try.prog 16 #[.string s] w fun e w' => e = .returned (.tuple #[.string emptyText, .int .i64 0, .int .i64 7]) ∧ Below w.heap.size w w' := by
  obtain ⟨k0, k1, len, sX, sY, c1, c2⟩ := h
  have C1 := Lib.hid c1
  have C2 := Lib.hid c2
  have w4 : IntKind.i64.wrap (K + 4) = K + 4 := by rw [IntKind.wrap_i64]; omega
  clear c1 c2
  go_enter Try.func16, Try.ntmps16
  go_wp2_with (go_at_call 26; ((with_reducible refine (C1.out _).mono ?_); rintro e w' ⟨rfl, hb⟩))
  go_region_with (go_at_call 22; ((with_reducible refine (C2.out _).mono ?_); rintro e w2 ⟨rfl, hb2⟩))
  all_goals go_wp2
  all_goals go_returns
  all_goals exact ⟨rfl, by first | exact below_of hb hb2 | exact below_of hb ((Below.refl _ _).drew.trans hb2)⟩
set_option maxHeartbeats 4000000 in
theorem getp_ok (s P X Y S : ByteArray) (K : Int) (h : GetpWay s P X Y S K) (hne : (Y.toList == S.toList) = true) (w : World) :
    Calls Try.prog 16 #[.string s] w fun e w' => e = .returned (.tuple #[.string P, .int .i64 (K + 4), .int .i64 0]) ∧ Below w.heap.size w w' := by
  obtain ⟨k0, k1, len, sX, sY, c1, c2⟩ := h
  have C1 := Lib.hid c1
  have C2 := Lib.hid c2
  have w4 : IntKind.i64.wrap (K + 4) = K + 4 := by rw [IntKind.wrap_i64]; omega
  clear c1 c2
  go_enter Try.func16, Try.ntmps16
  go_wp2_with (go_at_call 26; ((with_reducible refine (C1.out _).mono ?_); rintro e w' ⟨rfl, hb⟩))
  go_region_with (go_at_call 22; ((with_reducible refine (C2.out _).mono ?_); rintro e w2 ⟨rfl, hb2⟩))
  all_goals go_wp2
  all_goals go_returns
  all_goals exact ⟨rfl, by first | exact below_of hb hb2 | exact below_of hb ((Below.refl _ _).drew.trans hb2)⟩
/-- Whatever the bytes, the program's Get answers what the plain mathematics reads of them. -/
theorem get_any (s : ByteArray) (hs : s.size ≤ 200000000000000) (w : World) :
    Calls Try.prog 16 #[.string s] w fun e w' => e = .returned (.tuple #[.string ⟨(Frame.get s.data.toList).1.toArray⟩, .int .i64 ((Frame.get s.data.toList).2.1 : Int), .int .i64 ((Frame.get s.data.toList).2.2 : Int)]) ∧ Below w.heap.size w w' := by
  have hs' : s.size ≤ maxLen := by unfold maxLen; omega
  have c := fun v => field_gen s hs' 65536 (by omega) (Or.inr (by omega)) v
  have hl := frame_len s
  have hend := Frame.field_end s.data.toList
  rw [Frame.get_field]
  by_cases h1 : (Code.rdField s.data.toList 65536).2.2 = 0
  · rw [if_neg (by simpa using h1)]
    have hk := hend h1
    rw [h1] at c
    by_cases h2 : s.data.toList.length < (Code.rdField s.data.toList 65536).2.1 + 4
    · rw [if_pos h2]
      exact getp_short s _ _ (by omega) (by omega) (by omega) c w
    · rw [if_neg h2]
      have hX : (⟨(s.data.toList.take (Code.rdField s.data.toList 65536).2.1).toArray⟩ : ByteArray).size ≤ maxLen := by
        rw [frame_size, List.length_take]; unfold maxLen; omega
      have hw : GetpWay s ⟨(Code.rdField s.data.toList 65536).1.toArray⟩ ⟨(s.data.toList.take (Code.rdField s.data.toList 65536).2.1).toArray⟩ ⟨((s.data.toList.drop (Code.rdField s.data.toList 65536).2.1).take 4).toArray⟩
          ⟨(Frame.seal' (s.data.toList.take (Code.rdField s.data.toList 65536).2.1)).toArray⟩ ((Code.rdField s.data.toList 65536).2.1 : Int) := by
        refine ⟨by omega, by omega, by omega, frame_to s _ (by omega) _ (by omega), ?_, c, fun v => seal_any _ hX v⟩
        intro u
        have := frame_slice s (Code.rdField s.data.toList 65536).2.1 ((Code.rdField s.data.toList 65536).2.1 + 4) (by omega) (by omega) ((Code.rdField s.data.toList 65536).2.1 : Int) (((Code.rdField s.data.toList 65536).2.1 : Int) + 4) (by omega) (by omega) u
        rwa [Nat.add_sub_cancel_left] at this
      by_cases h4 : Frame.seal' (s.data.toList.take (Code.rdField s.data.toList 65536).2.1) = (s.data.toList.drop (Code.rdField s.data.toList 65536).2.1).take 4
      · rw [if_neg (by simpa using h4)]
        have := getp_ok s _ _ _ _ _ hw (by rw [frame_toList, frame_toList, h4]; simp) w
        refine this.mono fun e w' ⟨he, hb⟩ => ⟨?_, hb⟩
        rw [he]
        simp only [Int.natCast_add]
        rfl
      · rw [if_pos h4]
        exact getp_form s _ _ _ _ _ hw (by rw [frame_toList, frame_toList]; exact beq_eq_false_iff_ne.2 (fun h => h4 h.symm)) w
  · rw [if_pos h1]
    exact getp_err s _ _ _ (bne_iff_ne.2 (fun h => h1 (Int.ofNat_eq_zero.1 h))) c w
end Go.Proofs.Ytdhomindchjoiaa
