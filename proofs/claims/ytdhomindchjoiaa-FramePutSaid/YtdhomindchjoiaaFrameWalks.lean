/-
  The walks of the statements FramePut, FrameGet, FrameAll, FrameBack and FrameOnly. Condition: the contracts of the program's four calls ('Face').
-/
import Derived.Test.YtdhomindchjoiaaFrameFace
import Derived.Test.YtdhomindchjoiaaFrameMath2
namespace Go.Proofs.Ytdhomindchjoiaa
open Go.RowKit
theorem uvar_one {n : Nat} (h : n < 128) : (Code.uvar n).length = 1 := by rw [Code.uvar_small h]; rfl
theorem uvar_two {n : Nat} (h : ¬ n < 128) (h2 : n < 16384) : (Code.uvar n).length = 2 := by
  rw [Code.uvar_great h, List.length_cons, uvar_one (by omega)]
theorem uvar_three {n : Nat} (h : ¬ n < 16384) (h2 : n < 2097152) : (Code.uvar n).length = 3 := by
  rw [Code.uvar_great (by omega), List.length_cons, uvar_two (by omega) (by omega)]
theorem size_put (l : List UInt8) (h : l.length ≤ 65536) : sizeOf (l.length : Int) = ((Frame.put l).length : Int) := by
  rw [Frame.put_length]
  unfold sizeOf
  rw [if_neg (by omega)]
  by_cases h1 : l.length < 128
  · rw [if_pos (by omega), uvar_one h1]; omega
  · rw [if_neg (by omega)]
    by_cases h2 : l.length < 16384
    · rw [if_pos (by omega), uvar_two h1 h2]; omega
    · rw [if_neg (by omega), uvar_three h2 (by omega)]; omega
theorem frame_back (x : ByteArray) : (⟨x.data.toList.toArray⟩ : ByteArray) = x := by apply ByteArray.ext; simp
set_option maxHeartbeats 4000000 in
theorem framePut_walk (F : Face) (p : ByteArray) (hp : p.size ≤ reachBytes) (n : Int) (hn : (Lit.int .i64 n).wf = true) (w : World) :
    Calls Try.prog 3 #[.string p, .int .i64 n] w fun e w' => e = .returned (.bool true) ∧ Below w.heap.size w w' := by
  have hB0 := Below.refl w.heap.size w
  unfold reachBytes at hp
  have c1 := fun v => F.put p v (by omega)
  have c2 := fun v => refput_any p v
  have C3 := Lib.hid fun v => F.size n v hn
  have C4 := Lib.hid fun v => refsize_any n v
  have C9 := Lib.hid fun v => awake_any F v
  obtain ⟨Z, hZ⟩ := named (sizeOf n)
  rw [← hZ.out] at C3 C4
  by_cases h : 65536 < p.size
  · have e : putOf p.data.toList = ([], 3) := by unfold putOf; rw [frame_len, if_pos h]
    rw [e] at c1 c2
    have C1 := Lib.hid c1
    have C2 := Lib.hid c2
    clear c1 c2 e h hn hp
    go_enter Try.func3, Try.ntmps3
    go_wp2_with (first
      | (go_at_call 11; ((with_reducible refine (C1.out _).mono ?_); rintro e w' ⟨rfl, hb⟩; have hB' := below_of (w := w) (by assumption) hb))
      | (go_at_call 12; ((with_reducible refine (C2.out _).mono ?_); rintro e w' ⟨rfl, hb⟩; have hB' := below_of (w := w) (by assumption) hb))
      | (go_at_call 13; ((with_reducible refine (C3.out _).mono ?_); rintro e w' ⟨rfl, hb⟩; have hB' := below_of (w := w) (by assumption) hb))
      | (go_at_call 14; ((with_reducible refine (C4.out _).mono ?_); rintro e w' ⟨rfl, rfl⟩))
      | (go_at_call 15; ((with_reducible refine (C9.out _).mono ?_); rintro e w' ⟨rfl, hb⟩; have hB' := below_of (w := w) (by assumption) hb)))
    go_ret
    exact ⟨rfl, by assumption⟩
  · have e : putOf p.data.toList = (Frame.put p.data.toList, 0) := by unfold putOf; rw [frame_len, if_neg h]
    have hs := size_put p.data.toList (by rw [frame_len]; omega)
    rw [frame_len] at hs
    have C5 := Lib.hid fun v => F.size (p.size : Int) v (by simp [Lit.wf, IntKind.min, IntKind.max, IntKind.signed, IntKind.bits]; omega)
    rw [hs] at C5
    have hz := frame_size (Frame.put p.data.toList)
    rw [e] at c1 c2
    obtain ⟨S, hS⟩ := named (⟨(Frame.put p.data.toList).toArray⟩ : ByteArray)
    have c1' : ∀ v, Calls Try.prog 11 #[.string p] v fun e w' => e = .returned (.tuple #[.string S, .int .i64 0]) ∧ Below v.heap.size v w' := by rw [hS.out]; exact c1
    have c2' : ∀ v, Calls Try.prog 12 #[.string p] v fun e w' => e = .returned (.tuple #[.string S, .int .i64 0]) ∧ Below v.heap.size v w' := by rw [hS.out]; exact c2
    rw [← hS.out] at hz
    rw [← hz] at C5
    have C1 := Lib.hid c1'
    have C2 := Lib.hid c2'
    clear c1 c2 c1' c2' e hs h hn hz hp
    go_enter Try.func3, Try.ntmps3
    go_wp2_with (first
      | (go_at_call 11; ((with_reducible refine (C1.out _).mono ?_); rintro e w' ⟨rfl, hb⟩; have hB' := below_of (w := w) (by assumption) hb))
      | (go_at_call 12; ((with_reducible refine (C2.out _).mono ?_); rintro e w' ⟨rfl, hb⟩; have hB' := below_of (w := w) (by assumption) hb))
      | (go_at_call 13; ((with_reducible refine (C3.out _).mono ?_); rintro e w' ⟨rfl, hb⟩; have hB' := below_of (w := w) (by assumption) hb))
      | (go_at_call 13; ((with_reducible refine (C5.out _).mono ?_); rintro e w' ⟨rfl, hb⟩; have hB' := below_of (w := w) (by assumption) hb))
      | (go_at_call 14; ((with_reducible refine (C4.out _).mono ?_); rintro e w' ⟨rfl, rfl⟩))
      | (go_at_call 15; ((with_reducible refine (C9.out _).mono ?_); rintro e w' ⟨rfl, hb⟩; have hB' := below_of (w := w) (by assumption) hb)))
    go_ret
    exact ⟨rfl, by assumption⟩
set_option maxHeartbeats 4000000 in
theorem frameGet_walk (F : Face) (s : ByteArray) (hs : s.size ≤ reachBytes) (w : World) :
    Calls Try.prog 4 #[.string s] w fun e w' => e = .returned (.bool true) ∧ Below w.heap.size w w' := by
  have hB0 := Below.refl w.heap.size w
  unfold reachBytes at hs
  have c1 := fun v => F.get s v (by omega)
  have c2 := fun v => refget_any s (by omega) v
  have C9 := Lib.hid fun v => awake_any F v
  obtain ⟨P, hP⟩ := named (⟨(Frame.get s.data.toList).1.toArray⟩ : ByteArray)
  obtain ⟨n, hn⟩ := named (Frame.get s.data.toList).2.1
  obtain ⟨E, hE⟩ := named (Frame.get s.data.toList).2.2
  rw [← hP.out, ← hn.out, ← hE.out] at c1 c2
  have C1 := Lib.hid c1
  have C2 := Lib.hid c2
  clear c1 c2 hs
  go_enter Try.func4, Try.ntmps4
  go_wp2_with (first
    | (go_at_call 16; ((with_reducible refine (C1.out _).mono ?_); rintro e w' ⟨rfl, hb⟩; have hB' := below_of (w := w) (by assumption) hb))
    | (go_at_call 17; ((with_reducible refine (C2.out _).mono ?_); rintro e w' ⟨rfl, hb⟩; have hB' := below_of (w := w) (by assumption) hb))
    | (go_at_call 15; ((with_reducible refine (C9.out _).mono ?_); rintro e w' ⟨rfl, hb⟩; have hB' := below_of (w := w) (by assumption) hb)))
  go_ret
  exact ⟨rfl, by assumption⟩
theorem alls_few (n : Nat) : ∀ s : List UInt8, s.length ≤ n → (Frame.alls s).1.length ≤ n ∧ (Frame.alls s).2.1 ≤ s.length := by
  induction n with
  | zero =>
    intro s h
    obtain rfl := List.length_eq_zero_iff.1 (Nat.le_zero.1 h)
    rw [Frame.alls_nil]; simp
  | succ n ih =>
    intro s h
    by_cases h0 : s = []
    · subst h0; rw [Frame.alls_nil]; simp
    · by_cases h1 : (Frame.get s).2.2 = 0
      · obtain ⟨h5, hl, _, _⟩ := Frame.put_get s h1
        obtain ⟨i1, i2⟩ := ih (s.drop (Frame.get s).2.1) (by rw [List.length_drop]; omega)
        rw [List.length_drop] at i2
        rw [Frame.alls_one h1]
        exact ⟨by simp only [List.length_cons]; omega, by show (Frame.get s).2.1 + _ ≤ _; omega⟩
      · rw [Frame.alls_err h0 h1]; simp
set_option maxHeartbeats 4000000 in
theorem frameAll_walk (F : Face) (s : ByteArray) (_hs : s.size ≤ reachBytes) (w : World) :
    Calls Try.prog 5 #[.string s] w fun e w' => e = .returned (.bool true) ∧ Below w.heap.size w w' := by
  have hB0 := Below.refl w.heap.size w
  have C9 := Lib.hid fun v => awake_any F v
  by_cases h : 4096 < s.size
  · have h' : 4096 < (s.size : Int) := by omega
    clear h
    go_enter Try.func5, Try.ntmps5
    go_wp2_with (go_at_call 15; ((with_reducible refine (C9.out _).mono ?_); rintro e w' ⟨rfl, hb⟩; have hB' := below_of (w := w) (by assumption) hb))
    go_ret
    exact ⟨rfl, by assumption⟩
  · have h' : (s.size : Int) ≤ 4096 := by omega
    have c1 := fun v => F.all s v (by omega)
    have c2 := fun v => refall_any s (by omega) v
    have hf := (alls_few s.data.toList.length s.data.toList (Nat.le_refl _)).1
    rw [frame_len] at hf
    obtain ⟨R, hR⟩ := named (Frame.alls s.data.toList)
    rw [← hR.out] at c1 c2 hf
    have C1 := Lib.hid c1
    have C2 := Lib.hid c2
    have C3 := Lib.hid fun v v' u => refsame_any R.1 (by omega) v v' u
    clear c1 c2 h hf
    go_enter Try.func5, Try.ntmps5
    go_wp2_with (first
      | (go_at_call 18; ((with_reducible refine (C1.out _).mono ?_); rintro e w1 ⟨v1, rfl, t1, hb1⟩))
      | (go_at_call 19; ((with_reducible refine (C2.out _).mono ?_); rintro e w2 ⟨v2, rfl, t2, hb2⟩; have hB2 := below_of hb1 hb2))
      | (go_at_call 20; ((with_reducible refine (C3.out _ _ _ (texts_lie (texts_keep t1 hb2)) (texts_lie t2)).mono ?_); rintro e w3 ⟨rfl, hb3⟩; have hB3 := below_of hB2 hb3))
      | (go_at_call 15; ((with_reducible refine (C9.out _).mono ?_); rintro e w4 ⟨rfl, hb4⟩; have hB4 := below_of (w := w) hB3 hb4)))
    go_ret
    exact ⟨rfl, hB4⟩
end Go.Proofs.Ytdhomindchjoiaa
