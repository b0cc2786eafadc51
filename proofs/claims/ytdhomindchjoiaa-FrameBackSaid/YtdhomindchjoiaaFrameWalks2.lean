/-
  The walks of the statements FrameBack and FrameOnly. Condition: the contracts of the program's four calls ('Face').
-/
import Derived.Test.YtdhomindchjoiaaFrameWalks
namespace Go.Proofs.Ytdhomindchjoiaa
open Go.RowKit
set_option maxHeartbeats 4000000 in
theorem frameBack_walk (F : Face) (p : ByteArray) (hp : p.size ≤ reachBytes) (t : ByteArray) (ht : t.size ≤ reachBytes) (w : World) :
    Calls Try.prog 6 #[.string p, .string t] w fun e w' => e = .returned (.bool true) ∧ Below w.heap.size w w' := by
  have hB0 := Below.refl w.heap.size w
  unfold reachBytes at hp ht
  have c1 := fun v => F.put p v (by omega)
  have C9 := Lib.hid fun v => awake_any F v
  by_cases h : 65536 < p.size
  · have e : putOf p.data.toList = ([], 3) := by unfold putOf; rw [frame_len, if_pos h]
    have h' : 65536 < (p.size : Int) := by omega
    rw [e] at c1
    have C1 := Lib.hid c1
    clear c1 e h hp ht
    go_enter Try.func6, Try.ntmps6
    go_wp2_with (first
      | (go_at_call 11; ((with_reducible refine (C1.out _).mono ?_); rintro e w' ⟨rfl, hb⟩; have hB' := below_of (w := w) (by assumption) hb))
      | (go_at_call 15; ((with_reducible refine (C9.out _).mono ?_); rintro e w' ⟨rfl, hb⟩; have hB' := below_of (w := w) (by assumption) hb)))
    go_ret
    exact ⟨rfl, by assumption⟩
  · have e : putOf p.data.toList = (Frame.put p.data.toList, 0) := by unfold putOf; rw [frame_len, if_neg h]
    have hl := Frame.put_length p.data.toList
    rw [frame_len] at hl
    have h10 := Code.uvar_ten (n := p.size) (by omega)
    have hz := frame_size (Frame.put p.data.toList)
    have hg := Frame.get_put p.data.toList t.data.toList (by rw [frame_len]; omega)
    have hcat := frame_cat' (Frame.put p.data.toList) t
    have hsz : (⟨(Frame.put p.data.toList ++ t.data.toList).toArray⟩ : ByteArray).size ≤ 200000000000000 := by rw [frame_size, List.length_append, frame_len]; omega
    have c2 := fun v => F.get ⟨(Frame.put p.data.toList ++ t.data.toList).toArray⟩ v hsz
    have ed : (⟨(Frame.put p.data.toList ++ t.data.toList).toArray⟩ : ByteArray).data.toList = Frame.put p.data.toList ++ t.data.toList := rfl
    rw [ed, hg] at c2
    rw [e] at c1
    rw [← hcat] at c2
    have hS1 : ((⟨(Frame.put p.data.toList).toArray⟩ : ByteArray).size : Int) ≤ 70000 := by omega
    have ht1 : (t.size : Int) ≤ 140737488351232 := by omega
    obtain ⟨S, hS⟩ := named (⟨(Frame.put p.data.toList).toArray⟩ : ByteArray)
    have c1' : ∀ v, Calls Try.prog 11 #[.string p] v fun e w' => e = .returned (.tuple #[.string S, .int .i64 0]) ∧ Below v.heap.size v w' := by rw [hS.out]; exact c1
    have c2' : ∀ v, Calls Try.prog 16 #[.string (S ++ t)] v fun e w' => e = .returned (.tuple #[.string p, .int .i64 (S.size : Int), .int .i64 0]) ∧ Below v.heap.size v w' := by
      rw [hS.out, hz]
      have hb := frame_back p
      intro v
      have := c2 v
      simp only [hb] at this
      exact this
    rw [← hS.out] at hS1
    have C1 := Lib.hid c1'
    have C2 := Lib.hid c2'
    clear c1 c2 c1' c2' e hl h10 hz hg hcat hsz ed hp ht h
    go_enter Try.func6, Try.ntmps6
    go_wp2_with (first
      | (go_at_call 11; ((with_reducible refine (C1.out _).mono ?_); rintro e w' ⟨rfl, hb⟩; have hB' := below_of (w := w) (by assumption) hb))
      | (go_at_call 16; ((with_reducible refine (C2.out _).mono ?_); rintro e w' ⟨rfl, hb⟩; have hB' := below_of (w := w) (by assumption) hb))
      | (go_at_call 15; ((with_reducible refine (C9.out _).mono ?_); rintro e w' ⟨rfl, hb⟩; have hB' := below_of (w := w) (by assumption) hb)))
    go_ret
    exact ⟨rfl, by assumption⟩
set_option maxHeartbeats 4000000 in
theorem frameOnly_walk (F : Face) (s : ByteArray) (hs : s.size ≤ reachBytes) (w : World) :
    Calls Try.prog 9 #[.string s] w fun e w' => e = .returned (.bool true) ∧ Below w.heap.size w w' := by
  have hB0 := Below.refl w.heap.size w
  unfold reachBytes at hs
  have c1 := fun v => F.get s v (by omega)
  have C9 := Lib.hid fun v => awake_any F v
  by_cases h : (Frame.get s.data.toList).2.2 = 0
  · obtain ⟨h5, hl, hp, he⟩ := Frame.put_get s.data.toList h
    rw [frame_len] at hl
    have c2 := fun v => F.put ⟨(Frame.get s.data.toList).1.toArray⟩ v (by rw [frame_size]; omega)
    have e : putOf (⟨(Frame.get s.data.toList).1.toArray⟩ : ByteArray).data.toList = (s.data.toList.take (Frame.get s.data.toList).2.1, 0) := by
      show putOf (Frame.get s.data.toList).1 = _
      unfold putOf; rw [if_neg (by omega), he]
    rw [e] at c2
    have hsl := frame_to s (Frame.get s.data.toList).2.1 hl _ rfl
    have hz := size_put (Frame.get s.data.toList).1 hp
    have hpl : (Frame.put (Frame.get s.data.toList).1).length = (Frame.get s.data.toList).2.1 := by rw [he, List.length_take, frame_len]; omega
    rw [hpl] at hz
    have hz2 := frame_size (Frame.get s.data.toList).1
    have C3 := Lib.hid fun v => F.size ((⟨(Frame.get s.data.toList).1.toArray⟩ : ByteArray).size : Int) v (by rw [hz2]; simp [Lit.wf, IntKind.min, IntKind.max, IntKind.signed, IntKind.bits]; omega)
    rw [hz2] at C3
    rw [hz, ← hz2] at C3
    rw [h] at c1
    obtain ⟨P, hP⟩ := named (⟨(Frame.get s.data.toList).1.toArray⟩ : ByteArray)
    obtain ⟨n, hn⟩ := named (Frame.get s.data.toList).2.1
    obtain ⟨Q, hQ⟩ := named (⟨(s.data.toList.take n).toArray⟩ : ByteArray)
    rw [← hn.out] at c1 c2 hsl C3 h5 hl
    rw [← hP.out] at c1 c2 C3
    rw [← hQ.out] at hsl
    have c2' : ∀ v, Calls Try.prog 11 #[.string P] v fun e w' => e = .returned (.tuple #[.string Q, .int .i64 0]) ∧ Below v.heap.size v w' := by rw [hQ.out]; exact c2
    have C1 := Lib.hid c1
    have C2 := Lib.hid c2'
    have n5 : 5 ≤ (n : Int) := by omega
    have nl : (n : Int) ≤ (s.size : Int) := by omega
    clear c1 c2 c2' e he h hp hz hpl hz2 h5 hl hs
    go_enter Try.func9, Try.ntmps9
    go_wp2_with (first
      | (go_at_call 16; ((with_reducible refine (C1.out _).mono ?_); rintro e w' ⟨rfl, hb⟩; have hB' := below_of (w := w) (by assumption) hb))
      | (go_at_call 11; ((with_reducible refine (C2.out _).mono ?_); rintro e w' ⟨rfl, hb⟩; have hB' := below_of (w := w) (by assumption) hb))
      | (go_at_call 13; ((with_reducible refine (C3.out _).mono ?_); rintro e w' ⟨rfl, hb⟩; have hB' := below_of (w := w) (by assumption) hb))
      | (go_at_call 15; ((with_reducible refine (C9.out _).mono ?_); rintro e w' ⟨rfl, hb⟩; have hB' := below_of (w := w) (by assumption) hb)))
    go_ret
    exact ⟨rfl, by assumption⟩
  · rcases Frame.get_err s.data.toList with g | ⟨_, g1, g2⟩
    · exact absurd g h
    · rw [g1, g2] at c1
      have hE : (((Frame.get s.data.toList).2.2 : Int) != 0) = true := bne_iff_ne.2 (by omega)
      obtain ⟨E, hEE⟩ := named (Frame.get s.data.toList).2.2
      rw [← hEE.out] at c1 hE
      have C1 := Lib.hid c1
      clear c1 g1 g2 h hs
      go_enter Try.func9, Try.ntmps9
      go_wp2_with (first
        | (go_at_call 16; ((with_reducible refine (C1.out _).mono ?_); rintro e w' ⟨rfl, hb⟩; have hB' := below_of (w := w) (by assumption) hb))
        | (go_at_call 15; ((with_reducible refine (C9.out _).mono ?_); rintro e w' ⟨rfl, hb⟩; have hB' := below_of (w := w) (by assumption) hb)))
      go_ret
      exact ⟨rfl, by assumption⟩
end Go.Proofs.Ytdhomindchjoiaa
