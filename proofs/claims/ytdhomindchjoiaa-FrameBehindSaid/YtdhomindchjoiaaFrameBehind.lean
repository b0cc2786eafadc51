/-
  The walk of the statement FrameBehind. Condition: the contracts of the program's four calls ('Face').
-/
import Derived.Test.YtdhomindchjoiaaFrameWalks
namespace Go.Proofs.Ytdhomindchjoiaa
open Go.RowKit
set_option maxHeartbeats 8000000 in
theorem frameBehind_walk (F : Face) (s : ByteArray) (_hs : s.size ≤ reachBytes) (t : ByteArray) (_ht : t.size ≤ reachBytes) (w : World) :
    Calls Try.prog 10 #[.string s, .string t] w fun e w' => e = .returned (.bool true) ∧ Below w.heap.size w w' := by
  have hB0 := Below.refl w.heap.size w
  have C9 := Lib.hid fun v => awake_any F v
  by_cases h : 2000 < s.size
  · have h' : 2000 < (s.size : Int) := by omega
    clear h
    go_enter Try.func10, Try.ntmps10
    go_wp2_with (go_at_call 15; ((with_reducible refine (C9.out _).mono ?_); rintro e w' ⟨rfl, hb⟩; have hB' := below_of (w := w) (by assumption) hb))
    go_ret
    exact ⟨rfl, by assumption⟩
  have h' : (s.size : Int) ≤ 2000 := by omega
  by_cases g : 2000 < t.size
  · have g' : 2000 < (t.size : Int) := by omega
    clear h g
    go_enter Try.func10, Try.ntmps10
    go_wp2_with (go_at_call 15; ((with_reducible refine (C9.out _).mono ?_); rintro e w' ⟨rfl, hb⟩; have hB' := below_of (w := w) (by assumption) hb))
    go_ret
    exact ⟨rfl, by assumption⟩
  have g' : (t.size : Int) ≤ 2000 := by omega
  have c1 := fun v => F.all s v (by omega)
  have c2 := fun v => F.all t v (by omega)
  have f1 := alls_few s.data.toList.length s.data.toList (Nat.le_refl _)
  have f2 := alls_few t.data.toList.length t.data.toList (Nat.le_refl _)
  rw [frame_len] at f1 f2
  have hsl := frame_to s (Frame.alls s.data.toList).2.1 f1.2 _ rfl
  have hcat := frame_cat' (s.data.toList.take (Frame.alls s.data.toList).2.1) t
  have c3 := fun v => F.all ⟨(s.data.toList.take (Frame.alls s.data.toList).2.1 ++ t.data.toList).toArray⟩ v (by rw [frame_size, List.length_append, List.length_take, frame_len, frame_len]; omega)
  have ed : (⟨(s.data.toList.take (Frame.alls s.data.toList).2.1 ++ t.data.toList).toArray⟩ : ByteArray).data.toList = s.data.toList.take (Frame.alls s.data.toList).2.1 ++ t.data.toList := rfl
  rw [ed, Frame.alls_behind _ s.data.toList t.data.toList (Nat.le_refl _), ← hcat] at c3
  have hz : ((⟨(s.data.toList.take (Frame.alls s.data.toList).2.1).toArray⟩ : ByteArray).size : Int) ≤ 2000 := by rw [frame_size, List.length_take, frame_len]; omega
  have f11 := f1.1
  have f21 := f2.1
  have f12 : ((Frame.alls s.data.toList).2.1 : Int) ≤ 2000 := by omega
  have f22 : ((Frame.alls t.data.toList).2.1 : Int) ≤ 2000 := by omega
  obtain ⟨X, hX⟩ := named (⟨(s.data.toList.take (Frame.alls s.data.toList).2.1).toArray⟩ : ByteArray)
  rw [← hX.out] at c3 hsl hz
  obtain ⟨R, hR⟩ := named (Frame.alls s.data.toList)
  obtain ⟨Q, hQ⟩ := named (Frame.alls t.data.toList)
  rw [← hR.out] at c1 c3 hsl f11 f12
  rw [← hQ.out] at c2 c3 f21 f22
  have C1 := Lib.hid c1
  have C2 := Lib.hid c2
  have C3 := Lib.hid c3
  have C4 := Lib.hid fun v v' u => refsame_any (R.1 ++ Q.1) (by rw [List.length_append]; omega) v v' u
  have hadd : (((R.2.1 + Q.2.1 : Nat)) : Int) = (R.2.1 : Int) + (Q.2.1 : Int) := by omega
  clear c1 c2 c3 f1 f2 hcat ed h g
  go_enter Try.func10, Try.ntmps10
  go_wp2_with (first
    | (go_at_call 18; ((with_reducible refine (C1.out _).mono ?_); rintro e w1 ⟨v1, rfl, t1, hb1⟩))
    | (go_at_call 18; ((with_reducible refine (C2.out _).mono ?_); rintro e w2 ⟨v2, rfl, t2, hb2⟩; have hB2 := below_of hb1 hb2))
    | (go_at_call 18; ((with_reducible refine (C3.out _).mono ?_); rintro e w3 ⟨v3, rfl, t3, hb3⟩; have hB3 := below_of hB2 hb3; have k1 := texts_keep (texts_keep t1 hb2) hb3; have k2 := texts_keep t2 hb3))
    | (at_builtin; go_loud (refine wpList_append_texts rfl _ _ rfl w3.heap.size _ (.slice (some ⟨w3.heap.size, 0, none⟩) 0 0) v1 [] R.1 (by rfl) (by rfl) (World.ownsRow_lit w3 #[] 0 (Nat.le_refl _) (by unfold maxLen; omega) rfl) (texts_keep k1 (below_alloc w3 (.cells #[] 9))) (by simp; omega) (by simp) ?_)))
  intro v5 w5 h5 hb5
  have hB35 := (below_alloc w3 (.cells #[] 9)).trans hb5
  go_wp2_with (at_builtin; go_loud (refine wpList_append_texts rfl _ _ rfl w3.heap.size _ v5 v2 R.1 Q.1 (by rfl) (by rfl) h5 (texts_keep k2 hB35) (by omega) hB35.size ?_))
  intro v6 w6 h6 hb6
  have hB36 := hB35.trans hb6
  have hBw6 := below_of hB3 hB36
  go_wp2_with (first
    | (go_at_call 20; ((with_reducible refine (C4.out _ _ _ (texts_lie (texts_keep t3 hB36)) (texts_lie h6)).mono ?_); rintro e w7 ⟨rfl, hb7⟩; have hB7 := below_of hBw6 hb7))
    | (go_at_call 15; ((with_reducible refine (C9.out _).mono ?_); rintro e w8 ⟨rfl, hb8⟩; have hB8 := below_of (w := w) hB7 hb8)))
  go_ret
  exact ⟨rfl, hB8⟩
end Go.Proofs.Ytdhomindchjoiaa
