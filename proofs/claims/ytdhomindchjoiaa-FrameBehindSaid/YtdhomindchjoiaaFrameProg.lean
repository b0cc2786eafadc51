/-
  The contracts of the program's own frame.seal, Size and Put: each answers the plain mathematics. Condition: a text of a length that there is.
-/
import Derived.Test.YtdhomindchjoiaaFrameRef
import Derived.Test.YtdhomindchjoiaaFrameField
import Derived.Test.YtdhomindchjoiaaCodePutText
import Derived.Test.YtdhomindchjoiaaCodeField
namespace Go.Proofs.Ytdhomindchjoiaa
open Go.RowKit
set_option maxHeartbeats 2000000 in
theorem seal_any (b : ByteArray) (hb : b.size ≤ maxLen) (w : World) :
    Calls Try.prog 22 #[.string b] w fun e w' => e = .returned (.string ⟨(Frame.seal' b.data.toList).toArray⟩) ∧ Below w.heap.size w w' := by
  have c := fun v => of_any b v hb
  unfold Frame.seal'
  obtain ⟨o, hO⟩ := named (Obj.cells #[.int .u32 ((Crc.inv (Crc.more 0#32 b.data.toList)).toNat : Int)] 37)
  obtain ⟨m, hM⟩ := named (Crc.more 0#32 b.data.toList)
  have c' : ∀ v, Calls Try.prog 29 #[.string b] v fun e w' => e = .returned (.int .u32 (m.toNat : Int)) ∧ w' = v.alloc o := by rw [hO.out, hM.out]; exact c
  rw [← hM.out]
  have hlt := m.isLt
  have HF := Lib.hid (four_bytes m)
  have C := Lib.hid c'
  have hcv := four_conv (w.alloc o)
  simp only [World.size_alloc] at hcv
  have hlt' : Hid (m.toNat < 2 ^ 32) := Lib.hid hlt
  clear c c' hlt
  go_enter Try.func22, Try.ntmps22
  go_wp2_with (go_at_call 29; ((with_reducible refine (C.out _).mono ?_); rintro e w' ⟨rfl, rfl⟩))
  go_ret
  refine ⟨?_, (below_alloc _ _).trans ((below_alloc _ _).mono (by simp))⟩
  have := hlt'.out
  exact congrArg (fun x => Ending.returned (.string x)) (HF.out _ _ _ _ (by omega) (by omega) (by omega) (by omega))
theorem size_none (n : Int) (h : n < 0 ∨ 65536 < n) (w : World) : Calls Try.prog 13 #[.int .i64 n] w fun e w' => e = .returned (.int .i64 0) ∧ Below w.heap.size w w' := by
  rcases h with h | h
  · go_enter Try.func13, Try.ntmps13
    go_wp2
    go_ret
    exact ⟨rfl, Below.refl _ _⟩
  · have h0 : 0 ≤ n := by omega
    go_enter Try.func13, Try.ntmps13
    go_wp2
    go_ret
    exact ⟨rfl, Below.refl _ _⟩
theorem size_some (n : Nat) (h : n ≤ 65536) (w : World) : Calls Try.prog 13 #[.int .i64 (n : Int)] w fun e w' => e = .returned (.int .i64 (((Code.uvar n).length : Int) + n + 4)) ∧ Below w.heap.size w w' := by
  have c := fun v => putuint_any n (by omega) v
  have hl := Code.uvar_ten (n := n) (by omega)
  have hV : ((⟨(Code.uvar n).toArray⟩ : ByteArray).size : Int) = ((Code.uvar n).length : Int) := by rw [frame_size]
  have hb : ((Code.uvar n).length : Int) ≤ 10 := by omega
  have hb0 : 0 ≤ ((Code.uvar n).length : Int) := by omega
  obtain ⟨V, HV⟩ := named (⟨(Code.uvar n).toArray⟩ : ByteArray)
  obtain ⟨k, hk⟩ := named ((Code.uvar n).length : Int)
  rw [← hk.out] at hV hb hb0 ⊢
  rw [← HV.out] at c hV
  have C := Lib.hid c
  have h' : (n : Int) ≤ 65536 := by omega
  clear c hl
  go_enter Try.func13, Try.ntmps13
  go_wp2_with (go_at_call 25; ((with_reducible refine (C.out _).mono ?_); rintro e w' ⟨rfl, hb⟩))
  go_ret
  exact ⟨rfl, by assumption⟩
theorem size_any (n : Int) (w : World) : Calls Try.prog 13 #[.int .i64 n] w fun e w' => e = .returned (.int .i64 (sizeOf n)) ∧ Below w.heap.size w w' := by
  unfold sizeOf
  by_cases h : n < 0 ∨ 65536 < n
  · rw [if_pos h]; exact size_none n h w
  · rw [if_neg h]
    obtain ⟨k, rfl⟩ := Int.eq_ofNat_of_zero_le (show 0 ≤ n by omega)
    have hk : k ≤ 65536 := by omega
    rw [Frame.uvar_size k hk]
    exact size_some k hk w
theorem put_any (p : ByteArray) (hp : p.size ≤ 200000000000000) (w : World) :
    Calls Try.prog 11 #[.string p] w fun e w' => e = .returned (.tuple #[.string ⟨(putOf p.data.toList).1.toArray⟩, .int .i64 ((putOf p.data.toList).2 : Int)]) ∧ Below w.heap.size w w' := by
  unfold putOf
  rw [frame_len]
  by_cases h : 65536 < p.size
  · rw [if_pos h]
    have h' : 65536 < (p.size : Int) := by omega
    clear h
    go_enter Try.func11, Try.ntmps11
    go_wp2
    go_returns
    exact ⟨rfl, Below.refl _ _⟩
  · rw [if_neg h]
    have h' : (p.size : Int) ≤ 65536 := by omega
    have hl10 := Code.uvar_ten (n := p.size) (by omega)
    have hbody : Frame.body p.data.toList = Code.uvar p.size ++ p.data.toList := by unfold Frame.body; rw [frame_len]
    have c1 := fun v => putfield_any p (by unfold reachBytes; omega) v
    rw [← hbody] at c1
    have c2 := fun v => seal_any ⟨(Frame.body p.data.toList).toArray⟩ (by rw [frame_size, hbody, List.length_append, frame_len]; unfold maxLen; omega) v
    have e2 := frame_cat (Frame.body p.data.toList) (Frame.seal' (Frame.body p.data.toList))
    have hB : ((⟨(Frame.body p.data.toList).toArray⟩ : ByteArray).size : Int) ≤ 70000 := by rw [frame_size, hbody, List.length_append, frame_len]; omega
    have hS : ((⟨(Frame.seal' (Frame.body p.data.toList)).toArray⟩ : ByteArray).size : Int) = 4 := rfl
    have ed : (⟨(Frame.body p.data.toList).toArray⟩ : ByteArray).data.toList = Frame.body p.data.toList := rfl
    rw [ed] at c2
    show Calls _ _ _ _ fun e w' => e = .returned (.tuple #[.string ⟨(Frame.body p.data.toList ++ Frame.seal' (Frame.body p.data.toList)).toArray⟩, .int .i64 0]) ∧ _
    rw [← e2]
    clear e2
    obtain ⟨B, HB⟩ := named (⟨(Frame.body p.data.toList).toArray⟩ : ByteArray)
    obtain ⟨S, HS⟩ := named (⟨(Frame.seal' (Frame.body p.data.toList)).toArray⟩ : ByteArray)
    rw [← HB.out] at c1 c2 hB ⊢
    rw [← HS.out] at c2 hS ⊢
    have C1 := Lib.hid c1
    have C2 := Lib.hid c2
    clear c1 c2 hbody ed h hl10
    go_enter Try.func11, Try.ntmps11
    go_wp2_with (first
      | (go_at_call 21; ((with_reducible refine (C1.out _).mono ?_); rintro e w1 ⟨rfl, hb1⟩))
      | (go_at_call 22; ((with_reducible refine (C2.out _).mono ?_); rintro e w2 ⟨rfl, hb2⟩; have hB2 := below_of hb1 hb2)))
    go_returns
    exact ⟨rfl, hB2⟩
end Go.Proofs.Ytdhomindchjoiaa
