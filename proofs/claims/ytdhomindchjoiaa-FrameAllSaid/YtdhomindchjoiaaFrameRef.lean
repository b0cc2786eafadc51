/-
  The contracts of the document's own Size, seal, Put and Get of frames: each answers the plain mathematics. Condition: a text of a length that there is.
-/
import Derived.Test.YtdhomindchjoiaaFrameMath
import Derived.Test.YtdhomindchjoiaaCodeUintRef
import Derived.Test.YtdhomindchjoiaaSumCalls
import Derived.Deep.RegionWith
import Derived.BigRegion
import Derived.Laws.DeepStrings4
import Derived.Handy
namespace Go.Proofs.Ytdhomindchjoiaa
open Go.RowKit
theorem frame_len (x : ByteArray) : x.data.toList.length = x.size := by simp
theorem frame_size (l : List UInt8) : (⟨l.toArray⟩ : ByteArray).size = l.length := by show l.toArray.size = _; simp
/-- How many bytes the frame of a payload has. -/
def sizeOf (n : Int) : Int := if n < 0 ∨ 65536 < n then 0 else if n < 128 then n + 5 else if n < 16384 then n + 6 else n + 7
theorem refsize_any (n : Int) (w : World) : Calls Try.prog 14 #[.int .i64 n] w fun e w' => e = .returned (.int .i64 (sizeOf n)) ∧ w' = w := by
  unfold sizeOf
  by_cases h0 : n < 0
  · rw [if_pos (Or.inl h0)]
    go_enter Try.func14, Try.ntmps14
    go_wp2
    go_ret
    exact ⟨rfl, rfl⟩
  have h0' : 0 ≤ n := by omega
  by_cases h1 : 65536 < n
  · rw [if_pos (Or.inr h1)]
    go_enter Try.func14, Try.ntmps14
    go_wp2
    go_ret
    exact ⟨rfl, rfl⟩
  have h1' : n ≤ 65536 := by omega
  rw [if_neg (by omega)]
  by_cases h2 : n < 128
  · rw [if_pos h2]
    go_enter Try.func14, Try.ntmps14
    go_wp2
    go_ret
    exact ⟨rfl, rfl⟩
  rw [if_neg h2]
  by_cases h3 : n < 16384
  · rw [if_pos h3]
    go_enter Try.func14, Try.ntmps14
    go_wp2
    go_ret
    exact ⟨rfl, rfl⟩
  · rw [if_neg h3]
    go_enter Try.func14, Try.ntmps14
    go_wp2
    go_ret
    exact ⟨rfl, rfl⟩
theorem refof_any (b : ByteArray) (hb : b.size ≤ maxLen) (w : World) :
    Calls Try.prog 30 #[.string b] w fun e w' => e = .returned (.int .u32 ((Crc.more 0#32 b.data.toList).toNat : Int)) ∧ w' = w := by
  have C := Lib.hid fun v => refmore_any 0#32 b v hb
  go_enter Try.func30, Try.ntmps30
  go_wp2_with (go_at_call 36; refine (C.out _).mono ?_; rintro e w' ⟨rfl, rfl⟩)
  go_ret
  exact ⟨rfl, rfl⟩
theorem frame_low (m : BitVec 32) (i : Nat) : Crc.low m i = UInt8.ofNat (m.toNat / 2 ^ (8 * i)) := by
  apply UInt8.toNat_inj.1
  unfold Crc.low
  rw [UInt8.toNat_ofNat']
  show ((m >>> (8 * i)).setWidth 8).toNat = _
  rw [BitVec.toNat_setWidth, BitVec.toNat_ushiftRight, Nat.shiftRight_eq_div_pow]
theorem four_conv (v : World) (c0 c1 c2 c3 : Int) : (convert 38 9 (.slice (some ⟨v.heap.size, 0, none⟩) 4 4)).run Try.prog (v.alloc (.cells #[.int .u8 c0, .int .u8 c1, .int .u8 c2, .int .u8 c3] 5)) =
    .ok (.string (strOfNums [c0, c1, c2, c3])) (v.alloc (.cells #[.int .u8 c0, .int .u8 c1, .int .u8 c2, .int .u8 c3] 5)) := by
  refine run_convert_bytes_arg _ 38 5 Try.underlying38 Try.underlying5 _ 0 4 4 [c0, c1, c2, c3] rfl ?_ 9 Try.underlying9
  intro i hi
  rw [Nat.zero_add, World.cell?_alloc_new]
  rcases (show i = 0 ∨ i = 1 ∨ i = 2 ∨ i = 3 by omega) with rfl | rfl | rfl | rfl <;> rfl
theorem four_bytes (m : BitVec 32) (c0 c1 c2 c3 : Int) (h0 : c0.toNat % 256 = m.toNat % 256) (h1 : c1.toNat % 256 = m.toNat / 256 % 256) (h2 : c2.toNat % 256 = m.toNat / 65536 % 256) (h3 : c3.toNat % 256 = m.toNat / 16777216 % 256) :
    strOfNums [c0, c1, c2, c3] = ⟨(Crc.four m).toArray⟩ := by
  have e : ∀ x y : Nat, x % 256 = y % 256 → UInt8.ofNat x = UInt8.ofNat y := fun x y h => by
    apply UInt8.toNat_inj.1; rw [UInt8.toNat_ofNat', UInt8.toNat_ofNat']; exact h
  unfold strOfNums Crc.four
  simp only [List.map_cons, List.map_nil, frame_low]
  rw [e c0.toNat (m.toNat / 2 ^ (8 * 0)) (by simpa using h0), e c1.toNat (m.toNat / 2 ^ (8 * 1)) h1, e c2.toNat (m.toNat / 2 ^ (8 * 2)) h2, e c3.toNat (m.toNat / 2 ^ (8 * 3)) h3]
set_option maxHeartbeats 2000000 in
theorem refseal_any (b : ByteArray) (hb : b.size ≤ maxLen) (w : World) :
    Calls Try.prog 24 #[.string b] w fun e w' => e = .returned (.string ⟨(Frame.seal' b.data.toList).toArray⟩) ∧ Below w.heap.size w w' := by
  have c := fun v => refof_any b hb v
  unfold Frame.seal'
  obtain ⟨m, hM⟩ := named (Crc.more 0#32 b.data.toList)
  rw [← hM.out] at c ⊢
  have hlt := m.isLt
  have HF := Lib.hid (four_bytes m)
  have C := Lib.hid c
  have hcv := four_conv w
  have hlt' : Hid (m.toNat < 2 ^ 32) := Lib.hid hlt
  clear c hlt
  go_enter Try.func24, Try.ntmps24
  go_wp2_with (go_at_call 30; ((with_reducible refine (C.out _).mono ?_); rintro e w' ⟨rfl, rfl⟩))
  go_ret
  refine ⟨?_, below_alloc _ _⟩
  have := hlt'.out
  exact congrArg (fun x => Ending.returned (.string x)) (HF.out _ _ _ _ (by omega) (by omega) (by omega) (by omega))
theorem frame_cat (a b : List UInt8) : (⟨a.toArray⟩ : ByteArray) ++ ⟨b.toArray⟩ = ⟨(a ++ b).toArray⟩ := by
  apply ByteArray.ext; rw [ByteArray.data_append]; apply Array.toList_inj.1; simp
theorem frame_cat' (a : List UInt8) (b : ByteArray) : (⟨a.toArray⟩ : ByteArray) ++ b = ⟨(a ++ b.data.toList).toArray⟩ := by
  apply ByteArray.ext; rw [ByteArray.data_append]; apply Array.toList_inj.1; simp
/-- What is put, and the error's number. -/
def putOf (l : List UInt8) : List UInt8 × Nat := if 65536 < l.length then ([], 3) else (Frame.put l, 0)
theorem refput_any (p : ByteArray) (w : World) :
    Calls Try.prog 12 #[.string p] w fun e w' => e = .returned (.tuple #[.string ⟨(putOf p.data.toList).1.toArray⟩, .int .i64 ((putOf p.data.toList).2 : Int)]) ∧ Below w.heap.size w w' := by
  unfold putOf
  rw [frame_len]
  by_cases h : 65536 < p.size
  · rw [if_pos h]
    have h' : 65536 < (p.size : Int) := by omega
    clear h
    go_enter Try.func12, Try.ntmps12
    go_wp2
    go_returns
    exact ⟨rfl, Below.refl _ _⟩
  · rw [if_neg h]
    have h' : (p.size : Int) ≤ 65536 := by omega
    have hl10 := Code.uvar_ten (n := p.size) (by omega)
    have c1 := fun v => refputuint_any p.size (by omega) v
    have hbody : Frame.body p.data.toList = Code.uvar p.size ++ p.data.toList := by unfold Frame.body; rw [frame_len]
    have c2 := fun v => refseal_any ⟨(Frame.body p.data.toList).toArray⟩ (by rw [frame_size, hbody, List.length_append, frame_len]; unfold maxLen; omega) v
    have e1 := frame_cat' (Code.uvar p.size) p
    rw [← hbody] at e1
    have e2 := frame_cat (Frame.body p.data.toList) (Frame.seal' (Frame.body p.data.toList))
    have hV : ((⟨(Code.uvar p.size).toArray⟩ : ByteArray).size : Int) ≤ 10 := by rw [frame_size]; omega
    have hB : ((⟨(Frame.body p.data.toList).toArray⟩ : ByteArray).size : Int) ≤ 70000 := by rw [frame_size, hbody, List.length_append, frame_len]; omega
    have hS : ((⟨(Frame.seal' (Frame.body p.data.toList)).toArray⟩ : ByteArray).size : Int) = 4 := rfl
    have ed : (⟨(Frame.body p.data.toList).toArray⟩ : ByteArray).data.toList = Frame.body p.data.toList := rfl
    rw [ed] at c2
    show Calls _ _ _ _ fun e w' => e = .returned (.tuple #[.string ⟨(Frame.body p.data.toList ++ Frame.seal' (Frame.body p.data.toList)).toArray⟩, .int .i64 0]) ∧ _
    rw [← e2]
    clear e2
    obtain ⟨V, HV⟩ := named (⟨(Code.uvar p.size).toArray⟩ : ByteArray)
    obtain ⟨B, HB⟩ := named (⟨(Frame.body p.data.toList).toArray⟩ : ByteArray)
    obtain ⟨S, HS⟩ := named (⟨(Frame.seal' (Frame.body p.data.toList)).toArray⟩ : ByteArray)
    rw [← HV.out] at c1 e1 hV
    rw [← HB.out] at c2 e1 hB ⊢
    rw [← HS.out] at c2 hS ⊢
    have C1 := Lib.hid c1
    have C2 := Lib.hid c2
    clear c1 c2 hbody ed h hl10
    go_enter Try.func12, Try.ntmps12
    go_wp2_with (first
      | (go_at_call 23; ((with_reducible refine (C1.out _).mono ?_); rintro e w1 ⟨rfl, hb1⟩))
      | (go_at_call 24; ((with_reducible refine (C2.out _).mono ?_); rintro e w2 ⟨rfl, hb2⟩; have hB2 := below_of hb1 hb2)))
    go_returns
    exact ⟨rfl, hB2⟩
end Go.Proofs.Ytdhomindchjoiaa
