/-
  The contract of the document's own All of frames: it answers what the plain mathematics reads. Condition: a text of at most 100000 bytes.
-/
import Derived.Test.YtdhomindchjoiaaFrameGetRef
import Derived.Test.YtdhomindchjoiaaTexts
namespace Go.Proofs.Ytdhomindchjoiaa
open Go.RowKit
theorem frame_from (s : ByteArray) (n : Nat) (h : n ≤ s.size) (u : World) :
    (Instr.slice 9 (.string s) (some (.int .i64 (n : Int))) none none).run Try.prog u = .ok (.string ⟨(s.data.toList.drop n).toArray⟩) u := by
  rw [run_slice_string_from_if u 9 s .i64 _ Try.underlying9, if_pos ⟨by omega, by omega⟩]
  congr 2
  apply ByteArray.ext
  apply Array.toList_inj.1
  rw [ByteArray.data_extract, Array.toList_extract]
  rw [List.extract_eq_take_drop, List.take_of_length_le (by rw [List.length_drop, frame_len]; omega)]
  simp
/-- What All answers of bytes of which the first k are read already. -/
def liftA (pre : List (List UInt8)) (k : Nat) (r : List (List UInt8) × Nat × Nat) : List (List UInt8) × Nat × Nat := (pre ++ r.1, k + r.2.1, r.2.2)
theorem liftA_nil (pre : List (List UInt8)) (k : Nat) : liftA pre k (Frame.alls []) = (pre, k, 0) := by rw [Frame.alls_nil]; simp [liftA]
theorem liftA_err (pre : List (List UInt8)) (k : Nat) {t : List UInt8} (h0 : t ≠ []) (h : (Frame.get t).2.2 ≠ 0) : liftA pre k (Frame.alls t) = (pre, k, (Frame.get t).2.2) := by rw [Frame.alls_err h0 h]; simp [liftA]
theorem liftA_one (pre : List (List UInt8)) (k : Nat) {t : List UInt8} (h : (Frame.get t).2.2 = 0) : liftA pre k (Frame.alls t) = liftA (pre ++ [(Frame.get t).1]) (k + (Frame.get t).2.1) (Frame.alls (t.drop (Frame.get t).2.1)) := by
  rw [Frame.alls_one h]; simp [liftA, Nat.add_assoc]
set_option maxRecDepth 100000 in
set_option maxHeartbeats 4000000 in
theorem refall_any (s : ByteArray) (hs : s.size ≤ 100000) (w : World) :
    Calls Try.prog 19 #[.string s] w fun e w' => ∃ v, e = .returned (.tuple #[v, .int .i64 ((Frame.alls s.data.toList).2.1 : Int), .int .i64 ((Frame.alls s.data.toList).2.2 : Int)]) ∧
      Texts w' w.heap.size v (Frame.alls s.data.toList).1 ∧ Below w.heap.size w w' := by
  obtain ⟨R, HR⟩ := named (Frame.alls s.data.toList)
  rw [← HR.out]
  go_enter Try.func19, Try.ntmps19
  go_wp2
  go_loopw [5, 6] (fun v d wr => ∃ (k : Nat) (pre : List (List UInt8)), k ≤ s.size ∧ pre.length ≤ k ∧ d = .int .i64 (k : Int) ∧ Texts wr w.heap.size v pre ∧ Below w.heap.size w wr ∧ R = liftA pre k (Frame.alls (s.data.toList.drop k))) (fun _ d _ => s.size - (intOf d).toNat)
  case atStart => exact ⟨0, [], by omega, by simp, rfl, texts_nil _ _, Below.refl _ _, by rw [List.drop_zero, HR.out]; simp [liftA]⟩
  case round =>
    obtain ⟨k, pre, hk, hpk, rfl, hT, hB, hR⟩ := hrel
    have HR2 := Lib.hid hR
    have HT := Lib.hid hT
    clear hR hT
    obtain ⟨i0, hi, hz0, hz1, hz2⟩ := info_parts infoS
    by_cases he : k = s.size
    · go_wp2
      go_returns
      have hd : s.data.toList.drop k = [] := List.drop_eq_nil_of_le (by simp; omega)
      have := HR2.out
      rw [hd, liftA_nil] at this
      rw [this]
      exact ⟨_, rfl, HT.out, hB⟩
    have hks : k < s.size := by omega
    have hsl := frame_from s k (by omega)
    obtain ⟨t, ht⟩ := named (s.data.toList.drop k)
    have htl : t.length = s.size - k := by rw [ht.out, List.length_drop, frame_len]
    have hne : t ≠ [] := by rintro rfl; simp at htl; omega
    have hpg := Frame.put_get t
    have hR3 := HR2.out
    have hdd : ∀ n, s.data.toList.drop (k + n) = t.drop n := fun n => by rw [ht.out, List.drop_drop]
    rw [← ht.out] at hsl hR3
    have c := fun u => refget_any ⟨t.toArray⟩ (by rw [frame_size, htl]; omega) u
    have ed : (⟨t.toArray⟩ : ByteArray).data.toList = t := rfl
    rw [ed] at c
    have hO := liftA_one pre k (t := t)
    have hX := liftA_err pre k (t := t) hne
    obtain ⟨p, hP⟩ := named (Frame.get t).1
    obtain ⟨n, hN⟩ := named (Frame.get t).2.1
    obtain ⟨E, hE⟩ := named (Frame.get t).2.2
    rw [← hP.out, ← hN.out, ← hE.out] at c
    rw [← hE.out] at hX
    rw [← hP.out, ← hN.out, ← hE.out] at hO
    rw [← hN.out, ← hE.out] at hpg
    have C := Lib.hid c
    have HD := Lib.hid hdd
    clear c ed HR2 hdd
    by_cases h0 : E = 0
    · subst h0
      have hR4 := Lib.hid (hR3.trans (hO rfl))
      obtain ⟨h5, hnl, _⟩ := hpg rfl
      have hn5 : 5 ≤ n := h5
      have hnk : k + n ≤ s.size := by omega
      clear hX hO hpg hne hR3
      go_wp2_with (first
        | (go_at_call 17; ((with_reducible refine (C.out _).mono ?_); rintro e w1 ⟨rfl, hb⟩; have hT1 := texts_keep HT.out hb; have hB1 := below_of hB hb))
        | (at_builtin; refine wpList_append_own _ rfl _ _ 31 rfl w.heap.size 9 i0 (.string ⟨#[]⟩) 1 16 Try.underlying31 hi hz0 hz1 hz2 rfl (by decide) _ _ _ rfl (hT1.alloc _) ⟨w1.heap.size, 0, none⟩ 1 1 [.string ⟨p.toArray⟩] rfl rfl ?c1 ?c2 ?c3 ?c4 ?c5 ?_))
      case c1 => intro j u hj; exact new_text _ _ _ j u hj
      case c2 => intro u hu; simp at hu; subst hu; rfl
      case c3 => unfold maxLen; omega
      case c4 => omega
      case c5 => have := hB1.size; simp; omega
      intro v' w2 hT2 hgr _
      have hob : ∀ r, u5.ownBlock = some r → w.heap.size ≤ r := fun r hr => (hT1.lt r hr).1
      have hB2 := (hB1.alloc hB1.size (.cells #[.string ⟨p.toArray⟩] 9)).grown hgr (by have := hB1.size; simp; omega) hob
      rw [textRow_snoc] at hT2
      have HT2 := Lib.hid hT2
      clear hT2 hgr
      go_wp2
      go_roundw
      case rel => exact ⟨k + n, pre ++ [p], by omega, by simp; omega, by go_num, by have := HT2.out; unfold Texts; rw [List.length_append]; exact this, hB2, by rw [HD.out]; exact hR4.out⟩
      case measure => simp [intOf]; omega
    · have hEb : ((E : Int) != 0) = true := bne_iff_ne.2 (by omega)
      have hR4 := Lib.hid (hR3.trans (hX h0))
      clear hX hO hpg hne hR3 h0
      go_wp2_with (go_at_call 17; ((with_reducible refine (C.out _).mono ?_); rintro e w1 ⟨rfl, hb⟩; have hT1 := texts_keep HT.out hb; have hB1 := below_of hB hb))
      go_returns
      rw [hR4.out]
      exact ⟨_, rfl, hT1, hB1⟩
end Go.Proofs.Ytdhomindchjoiaa
