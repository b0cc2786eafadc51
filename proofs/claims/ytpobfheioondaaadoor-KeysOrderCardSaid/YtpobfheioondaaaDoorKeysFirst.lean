/-
  The contracts of keys.first, for a valid state's key: it answers the plain mathematics' text of the first fields. Condition: the library's one variable holds some number.
-/
import Derived.Test.YtpobfheioondaaaDoorBuf
import Derived.Test.YtpobfheioondaaaDoorMax
import Derived.Test.YtpobfheioondaaaDoorKeysCheck
namespace Go.Proofs.YtpobfheioondaaaDoor
open Go.RowKit
theorem byte_st {x : Int} (h : 0 ≤ x ∧ x < 64) : x % 256 = ((Keys.byteOf x).toNat : Int) := by rw [Keys.byteOf_nat h]; omega
theorem txt_len (s : ByteArray) (h : s.size ≤ 64) : (Code.txt s.data.toList).length ≤ 130 := by
  unfold Code.txt
  have := Code.esc_len s.data.toList
  rw [size_len] at this
  rw [List.length_append]; show _ + 2 ≤ _; omega
/-- What a boxed state's key holds, in whatever world that keeps it. -/
theorem box_kept (w : World) (st gr : Int) (k p u : ByteArray) : Hid (∀ v, Below (w.heap.size + 1) (w.alloc (.cells #[.int .i64 st, .int .i64 gr, .string k, .string p, .string u] 23)) v →
    v.cell? ⟨w.heap.size, 0, none⟩ = some (.int .i64 st) ∧ v.cell? ⟨w.heap.size, 1, none⟩ = some (.int .i64 gr) ∧ v.cell? ⟨w.heap.size, 2, none⟩ = some (.string k) ∧ v.cell? ⟨w.heap.size, 3, none⟩ = some (.string p) ∧ v.cell? ⟨w.heap.size, 4, none⟩ = some (.string u) ∧
    Below w.heap.size w v) := Lib.hid fun v hb => by
  have h : ∀ i : Nat, v.cell? ⟨w.heap.size, i, none⟩ = _ := fun i => (hb.cell (p := ⟨w.heap.size, i, none⟩) (by simp)).trans (World.cell?_alloc_new _ _ _ _)
  exact ⟨h 0, h 1, h 2, h 3, h 4, (below_alloc w _).trans (hb.mono (by omega))⟩
set_option maxHeartbeats 4000000 in
theorem first_1 (st gr : Int) (k p u : ByteArray) (h0 : 0 ≤ st ∧ st < 64)  (m : Int) (w : World) (_hm : Max w m) :
    Calls Tryd.prog 28 #[keyVal st gr k p u, .int .i64 1] w fun e w' => e = .returned (.string ⟨(Keys.first (skOf st gr k p u) 1).toArray⟩) ∧ Below w.heap.size w w' := by
  obtain ⟨i0, hi, hz0, hz1, hz2⟩ := info_parts info8
  rw [Keys.first1]
  show Calls _ _ _ _ fun e w' => e = .returned (.string ⟨[Keys.byteOf st].toArray⟩) ∧ _
  have hk := box_kept w st gr k p u
  obtain ⟨B, hBB⟩ := named (w.alloc (.cells #[.int .i64 st, .int .i64 gr, .string k, .string p, .string u] 23))
  rw [← hBB.out] at hk
  have HST : Hid (st = ((Keys.byteOf st).toNat : Int)) := Lib.hid (Keys.byteOf_nat h0).symm
  go_enter Tryd.func28, Tryd.ntmps28
  have hcv := buf_text (buf_born (W0 := w) (below_alloc w (.cells #[.int .i64 st, .int .i64 gr, .string k, .string p, .string u] 23)) (by simp) st (Keys.byteOf st) HST.out (w.heap.size + 1) (by simp))
  go_wp2
  go_ret
  exact ⟨rfl, key_block _ _ _⟩
set_option maxHeartbeats 4000000 in
theorem first_2 (st gr : Int) (k p u : ByteArray) (h0 : 0 ≤ st ∧ st < 64) (h1 : 0 ≤ gr ∧ gr < 64) (m : Int) (w : World) (hm : Max w m) :
    Calls Tryd.prog 28 #[keyVal st gr k p u, .int .i64 2] w fun e w' => e = .returned (.string ⟨(Keys.first (skOf st gr k p u) 2).toArray⟩) ∧ Below w.heap.size w w' := by
  obtain ⟨i0, hi, hz0, hz1, hz2⟩ := info_parts info8
  rw [Keys.first2]
  show Calls _ _ _ _ fun e w' => e = .returned (.string ⟨[Keys.byteOf st, Keys.byteOf gr].toArray⟩) ∧ _
  have hk := box_kept w st gr k p u
  obtain ⟨B, hBB⟩ := named (w.alloc (.cells #[.int .i64 st, .int .i64 gr, .string k, .string p, .string u] 23))
  rw [← hBB.out] at hk
  have HST : Hid (st = ((Keys.byteOf st).toNat : Int)) := Lib.hid (Keys.byteOf_nat h0).symm
  have HGR : Hid (gr = ((Keys.byteOf gr).toNat : Int)) := Lib.hid (Keys.byteOf_nat h1).symm
  go_enter Tryd.func28, Tryd.ntmps28
  go_wp2_with (at_builtin; go_loud (refine Lib.wpList_append_byte rfl _ _ 45 rfl (w.heap.size + 1) 5 i0 Tryd.underlying45 hi hz0 hz1 hz2 (.slice (some ⟨w.heap.size + 1, 0, none⟩) 1 1) 1 _ (by rfl) (w.alloc (.cells #[.int .i64 st, .int .i64 gr, .string k, .string p, .string u] 23)) _ gr (buf_born (Below.refl _ _) (by simp) st (Keys.byteOf st) HST.out _ (by simp)) (by simp [Act.eval]) (by omega) ?_))
  rw [row_snoc _ _ _ HGR.out]
  intro v1 w1 hb1
  have hm1 := (hm.alloc _).keep hb1.2.1 (by simp)
  rw [← hBB.out] at hb1
  obtain ⟨_, _, k1, p1, _, hbw1⟩ := hk.out _ hb1.2.1
  have hcv := buf_text hb1
  go_wp2
  go_ret
  exact ⟨rfl, hbw1⟩
set_option maxHeartbeats 4000000 in
theorem first_3 (st gr : Int) (k p u : ByteArray) (h0 : 0 ≤ st ∧ st < 64) (h1 : 0 ≤ gr ∧ gr < 64) (h2 : k.size ≤ 64) (m : Int) (w : World) (hm : Max w m) :
    Calls Tryd.prog 28 #[keyVal st gr k p u, .int .i64 3] w fun e w' => e = .returned (.string ⟨(Keys.first (skOf st gr k p u) 3).toArray⟩) ∧ Below w.heap.size w w' := by
  obtain ⟨i0, hi, hz0, hz1, hz2⟩ := info_parts info8
  rw [Keys.first3]
  show Calls _ _ _ _ fun e w' => e = .returned (.string ⟨(Keys.byteOf st :: Keys.byteOf gr :: Code.txt k.data.toList).toArray⟩) ∧ _
  have hk := box_kept w st gr k p u
  obtain ⟨B, hBB⟩ := named (w.alloc (.cells #[.int .i64 st, .int .i64 gr, .string k, .string p, .string u] 23))
  rw [← hBB.out] at hk
  have HST : Hid (st = ((Keys.byteOf st).toNat : Int)) := Lib.hid (Keys.byteOf_nat h0).symm
  have HGR : Hid (gr = ((Keys.byteOf gr).toNat : Int)) := Lib.hid (Keys.byteOf_nat h1).symm
  have c0 := fun v h => puttext_any k (by omega) m v h
  have l0 := txt_len k h2
  obtain ⟨L0, hL0⟩ := named (Code.txt k.data.toList)
  rw [← hL0.out] at c0 l0 ⊢
  obtain ⟨T0, hT0⟩ := named (⟨L0.toArray⟩ : ByteArray)
  rw [← hT0.out] at c0
  have s0 : T0.size ≤ 130 := by rw [hT0.out]; exact l0
  have d0 : Hid (T0.data.toList = L0) := Lib.hid (by rw [hT0.out])
  have C0 := Lib.hid c0
  clear c0
  go_enter Tryd.func28, Tryd.ntmps28
  go_wp2_with (at_builtin; go_loud (refine Lib.wpList_append_byte rfl _ _ 45 rfl (w.heap.size + 1) 5 i0 Tryd.underlying45 hi hz0 hz1 hz2 (.slice (some ⟨w.heap.size + 1, 0, none⟩) 1 1) 1 _ (by rfl) (w.alloc (.cells #[.int .i64 st, .int .i64 gr, .string k, .string p, .string u] 23)) _ gr (buf_born (Below.refl _ _) (by simp) st (Keys.byteOf st) HST.out _ (by simp)) (by simp [Act.eval]) (by omega) ?_))
  rw [row_snoc _ _ _ HGR.out]
  intro v1 w1 hb1
  have hm1 := (hm.alloc _).keep hb1.2.1 (by simp)
  rw [← hBB.out] at hb1
  obtain ⟨_, _, k1, p1, _, hbw1⟩ := hk.out _ hb1.2.1
  go_wp2_with (first
    | (go_at_call 43; ((with_reducible refine (C0.out _ (by assumption)).mono ?_); rintro e w' ⟨rfl, hb⟩; have hm' := carry hb (by assumption); have hb' := buf_keep (by assumption) hb))
    | (at_builtin; go_loud (refine Lib.wpList_append_text rfl _ _ 45 9 rfl (w.heap.size + 1) 5 i0 Tryd.underlying45 Tryd.underlying9 hi hz0 hz1 hz2 v1 _ _ (by rfl) B (by assumption) T0 (by rfl) (by omega) ?_)))
  intro v2 w2 hb2
  rw [row_text, d0.out] at hb2
  have hm2 := (hm.alloc _).keep (by rw [hBB.out] at hb2; exact hb2.2.1) (by simp)
  obtain ⟨_, _, k2, p2, _, hbw2⟩ := hk.out _ hb2.2.1
  have hcv := buf_text hb2
  go_wp2
  go_ret
  exact ⟨rfl, hbw2⟩
set_option maxHeartbeats 4000000 in
theorem first_4 (st gr : Int) (k p u : ByteArray) (h0 : 0 ≤ st ∧ st < 64) (h1 : 0 ≤ gr ∧ gr < 64) (h2 : k.size ≤ 64) (h3 : p.size ≤ 64) (m : Int) (w : World) (hm : Max w m) :
    Calls Tryd.prog 28 #[keyVal st gr k p u, .int .i64 4] w fun e w' => e = .returned (.string ⟨(Keys.first (skOf st gr k p u) 4).toArray⟩) ∧ Below w.heap.size w w' := by
  obtain ⟨i0, hi, hz0, hz1, hz2⟩ := info_parts info8
  rw [Keys.first4]
  show Calls _ _ _ _ fun e w' => e = .returned (.string ⟨(Keys.byteOf st :: Keys.byteOf gr :: (Code.txt k.data.toList ++ Code.txt p.data.toList)).toArray⟩) ∧ _
  have hk := box_kept w st gr k p u
  obtain ⟨B, hBB⟩ := named (w.alloc (.cells #[.int .i64 st, .int .i64 gr, .string k, .string p, .string u] 23))
  rw [← hBB.out] at hk
  have HST : Hid (st = ((Keys.byteOf st).toNat : Int)) := Lib.hid (Keys.byteOf_nat h0).symm
  have HGR : Hid (gr = ((Keys.byteOf gr).toNat : Int)) := Lib.hid (Keys.byteOf_nat h1).symm
  have c0 := fun v h => puttext_any k (by omega) m v h
  have l0 := txt_len k h2
  obtain ⟨L0, hL0⟩ := named (Code.txt k.data.toList)
  rw [← hL0.out] at c0 l0 ⊢
  obtain ⟨T0, hT0⟩ := named (⟨L0.toArray⟩ : ByteArray)
  rw [← hT0.out] at c0
  have s0 : T0.size ≤ 130 := by rw [hT0.out]; exact l0
  have d0 : Hid (T0.data.toList = L0) := Lib.hid (by rw [hT0.out])
  have C0 := Lib.hid c0
  clear c0
  have c1 := fun v h => puttext_any p (by omega) m v h
  have l1 := txt_len p h3
  obtain ⟨L1, hL1⟩ := named (Code.txt p.data.toList)
  rw [← hL1.out] at c1 l1 ⊢
  obtain ⟨T1, hT1⟩ := named (⟨L1.toArray⟩ : ByteArray)
  rw [← hT1.out] at c1
  have s1 : T1.size ≤ 130 := by rw [hT1.out]; exact l1
  have d1 : Hid (T1.data.toList = L1) := Lib.hid (by rw [hT1.out])
  have C1 := Lib.hid c1
  clear c1
  go_enter Tryd.func28, Tryd.ntmps28
  go_wp2_with (at_builtin; go_loud (refine Lib.wpList_append_byte rfl _ _ 45 rfl (w.heap.size + 1) 5 i0 Tryd.underlying45 hi hz0 hz1 hz2 (.slice (some ⟨w.heap.size + 1, 0, none⟩) 1 1) 1 _ (by rfl) (w.alloc (.cells #[.int .i64 st, .int .i64 gr, .string k, .string p, .string u] 23)) _ gr (buf_born (Below.refl _ _) (by simp) st (Keys.byteOf st) HST.out _ (by simp)) (by simp [Act.eval]) (by omega) ?_))
  rw [row_snoc _ _ _ HGR.out]
  intro v1 w1 hb1
  have hm1 := (hm.alloc _).keep hb1.2.1 (by simp)
  rw [← hBB.out] at hb1
  obtain ⟨_, _, k1, p1, _, hbw1⟩ := hk.out _ hb1.2.1
  go_wp2_with (first
    | (go_at_call 43; ((with_reducible refine (C0.out _ (by assumption)).mono ?_); rintro e w' ⟨rfl, hb⟩; have hm' := carry hb (by assumption); have hb' := buf_keep (by assumption) hb))
    | (at_builtin; go_loud (refine Lib.wpList_append_text rfl _ _ 45 9 rfl (w.heap.size + 1) 5 i0 Tryd.underlying45 Tryd.underlying9 hi hz0 hz1 hz2 v1 _ _ (by rfl) B (by assumption) T0 (by rfl) (by omega) ?_)))
  intro v2 w2 hb2
  rw [row_text, d0.out] at hb2
  have hm2 := (hm.alloc _).keep (by rw [hBB.out] at hb2; exact hb2.2.1) (by simp)
  obtain ⟨_, _, k2, p2, _, hbw2⟩ := hk.out _ hb2.2.1
  go_wp2_with (first
    | (go_at_call 43; ((with_reducible refine (C1.out _ (by assumption)).mono ?_); rintro e w' ⟨rfl, hb⟩; have hm' := carry hb (by assumption); have hb' := buf_keep (by assumption) hb))
    | (at_builtin; go_loud (refine Lib.wpList_append_text rfl _ _ 45 9 rfl (w.heap.size + 1) 5 i0 Tryd.underlying45 Tryd.underlying9 hi hz0 hz1 hz2 v2 _ _ (by rfl) B (by assumption) T1 (by rfl) (by omega) ?_)))
  intro v3 w3 hb3
  rw [row_text, d1.out] at hb3
  obtain ⟨_, _, k3, p3, _, hbw3⟩ := hk.out _ hb3.2.1
  have hcv := buf_text hb3
  go_wp2
  go_ret
  exact ⟨by simp, hbw3⟩
end Go.Proofs.YtpobfheioondaaaDoor
