/-
  The law's own answer that the document fixes: true. No condition.
-/
import Derived.Test.YtcgpcpplbmebgaaSkipZoo
namespace Go.Proofs.Ytcgpcpplbmebgaa
open Go.RowKit
attribute [local go_sem] eq_node ne_node eq_list
def aw1 : Rw := ⟨⟨#[97]⟩, 1, 0, ⟨#[]⟩⟩
def aw2 : Rw := ⟨⟨#[97]⟩, 2, 0, ⟨#[]⟩⟩
def aw3 : Rw := ⟨⟨#[98]⟩, 1, 0, ⟨#[]⟩⟩
theorem ahd_data (x : Rw) (k : ByteArray) (q : Nat) : ahd x k q = if x.key.data.toList = k.data.toList then decide (q < x.seq) else bytesBefore x.key.data.toList k.data.toList := by
  unfold ahd; rw [ByteArray.toList_eq, ByteArray.toList_eq]
theorem aw_put1 : thrL [] aw1.key aw1.seq = false ∧ putL [] aw1 (hgtOf 1) = [(aw1, 1)] := by
  refine ⟨rfl, rfl⟩
theorem aw_a12 : ahd aw1 aw2.key aw2.seq = false := by rw [ahd_data]; decide
theorem aw_a21 : ahd aw2 aw1.key aw1.seq = true := by rw [ahd_data]; decide
theorem aw_a13 : ahd aw1 aw3.key aw3.seq = true := by rw [ahd_data]; decide
theorem aw_a23 : ahd aw2 aw3.key aw3.seq = true := by rw [ahd_data]; decide
theorem aw_b1 : ahd aw1 ⟨#[97]⟩ 0 = true := by rw [ahd_data]; decide
theorem aw_b2 : ahd aw2 ⟨#[97]⟩ 0 = true := by rw [ahd_data]; decide
theorem aw_b3 : ahd aw3 ⟨#[97]⟩ 0 = false := by rw [ahd_data]; decide
theorem aw_a33 : ahd aw3 ⟨#[98]⟩ 1 = false := by rw [ahd_data]; decide
theorem aw_put2 : thrL [(aw1, 1)] aw2.key aw2.seq = false ∧ putL [(aw1, 1)] aw2 (hgtOf 3) = [(aw2, 3), (aw1, 1)] := by
  have e : plc [aw1] aw2.key aw2.seq = 0 := by unfold plc; rw [List.takeWhile_cons, aw_a12]; rfl
  have t : thrL [(aw1, 1)] aw2.key aw2.seq = false := by
    unfold thrL thr rowsL
    simp only [List.map_cons, List.map_nil, e]
    show (decide (aw1.key.toList = aw2.key.toList) && decide (aw1.seq = aw2.seq)) = false
    rw [show decide (aw1.seq = aw2.seq) = false by decide, Bool.and_false]
  refine ⟨t, ?_⟩
  unfold putL
  rw [t]
  unfold insL plL rowsL
  simp only [List.map_cons, List.map_nil, e]
  rfl
theorem aw_put3 : thrL [(aw2, 3), (aw1, 1)] aw3.key aw3.seq = false ∧ putL [(aw2, 3), (aw1, 1)] aw3 (hgtOf 2) = [(aw2, 3), (aw1, 1), (aw3, 2)] := by
  have e : plc [aw2, aw1] aw3.key aw3.seq = 2 := by unfold plc; rw [List.takeWhile_cons, aw_a23]; simp only [if_true]; rw [List.takeWhile_cons, aw_a13]; rfl
  have t : thrL [(aw2, 3), (aw1, 1)] aw3.key aw3.seq = false := by
    unfold thrL thr rowsL
    simp only [List.map_cons, List.map_nil, e]
    rfl
  refine ⟨t, ?_⟩
  unfold putL
  rw [t]
  unfold insL plL rowsL
  simp only [List.map_cons, List.map_nil, e]
  rfl
theorem aw_seek : seekR ((rowsL [(aw2, 3), (aw1, 1), (aw3, 2)]).drop (plL [(aw2, 3), (aw1, 1), (aw3, 2)] ⟨#[97]⟩ 0)) = .tuple #[rowV aw3, .bool true] := by
  have e : plc [aw2, aw1, aw3] ⟨#[97]⟩ 0 = 2 := by unfold plc; rw [List.takeWhile_cons, aw_b2]; simp only [if_true]; rw [List.takeWhile_cons, aw_b1]; simp only [if_true]; rw [List.takeWhile_cons, aw_b3]; rfl
  unfold plL rowsL
  simp only [List.map_cons, List.map_nil, e]
  rfl
theorem aw_steps : stepsL [(aw2, 3), (aw1, 1), (aw3, 2)] ⟨#[98]⟩ 1 = 2 := by
  have e : plc [aw2, aw1, aw3] ⟨#[98]⟩ 1 = 2 := by unfold plc; rw [List.takeWhile_cons, show ahd aw2 ⟨#[98]⟩ 1 = true from aw_a23]; simp only [if_true]; rw [List.takeWhile_cons, show ahd aw1 ⟨#[98]⟩ 1 = true from aw_a13]; simp only [if_true]; rw [List.takeWhile_cons, aw_a33]; rfl
  unfold stepsL plL rowsL hgtsL
  simp only [List.map_cons, List.map_nil, e]
  decide
set_option maxRecDepth 100000 in
set_option maxHeartbeats 4000000 in
theorem awake_any (w : World) : Calls Try.prog 9 #[] w fun e w' => e = .returned (.bool true) ∧ Below w.heap.size w w' := by
  have Z0 := Lib.hid ((Zoo.nil w.heap.size w).new (Nat.le_refl _))
  have B0 := Lib.hid (below_alloc w (.cells #[.pointer none, .pointer none, .pointer none, .pointer none, .pointer none, .pointer none, .pointer none, .pointer none, .pointer none, .pointer none, .pointer none, .pointer none, .int .i64 0, .int .i64 0] 29))
  have P1 := Lib.hid (Zoo.put Z0.out (i := 0) B0.out.size rfl (by simp) aw1 (by decide) (by decide) (by decide) 1)
  rw [aw_put1.1, aw_put1.2] at P1
  clear Z0
  go_enter Try.func9, Try.ntmps9
  go_wp2_with fail
  refine P1.out.mono ?_
  rintro e w1 ⟨rfl, Z1, b1⟩
  have B1 := Lib.hid (B0.out.trans b1)
  have P2 := Lib.hid (Zoo.put Z1 (i := 0) B1.out.size rfl (by simp) aw2 (by decide) (by decide) (by decide) 3)
  rw [aw_put2.1, aw_put2.2] at P2
  clear B0 P1 b1 Z1
  go_wp2_with fail
  refine P2.out.mono ?_
  rintro e w2 ⟨rfl, Z2, b2⟩
  have B2 := Lib.hid (B1.out.trans b2)
  have P3 := Lib.hid (Zoo.put Z2 (i := 0) B2.out.size rfl (by simp) aw3 (by decide) (by decide) (by decide) 2)
  rw [aw_put3.1, aw_put3.2] at P3
  clear B1 P2 b2 Z2
  go_wp2_with fail
  refine P3.out.mono ?_
  rintro e w3 ⟨rfl, Z3, b3⟩
  have B3 := Lib.hid (B2.out.trans b3)
  have L3 := Lib.hid (Z3.ls (i := 0) rfl)
  have S3 := Lib.hid (seek_l L3.out (by simp) ⟨#[97]⟩ 0)
  rw [aw_seek, show rowV aw3 = .agg #[.string ⟨#[98]⟩, .int .u64 1, .int .i64 0, .string ⟨#[]⟩] from rfl] at S3
  clear B2 P3 b3 Z3
  go_wp2_with fail
  refine S3.out.mono ?_
  rintro e w4 ⟨rfl, b4⟩
  have B4 := below_of B3.out b4
  have L5 := (L3.out.grow b4).grow (below_alloc w4 (.cells #[.string ⟨#[98]⟩, .int .u64 1, .int .i64 0, .string ⟨#[]⟩] 36))
  have B5 := Lib.hid (below_of B4 (below_alloc w4 (.cells #[.string ⟨#[98]⟩, .int .u64 1, .int .i64 0, .string ⟨#[]⟩] 36)))
  have c0 : (w4.alloc (.cells #[.string ⟨#[98]⟩, .int .u64 1, .int .i64 0, .string ⟨#[]⟩] 36)).cell? ⟨w4.heap.size, 0, none⟩ = some (.string ⟨#[98]⟩) := by simp
  have CL := Lib.hid (len_l L5)
  have CH := Lib.hid (height_l L5)
  have CS := Lib.hid (steps_l L5 (by simp) ⟨#[98]⟩ 1)
  rw [aw_steps] at CS
  rw [show topH (hgtsL [(aw2, 3), (aw1, 1), (aw3, 2)]) = 3 by decide] at CH
  rw [show ([(aw2, 3), (aw1, 1), (aw3, 2)] : SL).length = 3 from rfl] at CL
  have q0 : ((⟨#[98]⟩ : ByteArray).toList == (⟨#[98]⟩ : ByteArray).toList) = true := by simp
  clear S3 L3 B3 b4 B4 L5
  go_wp2_with (first | (go_at_call 18; ((with_reducible refine CL.out.mono ?_); rintro e w5 ⟨rfl, rfl⟩)) | (go_at_call 19; ((with_reducible refine CH.out.mono ?_); rintro e w5 ⟨rfl, rfl⟩)) | (go_at_call 16; ((refine CS.out.mono ?_); rintro e w6 ⟨rfl, hb6⟩)) | fail "no arm")

  go_returns
  exact ⟨rfl, below_of B5.out hb6⟩
end Go.Proofs.Ytcgpcpplbmebgaa
