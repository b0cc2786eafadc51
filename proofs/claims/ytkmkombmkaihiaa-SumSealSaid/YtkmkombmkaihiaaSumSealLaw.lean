/-
  All bytes that have their own sum behind them have one and the same sum (SumSeal). No condition.
-/
import Derived.Test.YtkmkombmkaihiaaSumAwake
import Derived.Test.YtkmkombmkaihiaaSumMath2
import Derived.Laws.BytesArg
namespace Go.Proofs.Ytkmkombmkaihiaa
open Go.RowKit
/-- A text with its own sum behind it, the lowest byte first. -/
def sealText (b : ByteArray) : ByteArray := ⟨(b.data.toList ++ Crc.four (Crc.more 0#32 b.data.toList)).toArray⟩
def sealSum : BitVec 32 := Crc.inv (Crc.steps 32 (BitVec.allOnes 32))
theorem low_nat (m : BitVec 32) (i : Nat) : Crc.low m i = UInt8.ofNat (m.toNat / 2 ^ (8 * i)) := by
  apply UInt8.toNat_inj.1
  unfold Crc.low
  rw [UInt8.toNat_ofNat']
  show ((m >>> (8 * i)).setWidth 8).toNat = _
  rw [BitVec.toNat_setWidth, BitVec.toNat_ushiftRight, Nat.shiftRight_eq_div_pow]
theorem four_nums (m : BitVec 32) : strOfNums [(m.toNat : Int) % 256, (m.toNat : Int) / 256 % 256, (m.toNat : Int) / 65536 % 256, (m.toNat : Int) / 16777216] = ⟨(Crc.four m).toArray⟩ := by
  have h := m.isLt
  have e : ∀ x y : Nat, x % 256 = y % 256 → UInt8.ofNat x = UInt8.ofNat y := fun x y h => by
    apply UInt8.toNat_inj.1; rw [UInt8.toNat_ofNat', UInt8.toNat_ofNat']; exact h
  unfold strOfNums Crc.four
  simp only [List.map_cons, List.map_nil, low_nat]
  rw [e ((m.toNat : Int) % 256).toNat (m.toNat / 2 ^ (8 * 0)) (by simp; omega), e ((m.toNat : Int) / 256 % 256).toNat (m.toNat / 2 ^ (8 * 1)) (by simp; omega),
    e ((m.toNat : Int) / 65536 % 256).toNat (m.toNat / 2 ^ (8 * 2)) (by simp; omega), e ((m.toNat : Int) / 16777216).toNat (m.toNat / 2 ^ (8 * 3)) (by simp; omega)]
theorem seal_append (b : ByteArray) : b ++ ⟨(Crc.four (Crc.more 0#32 b.data.toList)).toArray⟩ = sealText b := by
  apply ByteArray.ext
  unfold sealText
  rw [ByteArray.data_append]
  simp
theorem sealed_any (b : ByteArray) (hb : b.size ≤ reachBytes) (w : World) :
    Calls Try.prog 18 #[.string b] w fun e w' => e = .returned (.string (sealText b)) ∧ Below w.heap.size w w' := by
  have hm := reach_max hb
  unfold reachBytes at hb
  have hseal := seal_append b
  obtain ⟨m, hM⟩ := named (Crc.more 0#32 b.data.toList)
  have C1 : ∀ u, Calls Try.prog 11 #[.string b] u fun e w' => e = .returned (.int .u32 (m.toNat : Int)) ∧ ∃ x, w' = u.alloc (.cells #[.int .u32 x] 22) := by
    intro u; rw [hM.out]; exact (of_any _ u hm).mono fun e w' ⟨h, h'⟩ => ⟨h, _, h'⟩
  have D1 := Lib.hid C1
  clear C1
  rw [← hM.out] at hseal
  have HS := Lib.hid hseal
  clear hseal
  have hconv : ∀ x c0 c1 c2 c3 : Int, (convert 29 9 (.slice (some ⟨w.heap.size + 1, 0, none⟩) 4 4)).run Try.prog ((w.alloc (.cells #[.int .u32 x] 22)).alloc (.cells #[.int .u8 c0, .int .u8 c1, .int .u8 c2, .int .u8 c3] 5)) =
      .ok (.string (strOfNums [c0, c1, c2, c3])) ((w.alloc (.cells #[.int .u32 x] 22)).alloc (.cells #[.int .u8 c0, .int .u8 c1, .int .u8 c2, .int .u8 c3] 5)) := by
    intro x c0 c1 c2 c3
    refine run_convert_bytes_arg _ 29 5 Try.underlying29 Try.underlying5 _ 0 4 4 [c0, c1, c2, c3] rfl ?_ 9 Try.underlying9
    intro i hi
    have hz : (w.alloc (.cells #[.int .u32 x] 22)).heap.size = w.heap.size + 1 := by simp
    rw [← hz, Nat.zero_add, World.cell?_alloc_new]
    rcases (show i = 0 ∨ i = 1 ∨ i = 2 ∨ i = 3 by omega) with rfl | rfl | rfl | rfl <;> rfl
  have hfour := four_nums m
  have hfs : (ByteArray.mk (Crc.four m).toArray).size = 4 := rfl
  go_enter Try.func18, Try.ntmps18
  go_wp2_with (first
      | (go_at_call 11; ((with_reducible refine (D1.out _).mono ?_); rintro e w' ⟨rfl, x1, rfl⟩)))
  go_ret
  refine ⟨?_, below_of (below_alloc _ _) (below_alloc _ _)⟩
  rw [← HS.out]; rfl
theorem ofseal_any (b : ByteArray) (hb : b.size ≤ reachBytes) (w : World) :
    Calls Try.prog 11 #[.string (sealText b)] w fun e w' => e = .returned (.int .u32 (sealSum.toNat : Int)) ∧ Below w.heap.size w w' := by
  have hz : (sealText b).size ≤ maxLen := by
    have e : (sealText b).size = b.size + 4 := by
      show (b.data.toList ++ Crc.four (Crc.more 0#32 b.data.toList)).toArray.size = _
      rw [List.size_toArray, List.length_append, Array.length_toList]; rfl
    unfold reachBytes at hb; unfold maxLen; omega
  refine (of_any (sealText b) w hz).mono fun e w' ⟨h, h'⟩ => ⟨?_, by rw [h']; exact below_alloc _ _⟩
  have : (sealText b).data.toList = b.data.toList ++ Crc.four (Crc.more 0#32 b.data.toList) := rfl
  rw [h, this, Crc.more_sealed]; rfl
theorem sumSeal_walk (a : ByteArray) (ha : a.size ≤ reachBytes) (b : ByteArray) (hb : b.size ≤ reachBytes) (w : World) :
    Calls Try.prog 8 #[.string a, .string b] w fun e w' => e = .returned (.bool true) ∧ Below w.heap.size w w' := by
  go_enter Try.func8, Try.ntmps8
  go_wp2_with (first
      | (go_at_call 18; ((with_reducible refine (sealed_any a ha _).mono ?_); rintro e w' ⟨rfl, h1⟩))
      | (go_at_call 18; ((with_reducible refine (sealed_any b hb _).mono ?_); rintro e w' ⟨rfl, h3⟩))
      | (go_at_call 11; ((with_reducible refine (ofseal_any a ha _).mono ?_); rintro e w' ⟨rfl, h2⟩))
      | (go_at_call 11; ((with_reducible refine (ofseal_any b hb _).mono ?_); rintro e w' ⟨rfl, h4⟩))
      | (go_at_call 15; refine (awake_any _).mono ?_; rintro e w' ⟨rfl, h5⟩))
  go_ret
  exact ⟨rfl, below_of (below_of (below_of (below_of h1 h2) h3) h4) h5⟩
--LAW freshetlaw01.SumSeal sumSeal_walk string:a string:b
--BEGIN
namespace SumSealProof
open Go.ChangeShapes Go.WideShapes Go.ChangeAt Go.RowKit
open Go.ChangeMaps (open_string shut_string)
theorem own : ownKnob Try.prog.godebug = none := by kernel_rfl
set_option maxRecDepth 100000 in
theorem lifted (os : Os) (started : os.Started) (H : Type) (enc : TypeId × Value → H) :
    ReturnsInHanded {} Try.checked os 8 .any (Rows.sumSealSpec.pre6 enc Try.prog Try.f8 Rows.sumSealRow.domain false) (Rows.sumSealSpec.post enc Try.prog Try.f8 false true false false) := by
  refine returnsInHanded_of_change_sized (C := Try.checked) own started (by kernel_rfl) Try.func8
    (ChangeSpec.witness6 (enc := enc) (C := Try.checked) false ⟨#[], #[.string .empty, .string .empty], []⟩ 8 (by kernel_rfl) (by kernel_rfl) (by kernel_rfl) (by kernel_rfl)) ?_
  intro W base args ds gs before hval0 hW _ hsz _
  have hval : ∀ (j : Nat) t v, Try.f8.params[j]? = some t → args[j]? = some v → Value.okWide Try.prog W .any base t v := hval0
  have hW' := hW
  obtain ⟨p, q, hA0, hV, rfl, hfz, hnd⟩ := hW
  have hA : DataW.TrodAll enc Try.prog W 0 (fun _ => true) true Try.f8.params.toList args.toList ds p := hA0
  rw [Try.params8] at hA hval hsz
  obtain ⟨v0, vs0, d0, ds0, p0, q0, hargs, rfl, rfl, h0, r0⟩ := trodAll_cons hA
  obtain ⟨v1, vs1, d1, ds1, p1, q1, rfl, rfl, rfl, h1, r1⟩ := trodAll_cons r0
  obtain ⟨rfl, rfl, rfl⟩ := trodAll_nil r1
  obtain rfl : args = #[v0, v1] := by cases args; simp_all
  obtain ⟨rfl, rfl⟩ := trodVars_none hV
  obtain ⟨a, rfl, rfl, rfl, m0⟩ := open_string Try.underlying9 (hval 0 9 v0 rfl rfl) h0
  obtain ⟨b, rfl, rfl, rfl, m1⟩ := open_string Try.underlying9 (hval 1 9 v1 rfl rfl) h1
  have z0 : a.size ≤ reachBytes := by have := sized_string hsz (j := 0) (t := 9) (bytes := a.data.toList) rfl rfl; simpa using this
  have z1 : b.size ≤ reachBytes := by have := sized_string hsz (j := 1) (t := 9) (bytes := b.data.toList) rfl rfl; simpa using this
  clear hA0 hval0
  simp only [List.append_nil] at hW'
  refine (sumSeal_walk a z0 b z1 W).mono fun e W' ⟨he, hg⟩ => ?_
  subst he
  exact ⟨_, rfl, _, _, _, [], [], [], hW', (trodAll_cons_mk (shut_bool Try.underlying4 _) trodAll_mk0), (trodAll_cons_mk (shut_string Try.underlying9 m0) (trodAll_cons_mk (shut_string Try.underlying9 m1) trodAll_mk0)), rfl, hg.frame _, fun h => by cases h⟩
theorem holds : Rows.SumSealSaid :=
  OpenClaim.holds_of_wide 8 Try.f8 rfl rfl rfl rfl rfl rfl rfl ⟨rfl, rfl, rfl, rfl, rfl⟩ rfl rfl rfl rfl rfl (by kernel_rfl) Try.func8 (by kernel_rfl)
    (of_decide_eq_true (by kernel_rfl)) (by unfold Func.isWrapper; first | (rw [if_pos (by decide +kernel)]; kernel_rfl) | (rw [if_neg (by decide +kernel)]; exact ⟨rfl, rfl⟩))
    (fun os started H enc _ => lifted os started H enc)
end SumSealProof
--END
end Go.Proofs.Ytkmkombmkaihiaa
