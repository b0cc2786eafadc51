/-
  The sum hangs on the last byte, whatever stands ahead (SumLast). No condition.
-/
import Derived.Test.YtkmkombmkaihiaaSumAwake
import Derived.Test.YtkmkombmkaihiaaSumMath2
import Derived.Laws.BytesArg
import Derived.Deep.RegionHeld3
import Derived.Deep.DrawnRows
namespace Go.Proofs.Ytkmkombmkaihiaa
open Go.RowKit
attribute [local go_sem ↓] Go.wp_at_zero Go.wp_at_succ
def withLast (b : ByteArray) (c : UInt8) : ByteArray := ⟨(b.data.toList ++ [c]).toArray⟩
theorem oflast_any (b : ByteArray) (hb : b.size ≤ reachBytes) (c : UInt8) (w : World) :
    Calls Try.prog 11 #[.string (withLast b c)] w fun e w' => e = .returned (.int .u32 ((Crc.more 0#32 (b.data.toList ++ [c])).toNat : Int)) ∧ ∃ x, w' = w.alloc (.cells #[.int .u32 x] 22) := by
  have hz : (withLast b c).size ≤ maxLen := by
    have e : (withLast b c).size = b.size + 1 := by
      show (b.data.toList ++ [c]).toArray.size = _
      rw [List.size_toArray, List.length_append, Array.length_toList]; rfl
    unfold reachBytes at hb; unfold maxLen; omega
  refine (of_any (withLast b c) w hz).mono fun e w' ⟨h, h'⟩ => ⟨?_, _, h'⟩
  rw [h]; rfl
theorem conv_one (c : UInt8) (u : World) (g : Nat) (hg : u.cell? ⟨g, 0, none⟩ = some (.int .u8 (c.toNat : Int))) : (convert 29 9 (.slice (some ⟨g, 0, none⟩) 1 1)).run Try.prog u = .ok (.string ⟨#[c]⟩) u := by
  have := run_convert_bytes_arg (P := Try.prog) u 29 5 Try.underlying29 Try.underlying5 g 0 1 1 [(c.toNat : Int)] rfl (by
    intro i hi
    rcases (show i = 0 by omega) with rfl
    exact hg) 9 Try.underlying9
  rw [this]
  congr 2
  simp [strOfNums]
/-- The new block's one byte, read back as a text: whatever lies ahead of it, and what comes behind it. -/
theorem conv_at0 (w : World) (c : UInt8) : (convert 29 9 (.slice (some ⟨w.heap.size, 0, none⟩) 1 1)).run Try.prog (w.alloc (.cells #[.int .u8 (c.toNat : Int)] 5)).drew = .ok (.string ⟨#[c]⟩) (w.alloc (.cells #[.int .u8 (c.toNat : Int)] 5)).drew :=
  conv_one c _ _ (by rw [World.cell?_drew, World.cell?_alloc_new]; rfl)
theorem conv_at1 (w : World) (c : UInt8) (o : Obj) : (convert 29 9 (.slice (some ⟨w.heap.size, 0, none⟩) 1 1)).run Try.prog ((w.alloc (.cells #[.int .u8 (c.toNat : Int)] 5)).alloc o).drew = .ok (.string ⟨#[c]⟩) ((w.alloc (.cells #[.int .u8 (c.toNat : Int)] 5)).alloc o).drew :=
  conv_one c _ _ (by rw [World.cell?_drew, World.cell?_alloc_lt _ _ _ (by simp), World.cell?_alloc_new]; rfl)
theorem conv_at2 (w : World) (c : UInt8) (o o2 : Obj) : (convert 29 9 (.slice (some ⟨w.heap.size, 0, none⟩) 1 1)).run Try.prog (((w.alloc (.cells #[.int .u8 (c.toNat : Int)] 5)).alloc o).alloc o2).drew = .ok (.string ⟨#[c]⟩) (((w.alloc (.cells #[.int .u8 (c.toNat : Int)] 5)).alloc o).alloc o2).drew :=
  conv_one c _ _ (by rw [World.cell?_drew, World.cell?_alloc_lt _ _ _ (by simp; omega), World.cell?_alloc_lt _ _ _ (by simp), World.cell?_alloc_new]; rfl)
theorem last_append (b : ByteArray) (c : UInt8) : b ++ ⟨#[c]⟩ = withLast b c := by
  apply ByteArray.ext
  unfold withLast
  rw [ByteArray.data_append]
  show b.data ++ #[c] = (b.data.toList ++ [c]).toArray
  apply Array.toList_inj.1
  simp
set_option maxHeartbeats 8000000 in
theorem sumLast_same (b : ByteArray) (hb : b.size ≤ reachBytes) (c : UInt8) (w : World) :
    Calls Try.prog 9 #[.string b, .int .u8 (c.toNat : Int), .int .u8 (c.toNat : Int)] w fun e w' => e = .returned (.bool true) ∧ Below w.heap.size w w' := by
  have hb' := hb
  unfold reachBytes at hb'
  have hc1 := last_append b c
  have hz1 : (ByteArray.mk #[c]).size = 1 := rfl
  have k10 := conv_at0 w c
  have k11 := conv_at1 w c
  have k12 := conv_at2 w c
  have k20 := fun o => conv_at0 (w.alloc o) c
  have k21 := fun o => conv_at1 (w.alloc o) c
  have k30 := fun o o2 => conv_at0 ((w.alloc o).alloc o2) c
  simp only [World.size_alloc] at k20 k21 k30
  go_enter Try.func9, Try.ntmps9
  go_wp2
  go_region_with
    (first
      | (go_at_call 11; ((with_reducible refine (oflast_any b hb c _).mono ?_); rintro e w' ⟨rfl, x1, rfl⟩))
      | (go_at_call 15; refine (awake_any _).mono ?_; rintro e w' ⟨rfl, hg⟩))
  all_goals go_wp2
  all_goals go_ret
  all_goals exact ⟨rfl, below_of (by repeat (first | exact Below.refl _ _ | apply Below.drew | refine Below.alloc ?_ (by simp; try omega) _)) hg⟩
set_option maxHeartbeats 8000000 in
theorem sumLast_other (b : ByteArray) (hb : b.size ≤ reachBytes) (c d : UInt8) (hcd : c ≠ d) (w : World) :
    Calls Try.prog 9 #[.string b, .int .u8 (c.toNat : Int), .int .u8 (d.toNat : Int)] w fun e w' => e = .returned (.bool true) ∧ Below w.heap.size w w' := by
  have hb' := hb
  unfold reachBytes at hb'
  have hc1 := last_append b c
  have hz1 : (ByteArray.mk #[c]).size = 1 := rfl
  have k10 := conv_at0 w c
  have k11 := conv_at1 w c
  have k12 := conv_at2 w c
  have k20 := fun o => conv_at0 (w.alloc o) c
  have k21 := fun o => conv_at1 (w.alloc o) c
  have k30 := fun o o2 => conv_at0 ((w.alloc o).alloc o2) c
  simp only [World.size_alloc] at k20 k21 k30
  have hc2 := last_append b d
  have hz2 : (ByteArray.mk #[d]).size = 1 := rfl
  have l10 := conv_at0 w d
  have l11 := conv_at1 w d
  have l12 := conv_at2 w d
  have l20 := fun o => conv_at0 (w.alloc o) d
  have l21 := fun o => conv_at1 (w.alloc o) d
  have l30 := fun o o2 => conv_at0 ((w.alloc o).alloc o2) d
  simp only [World.size_alloc] at l20 l21 l30
  have e1 : ((c.toNat : Int) == (d.toNat : Int)) = false := by
    rw [beq_eq_false_iff_ne]; intro h; exact hcd (UInt8.toNat_inj.1 (by omega))
  have e2 : (((Crc.more 0#32 (b.data.toList ++ [c])).toNat : Int) == ((Crc.more 0#32 (b.data.toList ++ [d])).toNat : Int)) = false := by
    rw [beq_eq_false_iff_ne]; intro h; exact hcd (Crc.more_last.1 (BitVec.toNat_inj.1 (Int.natCast_inj.1 h)))
  clear hcd
  go_enter Try.func9, Try.ntmps9
  go_wp2
  go_region_with
    (first
      | (go_at_call 11; ((with_reducible refine (oflast_any b hb c _).mono ?_); rintro e w' ⟨rfl, x1, rfl⟩))
      | (go_at_call 11; ((with_reducible refine (oflast_any b hb d _).mono ?_); rintro e w' ⟨rfl, x2, rfl⟩))
      | (go_at_call 15; refine (awake_any _).mono ?_; rintro e w' ⟨rfl, hg⟩))
  all_goals go_wp2
  all_goals go_ret
  all_goals exact ⟨rfl, below_of (by repeat (first | exact Below.refl _ _ | apply Below.drew | refine Below.alloc ?_ (by simp; try omega) _)) hg⟩
theorem sumLast_walk (b : ByteArray) (hb : b.size ≤ reachBytes) (x : Int) (hx : (Lit.int .u8 x).wf = true) (y : Int) (hy : (Lit.int .u8 y).wf = true) (w : World) :
    Calls Try.prog 9 #[.string b, .int .u8 x, .int .u8 y] w fun e w' => e = .returned (.bool true) ∧ Below w.heap.size w w' := by
  obtain ⟨c, rfl⟩ := u8_byte hx
  obtain ⟨d, rfl⟩ := u8_byte hy
  by_cases hcd : c = d
  · subst hcd; exact sumLast_same b hb c w
  · exact sumLast_other b hb c d hcd w
--LAW freshetlaw01.SumLast sumLast_walk string:b uint8:x uint8:y
--BEGIN
namespace SumLastProof
open Go.ChangeShapes Go.WideShapes Go.ChangeAt Go.RowKit
open Go.ChangeMaps (open_string shut_string)
theorem own : ownKnob Try.prog.godebug = none := by kernel_rfl
set_option maxRecDepth 100000 in
theorem lifted (os : Os) (started : os.Started) (H : Type) (enc : TypeId × Value → H) :
    ReturnsInHanded {} Try.checked os 9 .any (Rows.sumLastSpec.pre6 enc Try.prog Try.f9 Rows.sumLastRow.domain false) (Rows.sumLastSpec.post enc Try.prog Try.f9 false true false false) := by
  refine returnsInHanded_of_change_sized (C := Try.checked) own started (by kernel_rfl) Try.func9
    (ChangeSpec.witness6 (enc := enc) (C := Try.checked) false ⟨#[], #[.string .empty, .int .u8 0, .int .u8 0], []⟩ 8 (by kernel_rfl) (by kernel_rfl) (by kernel_rfl) (by kernel_rfl)) ?_
  intro W base args ds gs before hval0 hW _ hsz _
  have hval : ∀ (j : Nat) t v, Try.f9.params[j]? = some t → args[j]? = some v → Value.okWide Try.prog W .any base t v := hval0
  have hW' := hW
  obtain ⟨p, q, hA0, hV, rfl, hfz, hnd⟩ := hW
  have hA : DataW.TrodAll enc Try.prog W 0 (fun _ => true) true Try.f9.params.toList args.toList ds p := hA0
  rw [Try.params9] at hA hval hsz
  obtain ⟨v0, vs0, d0, ds0, p0, q0, hargs, rfl, rfl, h0, r0⟩ := trodAll_cons hA
  obtain ⟨v1, vs1, d1, ds1, p1, q1, rfl, rfl, rfl, h1, r1⟩ := trodAll_cons r0
  obtain ⟨v2, vs2, d2, ds2, p2, q2, rfl, rfl, rfl, h2, r2⟩ := trodAll_cons r1
  obtain ⟨rfl, rfl, rfl⟩ := trodAll_nil r2
  obtain rfl : args = #[v0, v1, v2] := by cases args; simp_all
  obtain ⟨rfl, rfl⟩ := trodVars_none hV
  obtain ⟨b, rfl, rfl, rfl, m0⟩ := open_string Try.underlying9 (hval 0 9 v0 rfl rfl) h0
  obtain ⟨x, rfl, rfl, rfl, m1⟩ := open_int Try.underlying5 (hval 1 5 v1 rfl rfl) h1
  obtain ⟨y, rfl, rfl, rfl, m2⟩ := open_int Try.underlying5 (hval 2 5 v2 rfl rfl) h2
  have z0 : b.size ≤ reachBytes := by have := sized_string hsz (j := 0) (t := 9) (bytes := b.data.toList) rfl rfl; simpa using this
  clear hA0 hval0
  simp only [List.append_nil] at hW'
  refine (sumLast_walk b z0 x m1 y m2 W).mono fun e W' ⟨he, hg⟩ => ?_
  subst he
  exact ⟨_, rfl, _, _, _, [], [], [], hW', (trodAll_cons_mk (shut_bool Try.underlying4 _) trodAll_mk0), (trodAll_cons_mk (shut_string Try.underlying9 m0) (trodAll_cons_mk (shut_int Try.underlying5 m1) (trodAll_cons_mk (shut_int Try.underlying5 m2) trodAll_mk0))), rfl, hg.frame _, fun h => by cases h⟩
theorem holds : Rows.SumLastSaid :=
  OpenClaim.holds_of_wide 9 Try.f9 rfl rfl rfl rfl rfl rfl rfl ⟨rfl, rfl, rfl, rfl, rfl⟩ rfl rfl rfl rfl rfl (by kernel_rfl) Try.func9 (by kernel_rfl)
    (of_decide_eq_true (by kernel_rfl)) (by unfold Func.isWrapper; first | (rw [if_pos (by decide +kernel)]; kernel_rfl) | (rw [if_neg (by decide +kernel)]; exact ⟨rfl, rfl⟩))
    (fun os started H enc _ => lifted os started H enc)
end SumLastProof
--END
end Go.Proofs.Ytkmkombmkaihiaa
