/-
  For every text, cut anywhere: the first part's sum, continued with the second, is the whole's (SumMore). No condition.
-/
import Derived.Test.YtkmkombmkaihiaaSumAwake
import Derived.Deep.RegionHeld3
import Derived.Deep.DrawnRows
import Derived.Outline
namespace Go.Proofs.Ytkmkombmkaihiaa
open Go.RowKit
attribute [local go_sem ↓] Go.wp_at_zero Go.wp_at_succ
theorem sumMore_walk (b : ByteArray) (hb : b.size ≤ reachBytes) (x : Int) (_hx : (Lit.int .i64 x).wf = true) (w : World) :
    Calls Try.prog 5 #[.string b, .int .i64 x] w fun e w' => e = .returned (.bool true) ∧ Below w.heap.size w w' := by
  have hm := reach_max hb
  have hb' := hb
  unfold reachBytes at hb'
  obtain ⟨k, hk, hc⟩ : ∃ k : Nat, k ≤ b.size ∧ (x = (k : Int) ∨ (x < 0 ∧ k = b.size / 2) ∨ ((b.size : Int) < x ∧ 0 ≤ x ∧ k = b.size / 2)) := by
    rcases Int.lt_or_le x 0 with h | h
    · exact ⟨b.size / 2, by omega, Or.inr (Or.inl ⟨h, rfl⟩)⟩
    · rcases Int.lt_or_le b.size x with h' | h'
      · exact ⟨b.size / 2, by omega, Or.inr (Or.inr ⟨h', h, rfl⟩)⟩
      · exact ⟨x.toNat, by omega, Or.inl (by omega)⟩
  have i1 : (0 : Int) ≤ (k : Int) := by omega
  have i2 : (k : Int) ≤ (b.size : Int) := by omega
  obtain ⟨p, hP⟩ := named (Crc.more 0#32 (b.extract 0 k).data.toList)
  obtain ⟨m, hM⟩ := named (Crc.more 0#32 b.data.toList)
  have C0 : ∀ u, Calls Try.prog 11 #[.string (b.extract 0 k)] u fun e w' => e = .returned (.int .u32 (p.toNat : Int)) ∧ ∃ x, w' = u.alloc (.cells #[.int .u32 x] 22) := by
    intro u; rw [hP.out]; exact (of_any _ u (by simp; unfold maxLen; omega)).mono fun e w' ⟨h, h'⟩ => ⟨h, _, h'⟩
  have C1 : ∀ u, Calls Try.prog 11 #[.string b] u fun e w' => e = .returned (.int .u32 (m.toNat : Int)) ∧ ∃ x, w' = u.alloc (.cells #[.int .u32 x] 22) := by
    intro u; rw [hM.out]; exact (of_any _ u hm).mono fun e w' ⟨h, h'⟩ => ⟨h, _, h'⟩
  have C2 : ∀ u, Calls Try.prog 13 #[.int .u32 (p.toNat : Int), .string (b.extract k b.size)] u fun e w' => e = .returned (.int .u32 (m.toNat : Int)) ∧ ∃ x, w' = u.alloc (.cells #[.int .u32 x] 22) := by
    intro u
    have e : m = Crc.more p (b.extract k b.size).data.toList := by
      rw [hM.out, hP.out, Crc.more_append]
      congr 1
      rw [← Array.toList_append, ← ByteArray.data_append, ByteArray.extract_append_extract]
      simp [Nat.max_eq_right hk]
    rw [e]; exact (more_any _ _ u (by simp; unfold maxLen; omega)).mono fun e w' ⟨h, h'⟩ => ⟨h, _, h'⟩
  have D0 := Lib.hid C0
  have D1 := Lib.hid C1
  have D2 := Lib.hid C2
  clear C0 C1 C2
  rcases hc with rfl | ⟨h0, hk2⟩ | ⟨h0, h1, hk2⟩
  · clear _hx
    go_enter Try.func5, Try.ntmps5
    go_wp2
    go_region_held3 (fun _ => True) (trivial)
      (first
        | (go_at_call 11; ((with_reducible refine (D0.out _).mono ?_); rintro e w' ⟨rfl, x0, rfl⟩))
        | (go_at_call 11; ((with_reducible refine (D1.out _).mono ?_); rintro e w' ⟨rfl, x1, rfl⟩))
        | (go_at_call 13; ((with_reducible refine (D2.out _).mono ?_); rintro e w' ⟨rfl, x2, rfl⟩))
        | (go_at_call 15; refine (awake_any _).mono ?_; rintro e w' ⟨rfl, hg⟩))
    all_goals go_wp2
    all_goals go_ret
    all_goals exact ⟨rfl, below_of (below_of (below_of (below_alloc _ _) (below_alloc _ _)) (below_alloc _ _)).drew hg⟩
  all_goals
    have e2 : (b.size : Int) / 2 = (k : Int) := by omega
    clear hk2 _hx
    go_enter Try.func5, Try.ntmps5
    go_wp2
    go_region_held3 (fun _ => True) (trivial)
      (first
        | (go_at_call 11; ((with_reducible refine (D0.out _).mono ?_); rintro e w' ⟨rfl, x0, rfl⟩))
        | (go_at_call 11; ((with_reducible refine (D1.out _).mono ?_); rintro e w' ⟨rfl, x1, rfl⟩))
        | (go_at_call 13; ((with_reducible refine (D2.out _).mono ?_); rintro e w' ⟨rfl, x2, rfl⟩))
        | (go_at_call 15; refine (awake_any _).mono ?_; rintro e w' ⟨rfl, hg⟩))
    all_goals go_wp2
    all_goals go_ret
    all_goals exact ⟨rfl, below_of (below_of (below_of (below_alloc _ _) (below_alloc _ _)) (below_alloc _ _)).drew hg⟩
--LAW freshetlaw01.SumMore sumMore_walk string:b int:x
--BEGIN
namespace SumMoreProof
open Go.ChangeShapes Go.WideShapes Go.ChangeAt Go.RowKit
open Go.ChangeMaps (open_string shut_string)
theorem own : ownKnob Try.prog.godebug = none := by kernel_rfl
set_option maxRecDepth 100000 in
theorem lifted (os : Os) (started : os.Started) (H : Type) (enc : TypeId × Value → H) :
    ReturnsInHanded {} Try.checked os 5 .any (Rows.sumMoreSpec.pre6 enc Try.prog Try.f5 Rows.sumMoreRow.domain false) (Rows.sumMoreSpec.post enc Try.prog Try.f5 false true false false) := by
  refine returnsInHanded_of_change_sized (C := Try.checked) own started (by kernel_rfl) Try.func5
    (ChangeSpec.witness6 (enc := enc) (C := Try.checked) false ⟨#[], #[.string .empty, .int .i64 0], []⟩ 8 (by kernel_rfl) (by kernel_rfl) (by kernel_rfl) (by kernel_rfl)) ?_
  intro W base args ds gs before hval0 hW _ hsz _
  have hval : ∀ (j : Nat) t v, Try.f5.params[j]? = some t → args[j]? = some v → Value.okWide Try.prog W .any base t v := hval0
  have hW' := hW
  obtain ⟨p, q, hA0, hV, rfl, hfz, hnd⟩ := hW
  have hA : DataW.TrodAll enc Try.prog W 0 (fun _ => true) true Try.f5.params.toList args.toList ds p := hA0
  rw [Try.params5] at hA hval hsz
  obtain ⟨v0, vs0, d0, ds0, p0, q0, hargs, rfl, rfl, h0, r0⟩ := trodAll_cons hA
  obtain ⟨v1, vs1, d1, ds1, p1, q1, rfl, rfl, rfl, h1, r1⟩ := trodAll_cons r0
  obtain ⟨rfl, rfl, rfl⟩ := trodAll_nil r1
  obtain rfl : args = #[v0, v1] := by cases args; simp_all
  obtain ⟨rfl, rfl⟩ := trodVars_none hV
  obtain ⟨b, rfl, rfl, rfl, m0⟩ := open_string Try.underlying9 (hval 0 9 v0 rfl rfl) h0
  obtain ⟨x, rfl, rfl, rfl, m1⟩ := open_int Try.underlying3 (hval 1 3 v1 rfl rfl) h1
  have z0 : b.size ≤ reachBytes := by have := sized_string hsz (j := 0) (t := 9) (bytes := b.data.toList) rfl rfl; simpa using this
  clear hA0 hval0
  simp only [List.append_nil] at hW'
  refine (sumMore_walk b z0 x m1 W).mono fun e W' ⟨he, hg⟩ => ?_
  subst he
  exact ⟨_, rfl, _, _, _, [], [], [], hW', (trodAll_cons_mk (shut_bool Try.underlying4 _) trodAll_mk0), (trodAll_cons_mk (shut_string Try.underlying9 m0) (trodAll_cons_mk (shut_int Try.underlying3 m1) trodAll_mk0)), rfl, hg.frame _, fun h => by cases h⟩
theorem holds : Rows.SumMoreSaid :=
  OpenClaim.holds_of_wide 5 Try.f5 rfl rfl rfl rfl rfl rfl rfl ⟨rfl, rfl, rfl, rfl, rfl⟩ rfl rfl rfl rfl rfl (by kernel_rfl) Try.func5 (by kernel_rfl)
    (of_decide_eq_true (by kernel_rfl)) (by unfold Func.isWrapper; first | (rw [if_pos (by decide +kernel)]; kernel_rfl) | (rw [if_neg (by decide +kernel)]; exact ⟨rfl, rfl⟩))
    (fun os started H enc _ => lifted os started H enc)
end SumMoreProof
--END
end Go.Proofs.Ytkmkombmkaihiaa
