/-
  EditEncode: every edit is written as the document says, or refused with the right error. Condition: at most 300 in each of its lists (the law's own).
-/
import Derived.Test.YtdikpijfpghafaaEditAwake
import Derived.Test.YtdikpijfpghafaaEditRefEncode
import Derived.Test.YtdikpijfpghafaaEditEncErr
namespace Go.Proofs.Ytdikpijfpghafaa
set_option maxRecDepth 100000
open Go.RowKit
/-- Both Encodes answer the same. -/
theorem enc_both {e : Ed} {hg ha : Hd} {w : World} (hE : EdAt e hg ha w) (iE : EdIn e) : ∃ (S : ByteArray) (c : Nat), Hid (∀ u, Below w.heap.size w u → Calls Try.prog 29 #[edV e hg ha] u fun r w' => r = .returned (.tuple #[.string S, .int .i64 (c : Int)]) ∧ Below u.heap.size u w') ∧ Hid (∀ u, Below w.heap.size w u → Calls Try.prog 30 #[edV e hg ha] u fun r w' => r = .returned (.tuple #[.string S, .int .i64 (c : Int)]) ∧ Below u.heap.size u w') := by
  by_cases hL : ListedP e
  · by_cases hl : hg.n ≤ 256 ∧ ha.n ≤ 256
    · exact ⟨_, 0, Lib.hid (fun u hu => encode_main (hE.below hu) iE hL hl.1 hl.2), Lib.hid (fun u hu => rencode_main (hE.below hu) iE hL hl.1 hl.2)⟩
    · exact ⟨_, 3, Lib.hid (fun u hu => enc_long (hE.below hu) hL hl), Lib.hid (fun u hu => renc_long (hE.below hu) hL hl)⟩
  · exact ⟨_, 2, Lib.hid (fun u hu => enc_arg (hE.below hu) hL), Lib.hid (fun u hu => renc_arg (hE.below hu) hL)⟩
set_option maxRecDepth 100000 in
set_option maxHeartbeats 16000000 in
theorem encode_walk (e : Ed) (hg ha : Hd) (w : World) (hE : EdAt e hg ha w) (iE : EdIn e) :
    Calls Try.prog 6 #[edV e hg ha] w fun r w' => r = .returned (.bool true) ∧ Below w.heap.size w w' := by
  have AW := Lib.hid (fun u => eawake_any u)
  have LX := Lib.hid (fun u => long_any e hg ha u)
  obtain ⟨S, c, EN, RN⟩ := enc_both hE iE
  have E0 := Lib.hid (EdB.new e hg ha w)
  have B0 := Lib.hid (below_alloc w (edO e hg ha))
  clear hE iE
  by_cases m1 : hg.n ≤ 300 ∧ ha.n ≤ 300
  rotate_left 1
  · rw [tf_true m1] at LX
    clear m1
    go_enter Try.func6, Try.ntmps6
    go_wp2_with (first
      | (go_at_call 21; ((with_reducible refine (LX.out _).mono ?_); rintro r w1 ⟨rfl, hb1⟩; have B1 := Lib.hid (below_of B0.out hb1); clear hb1))
      | (go_at_call 12; ((with_reducible refine (AW.out _).mono ?_); rintro r w2 ⟨rfl, hb2⟩; have B2 := Lib.hid (below_of B1.out hb2); clear hb2)))
    go_returns
    exact ⟨rfl, B2.out⟩
  rw [tf_false (fun h => h m1)] at LX
  clear m1
  go_enter Try.func6, Try.ntmps6
  go_wp2_with (first
    | (go_at_call 21; ((with_reducible refine (LX.out _).mono ?_); rintro r w1 ⟨rfl, hb1⟩; have B1 := Lib.hid (below_of B0.out hb1); have E1 := Lib.hid (E0.out.below hb1); obtain ⟨c0, c1, c2, c3, c4⟩ := E1.out.cells; clear hb1))
    | (go_at_call 29; ((with_reducible refine (EN.out _ B1.out).mono ?_); rintro r w2 ⟨rfl, hb2⟩; have B2 := Lib.hid (below_of B1.out hb2); have E2 := Lib.hid (E1.out.below (hb2)); obtain ⟨d0, d1, d2, d3, d4⟩ := E2.out.cells; clear hb2))
    | (go_at_call 30; ((with_reducible refine (RN.out _ B2.out).mono ?_); rintro r w3 ⟨rfl, hb3⟩; have B3 := Lib.hid (below_of B2.out hb3); clear hb3))
    | (go_at_call 12; ((with_reducible refine (AW.out _).mono ?_); rintro r w4 ⟨rfl, hb4⟩; have B4 := Lib.hid (below_of B3.out hb4); clear hb4)))
  go_returns
  exact ⟨rfl, B4.out⟩
--LAW freshetlaw14.EditEncode encode_walk edit:e
--BEGIN
namespace EditEncodeProof
open Go.ChangeShapes Go.WideShapes Go.ChangeAt Go.RowKit
open Go.ChangeMaps (open_string shut_string)
theorem own : ownKnob Try.prog.godebug = none := by kernel_rfl
set_option maxRecDepth 100000 in
theorem lifted (os : Os) (started : os.Started) (H : Type) (enc : TypeId × Value → H) :
    ReturnsInHanded {} Try.checked os 6 .any (Rows.editEncodeSpec.pre6 enc Try.prog Try.f6 Rows.editEncodeRow.domain false) (Rows.editEncodeSpec.post enc Try.prog Try.f6 false true false false) := by
  refine returnsInHanded_of_change_sized (C := Try.checked) own started (by kernel_rfl) Try.func6
    (ChangeSpec.witness6 (enc := enc) (C := Try.checked) false ⟨#[], #[.agg #[.int .u64 0, .int .u64 0, .int .u64 0, .slice none 0 0, .slice none 0 0]], []⟩ 8 (by kernel_rfl) (by kernel_rfl) (by kernel_rfl) (by kernel_rfl)) ?_
  intro W base args ds gs before hval0 hW _ hsz _
  have hval : ∀ (j : Nat) t v, Try.f6.params[j]? = some t → args[j]? = some v → Value.okWide Try.prog W .any base t v := hval0
  have hW' := hW
  obtain ⟨p, q, hA0, hV, rfl, hfz, hnd⟩ := hW
  have hA : DataW.TrodAll enc Try.prog W 0 (fun _ => true) true Try.f6.params.toList args.toList ds p := hA0
  rw [Try.params6] at hA hval hsz
  obtain ⟨v0, vs0, d0, ds0, p0, q0, hargs, rfl, rfl, h0, r0⟩ := trodAll_cons hA
  obtain ⟨rfl, rfl, rfl⟩ := trodAll_nil r0
  obtain rfl : args = #[v0] := by cases args; simp_all
  obtain ⟨rfl, rfl⟩ := trodVars_none hV
  have k0 := h0
  obtain ⟨e, hg0, ha0, rfl, ia0, im0⟩ := open_ed (hval 0 36 v0 rfl rfl) h0 hsz (j := 0) rfl rfl
  have lt0 : ∀ x ∈ p0, x.block < W.heap.size := fun x hx => hW'.lt x (by simp only [List.mem_append]; simp [hx])
  clear hA0 hval0
  simp only [List.append_nil] at hW'
  refine (encode_walk e hg0 ha0 W ia0 im0).mono fun e W' ⟨he, hg⟩ => ?_
  subst he
  exact ⟨_, rfl, _, _, _, [], _, [], hW', (trodAll_cons_mk (shut_bool Try.underlying4 _) trodAll_mk0), (trodAll_cons_mk (Below.trod laid_out (by kernel_rfl) (of_decide_eq_true (by kernel_rfl)) k0 hg lt0) trodAll_mk0), rfl, hg.frame _, fun h => by cases h⟩
theorem holds : Rows.EditEncodeSaid :=
  OpenClaim.holds_of_wide 6 Try.f6 rfl rfl rfl rfl rfl rfl rfl ⟨rfl, rfl, rfl, rfl, rfl⟩ rfl rfl rfl rfl rfl (by kernel_rfl) Try.func6 (by kernel_rfl)
    (of_decide_eq_true (by kernel_rfl)) (by unfold Func.isWrapper; first | (rw [if_pos (by decide +kernel)]; kernel_rfl) | (rw [if_neg (by decide +kernel)]; exact ⟨rfl, rfl⟩))
    (fun os started H enc _ => lifted os started H enc)
end EditEncodeProof
--END
end Go.Proofs.Ytdikpijfpghafaa
