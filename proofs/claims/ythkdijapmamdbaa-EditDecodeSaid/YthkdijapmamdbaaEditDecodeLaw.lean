/-
  EditDecode: all bytes are read as the edit whose bytes they are, or refused. No condition.
-/
import Derived.Test.YthkdijapmamdbaaEditAwake
import Derived.Test.YthkdijapmamdbaaEditRefDecode
import Derived.Test.YthkdijapmamdbaaEditSameEd
namespace Go.Proofs.Ythkdijapmamdbaa
set_option maxRecDepth 100000
open Go.RowKit
theorem DecD.yes {l : List UInt8} {r : Ending} {w' : World} (h : DecD l r w') (hp : DecP l) : ∃ hg ha, r = .returned (.tuple #[edV (decRaw l) hg ha, .int .i64 0]) ∧ EdAt (decRaw l) hg ha w' := by
  rcases h with h | h
  · exact h.2
  · exact absurd hp h.1
theorem DecD.no {l : List UInt8} {r : Ending} {w' : World} (h : DecD l r w') (hp : ¬ DecP l) : r = .returned (.tuple #[zEV, .int .i64 7]) := by
  rcases h with h | h
  · exact absurd h.1 hp
  · exact h.2
theorem same_zero (w : World) : Calls Try.prog 16 #[zEV, zEV] w fun r w' => r = .returned (.bool true) ∧ Below w.heap.size w w' :=
  sameedit_true (e := ⟨0, 0, 0, [], []⟩) (hg := ⟨none, 0, 0, 0, 0⟩) (ha := ⟨none, 0, 0, 0, 0⟩) (hp := ⟨none, 0, 0, 0, 0⟩) (hq := ⟨none, 0, 0, 0, 0⟩) ⟨Gs.nil w, Ps.nil w⟩ ⟨Gs.nil w, Ps.nil w⟩
set_option maxRecDepth 100000 in
set_option maxHeartbeats 16000000 in
theorem decode_walk (s : ByteArray) (hs : s.size ≤ reachBytes) (w : World) :
    Calls Try.prog 5 #[.string s] w fun r w' => r = .returned (.bool true) ∧ Below w.heap.size w w' := by
  have AW := Lib.hid (fun u => eawake_any u)
  have PC := Lib.hid (fun u => decode_any s hs u)
  have RC := Lib.hid (fun u => rdecode_any s hs u)
  obtain ⟨l, hl⟩ := named s.data.toList
  rw [← hl.out] at PC RC
  replace hl := Lib.hid trivial
  clear hs
  by_cases hy : DecP l
  · obtain ⟨e, he⟩ := named (decRaw l)
    have Y : Hid (∀ r u, DecD l r u → ∃ hg ha, r = .returned (.tuple #[edV e hg ha, .int .i64 0]) ∧ EdAt e hg ha u) := Lib.hid (fun r u h => by rw [he.out]; exact h.yes hy)
    have SE := Lib.hid (fun (hg ha hp hq : Hd) u (h : EdAt e hg ha u) (k : EdAt e hp hq u) => sameedit_true h k)
    replace he := Lib.hid trivial
    replace hy := Lib.hid trivial
    go_enter Try.func5, Try.ntmps5
    go_upto_region 3 with (first
      | (go_at_call 19; ((with_reducible refine (PC.out _).mono ?_); rintro r w1 ⟨hd1, hb1⟩; obtain ⟨hg, ha, rfl, hE1⟩ := Y.out _ _ hd1; have B1 := Lib.hid hb1; have E1 := Lib.hid (hE1.below (below_alloc w1 (edO e hg ha))); have Q1 := Lib.hid (EdB.new e hg ha w1); clear hb1 hd1 hE1))
      | (go_at_call 20; ((with_reducible refine (RC.out _).mono ?_); rintro r w2 ⟨hd2, hb2⟩; obtain ⟨hp, hq, rfl, hE2⟩ := Y.out _ _ hd2; have B2 := Lib.hid (below_of (below_of B1.out (below_alloc w1 (edO e hg ha))) hb2); have E2 := Lib.hid ((E1.out.below hb2).below (below_alloc w2 (edO e hp hq))); have F2 := Lib.hid (hE2.below (below_alloc w2 (edO e hp hq))); have Q2 := Lib.hid ((Q1.out.below hb2).below (below_alloc w2 (edO e hp hq))); clear hb2 hd2 hE2)))
    obtain ⟨u2, hu2⟩ := named (w2.alloc (edO e hp hq))
    have P2 := Lib.hid (EdB.new e hp hq w2)
    have B20 := Lib.hid (below_of B2.out (below_alloc w2 (edO e hp hq)))
    rw [← hu2.out] at E2 F2 Q2 P2 B20
    rw [← hu2.out]
    replace hu2 := Lib.hid trivial
    obtain ⟨c0, c1, c2, c3, c4⟩ := Q2.out.cells
    obtain ⟨d0, d1, d2, d3, d4⟩ := P2.out.cells
    go_wp2_with (first
      | (go_at_call 16; ((with_reducible refine (SE.out _ _ _ _ _ E2.out F2.out).mono ?_); rintro r w3 ⟨rfl, hb3⟩; have B3 := Lib.hid (below_of B20.out hb3); clear hb3))
      | (go_at_call 10; ((with_reducible refine (AW.out _).mono ?_); rintro r w4 ⟨rfl, hb4⟩; have B4 := Lib.hid (below_of B3.out hb4); clear hb4)))
    go_returns
    exact ⟨rfl, B4.out⟩
  · have Y : Hid (∀ r u, DecD l r u → r = .returned (.tuple #[zEV, .int .i64 7])) := Lib.hid (fun r u h => h.no hy)
    have SE := Lib.hid (fun u => same_zero u)
    replace hy := Lib.hid trivial
    go_enter Try.func5, Try.ntmps5
    go_upto_region 3 with (first
      | (go_at_call 19; ((with_reducible refine (PC.out _).mono ?_); rintro r w1 ⟨hd1, hb1⟩; obtain rfl := Y.out _ _ hd1; have B1 := Lib.hid hb1; have Q1 := Lib.hid (heap_alloc_new w1 zE); clear hb1 hd1))
      | (go_at_call 20; ((with_reducible refine (RC.out _).mono ?_); rintro r w2 ⟨hd2, hb2⟩; obtain rfl := Y.out _ _ hd2; have B2 := Lib.hid (below_of (below_of B1.out (below_alloc w1 zE)) hb2); have Q2 := Lib.hid ((Below.heap_alloc w2 zE w1.heap.size (by have := hb2.size; rw [World.size_alloc] at this; omega)).trans ((hb2.block w1.heap.size (by rw [World.size_alloc]; omega)).trans Q1.out)); clear hb2 hd2)))
    obtain ⟨u2, hu2⟩ := named (w2.alloc zE)
    have P2 := Lib.hid (heap_alloc_new w2 zE)
    have B20 := Lib.hid (below_of B2.out (below_alloc w2 zE))
    rw [← hu2.out] at Q2 P2 B20
    rw [← hu2.out]
    replace hu2 := Lib.hid trivial
    obtain ⟨c0, c1, c2, c3, c4⟩ := five_cells Q2.out
    obtain ⟨d0, d1, d2, d3, d4⟩ := five_cells P2.out
    go_wp2_with (first
      | (go_at_call 16; ((with_reducible refine (SE.out _).mono ?_); rintro r w3 ⟨rfl, hb3⟩; have B3 := Lib.hid (below_of B20.out hb3); clear hb3))
      | (go_at_call 10; ((with_reducible refine (AW.out _).mono ?_); rintro r w4 ⟨rfl, hb4⟩; have B4 := Lib.hid (below_of B3.out hb4); clear hb4)))
    go_returns
    exact ⟨rfl, B4.out⟩
--LAW freshetlaw14.EditDecode decode_walk string:s
--BEGIN
namespace EditDecodeProof
open Go.ChangeShapes Go.WideShapes Go.ChangeAt Go.RowKit
open Go.ChangeMaps (open_string shut_string)
theorem own : ownKnob Try.prog.godebug = none := by kernel_rfl
set_option maxRecDepth 100000 in
theorem lifted (os : Os) (started : os.Started) (H : Type) (enc : TypeId × Value → H) :
    ReturnsInHanded {} Try.checked os 5 .any (Rows.editDecodeSpec.pre6 enc Try.prog Try.f5 Rows.editDecodeRow.domain false) (Rows.editDecodeSpec.post enc Try.prog Try.f5 false true false false) := by
  refine returnsInHanded_of_change_sized (C := Try.checked) own started (by kernel_rfl) Try.func5
    (ChangeSpec.witness6 (enc := enc) (C := Try.checked) false ⟨#[], #[.string .empty], []⟩ 8 (by kernel_rfl) (by kernel_rfl) (by kernel_rfl) (by kernel_rfl)) ?_
  intro W base args ds gs before hval0 hW _ hsz _
  have hval : ∀ (j : Nat) t v, Try.f5.params[j]? = some t → args[j]? = some v → Value.okWide Try.prog W .any base t v := hval0
  have hW' := hW
  obtain ⟨p, q, hA0, hV, rfl, hfz, hnd⟩ := hW
  have hA : DataW.TrodAll enc Try.prog W 0 (fun _ => true) true Try.f5.params.toList args.toList ds p := hA0
  rw [Try.params5] at hA hval hsz
  obtain ⟨v0, vs0, d0, ds0, p0, q0, hargs, rfl, rfl, h0, r0⟩ := trodAll_cons hA
  obtain ⟨rfl, rfl, rfl⟩ := trodAll_nil r0
  obtain rfl : args = #[v0] := by cases args; simp_all
  obtain ⟨rfl, rfl⟩ := trodVars_none hV
  obtain ⟨s, rfl, rfl, rfl, m0⟩ := open_string Try.underlying9 (hval 0 9 v0 rfl rfl) h0
  have z0 : s.size ≤ reachBytes := by have := sized_string hsz (j := 0) (t := 9) (bytes := s.data.toList) rfl rfl; simpa using this
  clear hA0 hval0
  simp only [List.append_nil] at hW'
  refine (decode_walk s z0 W).mono fun e W' ⟨he, hg⟩ => ?_
  subst he
  exact ⟨_, rfl, _, _, _, [], [], [], hW', (trodAll_cons_mk (shut_bool Try.underlying4 _) trodAll_mk0), (trodAll_cons_mk (shut_string Try.underlying9 m0) trodAll_mk0), rfl, hg.frame _, fun h => by cases h⟩
theorem holds : Rows.EditDecodeSaid :=
  OpenClaim.holds_of_wide 5 Try.f5 rfl rfl rfl rfl rfl rfl rfl ⟨rfl, rfl, rfl, rfl, rfl⟩ rfl rfl rfl rfl rfl (by kernel_rfl) Try.func5 (by kernel_rfl)
    (of_decide_eq_true (by kernel_rfl)) (by unfold Func.isWrapper; first | (rw [if_pos (by decide +kernel)]; kernel_rfl) | (rw [if_neg (by decide +kernel)]; exact ⟨rfl, rfl⟩))
    (fun os started H enc _ => lifted os started H enc)
end EditDecodeProof
--END
end Go.Proofs.Ythkdijapmamdbaa
