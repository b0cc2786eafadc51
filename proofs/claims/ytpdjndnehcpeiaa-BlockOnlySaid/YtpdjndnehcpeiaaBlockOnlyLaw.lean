/-
  BlockOnly: bytes that are read are what is built of the rows that they tell, by the number that stands in the last four. No condition.
-/
import Derived.Test.YtpdjndnehcpeiaaBlockAwake
import Derived.Test.YtpdjndnehcpeiaaLaidOut
namespace Go.Proofs.Ytpdjndnehcpeiaa
set_option maxRecDepth 100000
open Go.RowKit
theorem buildB_isB {L : List UInt8} {l : List Rw} {d : Nat} (h : IsB L l d) : buildB l (d : Int) = (L, 0) := by
  obtain ⟨h1, h2, h3⟩ := h
  unfold buildB
  rw [if_neg (by simpa using h1), show ((d : Int)).toNat = d from rfl, ← h2, if_neg (by omega)]
theorem isB_end {L : List UInt8} {l : List Rw} {d : Nat} (h : IsB L l d) {n : Nat} (hn : L.length = n) : L[n - 4]? = some (UInt8.ofNat d) ∧ L[n - 3]? = some 0 ∧ L[n - 2]? = some 0 ∧ L[n - 1]? = some 0 := by
  obtain ⟨h1, h2, h3⟩ := h
  obtain ⟨k1, k2, _⟩ := chkA_ok h1
  obtain ⟨Y, hY⟩ : ∃ Y, L = Y ++ le4 d := ⟨bodB d l l.length ++ (rstB d l l.length ++ le4 ((rstB d l l.length).length / 4)), by rw [h2]; unfold blkB tailB; simp⟩
  have hl : n = Y.length + 4 := by rw [← hn, hY, List.length_append, le4_len]
  have z1 : UInt8.ofNat (d / 256) = 0 := by rw [show d / 256 = 0 by omega]; rfl
  have z2 : UInt8.ofNat (d / 65536) = 0 := by rw [show d / 65536 = 0 by omega]; rfl
  have z3 : UInt8.ofNat (d / 16777216) = 0 := by rw [show d / 16777216 = 0 by omega]; rfl
  have e : le4 d = [UInt8.ofNat d, 0, 0, 0] := by unfold le4; rw [z1, z2, z3]
  rw [hY, e, hl]
  refine ⟨?_, ?_, ?_, ?_⟩
  · rw [List.getElem?_append_right (by omega), show Y.length + 4 - 4 - Y.length = 0 by omega]; rfl
  · rw [List.getElem?_append_right (by omega), show Y.length + 4 - 3 - Y.length = 1 by omega]; rfl
  · rw [List.getElem?_append_right (by omega), show Y.length + 4 - 2 - Y.length = 2 by omega]; rfl
  · rw [List.getElem?_append_right (by omega), show Y.length + 4 - 1 - Y.length = 3 by omega]; rfl
set_option maxRecDepth 100000 in
set_option maxHeartbeats 8000000 in
theorem only_walk (s : ByteArray) (hs : s.size ≤ reachBytes) (w : World) : Calls Try.prog 7 #[.string s] w fun e w' => e = .returned (.bool true) ∧ Below w.heap.size w w' := by
  obtain ⟨L, rfl⟩ : ∃ L : List UInt8, s = ⟨L.toArray⟩ := ⟨s.toList, (ofL s).symm⟩
  rw [ofList_size] at hs
  unfold reachBytes at hs
  have AW := Lib.hid (fun u => awake_any u)
  by_cases hbig : 4096 < L.length
  · have g1 : (4096 : Int) < (L.length : Int) := by omega
    go_enter Try.func7, Try.ntmps7
    go_wp2_with (go_at_call 10; ((with_reducible refine (AW.out _).mono ?_); rintro e w1 ⟨rfl, hb1⟩))
    go_returns
    exact ⟨rfl, hb1⟩
  have g1 : ¬ (4096 : Int) < (L.length : Int) := by omega
  have RW := Lib.hid (rows_any L (by omega) w)
  go_enter Try.func7, Try.ntmps7
  go_wp2_with fail
  refine RW.out.mono ?_
  rintro e w1 (⟨l, d, a, c, b, hB, rfl, hRs, _, hw⟩ | ⟨_, rfl, hw⟩)
  · have hB := Lib.hid hB
    have hRs := Lib.hid hRs
    have hw := Lib.hid hw
    have BC := Lib.hid (build_any (d : Int) hRs.out)
    rw [buildB_isB hB.out] at BC
    obtain ⟨k1, k2, k3, _⟩ := chkA_ok hB.out.1
    have p8 := (ptB_some (ptB_isB hB.out)).1
    obtain ⟨n, hn⟩ := named L.length
    have hN : (L.length : Int) = (n : Int) := by rw [hn.out]
    obtain ⟨e4, e3, e2, e1⟩ := isB_end hB.out hn.out.symm
    have hn8 : 8 ≤ n := by rw [hn.out]; exact p8
    have hn4 : n ≤ 4096 := by rw [hn.out]; omega
    have I3 := idxL L (n - 3) 0 e3 ((n : Int) - 3) (by omega)
    have I2 := idxL L (n - 2) 0 e2 ((n : Int) - 2) (by omega)
    have I1 := idxL L (n - 1) 0 e1 ((n : Int) - 1) (by omega)
    have I4 := idxL L (n - 4) _ e4 ((n : Int) - 4) (by omega)
    rw [show (((UInt8.ofNat d).toNat : Nat) : Int) = (d : Int) by rw [UInt8.toNat_ofNat']; omega] at I4
    have wd : IntKind.i64.wrap (d : Int) = (d : Int) := by rw [IntKind.wrap_i64]; omega
    have g2 : decide (n < 8) = false := by rw [decide_eq_false_iff_not]; omega
    have g3 : (L == L) = true := beq_self_eq_true L
    have k3 := Lib.hid k3
    clear hn e1 e2 e3 e4 hbig p8 hs
    go_wp2_with (first
      | (go_at_call 12; ((with_reducible refine BC.out.mono ?_); rintro e w2 ⟨rfl, hb2⟩; have R2 := Lib.hid (hRs.out.below hb2 (Nat.le_refl _)); have W2 := Lib.hid (below_of hw.out hb2); clear hb2))
      | (go_at_call 16; ((with_reducible refine (order_any R2.out).mono ?_); rw [k3.out]; rintro e w3 ⟨rfl, hb3⟩; have W3 := Lib.hid (below_of W2.out hb3); clear hb3))
      | (go_at_call 10; ((with_reducible refine (AW.out _).mono ?_); rintro e w4 ⟨rfl, hb4⟩; have W4 := Lib.hid (below_of W3.out hb4); clear hb4)))
    go_returns
    exact ⟨rfl, W4.out⟩
  · have hw := Lib.hid hw
    go_wp2_with (go_at_call 10; ((with_reducible refine (AW.out _).mono ?_); rintro e w2 ⟨rfl, hb2⟩; have W2 := Lib.hid (below_of hw.out hb2); clear hb2))
    go_returns
    exact ⟨rfl, W2.out⟩
--LAW freshetlaw11.BlockOnly only_walk string:s
--BEGIN
namespace BlockOnlyProof
open Go.ChangeShapes Go.WideShapes Go.ChangeAt Go.RowKit
open Go.ChangeMaps (open_string shut_string)
theorem own : ownKnob Try.prog.godebug = none := by kernel_rfl
set_option maxRecDepth 100000 in
theorem lifted (os : Os) (started : os.Started) (H : Type) (enc : TypeId × Value → H) :
    ReturnsInHanded {} Try.checked os 7 .any (Rows.blockOnlySpec.pre6 enc Try.prog Try.f7 Rows.blockOnlyRow.domain false) (Rows.blockOnlySpec.post enc Try.prog Try.f7 false true false false) := by
  refine returnsInHanded_of_change_sized (C := Try.checked) own started (by kernel_rfl) Try.func7
    (ChangeSpec.witness6 (enc := enc) (C := Try.checked) false ⟨#[], #[.string .empty], []⟩ 8 (by kernel_rfl) (by kernel_rfl) (by kernel_rfl) (by kernel_rfl)) ?_
  intro W base args ds gs before hval0 hW _ hsz _
  have hval : ∀ (j : Nat) t v, Try.f7.params[j]? = some t → args[j]? = some v → Value.okWide Try.prog W .any base t v := hval0
  have hW' := hW
  obtain ⟨p, q, hA0, hV, rfl, hfz, hnd⟩ := hW
  have hA : DataW.TrodAll enc Try.prog W 0 (fun _ => true) true Try.f7.params.toList args.toList ds p := hA0
  rw [Try.params7] at hA hval hsz
  obtain ⟨v0, vs0, d0, ds0, p0, q0, hargs, rfl, rfl, h0, r0⟩ := trodAll_cons hA
  obtain ⟨rfl, rfl, rfl⟩ := trodAll_nil r0
  obtain rfl : args = #[v0] := by cases args; simp_all
  obtain ⟨rfl, rfl⟩ := trodVars_none hV
  obtain ⟨s, rfl, rfl, rfl, m0⟩ := open_string Try.underlying9 (hval 0 9 v0 rfl rfl) h0
  have z0 : s.size ≤ reachBytes := by have := sized_string hsz (j := 0) (t := 9) (bytes := s.data.toList) rfl rfl; simpa using this
  clear hA0 hval0
  simp only [List.append_nil] at hW'
  refine (only_walk s z0 W).mono fun e W' ⟨he, hg⟩ => ?_
  subst he
  exact ⟨_, rfl, _, _, _, [], [], [], hW', (trodAll_cons_mk (shut_bool Try.underlying4 _) trodAll_mk0), (trodAll_cons_mk (shut_string Try.underlying9 m0) trodAll_mk0), rfl, hg.frame _, fun h => by cases h⟩
theorem holds : Rows.BlockOnlySaid :=
  OpenClaim.holds_of_wide 7 Try.f7 rfl rfl rfl rfl rfl rfl rfl ⟨rfl, rfl, rfl, rfl, rfl⟩ rfl rfl rfl rfl rfl (by kernel_rfl) Try.func7 (by kernel_rfl)
    (of_decide_eq_true (by kernel_rfl)) (by unfold Func.isWrapper; first | (rw [if_pos (by decide +kernel)]; kernel_rfl) | (rw [if_neg (by decide +kernel)]; exact ⟨rfl, rfl⟩))
    (fun os started H enc _ => lifted os started H enc)
end BlockOnlyProof
--END
end Go.Proofs.Ytpdjndnehcpeiaa
