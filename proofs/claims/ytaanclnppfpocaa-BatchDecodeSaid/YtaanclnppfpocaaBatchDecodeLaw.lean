/-
  BatchDecode: all bytes are read as the batch whose bytes they are, or refused. No condition.
-/
import Derived.Test.YtaanclnppfpocaaBatchAwake
import Derived.Test.YtaanclnppfpocaaBatchSameRef
import Derived.Test.YtaanclnppfpocaaBatchDecodeRef
namespace Go.Proofs.Ytaanclnppfpocaa
open Go.RowKit
open Classical in
set_option maxRecDepth 100000 in
set_option maxHeartbeats 4000000 in
theorem decode_walk (s : ByteArray) (hs : s.size ≤ reachBytes) (w : World) :
    Calls Try.prog 4 #[.string s] w fun e w' => e = .returned (.bool true) ∧ Below w.heap.size w w' := by
  have AW := Lib.hid fun u => awake_any u
  have D1 := Lib.hid fun u => decode_main s hs u
  have D2 := Lib.hid fun u => refdecode_main s hs u
  have SM : Hid (∀ (u : World) (sq : Nat) (l : List Wr) p1 c1 b1 p2 c2 b2, Ws p1 l.length c1 b1 0 l u → Ws p2 l.length c2 b2 0 l u → Calls Try.prog 17 #[batchV sq p1 l.length c1, batchV sq p2 l.length c2] u fun e w' => e = .returned (.bool true) ∧ Below u.heap.size u w') := Lib.hid fun u sq l p1 c1 b1 p2 c2 b2 h1 h2 => by
    have := refsame_any (s1 := sq) (s2 := sq) h1 h2
    simpa using this
  unfold DecodedB at D1 D2
  obtain ⟨⟨sq, l, er⟩, hD⟩ := named (decB s.data.toList)
  rw [← hD.out] at D1 D2
  simp only at D1 D2
  have e2 : (er == er) = true := by simp
  clear hD
  go_enter Try.func4, Try.ntmps4
  go_wp2_with fail
  refine (D1.out w).mono ?_
  rintro e V1 ⟨a1, c1, b1, rfl, h1, _, q1⟩
  have h1 := Lib.hid (h1.below (below_alloc V1 (.cells #[.int .u64 (sq : Int), .slice a1 l.length c1] 25)) (Nat.le_refl _))
  have B1 := Lib.hid (q1.alloc (by exact q1.size) (.cells #[.int .u64 (sq : Int), .slice a1 l.length c1] 25))
  have E1 := Lib.hid (heap_alloc_new V1 (.cells #[.int .u64 (sq : Int), .slice a1 l.length c1] 25))
  clear q1 D1
  go_wp2_with fail
  generalize V1.alloc (.cells #[.int .u64 (sq : Int), .slice a1 l.length c1] 25) = W1 at *
  generalize V1.heap.size = N1 at *
  refine (D2.out W1).mono ?_
  rintro e V2 ⟨a2, c2, b2, rfl, h2, _, q2⟩
  have B2 := Lib.hid ((B1.out.trans (q2.mono B1.out.size)).alloc (Nat.le_trans B1.out.size q2.size) (.cells #[.int .u64 (sq : Int), .slice a2 l.length c2] 25))
  have E1' := (q2.block N1 (Array.getElem?_eq_some_iff.1 E1.out).1).trans E1.out
  have E2 := Lib.hid ((Lib.alloc_old V2 (.cells #[.int .u64 (sq : Int), .slice a2 l.length c2] 25) _ (Array.getElem?_eq_some_iff.1 E1').1).trans E1')
  have h1' := Lib.hid ((h1.out.below q2 (Nat.le_refl _)).below (below_alloc V2 (.cells #[.int .u64 (sq : Int), .slice a2 l.length c2] 25)) (Nat.le_refl _))
  have h2' := Lib.hid (h2.below (below_alloc V2 (.cells #[.int .u64 (sq : Int), .slice a2 l.length c2] 25)) (Nat.le_refl _))
  obtain ⟨x0, x1⟩ := pair_cells E1'
  have hl1 := (Array.getElem?_eq_some_iff.1 E1').1
  clear q2 D2 E1' h2 E1 B1 h1
  go_wp2_with fail
  refine (SM.out _ sq l a1 c1 b1 a2 c2 b2 h1'.out h2'.out).mono ?_
  rintro e V3 ⟨rfl, q3⟩
  have B3 := Lib.hid (B2.out.trans (q3.mono B2.out.size))
  clear q3 B2 SM h1' h2'
  go_wp2_with fail
  refine (AW.out _).mono ?_
  rintro e w' ⟨rfl, hb⟩
  go_wp2_with fail
  go_returns
  exact ⟨rfl, B3.out.trans (hb.mono B3.out.size)⟩
--LAW freshetlaw06.BatchDecode decode_walk string:s
--BEGIN
namespace BatchDecodeProof
open Go.ChangeShapes Go.WideShapes Go.ChangeAt Go.RowKit
open Go.ChangeMaps (open_string shut_string)
theorem own : ownKnob Try.prog.godebug = none := by kernel_rfl
set_option maxRecDepth 100000 in
theorem lifted (os : Os) (started : os.Started) (H : Type) (enc : TypeId × Value → H) :
    ReturnsInHanded {} Try.checked os 4 .any (Rows.batchDecodeSpec.pre6 enc Try.prog Try.f4 Rows.batchDecodeRow.domain false) (Rows.batchDecodeSpec.post enc Try.prog Try.f4 false true false false) := by
  refine returnsInHanded_of_change_sized (C := Try.checked) own started (by kernel_rfl) Try.func4
    (ChangeSpec.witness6 (enc := enc) (C := Try.checked) false ⟨#[], #[.string .empty], []⟩ 8 (by kernel_rfl) (by kernel_rfl) (by kernel_rfl) (by kernel_rfl)) ?_
  intro W base args ds gs before hval0 hW _ hsz _
  have hval : ∀ (j : Nat) t v, Try.f4.params[j]? = some t → args[j]? = some v → Value.okWide Try.prog W .any base t v := hval0
  have hW' := hW
  obtain ⟨p, q, hA0, hV, rfl, hfz, hnd⟩ := hW
  have hA : DataW.TrodAll enc Try.prog W 0 (fun _ => true) true Try.f4.params.toList args.toList ds p := hA0
  rw [Try.params4] at hA hval hsz
  obtain ⟨v0, vs0, d0, ds0, p0, q0, hargs, rfl, rfl, h0, r0⟩ := trodAll_cons hA
  obtain ⟨rfl, rfl, rfl⟩ := trodAll_nil r0
  obtain rfl : args = #[v0] := by cases args; simp_all
  obtain ⟨rfl, rfl⟩ := trodVars_none hV
  obtain ⟨s, rfl, rfl, rfl, m0⟩ := open_string Try.underlying9 (hval 0 9 v0 rfl rfl) h0
  have z0 : s.size ≤ reachBytes := by have := sized_string hsz (j := 0) (t := 9) (bytes := s.data.toList) rfl rfl; simpa using this
  clear hA0 hval0
  simp only [List.append_nil] at hW'
  refine (decode_walk s z0 W).mono fun e W' ⟨he, hg⟩ => ?_
  subst he
  exact ⟨_, rfl, _, _, _, [], [], [], hW', (trodAll_cons_mk (shut_bool Try.underlying4 _) trodAll_mk0), (trodAll_cons_mk (shut_string Try.underlying9 m0) trodAll_mk0), rfl, hg.frame _, fun h => by cases h⟩
theorem holds : Rows.BatchDecodeSaid :=
  OpenClaim.holds_of_wide 4 Try.f4 rfl rfl rfl rfl rfl rfl rfl ⟨rfl, rfl, rfl, rfl, rfl⟩ rfl rfl rfl rfl rfl (by kernel_rfl) Try.func4 (by kernel_rfl)
    (of_decide_eq_true (by kernel_rfl)) (by unfold Func.isWrapper; first | (rw [if_pos (by decide +kernel)]; kernel_rfl) | (rw [if_neg (by decide +kernel)]; exact ⟨rfl, rfl⟩))
    (fun os started H enc _ => lifted os started H enc)
end BatchDecodeProof
--END
end Go.Proofs.Ytaanclnppfpocaa
