/-
  BatchEncode: every batch is written as the document says, or refused with the right error, and is left unchanged. No condition.
-/
import Derived.Test.YtaanclnppfpocaaBatchAwake
import Derived.Test.YtaanclnppfpocaaBatchOwn
import Derived.Test.YtaanclnppfpocaaBatchEncodeRef
import Derived.Test.YtaanclnppfpocaaBatchArg
import Derived.Deep.RegionHeld
import Derived.Deep.DrawnRows
namespace Go.Proofs.Ytaanclnppfpocaa
open Go.RowKit
attribute [local go_sem ↓] Go.wp_at_zero Go.wp_at_succ
theorem encode_both {seq : Nat} {a : Option Addr} {n c b o : Nat} {l : List Wr} {w : World} (h : Ws a n c b o l w) :
    Calls Try.prog 10 #[batchV seq a n c] w fun e w' => e = .returned (.tuple #[.string (if chkB seq l = 0 then ⟨(encB seq l).toArray⟩ else ⟨#[]⟩), .int .i64 (chkB seq l)]) ∧ Below w.heap.size w w' := by
  by_cases hc : chkB seq l = 0
  · rw [if_pos hc, hc]; exact encode_good h hc
  · rw [if_neg hc]; exact encode_bad h hc
set_option maxRecDepth 100000 in
set_option maxHeartbeats 4000000 in
theorem encode_main (s : Nat) (p : Option Addr) (n c b o : Nat) (l : List Wr) (w : World) (hA : Ws p n c b o l w) (h1 : n ≤ 300) :
    Calls Try.prog 3 #[batchV s p n c] w fun e w' => e = .returned (.bool true) ∧ Below w.heap.size w w' := by
  have AW := Lib.hid fun u => awake_any u
  have hz1 := hA.most
  have hlen := Lib.hid hA.len
  have K := Lib.hid (below_alloc w (.cells #[.int .u64 (s : Int), .slice p n c] 25))
  have E0 := Lib.hid (heap_alloc_new w (.cells #[.int .u64 (s : Int), .slice p n c] 25))
  have d1 : decide ((300 : Int) < (n : Int)) = false := by rw [decide_eq_false_iff_not]; omega
  obtain ⟨x0, x1⟩ := pair_cells E0.out
  have OW := Lib.hid fun u (hu : Ws p n c b o l u) => own_any (seq := s) hu h1
  have ER : Hid (∀ u, Below w.heap.size w u → Calls Try.prog 11 #[batchV s p n c] u fun e w' => e = .returned (.tuple #[.string (if chkB s l = 0 then ⟨(encB s l).toArray⟩ else ⟨#[]⟩), .int .i64 (chkB s l)]) ∧ Below u.heap.size u w') := Lib.hid fun u hu => refencode_all (hA.below hu (Nat.le_refl _))
  have CR : Hid (∀ u, Below w.heap.size w u → Calls Try.prog 13 #[batchV s p n c] u fun e w' => e = .returned (.int .i64 (chkB s l)) ∧ Below u.heap.size u w') := Lib.hid fun u hu => refcheck_any (hA.below hu (Nat.le_refl _))
  have EP : Hid (∀ u a' n' c' b' o', Ws a' n' c' b' o' l u → Calls Try.prog 10 #[batchV s a' n' c'] u fun e w' => e = .returned (.tuple #[.string (if chkB s l = 0 then ⟨(encB s l).toArray⟩ else ⟨#[]⟩), .int .i64 (chkB s l)]) ∧ Below u.heap.size u w') := Lib.hid fun u a' n' c' b' o' hu => encode_both hu
  have CP : Hid (∀ u a' n' c' b' o', Ws a' n' c' b' o' l u → Calls Try.prog 12 #[batchV s a' n' c'] u fun e w' => e = .returned (.int .i64 (chkB s l)) ∧ Below u.heap.size u w') := Lib.hid fun u a' n' c' b' o' hu => check_any hu
  obtain ⟨T, hT⟩ := named (if chkB s l = 0 then (⟨(encB s l).toArray⟩ : ByteArray) else ⟨#[]⟩)
  obtain ⟨R, hR⟩ := named (chkB s l)
  rw [← hT.out, ← hR.out] at ER EP
  rw [← hR.out] at CR CP
  have hA := Lib.hid hA
  clear hT hR
  go_enter Try.func3, Try.ntmps3
  go_wp2_with fail
  generalize w.alloc (.cells #[.int .u64 (s : Int), .slice p n c] 25) = V0 at *
  refine (OW.out V0 (hA.out.below K.out (Nat.le_refl _))).mono ?_
  rintro e V1 ⟨g, gc, rfl, hg, hO, q1⟩
  have K1 := Lib.hid (K.out.trans (q1.mono K.out.size))
  have F0 := Lib.hid ((q1.block w.heap.size (Array.getElem?_eq_some_iff.1 E0.out).1).trans E0.out)
  have hO := Lib.hid hO
  have hgl : Hid (w.heap.size ≤ V1.heap.size) := Lib.hid K1.out.size
  clear x0 x1 q1 OW
  have Z1 : Hid (V1.heap.size = V1.heap.size) := Lib.hid rfl
  have K2 := Lib.hid (K1.out.alloc hgl.out (.cells #[.int .u64 (s : Int), .slice (some ⟨g, 0, none⟩) n gc] 25))
  have F1 := Lib.hid ((Lib.alloc_old V1 (.cells #[.int .u64 (s : Int), .slice (some ⟨g, 0, none⟩) n gc] 25) _ (Array.getElem?_eq_some_iff.1 F0.out).1).trans F0.out)
  have G1 := Lib.hid (heap_alloc_new V1 (.cells #[.int .u64 (s : Int), .slice (some ⟨g, 0, none⟩) n gc] 25))
  have O2 := Lib.hid (hO.out.below (below_alloc V1 (.cells #[.int .u64 (s : Int), .slice (some ⟨g, 0, none⟩) n gc] 25)) (Nat.le_refl _))
  have tk : Hid (∀ u, Ws (some ⟨g, 0, none⟩) (n + 1) gc g 0 (l ++ [markW]) u → Ws (some ⟨g, 0, none⟩) n gc g 0 l u) := Lib.hid fun u hu => by have := hu.take (k := n) (by omega); rw [← hlen.out, marked_take] at this; rw [← hlen.out]; exact this
  clear hO F0
  go_wp2_with fail
  generalize V1.alloc (.cells #[.int .u64 (s : Int), .slice (some ⟨g, 0, none⟩) n gc] 25) = V2 at *
  generalize V1.heap.size = N1 at *
  refine (EP.out V2 _ _ _ _ _ (tk.out V2 O2.out)).mono ?_
  rintro e V3 ⟨rfl, q3⟩
  have K3 := Lib.hid (K2.out.trans (q3.mono K2.out.size))
  have F3 := Lib.hid ((q3.block w.heap.size (Array.getElem?_eq_some_iff.1 F1.out).1).trans F1.out)
  have G3 := Lib.hid ((q3.block N1 (Array.getElem?_eq_some_iff.1 G1.out).1).trans G1.out)
  have O3 := Lib.hid (O2.out.below q3 (Nat.le_refl _))
  obtain ⟨x0, x1⟩ := pair_cells F3.out
  clear K2 F1 G1 O2 q3 EP
  go_wp2_with fail
  refine (ER.out V3 K3.out).mono ?_
  rintro e V4 ⟨rfl, q4⟩
  have K4 := Lib.hid (K3.out.trans (q4.mono K3.out.size))
  have F4 := Lib.hid ((q4.block w.heap.size (Array.getElem?_eq_some_iff.1 F3.out).1).trans F3.out)
  have G4 := Lib.hid ((q4.block N1 (Array.getElem?_eq_some_iff.1 G3.out).1).trans G3.out)
  have O4 := Lib.hid (O3.out.below q4 (Nat.le_refl _))
  clear x0 x1 K3 F3 G3 O3 q4 ER
  have e1 : (T.toList == T.toList) = true := by simp
  have e2 : (R == R) = true := by simp
  have KA : Hid (∀ u, Ws (some ⟨g, 0, none⟩) (n + 1) gc g 0 (l ++ [markW]) u → Ws p n c b o l u → Calls Try.prog 14 #[batchV s (some ⟨g, 0, none⟩) n gc, batchV s p n c] u fun e w' => e = .returned (.bool true) ∧ Below u.heap.size u w') := Lib.hid fun u h1' h2' => kept_any h1' h2' h1
  have st : Hid (∀ u u', u.heap[w.heap.size]? = some (.cells #[.int .u64 (s : Int), .slice p n c] 25 (0, 0)) → u.heap[N1]? = some (.cells #[.int .u64 (s : Int), .slice (some ⟨g, 0, none⟩) n gc] 25 (0, 0)) → Below u.heap.size u u' → u'.heap[w.heap.size]? = some (.cells #[.int .u64 (s : Int), .slice p n c] 25 (0, 0)) ∧ u'.heap[N1]? = some (.cells #[.int .u64 (s : Int), .slice (some ⟨g, 0, none⟩) n gc] 25 (0, 0))) := Lib.hid fun u u' h0 h1 hb => ⟨(hb.block _ (Array.getElem?_eq_some_iff.1 h0).1).trans h0, (hb.block _ (Array.getElem?_eq_some_iff.1 h1).1).trans h1⟩
  have s0 : Hid (V4.cell? ⟨w.heap.size, 0, none⟩ = some (.int .u64 (s : Int)) ∧ V4.cell? ⟨w.heap.size, 1, none⟩ = some (.slice p n c) ∧ V4.cell? ⟨N1, 0, none⟩ = some (.int .u64 (s : Int)) ∧ V4.cell? ⟨N1, 1, none⟩ = some (.slice (some ⟨g, 0, none⟩) n gc)) := Lib.hid ⟨(pair_cells F4.out).1, (pair_cells F4.out).2, (pair_cells G4.out).1, (pair_cells G4.out).2⟩
  go_wp2_with fail
  go_region_held (fun v => v.cell? ⟨w.heap.size, 0, none⟩ = some (.int .u64 (s : Int)) ∧ v.cell? ⟨w.heap.size, 1, none⟩ = some (.slice p n c) ∧ v.cell? ⟨N1, 0, none⟩ = some (.int .u64 (s : Int)) ∧ v.cell? ⟨N1, 1, none⟩ = some (.slice (some ⟨g, 0, none⟩) n gc))
    (first
      | with_reducible exact s8.out
      | with_reducible exact s7.out
      | with_reducible exact s6.out
      | with_reducible exact s5.out
      | exact s0.out)
    (first
      | (go_at_call 12
         ((with_reducible refine (CP.out _ _ _ _ _ _ (tk.out _ ?_)).mono ?_); first | exact O4.out.keep (fun _ => rfl) (Nat.le_refl _) | skip)
         rintro e V5 ⟨rfl, q5⟩
         have K5 : Hid (Below w.heap.size w V5) := Lib.hid (K4.out.trans ((⟨q5.os, q5.tape, q5.output, q5.size, q5.block⟩ : Below V4.heap.size V4 V5).mono K4.out.size))
         have O5 : Hid (Ws (some ⟨g, 0, none⟩) (n + 1) gc g 0 (l ++ [markW]) V5) := Lib.hid (O4.out.below (⟨q5.os, q5.tape, q5.output, q5.size, q5.block⟩ : Below V4.heap.size V4 V5) (Nat.le_refl _))
         have F5 := Lib.hid (st.out V4 V5 F4.out G4.out ⟨q5.os, q5.tape, q5.output, q5.size, q5.block⟩)
         have s5 : Hid (V5.cell? ⟨w.heap.size, 0, none⟩ = some (.int .u64 (s : Int)) ∧ V5.cell? ⟨w.heap.size, 1, none⟩ = some (.slice p n c) ∧ V5.cell? ⟨N1, 0, none⟩ = some (.int .u64 (s : Int)) ∧ V5.cell? ⟨N1, 1, none⟩ = some (.slice (some ⟨g, 0, none⟩) n gc)) := Lib.hid ⟨(pair_cells F5.out.1).1, (pair_cells F5.out.1).2, (pair_cells F5.out.2).1, (pair_cells F5.out.2).2⟩
         have q5 := Lib.hid q5)
      | (go_at_call 13
         ((with_reducible refine (CR.out _ K5.out).mono ?_); rintro e V6 ⟨rfl, q6⟩)
         have K6 : Hid (Below w.heap.size w V6) := Lib.hid (K5.out.trans ((⟨q6.os, q6.tape, q6.output, q6.size, q6.block⟩ : Below V5.heap.size V5 V6).mono K5.out.size))
         have O6 : Hid (Ws (some ⟨g, 0, none⟩) (n + 1) gc g 0 (l ++ [markW]) V6) := Lib.hid (O5.out.below (⟨q6.os, q6.tape, q6.output, q6.size, q6.block⟩ : Below V5.heap.size V5 V6) (Nat.le_refl _))
         have F6 := Lib.hid (st.out V5 V6 F5.out.1 F5.out.2 ⟨q6.os, q6.tape, q6.output, q6.size, q6.block⟩)
         have s6 : Hid (V6.cell? ⟨w.heap.size, 0, none⟩ = some (.int .u64 (s : Int)) ∧ V6.cell? ⟨w.heap.size, 1, none⟩ = some (.slice p n c) ∧ V6.cell? ⟨N1, 0, none⟩ = some (.int .u64 (s : Int)) ∧ V6.cell? ⟨N1, 1, none⟩ = some (.slice (some ⟨g, 0, none⟩) n gc)) := Lib.hid ⟨(pair_cells F6.out.1).1, (pair_cells F6.out.1).2, (pair_cells F6.out.2).1, (pair_cells F6.out.2).2⟩
         have q6 := Lib.hid q6)
      | (go_at_call 14
         ((with_reducible refine (KA.out _ O6.out (hA.out.below K6.out (Nat.le_refl _))).mono ?_); rintro e V7 ⟨rfl, q7⟩)
         have K7 : Hid (Below w.heap.size w V7) := Lib.hid (K6.out.trans ((⟨q7.os, q7.tape, q7.output, q7.size, q7.block⟩ : Below V6.heap.size V6 V7).mono K6.out.size))
         have F7 := Lib.hid (st.out V6 V7 F6.out.1 F6.out.2 ⟨q7.os, q7.tape, q7.output, q7.size, q7.block⟩)
         have s7 : Hid (V7.cell? ⟨w.heap.size, 0, none⟩ = some (.int .u64 (s : Int)) ∧ V7.cell? ⟨w.heap.size, 1, none⟩ = some (.slice p n c) ∧ V7.cell? ⟨N1, 0, none⟩ = some (.int .u64 (s : Int)) ∧ V7.cell? ⟨N1, 1, none⟩ = some (.slice (some ⟨g, 0, none⟩) n gc)) := Lib.hid ⟨(pair_cells F7.out.1).1, (pair_cells F7.out.1).2, (pair_cells F7.out.2).1, (pair_cells F7.out.2).2⟩
         have q7 := Lib.hid q7)
      | (go_at_call 8
         ((with_reducible refine (AW.out _).mono ?_); rintro e V8 ⟨rfl, q8⟩)
         have K8 : Hid (Below w.heap.size w V8) := Lib.hid (K7.out.trans ((⟨q8.os, q8.tape, q8.output, q8.size, q8.block⟩ : Below V7.heap.size V7 V8).mono K7.out.size))
         have F8 := Lib.hid (st.out V7 V8 F7.out.1 F7.out.2 ⟨q8.os, q8.tape, q8.output, q8.size, q8.block⟩)
         have s8 : Hid (V8.cell? ⟨w.heap.size, 0, none⟩ = some (.int .u64 (s : Int)) ∧ V8.cell? ⟨w.heap.size, 1, none⟩ = some (.slice p n c) ∧ V8.cell? ⟨N1, 0, none⟩ = some (.int .u64 (s : Int)) ∧ V8.cell? ⟨N1, 1, none⟩ = some (.slice (some ⟨g, 0, none⟩) n gc)) := Lib.hid ⟨(pair_cells F8.out.1).1, (pair_cells F8.out.1).2, (pair_cells F8.out.2).1, (pair_cells F8.out.2).2⟩
         have q8 := Lib.hid q8))
  all_goals (
    go_wp2_with fail
    go_returns
    exact ⟨rfl, ⟨K8.out.os, K8.out.tape, K8.out.output, K8.out.size, K8.out.block⟩⟩)
set_option maxRecDepth 100000 in
set_option maxHeartbeats 2000000 in
theorem encode_big (s : Nat) (p : Option Addr) (n c b o : Nat) (l : List Wr) (w : World) (hA : Ws p n c b o l w) (h1 : ¬ n ≤ 300) :
    Calls Try.prog 3 #[batchV s p n c] w fun e w' => e = .returned (.bool true) ∧ Below w.heap.size w w' := by
  have AW := Lib.hid fun u => awake_any u
  have hz1 := hA.most
  have K := Lib.hid (below_alloc w (.cells #[.int .u64 (s : Int), .slice p n c] 25))
  have E0 := Lib.hid (heap_alloc_new w (.cells #[.int .u64 (s : Int), .slice p n c] 25))
  have d1 : decide ((300 : Int) < (n : Int)) = true := by rw [decide_eq_true_eq]; omega
  obtain ⟨x0, x1⟩ := pair_cells E0.out
  clear hA
  go_enter Try.func3, Try.ntmps3
  go_wp2_with fail
  refine (AW.out _).mono ?_
  rintro e w' ⟨rfl, hb⟩
  go_wp2_with fail
  go_returns
  exact ⟨rfl, K.out.trans (hb.mono K.out.size)⟩
theorem encode_walk (s : Nat) (p : Option Addr) (n c b o : Nat) (l : List Wr) (_m : s < 2 ^ 64) (w : World) (hA : Ws p n c b o l w) :
    Calls Try.prog 3 #[batchV s p n c] w fun e w' => e = .returned (.bool true) ∧ Below w.heap.size w w' := by
  by_cases h : n ≤ 300
  · exact encode_main s p n c b o l w hA h
  · exact encode_big s p n c b o l w hA h
--LAW freshetlaw06.BatchEncode encode_walk batch:la
--BEGIN
namespace BatchEncodeProof
open Go.ChangeShapes Go.WideShapes Go.ChangeAt Go.RowKit
open Go.ChangeMaps (open_string shut_string)
theorem own : ownKnob Try.prog.godebug = none := by kernel_rfl
set_option maxRecDepth 100000 in
theorem lifted (os : Os) (started : os.Started) (H : Type) (enc : TypeId × Value → H) :
    ReturnsInHanded {} Try.checked os 3 .any (Rows.batchEncodeSpec.pre6 enc Try.prog Try.f3 Rows.batchEncodeRow.domain false) (Rows.batchEncodeSpec.post enc Try.prog Try.f3 false true false false) := by
  refine returnsInHanded_of_change_sized (C := Try.checked) own started (by kernel_rfl) Try.func3
    (ChangeSpec.witness6 (enc := enc) (C := Try.checked) false ⟨#[], #[.agg #[.int .u64 0, .slice none 0 0]], []⟩ 8 (by kernel_rfl) (by kernel_rfl) (by kernel_rfl) (by kernel_rfl)) ?_
  intro W base args ds gs before hval0 hW _ hsz _
  have hval : ∀ (j : Nat) t v, Try.f3.params[j]? = some t → args[j]? = some v → Value.okWide Try.prog W .any base t v := hval0
  have hW' := hW
  obtain ⟨p, q, hA0, hV, rfl, hfz, hnd⟩ := hW
  have hA : DataW.TrodAll enc Try.prog W 0 (fun _ => true) true Try.f3.params.toList args.toList ds p := hA0
  rw [Try.params3] at hA hval hsz
  obtain ⟨v0, vs0, d0, ds0, p0, q0, hargs, rfl, rfl, h0, r0⟩ := trodAll_cons hA
  obtain ⟨rfl, rfl, rfl⟩ := trodAll_nil r0
  obtain rfl : args = #[v0] := by cases args; simp_all
  obtain ⟨rfl, rfl⟩ := trodVars_none hV
  have k0 := h0
  obtain ⟨sq0, a0, n0, c0, b0, o0, la, rfl, m0, ia0⟩ := open_batch (hval 0 25 v0 rfl rfl) h0 hsz (j := 0) rfl rfl
  have lt0 : ∀ x ∈ p0, x.block < W.heap.size := fun x hx => hW'.lt x (by simp only [List.mem_append]; simp [hx])
  clear hA0 hval0
  simp only [List.append_nil] at hW'
  refine (encode_walk sq0 a0 n0 c0 b0 o0 la m0 W ia0).mono fun e W' ⟨he, hg⟩ => ?_
  subst he
  exact ⟨_, rfl, _, _, _, [], _, [], hW', (trodAll_cons_mk (shut_bool Try.underlying4 _) trodAll_mk0), (trodAll_cons_mk (Below.trod laid_out (by kernel_rfl) (of_decide_eq_true (by kernel_rfl)) k0 hg lt0) trodAll_mk0), rfl, hg.frame _, fun h => by cases h⟩
theorem holds : Rows.BatchEncodeSaid :=
  OpenClaim.holds_of_wide 3 Try.f3 rfl rfl rfl rfl rfl rfl rfl ⟨rfl, rfl, rfl, rfl, rfl⟩ rfl rfl rfl rfl rfl (by kernel_rfl) Try.func3 (by kernel_rfl)
    (of_decide_eq_true (by kernel_rfl)) (by unfold Func.isWrapper; first | (rw [if_pos (by decide +kernel)]; kernel_rfl) | (rw [if_neg (by decide +kernel)]; exact ⟨rfl, rfl⟩))
    (fun os started H enc _ => lifted os started H enc)
end BatchEncodeProof
--END
end Go.Proofs.Ytaanclnppfpocaa
