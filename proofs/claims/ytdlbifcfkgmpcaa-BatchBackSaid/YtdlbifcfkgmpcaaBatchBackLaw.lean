/-
  BatchBack: a batch that is written is read back; no batch's bytes are a beginning of another one's. No condition.
-/
import Derived.Test.YtdlbifcfkgmpcaaBatchAwake
import Derived.Test.YtdlbifcfkgmpcaaBatchSame
import Derived.Test.YtdlbifcfkgmpcaaBatchMath4
import Derived.Test.YtdlbifcfkgmpcaaBatchArg
import Derived.SliceStrings
namespace Go.Proofs.Ytdlbifcfkgmpcaa
open Go.RowKit
theorem enc_size {seq : Nat} {l : List Wr} (h : chkB seq l = 0) : (encB seq l).length ≤ 200000 := by
  obtain ⟨k0, k1, k2, k3, k4⟩ := chkB_ok h
  have q1 := uvar_short (n := seq) (by omega)
  have q2 := uvar_short (n := l.length) (by omega)
  have q3 := encL_len (l := l) fun x hx => (k4 x hx).2
  unfold encB
  simp only [List.length_append]
  omega
/-- What Encode returns: a text, an error. -/
def encS (seq : Nat) (l : List Wr) : ByteArray := if chkB seq l = 0 then ⟨(encB seq l).toArray⟩ else ⟨#[]⟩
theorem encode_all {seq : Nat} {a : Option Addr} {n c b o : Nat} {l : List Wr} {w : World} (h : Ws a n c b o l w) :
    Calls Try.prog 12 #[batchV seq a n c] w fun e w' => e = .returned (.tuple #[.string (encS seq l), .int .i64 (chkB seq l)]) ∧ Below w.heap.size w w' := by
  unfold encS
  by_cases hc : chkB seq l = 0
  · rw [if_pos hc, hc]; exact encode_good h hc
  · rw [if_neg hc]; exact encode_bad h hc
theorem decode_back {seq : Nat} {l : List Wr} {n : Nat} (hn : l.length = n) (hc : chkB seq l = 0) (u : World) :
    Calls Try.prog 17 #[.string (encS seq l)] u fun e w' => ∃ a c b, e = .returned (.tuple #[batchV seq a n c, .int .i64 0]) ∧ Ws a n c b 0 l w' ∧ Below u.heap.size u w' := by
  have hS : encS seq l = ⟨(encB seq l).toArray⟩ := if_pos hc
  rw [hS]
  refine (decode_main ⟨(encB seq l).toArray⟩ (by show (encB seq l).toArray.size ≤ _; rw [List.size_toArray]; have := enc_size hc; unfold reachBytes; omega) u).mono fun e w' hP => ?_
  unfold DecodedB at hP
  rw [show (⟨(encB seq l).toArray⟩ : ByteArray).data.toList = encB seq l from by simp, decB_put hc] at hP
  obtain ⟨a, c, b, he, hw, _, hb⟩ := hP
  rw [hn] at he hw
  exact ⟨a, c, b, he, hw, hb⟩
open Classical in
theorem begins_iff {s1 s2 : Nat} {l1 l2 : List Wr} (h1 : chkB s1 l1 = 0) (h2 : chkB s2 l2 = 0) (hz : (encS s1 l1).size ≤ (encS s2 l2).size) :
    (((encS s2 l2).extract 0 (encS s1 l1).size).toList == (encS s1 l1).toList) = decide (s1 = s2 ∧ l1 = l2) := by
  have e1 : encS s1 l1 = ⟨(encB s1 l1).toArray⟩ := if_pos h1
  have e2 : encS s2 l2 = ⟨(encB s2 l2).toArray⟩ := if_pos h2
  have z1 : (encS s1 l1).size = (encB s1 l1).length := by rw [e1]; exact List.size_toArray
  have x1 : ((encS s2 l2).extract 0 (encS s1 l1).size).toList = (encB s2 l2).take (encB s1 l1).length := by
    rw [ByteArray.toList_eq, ByteArray.data_extract, Array.toList_extract, List.extract_eq_take_drop, z1, e2]; simp
  have x2 : (encS s1 l1).toList = encB s1 l1 := by rw [ByteArray.toList_eq, e1]
  rw [x1, x2]
  by_cases hq : s1 = s2 ∧ l1 = l2
  · obtain ⟨rfl, rfl⟩ := hq
    simp
  · rw [decide_eq_false hq, beq_eq_false_iff_ne]
    intro h
    have := List.take_append_drop (encB s1 l1).length (encB s2 l2)
    rw [h] at this
    exact hq (enc_begins h1 h2 this.symm)
open Classical in
theorem begins_not {s1 s2 : Nat} {l1 l2 : List Wr} (hz : ¬ (encS s1 l1).size ≤ (encS s2 l2).size) : decide (s1 = s2 ∧ l1 = l2) = false := by
  rw [decide_eq_false_iff_not]
  rintro ⟨rfl, rfl⟩
  exact hz (Nat.le_refl _)
open Classical in
set_option maxRecDepth 100000 in
set_option maxHeartbeats 4000000 in
theorem back_big (s1 : Nat) (p1 : Option Addr) (n1 c1 b1 o1 : Nat) (l1 : List Wr) (s2 : Nat) (p2 : Option Addr) (n2 c2 b2 o2 : Nat) (l2 : List Wr) (w : World) (hA : Ws p1 n1 c1 b1 o1 l1 w) (hB : Ws p2 n2 c2 b2 o2 l2 w) (hbig : ¬ (n1 ≤ 300 ∧ n2 ≤ 300)) :
    Calls Try.prog 6 #[batchV s1 p1 n1 c1, batchV s2 p2 n2 c2] w fun e w' => e = .returned (.bool true) ∧ Below w.heap.size w w' := by
  have AW := Lib.hid fun u => awake_any u
  have hz1 := hA.most
  have hz2 := hB.most
  have K : Hid (Below w.heap.size w ((w.alloc (.cells #[.int .u64 (s1 : Int), .slice p1 n1 c1] 25)).alloc (.cells #[.int .u64 (s2 : Int), .slice p2 n2 c2] 25))) := Lib.hid ((below_alloc _ _).alloc (by simp) _)
  have hall : decide ((300 : Int) < (n1 : Int)) = true ∨ (decide ((300 : Int) < (n1 : Int)) = false ∧ decide ((300 : Int) < (n2 : Int)) = true) := by
    simp only [decide_eq_true_eq, decide_eq_false_iff_not]
    omega
  clear hA hB
  rcases hall with d1 | ⟨d1, d2⟩
  all_goals
    go_enter Try.func6, Try.ntmps6
    go_wp2_with fail
    refine (AW.out _).mono ?_
    rintro e w' ⟨rfl, hb⟩
    go_wp2_with fail
    go_returns
    exact ⟨rfl, K.out.trans (hb.mono K.out.size)⟩
open Classical in
set_option maxRecDepth 100000 in
set_option maxHeartbeats 4000000 in
theorem back_main (s1 : Nat) (p1 : Option Addr) (n1 c1 b1 o1 : Nat) (l1 : List Wr) (s2 : Nat) (p2 : Option Addr) (n2 c2 b2 o2 : Nat) (l2 : List Wr) (w : World) (hA : Ws p1 n1 c1 b1 o1 l1 w) (hB : Ws p2 n2 c2 b2 o2 l2 w) (h1 : n1 ≤ 300) (h2 : n2 ≤ 300) :
    Calls Try.prog 6 #[batchV s1 p1 n1 c1, batchV s2 p2 n2 c2] w fun e w' => e = .returned (.bool true) ∧ Below w.heap.size w w' := by
  have AW := Lib.hid fun u => awake_any u
  have hz1 := hA.most
  have hz2 := hB.most
  have K : Hid (Below w.heap.size w ((w.alloc (.cells #[.int .u64 (s1 : Int), .slice p1 n1 c1] 25)).alloc (.cells #[.int .u64 (s2 : Int), .slice p2 n2 c2] 25))) := Lib.hid ((below_alloc _ _).alloc (by simp) _)
  have d1 : decide ((300 : Int) < (n1 : Int)) = false := by rw [decide_eq_false_iff_not]; omega
  have d2 : decide ((300 : Int) < (n2 : Int)) = false := by rw [decide_eq_false_iff_not]; omega
  have E0 : Hid (((w.alloc (.cells #[.int .u64 (s1 : Int), .slice p1 n1 c1] 25)).alloc (.cells #[.int .u64 (s2 : Int), .slice p2 n2 c2] 25)).heap[w.heap.size]? = some (.cells #[.int .u64 (s1 : Int), .slice p1 n1 c1] 25 (0, 0))) := Lib.hid ((Lib.alloc_old _ _ _ (by simp)).trans (heap_alloc_new _ _))
  have E1 : Hid (((w.alloc (.cells #[.int .u64 (s1 : Int), .slice p1 n1 c1] 25)).alloc (.cells #[.int .u64 (s2 : Int), .slice p2 n2 c2] 25)).heap[w.heap.size + 1]? = some (.cells #[.int .u64 (s2 : Int), .slice p2 n2 c2] 25 (0, 0))) := Lib.hid (by
    have := heap_alloc_new (w.alloc (.cells #[.int .u64 (s1 : Int), .slice p1 n1 c1] 25)) (.cells #[.int .u64 (s2 : Int), .slice p2 n2 c2] 25)
    simpa using this)
  have hlen := hA.len
  have EA : Hid (∀ u, Below w.heap.size w u → Calls Try.prog 12 #[batchV s1 p1 n1 c1] u fun e w' => e = .returned (.tuple #[.string (encS s1 l1), .int .i64 (chkB s1 l1)]) ∧ Below u.heap.size u w') := Lib.hid fun u hu => encode_all (hA.below hu (Nat.le_refl _))
  have EB : Hid (∀ u, Below w.heap.size w u → Calls Try.prog 12 #[batchV s2 p2 n2 c2] u fun e w' => e = .returned (.tuple #[.string (encS s2 l2), .int .i64 (chkB s2 l2)]) ∧ Below u.heap.size u w') := Lib.hid fun u hu => encode_all (hB.below hu (Nat.le_refl _))
  have SM : Hid (∀ u, Below w.heap.size w u → Calls Try.prog 25 #[batchV s1 p1 n1 c1, batchV s2 p2 n2 c2] u fun e w' => e = .returned (.bool (decide (s1 = s2 ∧ l1 = l2))) ∧ Below u.heap.size u w') := Lib.hid fun u hu => same_batch (hA.below hu (Nat.le_refl _)) (hB.below hu (Nat.le_refl _))
  have SX : Hid (∀ u a c b, Ws a n1 c b 0 l1 u → Below w.heap.size w u → Calls Try.prog 25 #[batchV s1 a n1 c, batchV s1 p1 n1 c1] u fun e w' => e = .returned (.bool true) ∧ Below u.heap.size u w') := Lib.hid fun u a c b hx hu => by
    have := same_batch (s1 := s1) (s2 := s1) hx (hA.below hu (Nat.le_refl _))
    simpa using this
  have DA : Hid (chkB s1 l1 = 0 → ∀ u, Calls Try.prog 17 #[.string (encS s1 l1)] u fun e w' => ∃ a c b, e = .returned (.tuple #[batchV s1 a n1 c, .int .i64 0]) ∧ Ws a n1 c b 0 l1 w' ∧ Below u.heap.size u w') := Lib.hid fun hc u => decode_back hlen hc u
  have BI : Hid (chkB s1 l1 = 0 → chkB s2 l2 = 0 → (encS s1 l1).size ≤ (encS s2 l2).size → (((encS s2 l2).extract 0 (encS s1 l1).size).toList == (encS s1 l1).toList) = decide (s1 = s2 ∧ l1 = l2)) := Lib.hid begins_iff
  have BN : Hid (¬ (encS s1 l1).size ≤ (encS s2 l2).size → decide (s1 = s2 ∧ l1 = l2) = false) := Lib.hid begins_not
  obtain ⟨SA, hSA⟩ := named (encS s1 l1)
  obtain ⟨SB, hSB⟩ := named (encS s2 l2)
  obtain ⟨ea, hea⟩ := named (chkB s1 l1)
  obtain ⟨eb, heb⟩ := named (chkB s2 l2)
  obtain ⟨R, hR⟩ := named (decide (s1 = s2 ∧ l1 = l2))
  rw [← hSA.out, ← hea.out] at EA DA
  rw [← hSB.out, ← heb.out] at EB
  rw [← hSA.out, ← hSB.out, ← hR.out] at BN
  rw [← hSA.out, ← hSB.out, ← hR.out, ← hea.out, ← heb.out] at BI
  rw [← hR.out] at SM
  clear hSA hSB hea heb hR hA hB hlen
  go_enter Try.func6, Try.ntmps6
  go_wp2_with fail
  generalize (w.alloc (.cells #[.int .u64 (s1 : Int), .slice p1 n1 c1] 25)).alloc (.cells #[.int .u64 (s2 : Int), .slice p2 n2 c2] 25) = V0 at *
  refine (EA.out V0 K.out).mono ?_
  rintro e V1 ⟨rfl, q1⟩
  have K1 := Lib.hid (K.out.trans (q1.mono K.out.size))
  have E0 := Lib.hid ((q1.block w.heap.size (Array.getElem?_eq_some_iff.1 E0.out).1).trans E0.out)
  have E1 := Lib.hid ((q1.block (w.heap.size + 1) (Array.getElem?_eq_some_iff.1 E1.out).1).trans E1.out)
  obtain ⟨x0, x1, _, _⟩ := cell2 E0.out
  obtain ⟨y0, y1, _, _⟩ := cell2 E1.out
  clear EA K q1
  go_wp2_with fail
  refine (EB.out V1 K1.out).mono ?_
  rintro e V2 ⟨rfl, q2⟩
  have K2 := Lib.hid (K1.out.trans (q2.mono K1.out.size))
  have E0 := Lib.hid ((q2.block w.heap.size (Array.getElem?_eq_some_iff.1 E0.out).1).trans E0.out)
  have E1 := Lib.hid ((q2.block (w.heap.size + 1) (Array.getElem?_eq_some_iff.1 E1.out).1).trans E1.out)
  clear EB K1 q2 x0 x1 y0 y1
  by_cases ha : ea = 0
  · subst ha
    go_wp2_with fail
    refine (DA.out (by trivial) V2).mono ?_
    rintro e V3 ⟨xa, xc, xb, rfl, hx, q3⟩
    have K3 := Lib.hid ((K2.out.trans (q3.mono K2.out.size)).alloc (by have := K2.out.size; have := q3.size; omega) (.cells #[.int .u64 (s1 : Int), .slice xa n1 xc] 25))
    have E0' := (q3.block w.heap.size (Array.getElem?_eq_some_iff.1 E0.out).1).trans E0.out
    have E1' := (q3.block (w.heap.size + 1) (Array.getElem?_eq_some_iff.1 E1.out).1).trans E1.out
    have E0 := Lib.hid ((Lib.alloc_old V3 (.cells #[.int .u64 (s1 : Int), .slice xa n1 xc] 25) _ (Array.getElem?_eq_some_iff.1 E0').1).trans E0')
    have E1 := Lib.hid ((Lib.alloc_old V3 (.cells #[.int .u64 (s1 : Int), .slice xa n1 xc] 25) _ (Array.getElem?_eq_some_iff.1 E1').1).trans E1')
    have S3 := Lib.hid (SX.out _ xa xc xb (hx.below (below_alloc V3 (.cells #[.int .u64 (s1 : Int), .slice xa n1 xc] 25)) (Nat.le_refl _)) K3.out)
    obtain ⟨x0, x1, _, _⟩ := cell2 E0'
    have hlt0 := (Array.getElem?_eq_some_iff.1 E0').1
    clear E0' E1' hx q3 K2 DA SX
    go_wp2_with fail
    refine S3.out.mono ?_
    rintro e V4 ⟨rfl, q4⟩
    have K4 := Lib.hid (K3.out.trans (q4.mono K3.out.size))
    have E0 := Lib.hid ((q4.block w.heap.size (Array.getElem?_eq_some_iff.1 E0.out).1).trans E0.out)
    have E1 := Lib.hid ((q4.block (w.heap.size + 1) (Array.getElem?_eq_some_iff.1 E1.out).1).trans E1.out)
    obtain ⟨x0, x1, _, _⟩ := cell2 E0.out
    obtain ⟨y0, y1, _, _⟩ := cell2 E1.out
    have SM4 := Lib.hid (SM.out V4 K4.out)
    clear S3 K3 q4 SM
    by_cases hb0 : eb = 0
    · subst hb0
      by_cases hle : SA.size ≤ SB.size
      · have BI := BI.out (by trivial) (by trivial) hle
        have dl : decide ((SA.size : Int) ≤ (SB.size : Int)) = true := by rw [decide_eq_true_eq]; omega
        have rr : (R == R) = true := by simp
        have dz : (SA.size : Int) ≤ (SB.size : Int) := by omega
        have SL : ∀ u, (Instr.slice 9 (.string SB) none (some (.int .i64 (SA.size : Int))) none).run Try.prog u = .ok (.string (SB.extract 0 SA.size)) u := fun u => by
          have := run_slice_string_h u 9 SB Try.underlying9 .i64 (SA.size : Int) (by omega) (by omega)
          simpa using this
        obtain ⟨T, hT⟩ := named (SB.extract 0 SA.size)
        rw [← hT.out] at BI SL
        clear hT
        go_wp2_with fail
        refine SM4.out.mono ?_
        rintro e V5 ⟨rfl, q5⟩
        have K5 := Lib.hid (K4.out.trans (q5.mono K4.out.size))
        go_wp2_with fail
        refine (AW.out _).mono ?_
        rintro e w' ⟨rfl, hb⟩
        go_wp2_with fail
        go_returns
        exact ⟨rfl, K5.out.trans (hb.mono K5.out.size)⟩
      · have hRf := BN.out hle
        have dl : decide ((SA.size : Int) ≤ (SB.size : Int)) = false := by rw [decide_eq_false_iff_not]; omega
        subst hRf
        go_wp2_with fail
        refine SM4.out.mono ?_
        rintro e V5 ⟨rfl, q5⟩
        have K5 := Lib.hid (K4.out.trans (q5.mono K4.out.size))
        go_wp2_with fail
        refine (AW.out _).mono ?_
        rintro e w' ⟨rfl, hb⟩
        go_wp2_with fail
        go_returns
        exact ⟨rfl, K5.out.trans (hb.mono K5.out.size)⟩
    · have hbn : (eb != 0) = true := by simpa using hb0
      go_wp2_with fail
      refine (AW.out _).mono ?_
      rintro e w' ⟨rfl, hb⟩
      go_wp2_with fail
      go_returns
      exact ⟨rfl, K4.out.trans (hb.mono K4.out.size)⟩
  · have han : (ea != 0) = true := by simpa using ha
    have hae : (ea == 0) = false := by simpa using ha
    go_wp2_with fail
    refine (AW.out _).mono ?_
    rintro e w' ⟨rfl, hb⟩
    go_wp2_with fail
    go_returns
    exact ⟨rfl, K2.out.trans (hb.mono K2.out.size)⟩
theorem laid_out : laidOutB Try.prog = true := by kernel_rfl
theorem back_walk (s1 : Nat) (p1 : Option Addr) (n1 c1 b1 o1 : Nat) (l1 : List Wr) (_m1 : s1 < 2 ^ 64) (s2 : Nat) (p2 : Option Addr) (n2 c2 b2 o2 : Nat) (l2 : List Wr) (_m2 : s2 < 2 ^ 64) (w : World) (hA : Ws p1 n1 c1 b1 o1 l1 w) (hB : Ws p2 n2 c2 b2 o2 l2 w) :
    Calls Try.prog 6 #[batchV s1 p1 n1 c1, batchV s2 p2 n2 c2] w fun e w' => e = .returned (.bool true) ∧ Below w.heap.size w w' := by
  by_cases h : n1 ≤ 300 ∧ n2 ≤ 300
  · exact back_main s1 p1 n1 c1 b1 o1 l1 s2 p2 n2 c2 b2 o2 l2 w hA hB h.1 h.2
  · exact back_big s1 p1 n1 c1 b1 o1 l1 s2 p2 n2 c2 b2 o2 l2 w hA hB h
--LAW freshetlaw06.BatchBack back_walk batch:la batch:lb
--BEGIN
namespace BatchBackProof
open Go.ChangeShapes Go.WideShapes Go.ChangeAt Go.RowKit
open Go.ChangeMaps (open_string shut_string)
theorem own : ownKnob Try.prog.godebug = none := by kernel_rfl
set_option maxRecDepth 100000 in
theorem lifted (os : Os) (started : os.Started) (H : Type) (enc : TypeId × Value → H) :
    ReturnsInHanded {} Try.checked os 6 .any (Rows.batchBackSpec.pre6 enc Try.prog Try.f6 Rows.batchBackRow.domain false) (Rows.batchBackSpec.post enc Try.prog Try.f6 false true false false) := by
  refine returnsInHanded_of_change_sized (C := Try.checked) own started (by kernel_rfl) Try.func6
    (ChangeSpec.witness6 (enc := enc) (C := Try.checked) false ⟨#[], #[.agg #[.int .u64 0, .slice none 0 0], .agg #[.int .u64 0, .slice none 0 0]], []⟩ 8 (by kernel_rfl) (by kernel_rfl) (by kernel_rfl) (by kernel_rfl)) ?_
  intro W base args ds gs before hval0 hW _ hsz _
  have hval : ∀ (j : Nat) t v, Try.f6.params[j]? = some t → args[j]? = some v → Value.okWide Try.prog W .any base t v := hval0
  have hW' := hW
  obtain ⟨p, q, hA0, hV, rfl, hfz, hnd⟩ := hW
  have hA : DataW.TrodAll enc Try.prog W 0 (fun _ => true) true Try.f6.params.toList args.toList ds p := hA0
  rw [Try.params6] at hA hval hsz
  obtain ⟨v0, vs0, d0, ds0, p0, q0, hargs, rfl, rfl, h0, r0⟩ := trodAll_cons hA
  obtain ⟨v1, vs1, d1, ds1, p1, q1, rfl, rfl, rfl, h1, r1⟩ := trodAll_cons r0
  obtain ⟨rfl, rfl, rfl⟩ := trodAll_nil r1
  obtain rfl : args = #[v0, v1] := by cases args; simp_all
  obtain ⟨rfl, rfl⟩ := trodVars_none hV
  have k0 := h0
  obtain ⟨sq0, a0, n0, c0, b0, o0, la, rfl, m0, ia0⟩ := open_batch (hval 0 25 v0 rfl rfl) h0 hsz (j := 0) rfl rfl
  have lt0 : ∀ x ∈ p0, x.block < W.heap.size := fun x hx => hW'.lt x (by simp only [List.mem_append]; simp [hx])
  have k1 := h1
  obtain ⟨sq1, a1, n1, c1, b1, o1, lb, rfl, m1, ia1⟩ := open_batch (hval 1 25 v1 rfl rfl) h1 hsz (j := 1) rfl rfl
  have lt1 : ∀ x ∈ p1, x.block < W.heap.size := fun x hx => hW'.lt x (by simp only [List.mem_append]; simp [hx])
  clear hA0 hval0
  simp only [List.append_nil] at hW'
  refine (back_walk sq0 a0 n0 c0 b0 o0 la m0 sq1 a1 n1 c1 b1 o1 lb m1 W ia0 ia1).mono fun e W' ⟨he, hg⟩ => ?_
  subst he
  exact ⟨_, rfl, _, _, _, [], _, [], hW', (trodAll_cons_mk (shut_bool Try.underlying4 _) trodAll_mk0), (trodAll_cons_mk (Below.trod laid_out (by kernel_rfl) (of_decide_eq_true (by kernel_rfl)) k0 hg lt0) (trodAll_cons_mk (Below.trod laid_out (by kernel_rfl) (of_decide_eq_true (by kernel_rfl)) k1 hg lt1) trodAll_mk0)), rfl, hg.frame _, fun h => by cases h⟩
theorem holds : Rows.BatchBackSaid :=
  OpenClaim.holds_of_wide 6 Try.f6 rfl rfl rfl rfl rfl rfl rfl ⟨rfl, rfl, rfl, rfl, rfl⟩ rfl rfl rfl rfl rfl (by kernel_rfl) Try.func6 (by kernel_rfl)
    (of_decide_eq_true (by kernel_rfl)) (by unfold Func.isWrapper; first | (rw [if_pos (by decide +kernel)]; kernel_rfl) | (rw [if_neg (by decide +kernel)]; exact ⟨rfl, rfl⟩))
    (fun os started H enc _ => lifted os started H enc)
end BatchBackProof
--END
