/-
  BatchOnly: bytes that are read are what is written of what they tell. No condition.
-/
import Derived.Test.YtdlbifcfkgmpcaaBatchAwake
import Derived.Test.YtdlbifcfkgmpcaaBatchRows
import Derived.Test.YtdlbifcfkgmpcaaBatchMath3
namespace Go.Proofs.Ytdlbifcfkgmpcaa
open Go.RowKit
set_option maxRecDepth 100000 in
set_option maxHeartbeats 4000000 in
theorem only_walk (s : ByteArray) (hs : s.size ≤ reachBytes) (w : World) :
    Calls Try.prog 7 #[.string s] w fun e w' => e = .returned (.bool true) ∧ Below w.heap.size w w' := by
  have AW := Lib.hid fun u => awake_any u
  have D := decode_main s hs w
  rcases decB_way s.data.toList with hd | ⟨seq, xs, hd, hchk, henc, hseq, hfit⟩
  · have D : Hid (Calls Try.prog 17 #[.string s] w fun e w' => e = .returned (.tuple #[batchV 0 none 0 0, .int .i64 7]) ∧ Below w.heap.size w w') := Lib.hid (D.mono fun e w' hP => by
      unfold DecodedB at hP
      rw [hd] at hP
      obtain ⟨a, c, b, he, _, hz, hb⟩ := hP
      obtain ⟨rfl, rfl⟩ := hz rfl
      exact ⟨he, hb⟩)
    clear hd
    go_enter Try.func7, Try.ntmps7
    go_wp2_with fail
    refine D.out.mono ?_
    rintro e w1 ⟨rfl, b1⟩
    have B1 := Lib.hid (b1.alloc b1.size (.cells #[.int .u64 0, .slice none 0 0] 25))
    clear D b1
    go_wp2_with fail
    refine (AW.out _).mono ?_
    rintro e w2 ⟨rfl, b2⟩
    have b2 := Lib.hid (B1.out.trans (b2.mono B1.out.size))
    go_wp2_with fail
    go_returns
    exact ⟨rfl, b2.out⟩
  · have hEs : (⟨(encB seq xs).toArray⟩ : ByteArray) = s := by
      rw [henc]
    obtain ⟨n, hn⟩ := named xs.length
    have D : Hid (Calls Try.prog 17 #[.string s] w fun e w' => ∃ a c b, e = .returned (.tuple #[batchV seq a n c, .int .i64 0]) ∧ Ws a n c b 0 xs w' ∧ Below w.heap.size w w') := Lib.hid (D.mono fun e w' hP => by
      unfold DecodedB at hP
      rw [hd] at hP
      obtain ⟨a, c, b, he, hw, _, hb⟩ := hP
      rw [hn.out]
      exact ⟨a, c, b, he, hw, hb⟩)
    have hchk := Lib.hid hchk
    clear hd henc hfit
    go_enter Try.func7, Try.ntmps7
    go_wp2_with fail
    refine D.out.mono ?_
    rintro e w1 ⟨a, c, b, rfl, hws, b1⟩
    have E0 := Lib.hid (heap_alloc_new w1 (.cells #[.int .u64 (seq : Int), .slice a n c] 25))
    have B1 := Lib.hid (b1.alloc b1.size (.cells #[.int .u64 (seq : Int), .slice a n c] 25))
    have W1 := Lib.hid (hws.below (below_alloc w1 (.cells #[.int .u64 (seq : Int), .slice a n c] 25)) (Nat.le_refl _))
    have EN := encode_good W1.out hchk.out
    rw [hEs] at EN
    have EN := Lib.hid EN
    clear D b1 hws hEs
    go_wp2_with fail
    generalize w1.alloc (.cells #[.int .u64 (seq : Int), .slice a n c] 25) = V1 at *
    generalize w1.heap.size = N1 at *
    refine EN.out.mono ?_
    rintro e w2 ⟨rfl, b2⟩
    have E2 : Hid (w2.heap[N1]? = some (.cells #[.int .u64 (seq : Int), .slice a n c] 25 (0, 0))) := Lib.hid ((b2.block N1 (Array.getElem?_eq_some_iff.1 E0.out).1).trans E0.out)
    have B2 := Lib.hid (B1.out.trans (b2.mono B1.out.size))
    have W2 := Lib.hid (W1.out.below b2 (Nat.le_refl _))
    have RW : Hid (Calls Try.prog 20 #[.agg #[.int .u64 (seq : Int), .slice a n c]] w2.drew fun e w' => (∃ g, e = .returned (.slice (some ⟨g, 0, none⟩) n n)) ∧ Below w2.heap.size w2 w') := Lib.hid ((rows_good (W2.out.below (Below.refl _ w2).drew (Nat.le_refl _)) hchk.out).mono fun e w' ⟨⟨g, he, _⟩, hb⟩ => ⟨⟨g, he⟩, ⟨hb.os, hb.tape, hb.output, hb.size, hb.block⟩⟩)
    obtain ⟨y0, y1, _, _⟩ := cell2 E2.out
    have s2 : Hid (w2.cell? ⟨N1, 0, none⟩ = some (.int .u64 (seq : Int)) ∧ w2.cell? ⟨N1, 1, none⟩ = some (.slice a n c)) := Lib.hid ⟨y0, y1⟩
    clear EN b2 E0 B1 W1
    go_upto_region 5 with fail
    go_region_held (fun v => v.cell? ⟨N1, 0, none⟩ = some (.int .u64 (seq : Int)) ∧ v.cell? ⟨N1, 1, none⟩ = some (.slice a n c))
      (first
        | with_reducible exact s4.out
        | with_reducible exact s3.out
        | exact s2.out)
      (first
        | (go_at_call 20
           go_loud (
             with_reducible refine RW.out.mono ?_
             rintro e w3 ⟨⟨g, rfl⟩, q3⟩
             have q3' : Hid (Below w2.heap.size w2 w3) := Lib.hid q3
             have s3 : Hid (w3.cell? ⟨N1, 0, none⟩ = some (.int .u64 (seq : Int)) ∧ w3.cell? ⟨N1, 1, none⟩ = some (.slice a n c)) := Lib.hid ⟨(q3'.out.cell (p := ⟨N1, 0, none⟩) (World.block_lt_of_cell? _ _ s2.out.1)).trans s2.out.1, (q3'.out.cell (p := ⟨N1, 1, none⟩) (World.block_lt_of_cell? _ _ s2.out.2)).trans s2.out.2⟩))
        | (go_at_call 10
           ((with_reducible refine (AW.out _).mono ?_); rintro e w4 ⟨rfl, q4⟩)
           have q4' : Hid (Below w2.heap.size w2 w4) := Lib.hid (q3'.out.trans (q4.mono q3'.out.size))
           have s4 : Hid (w4.cell? ⟨N1, 0, none⟩ = some (.int .u64 (seq : Int)) ∧ w4.cell? ⟨N1, 1, none⟩ = some (.slice a n c)) := Lib.hid ⟨(q4'.out.cell (p := ⟨N1, 0, none⟩) (World.block_lt_of_cell? _ _ s2.out.1)).trans s2.out.1, (q4'.out.cell (p := ⟨N1, 1, none⟩) (World.block_lt_of_cell? _ _ s2.out.2)).trans s2.out.2⟩))
    all_goals go_wp2
    all_goals go_returns
    all_goals exact ⟨rfl, B2.out.trans (q4'.out.mono B2.out.size)⟩
--LAW freshetlaw06.BatchOnly only_walk string:s
--BEGIN
namespace BatchOnlyProof
open Go.ChangeShapes Go.WideShapes Go.ChangeAt Go.RowKit
open Go.ChangeMaps (open_string shut_string)
theorem own : ownKnob Try.prog.godebug = none := by kernel_rfl
set_option maxRecDepth 100000 in
theorem lifted (os : Os) (started : os.Started) (H : Type) (enc : TypeId × Value → H) :
    ReturnsInHanded {} Try.checked os 7 .any (Rows.batchOnlySpec.pre6 enc Try.prog Try.f7 Rows.batchOnlyRow.domain false) (Rows.batchOnlySpec.post enc Try.prog Try.f7 false true false false) := by
  refine returnsInHanded_of_change_sized (C := Try.checked) own started (by kernel_rfl) Try.func7
    (ChangeSpec.witness6 (enc := enc) (C := Try.checked) false ⟨#[], #[.string .empty], []⟩ 8 (by kernel_rfl) (by kernel_rfl) (by kernel_rfl) (by kernel_rfl)) ?_
  intro W base args ds gs before hval0 hW _ hsz _
  have hval : ∀ (j : Nat) t v, Try.f7.params[j]? = some t → args[j]? = some v → Value.okWide Try.prog W .any base t v := hval0
  have hW' := hW
  obtain ⟨p, q, hA0, hV, rfl, hfz, hnd⟩ := hW
  have hA : DataW.TrodAll enc Try.prog W 0 (fun _ => true) true Try.f7.params.toList args.toList ds p := hA0
  rw [Try.params7] at hA hval hsz
  obtain ⟨v0, vs0, d0, ds0, p0, q0, hargs, rfl, rfl, h0, r0⟩ := trodAll_cons hA
  obtain ⟨rfl, rfl, rfl⟩ := trodAll_nil r0
  obtain rfl : args = #[v0] := by cases args; simp_all
  obtain ⟨rfl, rfl⟩ := trodVars_none hV
  obtain ⟨s, rfl, rfl, rfl, m0⟩ := open_string Try.underlying9 (hval 0 9 v0 rfl rfl) h0
  have z0 : s.size ≤ reachBytes := by have := sized_string hsz (j := 0) (t := 9) (bytes := s.data.toList) rfl rfl; simpa using this
  clear hA0 hval0
  simp only [List.append_nil] at hW'
  refine (only_walk s z0 W).mono fun e W' ⟨he, hg⟩ => ?_
  subst he
  exact ⟨_, rfl, _, _, _, [], [], [], hW', (trodAll_cons_mk (shut_bool Try.underlying4 _) trodAll_mk0), (trodAll_cons_mk (shut_string Try.underlying9 m0) trodAll_mk0), rfl, hg.frame _, fun h => by cases h⟩
theorem holds : Rows.BatchOnlySaid :=
  OpenClaim.holds_of_wide 7 Try.f7 rfl rfl rfl rfl rfl rfl rfl ⟨rfl, rfl, rfl, rfl, rfl⟩ rfl rfl rfl rfl rfl (by kernel_rfl) Try.func7 (by kernel_rfl)
    (of_decide_eq_true (by kernel_rfl)) (by unfold Func.isWrapper; first | (rw [if_pos (by decide +kernel)]; kernel_rfl) | (rw [if_neg (by decide +kernel)]; exact ⟨rfl, rfl⟩))
    (fun os started H enc _ => lifted os started H enc)
end BatchOnlyProof
--END
