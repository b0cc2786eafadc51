/-
  BlockEach: each row of a block is sought by its own place, the others behind it in order. Condition: at most 100 rows (the law's own).
-/
import Derived.Test.YtpdjndnehcpeiaaBlockSeek
import Derived.Test.YtpdjndnehcpeiaaBlockAwake
import Derived.Test.YtpdjndnehcpeiaaLaidOut
import Derived.Test.YtpdjndnehcpeiaaBlockBuilt
namespace Go.Proofs.Ytpdjndnehcpeiaa
set_option maxRecDepth 100000
open Go.RowKit
set_option maxRecDepth 100000 in
set_option maxHeartbeats 8000000 in
theorem each_walk (a : Option Addr) (n c b o : Nat) (l : List Rw) (d : Int) (hd : (Lit.int .i64 d).wf = true) (w : World) (h0 : Rs a n c b o l w ∧ ∀ v ∈ l, RwIn v) :
    Calls Try.prog 9 #[.slice a n c, .int .i64 d] w fun e w' => e = .returned (.bool true) ∧ Below w.heap.size w w' := by
  have AW := Lib.hid (fun u => awake_any u)
  have h := h0.1
  have q0 := h.cap
  have m0 := h.most
  clear h0
  by_cases g1 : (100 : Int) < (n : Int)
  · go_enter Try.func9, Try.ntmps9
    go_wp2_with (go_at_call 10; ((with_reducible refine (AW.out _).mono ?_); rintro e w1 ⟨rfl, hb1⟩))
    go_returns
    exact ⟨rfl, hb1⟩
  have B1 := Lib.hid (build_any d h)
  have hl := Lib.hid h.len
  have hErr := Lib.hid (@buildB_err l d)
  have hIs := Lib.hid (@buildB_isB' l d)
  obtain ⟨⟨S, e1⟩, hS⟩ := named (buildB l d)
  rw [← hS.out] at B1 hErr hIs
  simp only at B1 hErr hIs
  have h := Lib.hid h
  by_cases he : e1 = 0
  · subst he
    obtain ⟨D, hD, hB⟩ := hIs.out rfl
    clear hD
    have hB := Lib.hid hB
    have ho := Lib.hid (chkA_ok hB.out.1).2.2.1
    have hSl : Hid (S.length ≤ 1048576) := Lib.hid (by have := hB.out.2.2; omega)
    clear hS hErr hIs
    go_enter Try.func9, Try.ntmps9
    go_wp2_with (go_at_call 12; ((with_reducible refine B1.out.mono ?_); rintro e w1 ⟨rfl, hb1⟩; have W1 := Lib.hid hb1; clear hb1))
    go_loopw [7] (fun i wr => ∃ j : Nat, j ≤ n ∧ i = .int .i64 (j : Int) ∧ Below w.heap.size w wr) (fun i _ => n - (intOf i).toNat)
    case atStart => exact ⟨0, Nat.zero_le _, rfl, W1.out⟩
    case round =>
      clear W1
      obtain ⟨j, hj, rfl, hb⟩ := hrel
      have hb := Lib.hid hb
      by_cases hlt : j < n
      · have RR := Lib.hid (h.out.below hb.out (Nat.le_refl _))
        obtain ⟨x, hx, rfl, x0, x1, x2, x3⟩ := RR.out.at4 hlt
        have hpl : Hid (plc l x.key x.seq = j) := Lib.hid (by
          have hjl : j < l.length := by rw [hl.out]; exact hlt
          have e0 : rwAt l j = x := rwAt_some hx
          have p1 := place_iff ho.out (k := x.key) (q := x.seq) hjl
          rw [e0] at p1
          have hself : ahd x x.key x.seq = false := ahd_irrefl ⟨rfl, rfl⟩
          have p2 : ¬ j < plc l x.key x.seq := fun hh => by rw [p1.2 hh] at hself; cases hself
          rcases Nat.eq_zero_or_pos j with hz | hpos
          · omega
          · have p3 := (place_iff ho.out (k := x.key) (q := x.seq) (show j - 1 < l.length by omega)).1 (by
              have := (ordR_iff l).1 ho.out (j - 1) (rwAt l (j - 1)) x (by unfold rwAt; rw [List.getD_eq_getElem?_getD, List.getElem?_eq_getElem (show j - 1 < l.length by omega)]; rfl) (by rw [show j - 1 + 1 = j by omega]; exact hx)
              exact this)
            omega)
        have SC := Lib.hid (fun u => seek_any S hSl.out x.key x.seq u)
        have i0 : (j : Int) < (n : Int) := by omega
        have SU := slr_from (some ⟨b, o, none⟩) n c j (by omega) (j : Int) rfl
        have RF := Lib.hid (fun u (hu : Below wr.heap.size wr u) => (RR.out.below hu (Nat.le_refl _)).from (k := j) (by omega))
        obtain ⟨QA, hQA⟩ := named (fromA (some ⟨b, o, none⟩) c j)
        rw [← hQA.out] at SU RF
        obtain ⟨xk, xs, xi, xv⟩ := x
        simp only at x0 x1 x2 x3 hpl SC
        have y0 := x0
        have y1 := x1
        clear hx hQA
        go_upto_region 9 with fail
        refine wp_region_held_drew (S := (fun v => (v.cell? ⟨b, o + j * 4, none⟩ = some (.string xk) ∧ v.cell? ⟨b, o + j * 4 + 1, none⟩ = some (.int .u64 (xs : Int))) ∧ Hid (Below wr.heap.size wr v))) (by kernel_rfl) (⟨⟨x0, x1⟩, Lib.hid (Below.refl wr.heap.size wr).drew⟩) (fun hHeld => ?_)
        refine held_take (i := 0) (v := ?_) rfl (by kernel_rfl) (by kernel_rfl) (by kernel_rfl) (fun _ _ _ h => h) (by rfl) (fun w hSw => ?_) (by assumption) ?_; rotate_left 1; focus (((try dsimp only at hSw); first | (go_simp; done) | (go_simp; with_reducible rfl)))
        try simp only [Act.put, List.setIfInBounds_toArray, List.set_cons_zero, List.set_cons_succ]
        refine held_take (i := 1) (v := ?_) rfl (by kernel_rfl) (by kernel_rfl) (by kernel_rfl) (fun _ _ _ h => h) (by rfl) (fun w hSw => ?_) (by assumption) ?_; rotate_left 1; focus (((try dsimp only at hSw); first | (go_simp; done) | (go_simp; with_reducible rfl)))
        try simp only [Act.put, List.setIfInBounds_toArray, List.set_cons_zero, List.set_cons_succ]
        refine held_take (i := 2) (v := ?_) rfl (by kernel_rfl) (by kernel_rfl) (by kernel_rfl) (fun _ _ _ h => h) (by rfl) (fun w hSw => ?_) (by assumption) ?_; rotate_left 1; focus (((try dsimp only at hSw); first | (go_simp; done) | (go_simp; with_reducible rfl)))
        try simp only [Act.put, List.setIfInBounds_toArray, List.set_cons_zero, List.set_cons_succ]
        refine held_take (i := 3) (v := ?_) rfl (by kernel_rfl) (by kernel_rfl) (by kernel_rfl) (fun _ _ _ h => h) (by rfl) (fun w hSw => ?_) (by assumption) ?_; rotate_left 1; focus (((try dsimp only at hSw); first | (go_simp; done) | (go_simp; with_reducible rfl)))
        try simp only [Act.put, List.setIfInBounds_toArray, List.set_cons_zero, List.set_cons_succ]
        refine held_take (i := 4) (v := ?_) rfl (by kernel_rfl) (by kernel_rfl) (by kernel_rfl) (fun _ _ _ h => h) (by rfl) (fun w hSw => ?_) (by assumption) ?_; rotate_left 1; focus (((try dsimp only at hSw); first | (go_simp; done) | (go_simp; with_reducible rfl)))
        try simp only [Act.put, List.setIfInBounds_toArray, List.set_cons_zero, List.set_cons_succ]
        refine held_take (i := 5) (v := ?_) rfl (by kernel_rfl) (by kernel_rfl) (by kernel_rfl) (fun _ _ _ h => h) (by rfl) (fun w hSw => ?_) (by assumption) ?_; rotate_left 1; focus (((try dsimp only at hSw); first | (go_simp; done) | (go_simp; with_reducible rfl)))
        try simp only [Act.put, List.setIfInBounds_toArray, List.set_cons_zero, List.set_cons_succ]
        refine held_take (i := 6) (v := ?_) rfl (by kernel_rfl) (by kernel_rfl) (by kernel_rfl) (fun _ _ _ h => h) (by rfl) (fun w hSw => ?_) (by assumption) ?_; rotate_left 1; focus (((try dsimp only at hSw); first | (go_simp; done) | (go_simp; with_reducible rfl)))
        try simp only [Act.put, List.setIfInBounds_toArray, List.set_cons_zero, List.set_cons_succ]
        refine held_take (i := 7) (v := ?_) rfl (by kernel_rfl) (by kernel_rfl) (by kernel_rfl) (fun _ _ _ h => h) (by rfl) (fun w hSw => ?_) (by assumption) ?_; rotate_left 1; focus (((try dsimp only at hSw); first | (go_simp; done) | (go_simp; with_reducible rfl)))
        try simp only [Act.put, List.setIfInBounds_toArray, List.set_cons_zero, List.set_cons_succ]
        refine held_take (i := 8) (v := ?_) rfl (by kernel_rfl) (by kernel_rfl) (by kernel_rfl) (fun _ _ _ h => h) (by rfl) (fun w hSw => ?_) (by assumption) ?_; rotate_left 1; focus (((try dsimp only at hSw); first | (go_simp; done) | (go_simp; with_reducible rfl)))
        try simp only [Act.put, List.setIfInBounds_toArray, List.set_cons_zero, List.set_cons_succ]
        refine held_take (i := 9) (v := ?_) rfl (by kernel_rfl) (by kernel_rfl) (by kernel_rfl) (fun _ _ _ h => h) (by rfl) (fun w hSw => ?_) (by assumption) ?_; rotate_left 1; focus (((try dsimp only at hSw); first | (go_simp; done) | (go_simp; with_reducible rfl)))
        try simp only [Act.put, List.setIfInBounds_toArray, List.set_cons_zero, List.set_cons_succ]
        refine held_take (i := 10) (v := ?_) rfl (by kernel_rfl) (by kernel_rfl) (by kernel_rfl) (fun _ _ _ h => h) (by rfl) (fun w hSw => ?_) (by assumption) ?_; rotate_left 1; focus (((try dsimp only at hSw); first | (go_simp; done) | (go_simp; with_reducible rfl)))
        try simp only [Act.put, List.setIfInBounds_toArray, List.set_cons_zero, List.set_cons_succ]
        refine held_call (i := 11) (by kernel_rfl) rfl (by rfl) (fun K hK => ?_)
        go_simp
        (go_at_call 22; ((with_reducible refine (SC.out _).mono ?_); rintro e u2 hh; obtain ⟨a2, c2, b2, o2, rfl, hR2, hb2⟩ := hh.yes hB.out))
        rw [hpl.out, hl.out] at hR2 ⊢
        have B2 := Lib.hid (below_of (w := wr) (Below.refl wr.heap.size wr).drew hb2)
        have R2 := Lib.hid hR2
        clear hb2 hR2
        refine hK.out _ _ (⟨⟨cell_keep B2.out x0, cell_keep B2.out x1⟩, B2⟩) (fun hHeld => ?_)
        try simp only [Act.put, List.setIfInBounds_toArray, List.set_cons_zero, List.set_cons_succ]
        refine held_take (i := 12) (v := ?_) rfl (by kernel_rfl) (by kernel_rfl) (by kernel_rfl) (fun _ _ _ h => h) (by rfl) (fun w hSw => ?_) (by assumption) ?_; rotate_left 1; focus (((try dsimp only at hSw); first | (go_simp; done) | (go_simp; with_reducible rfl)))
        try simp only [Act.put, List.setIfInBounds_toArray, List.set_cons_zero, List.set_cons_succ]
        refine held_take (i := 13) (v := ?_) rfl (by kernel_rfl) (by kernel_rfl) (by kernel_rfl) (fun _ _ _ h => h) (by rfl) (fun w hSw => ?_) (by assumption) ?_; rotate_left 1; focus (((try dsimp only at hSw); first | (go_simp; done) | (go_simp; with_reducible rfl)))
        try simp only [Act.put, List.setIfInBounds_toArray, List.set_cons_zero, List.set_cons_succ]
        refine held_take (i := 14) (v := ?_) rfl (by kernel_rfl) (by kernel_rfl) (by kernel_rfl) (fun _ _ _ h => h) (by rfl) (fun w hSw => ?_) (by assumption) ?_; rotate_left 1; focus (((try dsimp only at hSw); first | (go_simp; done) | (go_simp; with_reducible rfl)))
        try simp only [Act.put, List.setIfInBounds_toArray, List.set_cons_zero, List.set_cons_succ]
        refine held_take (i := 15) (v := ?_) rfl (by kernel_rfl) (by kernel_rfl) (by kernel_rfl) (fun _ _ _ h => h) (by rfl) (fun w hSw => ?_) (by assumption) ?_; rotate_left 1; focus (((try dsimp only at hSw); first | (go_simp; done) | (go_simp; with_reducible rfl)))
        try simp only [Act.put, List.setIfInBounds_toArray, List.set_cons_zero, List.set_cons_succ]
        refine held_take (i := 16) (v := ?_) rfl (by kernel_rfl) (by kernel_rfl) (by kernel_rfl) (fun _ _ _ h => h) (by rfl) (fun w hSw => ?_) (by assumption) ?_; rotate_left 1; focus (((try dsimp only at hSw); first | (go_simp; done) | (go_simp; with_reducible rfl)))
        try simp only [Act.put, List.setIfInBounds_toArray, List.set_cons_zero, List.set_cons_succ]
        refine wpAnyH_done (by kernel_rfl) ?_ _
        have SR := Lib.hid (same_rowsB R2.out (RF.out u2 B2.out))
        have W2 := Lib.hid (below_of hb.out B2.out)
        go_wp2_with (go_at_call 21; ((with_reducible refine SR.out.mono ?_); rintro e u3 ⟨rfl, hb3⟩; have W3 := Lib.hid (below_of W2.out hb3); clear hb3))
        go_roundw
        case rel => exact ⟨j + 1, by omega, by go_num, W3.out⟩
        case measure => simp [intOf]; omega
      · have i0 : ¬ (j : Int) < (n : Int) := by omega
        go_wp2_with (go_at_call 10; ((with_reducible refine (AW.out _).mono ?_); rintro e w3 ⟨rfl, hb3⟩; have W3 := Lib.hid (below_of hb.out hb3); clear hb3))
        go_returns
        exact ⟨rfl, W3.out⟩
  · have hs : S = [] := hErr.out he
    have q1 : ((e1 : Int) != 0) = true := by rw [bne_iff_ne]; omega
    subst hs
    clear hS hErr hIs
    go_enter Try.func9, Try.ntmps9
    go_wp2_with (first
      | (go_at_call 12; ((with_reducible refine B1.out.mono ?_); rintro e w1 ⟨rfl, hb1⟩; have W1 := Lib.hid hb1; clear hb1))
      | (go_at_call 10; ((with_reducible refine (AW.out _).mono ?_); rintro e w3 ⟨rfl, hb3⟩; have W3 := Lib.hid (below_of W1.out hb3); clear hb3)))
    go_returns
    exact ⟨rfl, W3.out⟩
--LAW freshetlaw11.BlockEach each_walk rows:ra int:d
--BEGIN
namespace BlockEachProof
open Go.ChangeShapes Go.WideShapes Go.ChangeAt Go.RowKit
open Go.ChangeMaps (open_string shut_string)
theorem own : ownKnob Try.prog.godebug = none := by kernel_rfl
set_option maxRecDepth 100000 in
theorem lifted (os : Os) (started : os.Started) (H : Type) (enc : TypeId × Value → H) :
    ReturnsInHanded {} Try.checked os 9 .any (Rows.blockEachSpec.pre6 enc Try.prog Try.f9 Rows.blockEachRow.domain false) (Rows.blockEachSpec.post enc Try.prog Try.f9 false true false false) := by
  refine returnsInHanded_of_change_sized (C := Try.checked) own started (by kernel_rfl) Try.func9
    (ChangeSpec.witness6 (enc := enc) (C := Try.checked) false ⟨#[], #[.slice none 0 0, .int .i64 0], []⟩ 8 (by kernel_rfl) (by kernel_rfl) (by kernel_rfl) (by kernel_rfl)) ?_
  intro W base args ds gs before hval0 hW _ hsz _
  have hval : ∀ (j : Nat) t v, Try.f9.params[j]? = some t → args[j]? = some v → Value.okWide Try.prog W .any base t v := hval0
  have hW' := hW
  obtain ⟨p, q, hA0, hV, rfl, hfz, hnd⟩ := hW
  have hA : DataW.TrodAll enc Try.prog W 0 (fun _ => true) true Try.f9.params.toList args.toList ds p := hA0
  rw [Try.params9] at hA hval hsz
  obtain ⟨v0, vs0, d0, ds0, p0, q0, hargs, rfl, rfl, h0, r0⟩ := trodAll_cons hA
  obtain ⟨v1, vs1, d1, ds1, p1, q1, rfl, rfl, rfl, h1, r1⟩ := trodAll_cons r0
  obtain ⟨rfl, rfl, rfl⟩ := trodAll_nil r1
  obtain rfl : args = #[v0, v1] := by cases args; simp_all
  obtain ⟨rfl, rfl⟩ := trodVars_none hV
  obtain ⟨a0, n0, c0, rfl⟩ := okWide_slice Try.underlying22 (hval 0 22 v0 rfl rfl)
  have k0 := h0
  obtain ⟨fu0, hf0⟩ := h0
  obtain ⟨b0, o0, ra, ia0⟩ := open_rows hf0 hsz (j := 0) rfl rfl
  have lt0 : ∀ x ∈ p0, x.block < W.heap.size := fun x hx => hW'.lt x (by simp only [List.mem_append]; simp [hx])
  obtain ⟨d, rfl, rfl, rfl, m1⟩ := open_int Try.underlying3 (hval 1 3 v1 rfl rfl) h1
  clear hA0 hval0
  simp only [List.append_nil] at hW'
  refine (each_walk a0 n0 c0 b0 o0 ra d m1 W ia0).mono fun e W' ⟨he, hg⟩ => ?_
  subst he
  exact ⟨_, rfl, _, _, _, [], _, [], hW', (trodAll_cons_mk (shut_bool Try.underlying4 _) trodAll_mk0), (trodAll_cons_mk (Below.trod laid_out (by kernel_rfl) (of_decide_eq_true (by kernel_rfl)) k0 hg lt0) (trodAll_cons_mk (shut_int Try.underlying3 m1) trodAll_mk0)), rfl, hg.frame _, fun h => by cases h⟩
theorem holds : Rows.BlockEachSaid :=
  OpenClaim.holds_of_wide 9 Try.f9 rfl rfl rfl rfl rfl rfl rfl ⟨rfl, rfl, rfl, rfl, rfl⟩ rfl rfl rfl rfl rfl (by kernel_rfl) Try.func9 (by kernel_rfl)
    (of_decide_eq_true (by kernel_rfl)) (by unfold Func.isWrapper; first | (rw [if_pos (by decide +kernel)]; kernel_rfl) | (rw [if_neg (by decide +kernel)]; exact ⟨rfl, rfl⟩))
    (fun os started H enc _ => lifted os started H enc)
end BlockEachProof
--END
end Go.Proofs.Ytpdjndnehcpeiaa
