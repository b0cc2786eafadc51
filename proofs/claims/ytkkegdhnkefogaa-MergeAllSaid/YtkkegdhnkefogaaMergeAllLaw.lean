/-
  MergeAll: Merge answers as the document's, and the lists that are handed in stand as they were. Condition: at most 20 lists, of at most 60 rows (the law's own).
-/
import Derived.Test.YtkkegdhnkefogaaMergeOwnL
import Derived.Test.YtkkegdhnkefogaaMergeArg
import Derived.Test.YtkkegdhnkefogaaMergeAwake
import Derived.Test.YtkkegdhnkefogaaLaidOut
namespace Go.Proofs.Ytkkegdhnkefogaa
set_option maxRecDepth 100000
open Go.RowKit
theorem info_rows : (Try.prog.info? 25).map (fun i => (i.zero, i.size, i.bytes)) = some (some (.slice none 0 0), 1, 24) := by kernel_rfl
set_option maxRecDepth 100000 in
set_option maxHeartbeats 8000000 in
theorem mergeall_walk (a : Option Addr) (n c b o : Nat) (ls : List Lr) (w : World) (h0 : SlOf 1 cellsLr a n c b o ls w ∧ ∀ v ∈ ls, LrAt v w) :
    Calls Try.prog 3 #[.slice a n c] w fun e w' => e = .returned (.bool true) ∧ Below w.heap.size w w' := by
  obtain ⟨L, hLn⟩ := named (ls.map (·.l))
  have h := rl_of h0.1 h0.2
  have hIn := rl_in h0.2
  rw [← hLn.out] at h hIn
  clear h0 hLn
  obtain ⟨ti, hi, hy0, hy1, hy2⟩ := info_parts info_rows
  have hcap := h.cap
  have hmost := h.most
  have hlen := Lib.hid h.len
  have hfull : Hid (L.take n = L) := Lib.hid (by rw [← h.len, List.take_length])
  have AW := Lib.hid (fun u => mawake_any u)
  have MC := many_any h
  cases hmy : manyB L with
  | true =>
    rw [hmy] at MC
    have MC := Lib.hid MC
    go_enter Try.func3, Try.ntmps3
    go_wp2_with (first
      | (go_at_call 10; ((with_reducible refine MC.out.mono ?_); rintro e w1 ⟨rfl, hb1⟩))
      | (go_at_call 11; ((with_reducible refine (AW.out _).mono ?_); rintro e w2 ⟨rfl, hb2⟩)))
    go_returns
    exact ⟨rfl, hb1.trans (hb2.mono hb1.size)⟩
  | false =>
    rw [hmy] at MC
    have MC := Lib.hid MC
    obtain ⟨hL20, hL60⟩ := many_no hmy
    have hn : n ≤ 20 := by have := hlen.out; omega
    have hsum : Hid ((L.map List.length).sum ≤ 1200) := Lib.hid (by have := sum_few hL60; have : L.length * 60 ≤ 20 * 60 := Nat.mul_le_mul_right _ hL20; omega)
    have hsm : Hid (∀ l ∈ L, ∀ x ∈ l, SmallR x) := Lib.hid (fun l hl x hx => ⟨(hIn l hl x hx).1, (hIn l hl x hx).2.1⟩)
    obtain ⟨M, E, _, _, hMD⟩ := MergeD.both (L := L)
    have h := Lib.hid h
    have hL60 := Lib.hid hL60
    have s2 : ((E : Int) == (E : Int)) = true := by simp
    have s3 : (E == E) = true := beq_self_eq_true E
    have PC : Hid (∀ u p c, RL u.heap.size p n c L u → Calls Try.prog 13 #[.slice p n c] u fun e w' => ∃ v, e = .returned (.tuple #[v, .int .i64 (E : Int)]) ∧ w'.ownsRow u.heap.size 42 4 v M.length (rowR M) ∧ Below u.heap.size u w') := Lib.hid (fun u p c hu => (merge_any hu (by omega) hsm.out (by have := hsum.out; omega)).mono fun e w' hh => hMD _ _ _ hh)
    have RC : Hid (∀ u, Below w.heap.size w u → Calls Try.prog 14 #[.slice a n c] u fun e w' => ∃ v, e = .returned (.tuple #[v, .int .i64 (E : Int)]) ∧ w'.ownsRow u.heap.size 42 4 v M.length (rowR M) ∧ Below u.heap.size u w') := Lib.hid (fun u hu => (refmerge_any ((h.out.keep hu).mono hu.size) (by omega) (by have := hsum.out; omega)).mono fun e w' hh => hMD _ _ _ hh)
    clear hMD hmy hIn
    go_enter Try.func3, Try.ntmps3
    go_wp2_with (go_at_call 10; ((with_reducible refine MC.out.mono ?_); rintro e w1 ⟨rfl, hb1⟩; have B1 := Lib.hid hb1; clear hb1))
    go_loopw [3, 4] (fun ov iv u => ∃ (i : Nat) (vs : List Value), i ≤ n ∧ iv = .int .i64 (i : Int) ∧ Hid (OwnL w.heap.size ov vs (L.take i) u) ∧ Hid (Below w.heap.size w u)) (fun _ iv _ => n - (intOf iv).toNat)
    case atStart => exact ⟨0, [], Nat.zero_le _, rfl, Lib.hid (OwnL.nil _ _), B1⟩
    case round =>
      obtain ⟨i, vs, hi2, rfl, hO, hB⟩ := hrel
      by_cases hin : i = n
      · subst hin
        have i1 : ¬ (i : Int) < (i : Int) := by omega
        rw [hfull.out] at hO
        obtain ⟨p3, c3, rfl, hRL⟩ := hO.out.rl
        rw [hlen.out] at hO hRL ⊢
        have PC1 := Lib.hid (PC.out _ _ _ hRL)
        clear hRL
        go_wp2_with (first
          | (go_at_call 13; ((with_reducible refine PC1.out.mono ?_); rintro e w2 ⟨v2, rfl, ho2, hb2⟩; have B2 : Hid (Below w.heap.size w w2) := Lib.hid (hB.out.trans (hb2.mono hB.out.size)); have O2 := Lib.hid ho2; have L2 := Lib.hid (hO.out.below hb2); clear hb2 ho2))
          | (go_at_call 14; ((with_reducible refine (RC.out _ B2.out).mono ?_); rintro e w3 ⟨v3, rfl, ho3, hb3⟩; have B3 : Hid (Below w.heap.size w w3) := Lib.hid (B2.out.trans (hb3.mono B2.out.size)); have O3 := Lib.hid ho3; have Q3 := Lib.hid (own_below O2.out hb3); have L3 := Lib.hid (L2.out.below hb3); clear hb3 ho3)))
        clear PC1 PC RC
        go_loopw [9] (fun iv u => ∃ (k : Nat), k ≤ i ∧ iv = .int .i64 (k : Int) ∧ Hid (Below w3.heap.size w3 u)) (fun iv _ => i - (intOf iv).toNat)
        case atStart => exact ⟨0, Nat.zero_le _, rfl, Lib.hid (Below.refl _ _)⟩
        case round =>
          obtain ⟨k, hk, rfl, hB4⟩ := hrel
          have B4 : Hid (Below w.heap.size w wr) := Lib.hid (B3.out.trans (hB4.out.mono B3.out.size))
          by_cases hki : k = i
          · subst hki
            have i2 : ¬ (k : Int) < (k : Int) := by omega
            have O4 := Lib.hid (own_below O3.out hB4.out)
            have Q4 := Lib.hid (own_below Q3.out hB4.out)
            obtain ⟨a5, c5, b5, rfl, R5, _⟩ := rs_of_row Q4.out
            obtain ⟨a6, c6, b6, rfl, R6, _⟩ := rs_of_row O4.out
            have SC := Lib.hid (same_rowsB R5 R6)
            clear R5 R6
            go_wp2_with (first
              | (go_at_call 16; ((with_reducible refine SC.out.mono ?_); rintro e w7 ⟨rfl, hb7⟩; have B7 : Hid (Below w.heap.size w w7) := Lib.hid (B4.out.trans (hb7.mono B4.out.size)); clear hb7))
              | (go_at_call 11; ((with_reducible refine (AW.out _).mono ?_); rintro e w8 ⟨rfl, hb8⟩; have B8 : Hid (Below w.heap.size w w8) := Lib.hid (B7.out.trans (hb8.mono B7.out.size)); clear hb8)))
            go_returns
            exact ⟨rfl, B8.out⟩
          · have i2 : (k : Int) < (i : Int) := by omega
            have hkl : k < i := by omega
            have kw : wrap64 ((k : Int) + 1) = ((k + 1 : Nat) : Int) := by unfold wrap64; omega
            have hk0 : (0 : Int) ≤ (k : Int) := by omega
            obtain ⟨l, g, o, a, m, d, b, q, hl, rfl, hK⟩ := h.out.fix hkl
            have L4 := L3.out.below hB4.out
            obtain ⟨r5, g5, d5, rfl, f1, f2⟩ := L4.one hl
            obtain ⟨e1, e2⟩ := hK _ B4.out
            have hlm := e2.len
            have h60 : l.length ≤ 60 := hL60.out l (List.mem_of_getElem? hl)
            rw [hlm] at f1 f2
            have hSS : Hid (∀ u, Below wr.heap.size wr u → u.cell? ⟨r5, k, none⟩ = some (.slice (some ⟨g5, 0, none⟩) m d5) ∧ u.cell? ⟨g, o + k, none⟩ = some (.slice a m d) ∧ Hid (Below wr.heap.size wr u)) := Lib.hid (fun u hu => ⟨cell_keep hu f1, (hK u (B4.out.trans (hu.mono B4.out.size))).1, Lib.hid hu⟩)
            have KC : Hid (∀ u, Below wr.heap.size wr u → Calls Try.prog 15 #[.slice (some ⟨g5, 0, none⟩) m d5, .slice a m d] u fun e w' => e = .returned (.bool true) ∧ Below u.heap.size u w') := Lib.hid (fun u hu => kept_anyM (f2.below hu (Nat.le_refl _)) (hK u (B4.out.trans (hu.mono B4.out.size))).2 (by omega))
            clear hK L4 e1 e2 f1 f2 hl h60 hlm
            go_upto_region 13 with fail
            refine wp_region_held_drew (S := (fun u => u.cell? ⟨r5, k, none⟩ = some (.slice (some ⟨g5, 0, none⟩) m d5) ∧ u.cell? ⟨g, o + k, none⟩ = some (.slice a m d) ∧ Hid (Below wr.heap.size wr u))) (by kernel_rfl) (hSS.out _ (Below.refl _ _).drew) (fun hHeld => ?_)
            refine held_take (i := 0) (v := ?_) rfl (by kernel_rfl) (by kernel_rfl) (by kernel_rfl) (fun _ _ _ h => h) (by rfl) (fun w hSw => ?_) (by assumption) ?_; rotate_left 1; focus (((try dsimp only at hSw); first | (go_simp; done) | (go_simp; with_reducible rfl)))
            try simp only [Act.put, List.setIfInBounds_toArray, List.set_cons_zero, List.set_cons_succ]
            refine held_take (i := 1) (v := ?_) rfl (by kernel_rfl) (by kernel_rfl) (by kernel_rfl) (fun _ _ _ h => h) (by rfl) (fun w hSw => ?_) (by assumption) ?_; rotate_left 1; focus (((try dsimp only at hSw); first | (go_simp; done) | (go_simp; with_reducible rfl)))
            try simp only [Act.put, List.setIfInBounds_toArray, List.set_cons_zero, List.set_cons_succ]
            refine held_take (i := 2) (v := ?_) rfl (by kernel_rfl) (by kernel_rfl) (by kernel_rfl) (fun _ _ _ h => h) (by rfl) (fun w hSw => ?_) (by assumption) ?_; rotate_left 1; focus (((try dsimp only at hSw); first | (go_simp; done) | (go_simp; with_reducible rfl)))
            try simp only [Act.put, List.setIfInBounds_toArray, List.set_cons_zero, List.set_cons_succ]
            refine held_take (i := 3) (v := ?_) rfl (by kernel_rfl) (by kernel_rfl) (by kernel_rfl) (fun _ _ _ h => h) (by rfl) (fun w hSw => ?_) (by assumption) ?_; rotate_left 1; focus (((try dsimp only at hSw); first | (go_simp; done) | (go_simp; with_reducible rfl)))
            try simp only [Act.put, List.setIfInBounds_toArray, List.set_cons_zero, List.set_cons_succ]
            refine held_take (i := 4) (v := ?_) rfl (by kernel_rfl) (by kernel_rfl) (by kernel_rfl) (fun _ _ _ h => h) (by rfl) (fun w hSw => ?_) (by assumption) ?_; rotate_left 1; focus (((try dsimp only at hSw); first | (go_simp; done) | (go_simp; with_reducible rfl)))
            try simp only [Act.put, List.setIfInBounds_toArray, List.set_cons_zero, List.set_cons_succ]
            refine held_take (i := 5) (v := ?_) rfl (by kernel_rfl) (by kernel_rfl) (by kernel_rfl) (fun _ _ _ h => h) (by rfl) (fun w hSw => ?_) (by assumption) ?_; rotate_left 1; focus (((try dsimp only at hSw); first | (go_simp; done) | (go_simp; with_reducible rfl)))
            try simp only [Act.put, List.setIfInBounds_toArray, List.set_cons_zero, List.set_cons_succ]
            refine held_take (i := 6) (v := ?_) rfl (by kernel_rfl) (by kernel_rfl) (by kernel_rfl) (fun _ _ _ h => h) (by rfl) (fun w hSw => ?_) (by assumption) ?_; rotate_left 1; focus (((try dsimp only at hSw); first | (go_simp; done) | (go_simp; with_reducible rfl)))
            try simp only [Act.put, List.setIfInBounds_toArray, List.set_cons_zero, List.set_cons_succ]
            refine held_take (i := 7) (v := ?_) rfl (by kernel_rfl) (by kernel_rfl) (by kernel_rfl) (fun _ _ _ h => h) (by rfl) (fun w hSw => ?_) (by assumption) ?_; rotate_left 1; focus (((try dsimp only at hSw); first | (go_simp; done) | (go_simp; with_reducible rfl)))
            try simp only [Act.put, List.setIfInBounds_toArray, List.set_cons_zero, List.set_cons_succ]
            refine held_call (i := 8) (by kernel_rfl) rfl (by rfl) (fun K hK => ?_)
            go_simp
            refine (KC.out _ (Below.refl _ _).drew).mono ?_
            rintro e w7 ⟨rfl, hb7⟩
            have N7 : Hid (Below wr.heap.size wr w7) := Lib.hid (below_drew_in hb7)
            have B7 : Hid (Below w3.heap.size w3 w7) := Lib.hid (hB4.out.trans (N7.out.mono hB4.out.size))
            clear hb7
            refine hK.out _ _ (hSS.out _ N7.out) (fun hHeld => ?_)
            try simp only [Act.put, List.setIfInBounds_toArray, List.set_cons_zero, List.set_cons_succ]
            refine held_take (i := 9) (v := ?_) rfl (by kernel_rfl) (by kernel_rfl) (by kernel_rfl) (fun _ _ _ h => h) (by rfl) (fun w hSw => ?_) (by assumption) ?_; rotate_left 1; focus (((try dsimp only at hSw); first | (go_simp; done) | (go_simp; with_reducible rfl)))
            try simp only [Act.put, List.setIfInBounds_toArray, List.set_cons_zero, List.set_cons_succ]
            refine wpAnyH_done (by kernel_rfl) ?_ _
            go_wp2_with fail
            go_roundw
            case rel => exact ⟨k + 1, hkl, by first | rfl | rw [kw], B7⟩
            case measure => simp [intOf] <;> omega
      · have i1 : (i : Int) < (n : Int) := by omega
        have hil : i < n := by omega
        have jw : wrap64 ((i : Int) + 1) = ((i + 1 : Nat) : Int) := by unfold wrap64; omega
        obtain ⟨l, g, o, a, m, d, b, q, hl, rfl, hK⟩ := h.out.fix hil
        obtain ⟨e1, e2⟩ := hK _ hB.out
        have hlm := e2.len
        have h60 : l.length ≤ 60 := hL60.out l (List.mem_of_getElem? hl)
        have OW := Lib.hid (own_anyM e2 (by omega))
        have hti : Hid ((L.take i).length = i) := Lib.hid (by rw [List.length_take, hlen.out]; omega)
        have hsn : Hid (L.take (i + 1) = L.take i ++ [l]) := Lib.hid (by rw [List.take_add_one, hl]; rfl)
        obtain ⟨p3, c3, rfl⟩ := row_shape hO.out.row
        rw [hti.out] at hO ⊢
        have hrow := hO.out.row
        rw [hti.out] at hrow
        have hrow := Lib.hid hrow
        have hz0 : Hid (w.heap.size ≤ wr.heap.size) := Lib.hid hB.out.size
        have hlm2 : l.length = m := hlm
        have hlm2 := Lib.hid hlm2
        clear hlm hl h60 e2
        go_wp2_with (first
          | (go_at_call 12; ((with_reducible refine OW.out.mono ?_); rintro e w4 ⟨g4, c4, rfl, hg4, hr4, hb4⟩; have B4 : Hid (Below w.heap.size w w4) := Lib.hid (hB.out.trans (hb4.mono hz0.out)); have W4 := Lib.hid hb4; have G4 := Lib.hid hg4; have R4 := Lib.hid hr4; have row4 := Lib.hid (own_below hrow.out hb4); have z4 : Hid (w.heap.size ≤ w4.heap.size) := Lib.hid B4.out.size; clear hb4 hg4 hr4))
          | (at_builtin; refine wpList_append_lies _ rfl _ _ 22 rfl w.heap.size 25 ti (.slice none 0 0) 1 24 Try.underlying22 hi hy0 hy1 hy2 rfl (by decide) (.slice p3 i c3) i vs (by rfl) (row4.out.alloc _) ⟨w4.heap.size, 0, none⟩ 1 1 [.slice (some ⟨g4, 0, none⟩) m c4] (by rfl) rfl (World.news_of_block (heap_alloc_new _ _)) (by simp [Value.oneCell']) (by decide) (by unfold maxLen; omega) (by omega) (by have := z4.out; rw [World.size_alloc]; omega) _ rfl ?_; intro g' cap w5 hown hgrow hat hlt5;
              have O5 : Hid (OwnL w.heap.size (.slice (some ⟨g', 0, none⟩) (i + 1) cap) (vs ++ [.slice (some ⟨g4, 0, none⟩) m c4]) (L.take (i + 1)) w5) := Lib.hid (by
                have := OwnL.push (l := l) (c := c4) hO.out W4.out G4.out (by rw [hlm2.out]; exact R4.out) (tmp := .cells #[.slice (some ⟨g4, 0, none⟩) m c4] 25) (g' := g') (cap := cap) (by rw [hti.out, hlm2.out]; exact hown) hgrow hat
                rw [hti.out, hlm2.out] at this
                rw [hsn.out]; exact this);
              have B5 : Hid (Below w.heap.size w w5) := Lib.hid (by
                refine B4.out.trans (((below_alloc w4 _).mono z4.out).trans ⟨hgrow.os, hgrow.tape, hgrow.output, hgrow.size, fun k hk => hgrow.block k (by rw [World.size_alloc]; have := z4.out; omega) (fun e => ?_)⟩)
                have := (World.ownsRow.lt row4.out k e.symm).1
                omega);
              clear hown hgrow hat hlt5))
        go_roundw
        case rel => exact ⟨i + 1, _, hil, by first | rfl | rw [jw], O5, B5⟩
        case measure => simp [intOf] <;> omega
--LAW freshetlaw13.MergeAll mergeall_walk rls:ls
--BEGIN
namespace MergeAllProof
open Go.ChangeShapes Go.WideShapes Go.ChangeAt Go.RowKit
open Go.ChangeMaps (open_string shut_string)
theorem own : ownKnob Try.prog.godebug = none := by kernel_rfl
set_option maxRecDepth 100000 in
theorem lifted (os : Os) (started : os.Started) (H : Type) (enc : TypeId × Value → H) :
    ReturnsInHanded {} Try.checked os 3 .any (Rows.mergeAllSpec.pre6 enc Try.prog Try.f3 Rows.mergeAllRow.domain false) (Rows.mergeAllSpec.post enc Try.prog Try.f3 false true false false) := by
  refine returnsInHanded_of_change_sized (C := Try.checked) own started (by kernel_rfl) Try.func3
    (ChangeSpec.witness6 (enc := enc) (C := Try.checked) false ⟨#[], #[.slice none 0 0], []⟩ 8 (by kernel_rfl) (by kernel_rfl) (by kernel_rfl) (by kernel_rfl)) ?_
  intro W base args ds gs before hval0 hW _ hsz _
  have hval : ∀ (j : Nat) t v, Try.f3.params[j]? = some t → args[j]? = some v → Value.okWide Try.prog W .any base t v := hval0
  have hW' := hW
  obtain ⟨p, q, hA0, hV, rfl, hfz, hnd⟩ := hW
  have hA : DataW.TrodAll enc Try.prog W 0 (fun _ => true) true Try.f3.params.toList args.toList ds p := hA0
  rw [Try.params3] at hA hval hsz
  obtain ⟨v0, vs0, d0, ds0, p0, q0, hargs, rfl, rfl, h0, r0⟩ := trodAll_cons hA
  obtain ⟨rfl, rfl, rfl⟩ := trodAll_nil r0
  obtain rfl : args = #[v0] := by cases args; simp_all
  obtain ⟨rfl, rfl⟩ := trodVars_none hV
  obtain ⟨a0, n0, c0, rfl⟩ := okWide_slice Try.underlying22 (hval 0 22 v0 rfl rfl)
  have k0 := h0
  obtain ⟨fu0, hf0⟩ := h0
  obtain ⟨b0, o0, ls, ia0⟩ := open_rls hf0 hsz (j := 0) rfl rfl
  have lt0 : ∀ x ∈ p0, x.block < W.heap.size := fun x hx => hW'.lt x (by simp only [List.mem_append]; simp [hx])
  clear hA0 hval0
  simp only [List.append_nil] at hW'
  refine (mergeall_walk a0 n0 c0 b0 o0 ls W ia0).mono fun e W' ⟨he, hg⟩ => ?_
  subst he
  exact ⟨_, rfl, _, _, _, [], _, [], hW', (trodAll_cons_mk (shut_bool Try.underlying4 _) trodAll_mk0), (trodAll_cons_mk (Below.trod laid_out (by kernel_rfl) (of_decide_eq_true (by kernel_rfl)) k0 hg lt0) trodAll_mk0), rfl, hg.frame _, fun h => by cases h⟩
theorem holds : Rows.MergeAllSaid :=
  OpenClaim.holds_of_wide 3 Try.f3 rfl rfl rfl rfl rfl rfl rfl ⟨rfl, rfl, rfl, rfl, rfl⟩ rfl rfl rfl rfl rfl (by kernel_rfl) Try.func3 (by kernel_rfl)
    (of_decide_eq_true (by kernel_rfl)) (by unfold Func.isWrapper; first | (rw [if_pos (by decide +kernel)]; kernel_rfl) | (rw [if_neg (by decide +kernel)]; exact ⟨rfl, rfl⟩))
    (fun os started H enc _ => lifted os started H enc)
end MergeAllProof
--END
end Go.Proofs.Ytkkegdhnkefogaa
