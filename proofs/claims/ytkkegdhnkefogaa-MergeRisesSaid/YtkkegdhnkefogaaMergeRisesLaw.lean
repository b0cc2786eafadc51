/-
  MergeRises: what rows have at a number has rising keys, each with the value of one of their rows. Condition: at most 200 rows (the law's own).
-/
import Derived.Test.YtkkegdhnkefogaaMergeAwake
import Derived.Test.YtkkegdhnkefogaaMergePairs
import Derived.Test.YtkkegdhnkefogaaLaidOut
namespace Go.Proofs.Ytkkegdhnkefogaa
set_option maxRecDepth 100000
open Go.RowKit
/-- Behind a row that is seen only greater keys are seen. -/
theorem sel_above {q : Nat} : ∀ {l : List Rw} {z : Rw}, SortedR (z :: l) → z.seq ≤ q → ∀ y ∈ selL (sees q) (some z) l, bytesBefore z.key.toList y.key.toList = true
  | [], _, _, _, y, h => by cases h
  | x :: r, z, hs, hz, y, h => by
    have hs2 := List.pairwise_cons.1 hs
    have hzx := hs2.1 x (List.mem_cons_self ..)
    have hs3 : SortedR (x :: r) := hs2.2
    have hxr := (List.pairwise_cons.1 hs3).1
    unfold ahd at hzx
    by_cases hk : z.key.toList = x.key.toList
    · rw [if_pos hk, decide_eq_true_eq] at hzx
      have e : sees q (some z) x = false := by
        unfold sees
        simp only [hk, decide_true, Bool.not_true, Bool.false_or]
        rw [decide_eq_false (show ¬ q < z.seq by omega), Bool.and_false]
      rw [selL, if_neg (by rw [e]; simp)] at h
      rw [hk]
      exact sel_above hs3 (by omega) y h
    · rw [if_neg hk] at hzx
      have hge : ∀ y ∈ r, x.key.toList = y.key.toList ∨ bytesBefore x.key.toList y.key.toList = true := fun y hy => by
        have := hxr y hy
        unfold ahd at this
        by_cases e : x.key.toList = y.key.toList
        · exact .inl e
        · rw [if_neg e] at this; exact .inr this
      have fin : ∀ y ∈ r, bytesBefore z.key.toList y.key.toList = true := fun y hy => by
        rcases hge y hy with e | e
        · rw [← e]; exact hzx
        · exact WideShapes.bytes_trans _ _ _ hzx e
      rw [selL] at h
      split at h
      · rcases List.mem_cons.1 h with rfl | h
        · exact hzx
        · exact fin y ((selL_sub _ _ _).subset h)
      · exact fin y ((selL_sub _ _ _).subset h)
theorem sel_rise {q : Nat} : ∀ {l : List Rw} {p : Option Rw}, SortedR l → (selL (sees q) p l).Pairwise fun x y => bytesBefore x.key.toList y.key.toList = true
  | [], _, _ => List.Pairwise.nil
  | x :: r, p, hs => by
    have ih := sel_rise (q := q) (l := r) (p := some x) (List.pairwise_cons.1 hs).2
    rw [selL]
    split
    · rename_i hx
      have hq : x.seq ≤ q := by
        unfold sees at hx
        rw [Bool.and_eq_true, decide_eq_true_eq] at hx
        exact hx.1
      exact List.pairwise_cons.2 ⟨fun y hy => sel_above hs hq y hy, ih⟩
    · exact ih
theorem sel_seen {q : Nat} : ∀ {l : List Rw} {p : Option Rw} {x : Rw}, x ∈ selL (sees q) p l → x.seq ≤ q
  | [], _, _, h => by cases h
  | y :: r, p, x, h => by
    rw [selL] at h
    split at h
    · rename_i hy
      rcases List.mem_cons.1 h with rfl | h
      · unfold sees at hy
        rw [Bool.and_eq_true, decide_eq_true_eq] at hy
        exact hy.1
      · exact sel_seen h
    · exact sel_seen h
/-- A row that the pair says. -/
def saysP (q : Nat) (p : ByteArray × ByteArray) (x : Rw) : Bool := decide (x.key.toList = p.1.toList) && decide (x.val.toList = p.2.toList) && decide (x.kind = 1) && decide (x.seq ≤ q)
theorem atL_says {q : Nat} {l : List Rw} {p : ByteArray × ByteArray} (h : p ∈ atL q l) : l.any (saysP q p) = true := by
  unfold atL pairsOf at h
  obtain ⟨x, hx, rfl⟩ := List.mem_map.1 h
  obtain ⟨h1, h2⟩ := List.mem_filter.1 hx
  rw [decide_eq_true_eq] at h2
  refine List.any_eq_true.2 ⟨x, (selL_sub _ _ _).subset h1, ?_⟩
  unfold saysP
  simp [h2, sel_seen h1]
theorem atL_rise {q : Nat} {l : List Rw} (hs : SortedR l) : (atL q l).Pairwise fun a b => bytesBefore a.1.toList b.1.toList = true := by
  unfold atL pairsOf
  rw [List.pairwise_map]
  exact (sel_rise hs).sublist List.filter_sublist
theorem geq_str (a b : ByteArray) (B : Bool) (h : (!(Op.bytesLess a.toList b.toList)) = B) (u : World) : (binOp .geq 9 (.string a) (.string b)).run Try.prog u = .ok (.bool B) u := by
  have e : binOp .geq 9 (.string a) (.string b) = pure (.bool (!(Op.bytesLess a.toList b.toList))) := by simp [binOp, Op.stringOp]
  rw [e, h]
  rfl
set_option maxRecDepth 100000 in
set_option maxHeartbeats 8000000 in
theorem rises_walk (a : Option Addr) (n c b o : Nat) (l : List Rw) (sq : Int) (hsq : (Lit.int .u64 sq).wf = true) (w : World) (h0 : Rs a n c b o l w ∧ ∀ v ∈ l, RwIn v) :
    Calls Try.prog 9 #[.slice a n c, .int .u64 sq] w fun e w' => e = .returned (.bool true) ∧ Below w.heap.size w w' := by
  have hr : 0 ≤ sq ∧ sq ≤ 18446744073709551615 := by simpa [Lit.wf, IntKind.min, IntKind.max, IntKind.signed, IntKind.bits] using hsq
  obtain ⟨q, rfl⟩ : ∃ q : Nat, sq = (q : Int) := ⟨sq.toNat, by omega⟩
  clear hsq hr
  have AW := Lib.hid (fun u => mawake_any u)
  have h := h0.1
  have hIn := h0.2
  have q0 := h.cap
  have m0 := h.most
  clear h0
  by_cases g1 : (200 : Int) < (n : Int)
  · go_enter Try.func9, Try.ntmps9
    go_wp2_with (go_at_call 11; ((with_reducible refine (AW.out _).mono ?_); rintro e w1 ⟨rfl, hb1⟩))
    go_returns
    exact ⟨rfl, hb1⟩
  have hn : n ≤ 200 := by omega
  have hl := Lib.hid h.len
  have PC := Lib.hid (mat_any h (by omega) (fun x hx => ⟨(hIn x hx).1, (hIn x hx).2.1⟩) q)
  have h := Lib.hid h
  cases ho : ordR l with
  | false =>
    have ho := Lib.hid ho
    go_enter Try.func9, Try.ntmps9
    go_wp2_with (first
      | (go_at_call 17; ((with_reducible refine PC.out.mono ?_); rintro e w1 hh; obtain ⟨rfl, hb1⟩ := hh.no ho.out; have W1 := Lib.hid hb1; clear hb1))
      | (go_at_call 11; ((with_reducible refine (AW.out _).mono ?_); rintro e w6 ⟨rfl, hb6⟩; have W6 := Lib.hid (below_of W1.out hb6); clear hb6)))
    go_returns
    exact ⟨rfl, W6.out⟩
  | true =>
    have hsays := Lib.hid (fun p (hp : p ∈ atL q l) => atL_says hp)
    have hrise := Lib.hid (atL_rise (q := q) ((ordR_sorted l).1 ho))
    have ho := Lib.hid ho
    obtain ⟨L, hL⟩ := named (atL q l)
    rw [← hL.out] at hsays hrise
    go_enter Try.func9, Try.ntmps9
    go_wp2_with (go_at_call 17; ((with_reducible refine PC.out.mono ?_); rintro e w1 hh; obtain ⟨v, rfl, hv, hb1⟩ := hh.yes ho.out; rw [← hL.out] at hv; obtain ⟨vp, vc, rfl⟩ := row_shape hv; have V1 := Lib.hid hv; have W1 := Lib.hid hb1; clear hb1 hv))
    obtain ⟨m, hm⟩ := named L.length
    rw [← hm.out]
    go_loopw [7] (fun iv wr => ∃ i : Nat, i ≤ m ∧ iv = .int .i64 (i : Int) ∧ Hid (Below w1.heap.size w1 wr)) (fun iv _ => m - (intOf iv).toNat)
    case atStart => exact ⟨0, Nat.zero_le _, rfl, Lib.hid (Below.refl _ _)⟩
    case round =>
      obtain ⟨i, him, rfl, hb⟩ := hrel
      have V2 := Lib.hid (own_belowM V1.out hb.out)
      have W2 := Lib.hid (below_of W1.out hb.out)
      by_cases hlt : i < m
      · obtain ⟨p, hp⟩ : ∃ p, L[i]? = some p := ⟨_, List.getElem?_eq_getElem (by rw [← hm.out]; exact hlt)⟩
        have hany := Lib.hid (hsays.out p (List.mem_of_getElem? hp))
        have i1 : (i : Int) < (m : Int) := by omega
        have hp := Lib.hid hp
        go_wp2_with fail
        go_loopw [8, 9] (fun tv kv wq => ∃ k : Nat, k ≤ n ∧ kv = .int .i64 (k : Int) ∧ tv = .bool ((l.take k).any (saysP q p)) ∧ Hid (Below wr.heap.size wr wq)) (fun _ kv _ => n - (intOf kv).toNat)
        case atStart => exact ⟨0, Nat.zero_le _, rfl, rfl, Lib.hid (Below.refl _ _)⟩
        case round =>
          obtain ⟨k, hkn, rfl, rfl, hbq⟩ := hrel
          obtain ⟨g1, d1, e1, ec1, em1, p0, p1⟩ := own_pr (own_belowM V2.out hbq.out) hp.out
          simp only [Value.slice.injEq] at e1
          obtain ⟨rfl, _, rfl⟩ := e1
          rw [← hm.out] at ec1
          have W3 := Lib.hid (below_of W2.out hbq.out)
          by_cases hk : k < n
          · obtain ⟨x, hx, rfl, x0, x1, x2, x3⟩ := (h.out.below W3.out (Nat.le_refl _)).at4 hk
            have k1 : (k : Int) < (n : Int) := by omega
            have hnx : Hid ((l.take (k + 1)).any (saysP q p) = ((l.take k).any (saysP q p) || saysP q p x)) := Lib.hid (by rw [List.take_add_one, hx, List.any_append]; simp)
            obtain ⟨T, hT⟩ := named ((l.take k).any (saysP q p))
            rw [← hT.out] at hnx ⊢
            clear hx hT
            obtain ⟨xk, xs, xi, xv⟩ := x
            obtain ⟨pk, pv⟩ := p
            simp only at x0 x1 x2 x3 p0 p1
            cases T with
            | true =>
              have hnx2 : Hid ((l.take (k + 1)).any (saysP q (pk, pv)) = true) := Lib.hid (by rw [hnx.out]; rfl)
              clear hnx
              go_upto_region 13 with fail
              go_quiet (fail)
              go_wp2_with fail
              go_roundw
              case rel => exact ⟨k + 1, by omega, by go_num, by rw [hnx2.out], Lib.hid (below_drewN hbq.out)⟩
              case measure => simp [intOf]; omega
            | false =>
              by_cases q1 : xk.toList = pk.toList
              · have b1 : (xk.toList == pk.toList) = true := by simpa using q1
                by_cases q2 : xv.toList = pv.toList
                · have b2 : (xv.toList == pv.toList) = true := by simpa using q2
                  by_cases q3 : xi = 1
                  · have b3 : (xi == 1) = true := by rw [beq_iff_eq]; exact q3
                    by_cases q4 : xs ≤ q
                    · have b4 : (xs : Int) ≤ (q : Int) := by omega
                      have hnx2 : Hid ((l.take (k + 1)).any (saysP q (pk, pv)) = true) := Lib.hid (by rw [hnx.out]; unfold saysP; simp [q1, q2, q3, q4])
                      clear hnx q1 q2 q4
                      subst q3
                      go_upto_region 13 with fail
                      go_quiet (fail)
                      go_wp2_with fail
                      go_roundw
                      case rel => exact ⟨k + 1, by omega, by go_num, by rw [hnx2.out], Lib.hid (below_drewN hbq.out)⟩
                      case measure => simp [intOf]; omega
                    · have b4 : ¬ (xs : Int) ≤ (q : Int) := by omega
                      have hnx2 : Hid ((l.take (k + 1)).any (saysP q (pk, pv)) = false) := Lib.hid (by rw [hnx.out]; unfold saysP; simp [q1, q2, q3, q4])
                      clear hnx q1 q2 q4
                      subst q3
                      go_upto_region 13 with fail
                      go_quiet (fail)
                      go_wp2_with fail
                      go_roundw
                      case rel => exact ⟨k + 1, by omega, by go_num, by rw [hnx2.out], Lib.hid (below_drewN hbq.out)⟩
                      case measure => simp [intOf]; omega
                  · have b3 : (xi == 1) = false := by rw [beq_eq_false_iff_ne]; exact q3
                    have hnx2 : Hid ((l.take (k + 1)).any (saysP q (pk, pv)) = false) := Lib.hid (by rw [hnx.out]; unfold saysP; simp [q1, q2, q3])
                    clear hnx q1 q2 q3
                    go_upto_region 13 with fail
                    go_quiet (fail)
                    go_wp2_with fail
                    go_roundw
                    case rel => exact ⟨k + 1, by omega, by go_num, by rw [hnx2.out], Lib.hid (below_drewN hbq.out)⟩
                    case measure => simp [intOf]; omega
                · have b2 : (xv.toList == pv.toList) = false := by simpa using q2
                  have hnx2 : Hid ((l.take (k + 1)).any (saysP q (pk, pv)) = false) := Lib.hid (by rw [hnx.out]; unfold saysP; simp [q1, q2])
                  clear hnx q1 q2
                  go_upto_region 13 with fail
                  go_quiet (fail)
                  go_wp2_with fail
                  go_roundw
                  case rel => exact ⟨k + 1, by omega, by go_num, by rw [hnx2.out], Lib.hid (below_drewN hbq.out)⟩
                  case measure => simp [intOf]; omega
              · have b1 : (xk.toList == pk.toList) = false := by simpa using q1
                have hnx2 : Hid ((l.take (k + 1)).any (saysP q (pk, pv)) = false) := Lib.hid (by rw [hnx.out]; unfold saysP; simp [q1])
                clear hnx q1
                go_upto_region 13 with fail
                go_quiet (fail)
                go_wp2_with fail
                go_roundw
                case rel => exact ⟨k + 1, by omega, by go_num, by rw [hnx2.out], Lib.hid (below_drewN hbq.out)⟩
                case measure => simp [intOf]; omega
          · have hkn2 : k = n := by omega
            subst hkn2
            have k1 : ¬ (k : Int) < (k : Int) := by omega
            have hT : (l.take k).any (saysP q p) = true := by rw [← hl.out, List.take_length]; exact hany.out
            rw [hT]
            clear hany
            cases i with
            | zero =>
              obtain ⟨pk, pv⟩ := p
              simp only at p0 p1
              rw [show ((0 : Nat) : Int) = 0 from rfl] at i1 ⊢
              go_upto_region 14 with fail
              go_quiet (fail)
              go_wp2_with fail
              go_roundw
              case rel => exact ⟨1, by omega, by first | rfl | go_num, Lib.hid (below_drewN (below_of hb.out hbq.out))⟩
              case measure => simp [intOf]; omega
            | succ i =>
              obtain ⟨p', hp'⟩ : ∃ p', L[i]? = some p' := ⟨_, List.getElem?_eq_getElem (by rw [← hm.out]; omega)⟩
              obtain ⟨g2, d2, e2, ec2, em2, r0, r1⟩ := own_pr (own_belowM V2.out hbq.out) hp'
              simp only [Value.slice.injEq, Option.some.injEq, Addr.mk.injEq] at e2
              obtain ⟨⟨rfl, _⟩, _, rfl⟩ := e2
              have hbef : Op.bytesLess p'.1.toList p.1.toList = true := by
                rw [less_before]
                obtain ⟨l1, e1⟩ := List.getElem?_eq_some_iff.1 hp'
                obtain ⟨l2, e2⟩ := List.getElem?_eq_some_iff.1 hp.out
                have := List.pairwise_iff_getElem.1 hrise.out i (i + 1) l1 l2 (by omega)
                rwa [e1, e2] at this
              have GEQ := geq_str p'.1 p.1 false (by rw [hbef]; rfl)
              obtain ⟨pk, pv⟩ := p
              obtain ⟨pk', pv'⟩ := p'
              simp only at p0 p1 r0 r1 GEQ
              have i0 : (i : Int) < (m : Int) := by omega
              have i2 : i < m := by omega
              have i3 : (0 : Int) ≤ (i : Int) + 1 := by omega
              have i4 : (0 : Int) < (i : Int) + 1 := by omega
              have wr1 : wrap64 ((i : Int) + 1 - 1) = (i : Int) := by unfold wrap64; omega
              have wr2 : (i : Int) + 1 - 1 = (i : Int) := by omega
              have wr3 : wrap64 (i : Int) = (i : Int) := by unfold wrap64; omega
              have wr4 : IntKind.i64.wrap (i : Int) = (i : Int) := by simp [IntKind.wrap_i64]; omega
              have wr5 : IntKind.i64.wrap ((i : Int) + 1 - 1) = (i : Int) := by rw [wr2, wr4]
              rw [show ((i + 1 : Nat) : Int) = (i : Int) + 1 from rfl] at i1 ⊢
              clear hp' hbef
              go_upto_region 14 with fail
              go_quiet (fail)
              go_wp2_with fail
              go_roundw
              case rel => exact ⟨i + 1 + 1, by omega, by go_num, Lib.hid (below_drewN (below_of hb.out hbq.out))⟩
              case measure => simp [intOf]; omega
      · have hin : i = m := by omega
        subst hin
        have i1 : ¬ (i : Int) < (i : Int) := by omega
        go_wp2_with (go_at_call 11; ((with_reducible refine (AW.out _).mono ?_); rintro e w6 ⟨rfl, hb6⟩; have W6 := Lib.hid (below_of W2.out hb6); clear hb6))
        go_returns
        exact ⟨rfl, W6.out⟩
--LAW freshetlaw13.MergeRises rises_walk rows:l uint64:sq
--BEGIN
namespace MergeRisesProof
open Go.ChangeShapes Go.WideShapes Go.ChangeAt Go.RowKit
open Go.ChangeMaps (open_string shut_string)
theorem own : ownKnob Try.prog.godebug = none := by kernel_rfl
set_option maxRecDepth 100000 in
theorem lifted (os : Os) (started : os.Started) (H : Type) (enc : TypeId × Value → H) :
    ReturnsInHanded {} Try.checked os 9 .any (Rows.mergeRisesSpec.pre6 enc Try.prog Try.f9 Rows.mergeRisesRow.domain false) (Rows.mergeRisesSpec.post enc Try.prog Try.f9 false true false false) := by
  refine returnsInHanded_of_change_sized (C := Try.checked) own started (by kernel_rfl) Try.func9
    (ChangeSpec.witness6 (enc := enc) (C := Try.checked) false ⟨#[], #[.slice none 0 0, .int .u64 0], []⟩ 8 (by kernel_rfl) (by kernel_rfl) (by kernel_rfl) (by kernel_rfl)) ?_
  intro W base args ds gs before hval0 hW _ hsz _
  have hval : ∀ (j : Nat) t v, Try.f9.params[j]? = some t → args[j]? = some v → Value.okWide Try.prog W .any base t v := hval0
  have hW' := hW
  obtain ⟨p, q, hA0, hV, rfl, hfz, hnd⟩ := hW
  have hA : DataW.TrodAll enc Try.prog W 0 (fun _ => true) true Try.f9.params.toList args.toList ds p := hA0
  rw [Try.params9] at hA hval hsz
  obtain ⟨v0, vs0, d0, ds0, p0, q0, hargs, rfl, rfl, h0, r0⟩ := trodAll_cons hA
  obtain ⟨v1, vs1, d1, ds1, p1, q1, rfl, rfl, rfl, h1, r1⟩ := trodAll_cons r0
  obtain ⟨rfl, rfl, rfl⟩ := trodAll_nil r1
  obtain rfl : args = #[v0, v1] := by cases args; simp_all
  obtain ⟨rfl, rfl⟩ := trodVars_none hV
  obtain ⟨a0, n0, c0, rfl⟩ := okWide_slice Try.underlying25 (hval 0 25 v0 rfl rfl)
  have k0 := h0
  obtain ⟨fu0, hf0⟩ := h0
  obtain ⟨b0, o0, l, ia0⟩ := open_rows hf0 hsz (j := 0) rfl rfl
  have lt0 : ∀ x ∈ p0, x.block < W.heap.size := fun x hx => hW'.lt x (by simp only [List.mem_append]; simp [hx])
  obtain ⟨sq, rfl, rfl, rfl, m1⟩ := open_int Try.underlying31 (hval 1 31 v1 rfl rfl) h1
  clear hA0 hval0
  simp only [List.append_nil] at hW'
  refine (rises_walk a0 n0 c0 b0 o0 l sq m1 W ia0).mono fun e W' ⟨he, hg⟩ => ?_
  subst he
  exact ⟨_, rfl, _, _, _, [], _, [], hW', (trodAll_cons_mk (shut_bool Try.underlying4 _) trodAll_mk0), (trodAll_cons_mk (Below.trod laid_out (by kernel_rfl) (of_decide_eq_true (by kernel_rfl)) k0 hg lt0) (trodAll_cons_mk (shut_int Try.underlying31 m1) trodAll_mk0)), rfl, hg.frame _, fun h => by cases h⟩
theorem holds : Rows.MergeRisesSaid :=
  OpenClaim.holds_of_wide 9 Try.f9 rfl rfl rfl rfl rfl rfl rfl ⟨rfl, rfl, rfl, rfl, rfl⟩ rfl rfl rfl rfl rfl (by kernel_rfl) Try.func9 (by kernel_rfl)
    (of_decide_eq_true (by kernel_rfl)) (by unfold Func.isWrapper; first | (rw [if_pos (by decide +kernel)]; kernel_rfl) | (rw [if_neg (by decide +kernel)]; exact ⟨rfl, rfl⟩))
    (fun os started H enc _ => lifted os started H enc)
end MergeRisesProof
--END
end Go.Proofs.Ytkkegdhnkefogaa
