/-
  The contract of the document's Decode. Condition: a text within reach.
-/
import Derived.Test.YtaanclnppfpocaaBatchWriteRef
import Derived.Test.YtaanclnppfpocaaBatchCheckRef
import Derived.Deep.DrawnRows
namespace Go.Proofs.Ytaanclnppfpocaa
open Go.RowKit
theorem decW_fits {l : List UInt8} {x : Wr} {k : Nat} (h : decW l = some (x, k)) : 1 ≤ k ∧ k ≤ l.length := by
  cases l with
  | nil => cases h
  | cons b r =>
    have h1 := field_fits (l := r) (x := 520)
    have h2 := field_fits (l := r.drop (Code.rdField r 520).2.1) (x := 2048)
    rw [List.length_drop] at h2
    rw [List.length_cons]
    simp only [decW] at h
    split at h
    · split at h
      · cases h
      · split at h
        · cases h
        · simp only [Option.some.injEq, Prod.mk.injEq] at h
          obtain ⟨_, rfl⟩ := h
          omega
    · split at h
      · split at h
        · cases h
        · simp only [Option.some.injEq, Prod.mk.injEq] at h
          obtain ⟨_, rfl⟩ := h
          omega
      · cases h
/-- The zero answer. -/
theorem zeroB (w V : World) (l : List UInt8) (hE : decB l = (0, [], 7)) (hb : Below w.heap.size w V) {e : Ending} (he : e = .returned (.tuple #[batchV 0 none 0 0, .int .i64 7])) : DecodedB l w e V := by
  unfold DecodedB
  rw [hE]
  exact ⟨none, 0, 0, he, ⟨rfl, Nat.le_refl _, by omega, fun h => absurd h (by simp), WrsAt.nil _ _ _, fun x hx => by cases hx⟩, fun _ => ⟨rfl, rfl⟩, hb⟩
theorem slice_list (s : ByteArray) (n : Nat) (hn : n ≤ s.size) (x : Int) (hx : x = (n : Int)) (u : World) : (Instr.slice 9 (.string s) (some (.int .i64 x)) none none).run Try.prog u = .ok (.string (s.extract n s.size)) u := by
  subst hx
  exact run_slice_string_l u 9 s Try.underlying9 .i64 (n : Int) (by omega) (by omega)
set_option maxRecDepth 100000 in
set_option maxHeartbeats 8000000 in
theorem refdecode_main (s : ByteArray) (hs : s.size ≤ reachBytes) (w : World) : Calls Try.prog 16 #[.string s] w (DecodedB s.data.toList w) := by
  have hmx : s.size ≤ maxLen := by unfold reachBytes at hs; unfold maxLen; omega
  have hm9 : s.size ≤ 9223372036854775807 := hmx
  have U1 := Lib.hid fun u => refuint_any s hmx u
  have z1 := Code.rd_size s.data.toList
  rw [size_list] at z1
  have U2 := Lib.hid fun u => refuint_any (s.extract (Code.rd 0 s.data.toList).2.1 s.size) (by rw [drop_size]; omega) u
  have z2 := Code.rd_size (s.extract (Code.rd 0 s.data.toList).2.1 s.size).data.toList
  rw [size_list, drop_size] at z2
  rw [drop_list] at U2 z2
  have f1 := Code.rd_fits s.data.toList
  have hBad : Hid (headBad s.data.toList → decB s.data.toList = (0, [], 7)) := Lib.hid fun h => if_pos h
  have hGood : Hid (¬ headBad s.data.toList → decB s.data.toList = match decL (Code.rd 0 (s.data.toList.drop (Code.rd 0 s.data.toList).2.1)).1 (restB s.data.toList) with
      | none => (0, [], 7)
      | some (xs, r) => if r = [] ∧ chkB (Code.rd 0 s.data.toList).1 xs = 0 then ((Code.rd 0 s.data.toList).1, xs, 0) else (0, [], 7)) := Lib.hid fun h => if_neg h
  have hrest : Hid (restB s.data.toList = s.data.toList.drop ((Code.rd 0 s.data.toList).2.1 + (Code.rd 0 (s.data.toList.drop (Code.rd 0 s.data.toList).2.1)).2.1)) := Lib.hid (by unfold restB; rw [List.drop_drop])
  obtain ⟨L, hL⟩ := named s.data.toList
  rw [← hL.out] at U1 U2 z1 z2 f1 hBad hGood hrest ⊢
  have SL := slice_list s (Code.rd 0 L).2.1 z1 _ rfl
  obtain ⟨T1, hT1⟩ := named (s.extract (Code.rd 0 L).2.1 s.size)
  rw [← hT1.out] at U2 SL
  have hb0 : Hid (headBad L ↔ (Code.rd 0 L).2.2 ≠ 0 ∨ (Code.rd 0 (L.drop (Code.rd 0 L).2.1)).2.2 ≠ 0 ∨ 64 < (Code.rd 0 (L.drop (Code.rd 0 L).2.1)).1) := Lib.hid Iff.rfl
  obtain ⟨r1, h1⟩ := named (Code.rd 0 L)
  obtain ⟨r2, h2⟩ := named (Code.rd 0 (L.drop (Code.rd 0 L).2.1))
  rw [← h2.out] at U2 z2 hGood hrest hb0
  rw [← h1.out] at U1 z1 f1 hGood hrest hb0 SL z2
  obtain ⟨A, n1, e1⟩ := r1
  obtain ⟨M, n2, e2⟩ := r2
  simp only at U1 U2 z1 z2 f1 hGood hrest hb0 SL
  clear h1 h2 hT1
  have hN0 := Lib.hid (heap_alloc_new w (.cells #[.int .u64 0, .slice none 0 0] 25))
  have hNB := Lib.hid (below_alloc w (.cells #[.int .u64 0, .slice none 0 0] 25))
  have hNC := box_batch w 0 (.slice none 0 0)
  by_cases q1 : e1 = 0
  · subst q1
    have bad2 : Hid (e2 ≠ 0 ∨ 64 < M → decB L = (0, [], 7)) := Lib.hid fun h => hBad.out (hb0.out.2 (.inr h))
    by_cases q2 : e2 = 0
    · subst q2
      by_cases q3 : 64 < M
      · have hE := Lib.hid (bad2.out (.inr q3))
        have d3 : decide ((64 : Int) < (M : Int)) = true := by rw [decide_eq_true_eq]; omega
        clear hBad hGood hrest hb0 bad2 z2 hN0
        go_enter Try.func16, Try.ntmps16
        go_wp2_with (first | (go_at_call 34; ((with_reducible refine (U1.out _).mono ?_); rintro e u ⟨rfl, rfl⟩)) | (go_at_call 34; ((with_reducible refine (U2.out _).mono ?_); rintro e u ⟨rfl, rfl⟩)))
        obtain ⟨a0, a1⟩ := hNC
        generalize w.alloc (.cells #[.int .u64 0, .slice none 0 0] 25) = V at *
        refine bodyPost_ret (v := .tuple #[batchV 0 none 0 0, .int .i64 7]) (by simp [results, Try.results16, go_sem, a0, a1]) rfl (zeroB _ _ _ hE.out hNB.out rfl)
      · have d3 : decide ((64 : Int) < (M : Int)) = false := by rw [decide_eq_false_iff_not]; omega
        have hE := Lib.hid (hGood.out (fun h => by rcases hb0.out.1 h with h | h | h <;> omega))
        rw [hrest.out] at hE
        clear hBad hGood hrest hb0 bad2
        have wa : IntKind.i64.wrap ((n1 : Int) + (n2 : Int)) = (n1 : Int) + (n2 : Int) := IntWalk.i64_in _ ⟨by omega, by unfold reachBytes at hs; omega⟩
        go_enter Try.func16, Try.ntmps16
        go_wp2_with (first | (go_at_call 34; ((with_reducible refine (U1.out _).mono ?_); rintro e u ⟨rfl, rfl⟩)) | (go_at_call 34; ((with_reducible refine (U2.out _).mono ?_); rintro e u ⟨rfl, rfl⟩)))
        have start : Hid (∀ V, V = (w.alloc (.cells #[.int .u64 0, .slice none 0 0] 25)).alloc (.cells #[.int .u64 (A : Int), .slice none 0 0] 25) → DecSt w.heap.size (w.heap.size + 1) A [] (.slice none 0 0) w V) := Lib.hid fun V hV => by
          subst hV
          have e := heap_alloc_new (w.alloc (.cells #[.int .u64 0, .slice none 0 0] 25)) (.cells #[.int .u64 (A : Int), .slice none 0 0] 25)
          rw [World.size_alloc] at e
          exact ⟨(Lib.alloc_old _ _ _ (by simp)).trans hN0.out, e, World.ownsRow_nil _ _ _ _, hNB.out.alloc (by simp) _, Nat.le_refl _, by omega⟩
        have start := Lib.hid (start.out _ rfl)
        clear hN0 hNB hNC U1 U2 SL
        generalize (w.alloc (.cells #[.int .u64 0, .slice none 0 0] 25)).alloc (.cells #[.int .u64 (A : Int), .slice none 0 0] 25) = V0 at *
        generalize w.heap.size + 1 = N1 at *
        go_loopw [11, 10] (fun i v wr => ∃ (j : Nat) (xs : List Wr) (at' : Nat) (sv : Value), j ≤ M ∧ i = .int .u64 (j : Int) ∧ v = .int .i64 (at' : Int) ∧ decL j (L.drop (n1 + n2)) = some (xs, L.drop at') ∧ at' ≤ s.size ∧ DecSt w.heap.size N1 A xs sv w wr) (fun i _ _ => M - (intOf i).toNat)
        case atStart => exact ⟨0, [], n1 + n2, .slice none 0 0, Nat.zero_le _, rfl, rfl, rfl, by omega, start.out⟩
        case round =>
          clear start
          obtain ⟨j, xs, at', sv, hj, rfl, rfl, hdec, hat, hst⟩ := hrel
          have hlen := decL_len _ _ hdec
          subst hlen
          obtain ⟨pa, pc, pb, rfl, hws, hpb⟩ := ws_of_row hst.row (fun x hx => by have := decL_fit _ _ hdec x hx; unfold reachBytes; omega)
          obtain ⟨y0, y1, yf0, yf1⟩ := cell2 hst.bat
          obtain ⟨r0, r1, rf0, rf1⟩ := cell2 hst.res
          have hLl : L.length = s.size := by rw [hL.out]; exact size_list s
          by_cases hlt : xs.length < M
          · have SL := slice_list s at' hat _ rfl
            have CW := refwrite_any (s.extract at' s.size) (by rw [drop_size]; unfold reachBytes at hs ⊢; omega)
            rw [drop_list, ← hL.out] at CW
            obtain ⟨T, hT⟩ := named (s.extract at' s.size)
            rw [← hT.out] at CW SL
            have d1 : decide ((s.size : Int) < (at' : Int)) = false := by rw [decide_eq_false_iff_not]; omega
            have hdec := Lib.hid hdec
            have hst := Lib.hid hst
            have hws := Lib.hid hws
            cases hd : decW (L.drop at') with
            | none =>
              rw [hd] at CW
              have CW := Lib.hid CW
              have hE7 : Hid (decB L = (0, [], 7)) := Lib.hid (by rw [hE.out, decL_none _ _ _ hdec.out hd hlt])
              clear hd
              go_wp2_with fail
              refine (CW.out _).mono ?_
              rintro e u1 ⟨rfl, q1⟩
              have st1 := hst.out.below q1
              have st2 := Lib.hid (st1.below (below_alloc u1 (.cells #[.int .i64 0, .string ⟨#[]⟩, .string ⟨#[]⟩] 44)))
              clear r0 r1 rf0 rf1
              obtain ⟨r0, r1, rf0, rf1⟩ := cell2 st1.res
              have KB := Lib.hid (And.intro (res2 st1.res (.int .u64 0) (.slice none 0 0)) (below2c st1.bel (Nat.le_refl _) (.int .u64 0) (.slice none 0 0)))
              have hlw := (Array.getElem?_eq_some_iff.1 st1.res).1
              have hnw : ¬ w.heap.size = u1.heap.size := by omega
              clear q1 CW y0 y1 yf0 yf1 st1 st2
              go_wp2_with fail
              obtain ⟨kk, kb⟩ := KB.out
              generalize (u1.setCell ⟨w.heap.size, 0, none⟩ (.int .u64 0)).setCell ⟨w.heap.size, 1, none⟩ (.slice none 0 0) = V at *
              have hlV := (Array.getElem?_eq_some_iff.1 kk).1
              obtain ⟨a0, a1, _, _⟩ := cell2 ((Lib.alloc_old V (.cells #[.int .i64 0, .string ⟨#[]⟩, .string ⟨#[]⟩] 44) _ hlV).trans kk)
              have kb := kb.alloc (Nat.le_of_lt hlV) (.cells #[.int .i64 0, .string ⟨#[]⟩, .string ⟨#[]⟩] 44)
              generalize V.alloc (.cells #[.int .i64 0, .string ⟨#[]⟩, .string ⟨#[]⟩] 44) = V' at *
              refine bodyPost_ret (v := .tuple #[batchV 0 none 0 0, .int .i64 7]) (by simp [results, Try.results16, go_sem, a0, a1]) rfl (zeroB _ _ _ hE7.out kb rfl)
            | some yk =>
              obtain ⟨y, k⟩ := yk
              obtain ⟨yk, ys, yv⟩ := y
              obtain ⟨hk1, hk2⟩ := decW_fits hd
              rw [List.length_drop, hLl] at hk2
              have hak : Hid (at' + k ≤ s.size) := Lib.hid (by rw [Nat.add_comm]; exact Nat.add_le_of_le_sub hat hk2)
              rw [hd] at CW
              have CW := Lib.hid CW
              have hdec2 : Hid (decL (xs.length + 1) (L.drop (n1 + n2)) = some (xs ++ [⟨yk, ys, yv⟩], L.drop (at' + k))) := Lib.hid (by rw [decL_snoc _ _ hdec.out, hd]; simp only [Option.map_some]; rw [List.drop_drop])
              have hkz : ((k : Int) == 0) = false := by rw [beq_eq_false_iff_ne]; omega
              obtain ⟨i0, hi, hz0, hz1, hz2⟩ := info_parts (show (Try.prog.info? 44).map (fun i => (i.zero, i.size, i.bytes)) = some (some (.agg #[.int .i64 0, .string .empty, .string .empty]), 3, 40) by kernel_rfl)
              clear hd
              go_wp2_with fail
              refine (CW.out _).mono ?_
              rintro e u1 ⟨rfl, q1⟩
              have st1 := hst.out.below q1
              have st2 := Lib.hid (st1.below (below_alloc u1 (.cells #[.int .i64 yk, .string ys, .string yv] 44)))
              clear y0 y1 yf0 yf1 r0 r1 rf0 rf1
              obtain ⟨y0, y1, yf0, yf1⟩ := cell2 st1.bat
              have hbase : N1 + 1 ≤ (u1.alloc (.cells #[.int .i64 yk, .string ys, .string yv] 44)).heap.size := by have := (Array.getElem?_eq_some_iff.1 st2.out.bat).1; omega
              have hrow := Lib.hid st2.out.row
              have hlb := (Array.getElem?_eq_some_iff.1 st1.bat).1
              clear q1 CW st1
              go_wp2_with (at_builtin; refine wpList_append_own _ rfl _ _ 23 rfl (N1 + 1) 44 i0 (.agg #[.int .i64 0, .string .empty, .string .empty]) 3 40 Try.underlying23 hi hz0 hz1 hz2 rfl (by decide) (.slice pa xs.length pc) _ _ (by rfl) (hrow.out.alloc _) ⟨u1.heap.size + 1, 0, none⟩ 1 1 [.int .i64 yk, .string ys, .string yv] (by rfl) (by rfl) ?c1 ?c2 ?c3 ?c4 ?c5 ?_)
              case c1 => exact World.news_of_block (by have := heap_alloc_new (u1.alloc (.cells #[.int .i64 yk, .string ys, .string yv] 44)) (.cells #[.int .i64 yk, .string ys, .string yv] 44); rw [World.size_alloc] at this; exact this)
              case c2 => intro u hu; simp only [List.mem_cons, List.not_mem_nil, or_false] at hu; rcases hu with rfl | rfl | rfl <;> rfl
              case c3 => unfold maxLen; omega
              case c4 => omega
              case c5 => rw [World.size_alloc]; omega
              intro v' w2 hown' hgrow hnn
              have G : Hid (DecSt w.heap.size N1 A (xs ++ [⟨yk, ys, yv⟩]) v' w (w2.setCell ⟨N1, 1, none⟩ v') ∧ w2.heap[N1]? = some (.cells #[.int .u64 (A : Int), .slice pa xs.length pc] 25 (0, 0))) := Lib.hid (st2.out.grow hown' hgrow)
              obtain ⟨va, vn, vc, rfl⟩ : ∃ va vn vc, v' = .slice va vn vc := by
                rcases hown'.2 with ⟨e, _⟩ | ⟨g, cap, cur, e, _⟩
                · exact ⟨_, _, _, e⟩
                · exact ⟨_, _, _, e⟩
              clear y0 y1 yf0 yf1
              obtain ⟨y0, y1, yf0, yf1⟩ := cell2 G.out.2
              have wi : IntKind.u64.wrap ((xs.length : Int) + 1) = (xs.length : Int) + 1 := by have := wrap_u64_nat (n := xs.length + 1) (by omega); rw [Int.natCast_add] at this; exact this
              have wk : IntKind.i64.wrap ((at' : Int) + (k : Int)) = ((at' + k : Nat) : Int) := by rw [IntWalk.i64_in _ ⟨by omega, by omega⟩]; omega
              have wk2 : wrap64 ((at' : Int) + (k : Int)) = ((at' + k : Nat) : Int) := by unfold wrap64; omega
              clear hown' hgrow hnn st2 hrow hi hz1 hz2 hbase hlb
              go_wp2_with fail
              go_roundw
              case rel => exact ⟨xs.length + 1, _, at' + k, _, by omega, by simp, by simp, hdec2.out, hak.out, G.out.1⟩
              case measure => simp [intOf]; omega
          · have hjM : xs.length = M := by omega
            subst hjM
            have hE2 : Hid (decB L = if at' = s.size ∧ chkB A xs = 0 then (A, xs, 0) else (0, [], 7)) := Lib.hid (by
              rw [hE.out, hdec]
              show (if L.drop at' = [] ∧ chkB A xs = 0 then (A, xs, (0 : Int)) else (0, [], 7)) = _
              have e : (L.drop at' = []) = (at' = s.size) := propext (by rw [List.drop_eq_nil_iff, hLl]; omega)
              simp only [e])
            have KB := Lib.hid (And.intro (res2 hst.res (.int .u64 0) (.slice none 0 0)) (below2c hst.bel (Nat.le_refl _) (.int .u64 0) (.slice none 0 0)))
            by_cases hT0 : at' = s.size
            · have g1 : ((at' : Int) != (s.size : Int)) = false := by rw [bne_eq_false_iff_eq]; omega
              have CK := Lib.hid (refcheck_any (seq := A) hws)
              have hst := Lib.hid hst
              have hws := Lib.hid hws
              clear hdec
              obtain ⟨R, hR⟩ := named (chkB A xs)
              rw [← hR.out] at CK hE2
              by_cases q : R = 0
              · subst q
                have hE0 : Hid (decB L = (A, xs, 0)) := Lib.hid (by rw [hE2.out, if_pos ⟨hT0, rfl⟩])
                clear KB hT0
                go_wp2_with fail
                with_reducible refine CK.out.mono ?_
                rintro e w2 ⟨rfl, b2⟩
                have st2 := hst.out.below b2
                clear y0 y1 yf0 yf1 r0 r1 rf0 rf1
                obtain ⟨y0, y1, yf0, yf1⟩ := cell2 st2.bat
                obtain ⟨r0, r1, rf0, rf1⟩ := cell2 st2.res
                have KG := Lib.hid (And.intro (res2 st2.res (.int .u64 (A : Int)) (.slice pa xs.length pc)) (below2c st2.bel (Nat.le_refl _) (.int .u64 (A : Int)) (.slice pa xs.length pc)))
                have hws2 : Hid (Ws pa xs.length pc pb 0 xs ((w2.setCell ⟨w.heap.size, 0, none⟩ (.int .u64 (A : Int))).setCell ⟨w.heap.size, 1, none⟩ (.slice pa xs.length pc))) := Lib.hid ((hws.out.below b2 (Nat.le_refl _)).keep (fun h0 => other2 (by have := hpb h0; have := hst.out.ord; omega) _ _) (by simp [World.setCell]))
                have hne : Hid (xs ≠ []) := Lib.hid (fun e => (chkB_ok hR.out.symm).1 (by rw [e]; rfl))
                have st2 := Lib.hid st2
                clear b2 CK
                go_wp2_with fail
                obtain ⟨kk, kb⟩ := KG.out
                have hws2 := hws2.out
                generalize (w2.setCell ⟨w.heap.size, 0, none⟩ (.int .u64 (A : Int))).setCell ⟨w.heap.size, 1, none⟩ (.slice pa xs.length pc) = V at *
                obtain ⟨a0, a1, _, _⟩ := cell2 kk
                refine bodyPost_ret (v := .tuple #[batchV A pa xs.length pc, .int .i64 0]) (by simp [results, Try.results16, go_sem, a0, a1]) rfl ?_
                unfold DecodedB
                rw [hE0.out]
                exact ⟨pa, pc, pb, rfl, hws2, fun e => absurd e hne.out, kb⟩
              · have hR0 : (R != 0) = true := by simpa using q
                have hE7 : Hid (decB L = (0, [], 7)) := Lib.hid (by rw [hE2.out, if_neg (fun h => q h.2)])
                clear KB hT0
                go_wp2_with fail
                with_reducible refine CK.out.mono ?_
                rintro e w2 ⟨rfl, b2⟩
                have st2 := hst.out.below b2
                clear y0 y1 yf0 yf1 r0 r1 rf0 rf1
                obtain ⟨r0, r1, rf0, rf1⟩ := cell2 st2.res
                have KB := Lib.hid (And.intro (res2 st2.res (.int .u64 0) (.slice none 0 0)) (below2c st2.bel (Nat.le_refl _) (.int .u64 0) (.slice none 0 0)))
                have st2 := Lib.hid st2
                clear b2 CK
                go_wp2_with fail
                obtain ⟨kk, kb⟩ := KB.out
                generalize (w2.setCell ⟨w.heap.size, 0, none⟩ (.int .u64 0)).setCell ⟨w.heap.size, 1, none⟩ (.slice none 0 0) = V at *
                obtain ⟨a0, a1, _, _⟩ := cell2 kk
                refine bodyPost_ret (v := .tuple #[batchV 0 none 0 0, .int .i64 7]) (by simp [results, Try.results16, go_sem, a0, a1]) rfl (zeroB _ _ _ hE7.out kb rfl)
            · have g1 : ((at' : Int) != (s.size : Int)) = true := by rw [bne_iff_ne]; omega
              have hE7 : Hid (decB L = (0, [], 7)) := Lib.hid (by rw [hE2.out, if_neg (fun h => hT0 h.1)])
              have hst := Lib.hid hst
              have hws := Lib.hid hws
              clear hdec
              go_wp2_with fail
              obtain ⟨kk, kb⟩ := KB.out
              generalize (wr.setCell ⟨w.heap.size, 0, none⟩ (.int .u64 0)).setCell ⟨w.heap.size, 1, none⟩ (.slice none 0 0) = V at *
              obtain ⟨a0, a1, _, _⟩ := cell2 kk
              refine bodyPost_ret (v := .tuple #[batchV 0 none 0 0, .int .i64 7]) (by simp [results, Try.results16, go_sem, a0, a1]) rfl (zeroB _ _ _ hE7.out kb rfl)
    · have hE := Lib.hid (bad2.out (.inl q2))
      have d2 : ((e2 : Int) != 0) = true := by rw [bne_iff_ne]; omega
      clear hBad hGood hrest hb0 bad2 z2 hN0
      go_enter Try.func16, Try.ntmps16
      go_wp2_with (first | (go_at_call 34; ((with_reducible refine (U1.out _).mono ?_); rintro e u ⟨rfl, rfl⟩)) | (go_at_call 34; ((with_reducible refine (U2.out _).mono ?_); rintro e u ⟨rfl, rfl⟩)))
      obtain ⟨a0, a1⟩ := hNC
      generalize w.alloc (.cells #[.int .u64 0, .slice none 0 0] 25) = V at *
      refine bodyPost_ret (v := .tuple #[batchV 0 none 0 0, .int .i64 7]) (by simp [results, Try.results16, go_sem, a0, a1]) rfl (zeroB _ _ _ hE.out hNB.out rfl)
  · have hE := Lib.hid (hBad.out (hb0.out.2 (.inl q1)))
    have d1 : ((e1 : Int) != 0) = true := by rw [bne_iff_ne]; omega
    clear hBad hGood hrest hb0 z2 U2 hN0
    go_enter Try.func16, Try.ntmps16
    go_wp2_with (go_at_call 34; ((with_reducible refine (U1.out _).mono ?_); rintro e u ⟨rfl, rfl⟩))
    obtain ⟨a0, a1⟩ := hNC
    generalize w.alloc (.cells #[.int .u64 0, .slice none 0 0] 25) = V at *
    refine bodyPost_ret (v := .tuple #[batchV 0 none 0 0, .int .i64 7]) (by simp [results, Try.results16, go_sem, a0, a1]) rfl (zeroB _ _ _ hE.out hNB.out rfl)
end Go.Proofs.Ytaanclnppfpocaa
