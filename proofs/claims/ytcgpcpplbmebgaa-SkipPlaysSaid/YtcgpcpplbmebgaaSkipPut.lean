/-
  The contract of the list's Put. Condition: texts of less than 2^48 bytes.
-/
import Derived.Test.YtcgpcpplbmebgaaSkipLink
import Derived.Deep.QuietTactic
import Derived.BigQuiet
import Derived.Deep.Cut
import Derived.Deep.DeepCutAuto
import Derived.StillTailTactics
namespace Go.Proofs.Ytcgpcpplbmebgaa
open Go.RowKit
attribute [local go_sem] eq_node ne_node eq_list
/-- What Put leaves. -/
def PutDid (p : Nat) (ns : List Nd) (x : Rw) (hgt : Int) (w : World) (e : Ending) (w' : World) : Prop :=
  e = .returned (.bool (!thr (rowsN ns) x.key x.seq)) ∧ Only p ns w w' ∧
    ((thr (rowsN ns) x.key x.seq = true ∧ SkA p ns w') ∨ (thr (rowsN ns) x.key x.seq = false ∧ ∃ nb, w.heap.size ≤ nb ∧ nb < w'.heap.size ∧ SkA p (ns.take (plN ns x.key x.seq) ++ ⟨x, hgtOf hgt, nb⟩ :: ns.drop (plN ns x.key x.seq)) w'))
theorem front_whole {p : Nat} {ns : List Nd} {w : World} (h : SkA p ns w) (e : Nat) : ns.take (dn ((hgtsN ns).take e) 12).1 = ns.take e ∨ ns.length < e := by
  rcases Nat.lt_or_ge ns.length e with h1 | h1
  · exact .inr h1
  · left
    rw [hgtsN_take]
    have hh : ∀ x ∈ ns.take e, x.hgt ≤ 12 := fun x hx => (h.hgt x (List.mem_of_mem_take hx)).2
    obtain ⟨_, h2⟩ := dn_high hh (Nat.le_refl 12)
    have hl := (dn_le (hgtsN (ns.take e)) 12).1
    have hl2 : (hgtsN (ns.take e)).length = e := by unfold hgtsN; rw [List.length_map, List.length_take]; omega
    have h3 : (dn (hgtsN (ns.take e)) 12).1 = e := by
      rcases Nat.lt_or_ge (dn (hgtsN (ns.take e)) 12).1 e with h4 | h4
      · exfalso
        obtain ⟨x, hx⟩ : ∃ x, x ∈ (ns.take e).drop (dn (hgtsN (ns.take e)) 12).1 := by
          refine List.exists_mem_of_length_pos ?_
          rw [List.length_drop, List.length_take]; omega
        have := h2 x hx
        have := (h.hgt x (List.mem_of_mem_take (List.mem_of_mem_drop hx))).1
        omega
      · omega
    rw [h3]
theorem bfA_zero {p : Nat} {ns : List Nd} {w : World} (h : SkA p ns w) {e : Nat} (he : e ≤ ns.length) : bfA p ns e 0 = lnk p (ns.take e) 0 := by
  unfold bfA
  rcases front_whole h e with h1 | h1
  · rw [show 12 - 0 = 12 from rfl, h1]
  · omega
theorem thr_head {ns : List Nd} {k : ByteArray} {q : Nat} : thr (rowsN ns) k q = match ns.drop (plN ns k q) with | [] => false | y :: _ => decide (y.row.key.toList = k.toList) && decide (y.row.seq = q) := by
  unfold thr plN
  have e : (rowsN ns)[plc (rowsN ns) k q]? = (ns.drop (plc (rowsN ns) k q)).head?.map (·.row) := by
    unfold rowsN
    rw [List.getElem?_map, List.head?_drop]
  rw [e]
  cases ns.drop (plc (rowsN ns) k q) <;> rfl
theorem node_cells {w : World} {b : Nat} {T : TypeId} {v0 v1 v2 v3 v4 v5 v6 v7 v8 v9 v10 v11 v12 v13 v14 v15 : Value} (h : w.heap[b]? = some (.cells #[v0, v1, v2, v3, v4, v5, v6, v7, v8, v9, v10, v11, v12, v13, v14, v15] T (0, 0))) : w.cell? ⟨b, 0, none⟩ = some v0 ∧ w.cell? ⟨b, 1, none⟩ = some v1 ∧ w.cell? ⟨b, 2, none⟩ = some v2 ∧ w.cell? ⟨b, 3, none⟩ = some v3 := by simp [World.cell?, h]
set_option maxRecDepth 100000 in
set_option maxHeartbeats 4000000 in
theorem put_any {p : Nat} {ns : List Nd} {w : World} (h : SkA p ns w) (hn : ns.length ≤ 4611686018427387903) (x : Rw) (hk : x.key.size ≤ 281474976710656) (hv : x.val.size ≤ 281474976710656) (hq : x.seq ≤ 18446744073709551615) (hgt : Int) :
    Calls Try.prog 11 #[.pointer (some ⟨p, 0, none⟩), rowV x, .int .i64 hgt] w (PutDid p ns x hgt w) := by
  obtain ⟨e, he⟩ := named (plN ns x.key x.seq)
  have hel : e ≤ ns.length := by rw [he.out]; exact plN_le _ _ _
  obtain ⟨T, hT⟩ := named (thr (rowsN ns) x.key x.seq)
  have hT2 := hT.out
  rw [thr_head, ← he.out] at hT2
  replace hT2 := Lib.hid hT2
  unfold PutDid
  obtain ⟨HH, hHH⟩ := named (hgtOf hgt)
  rw [← hT.out, ← he.out, ← hHH.out]
  have hr := hgtOf_range hgt
  rw [← hHH.out] at hr
  have CP := fun u => Lib.hid (copied_any x hk hv u)
  have W0 := Lib.hid (below_alloc w (.cells #[.string x.key, .int .u64 (x.seq : Int), .int .i64 x.kind, .string x.val] 36))
  have S := Lib.hid (search_any (h.grow W0.out) (by omega) x.key x.seq)
  rw [← he.out] at S
  have R0 := Lib.hid (RowAt.new x w)
  have b0 := Lib.hid (bfA_zero h hel)
  have H := Lib.hid h
  have hkv : Hid (x.key.size ≤ 281474976710656 ∧ x.val.size ≤ 281474976710656 ∧ x.seq ≤ 18446744073709551615) := Lib.hid ⟨hk, hv, hq⟩
  obtain ⟨A, hA⟩ := named (ns.take e)
  obtain ⟨D, hD⟩ := named (ns.drop e)
  have hAD : Hid (ns = A ++ D) := Lib.hid (by rw [hA.out, hD.out, List.take_append_drop])
  rw [← hA.out] at b0
  rw [← hD.out] at hT2
  have l0 : Hid (∀ u, SkA p ns u → u.cell? (lnk p A 0) = some (.pointer (nxt 0 D))) := Lib.hid fun u hu => hu.at hAD.out (by omega) (by
    rcases List.eq_nil_or_concat A with e1 | ⟨a, y, e1⟩
    · exact .inl e1
    · exact .inr ⟨a, y, by rw [e1]; simp, by have := (hu.hgt y (by rw [hAD.out, e1]; simp)).1; omega⟩)
  have hG : ∀ l, l < 12 → (bfc p ns e 12)[l]? = some (.pointer (some (bfA p ns e l))) := fun l hl => by rw [bfc_at _ _ _ _ _ hl, if_pos (by omega)]
  rw [bfc_full] at S hG
  obtain ⟨bz, hbz⟩ := named (bfA p ns e)
  rw [← hbz.out] at S b0 hG
  replace hG := Lib.hid hG
  obtain ⟨xk, xs, xi, xv⟩ := x
  simp only at CP W0 S R0 hT2 hkv
  clear hk hv hq h
  go_enter Try.func11, Try.ntmps11
  have cR := R0.out.cells
  obtain ⟨⟨r0, r1, r2, r3⟩, r4⟩ := cR
  go_upto_region 4 with (go_at_call 42; ((with_reducible refine S.out.mono ?_); rintro e1 w1 ⟨rfl, hb1⟩))
  have hg1 := heap_alloc_new w1 (.cells #[.pointer (some (bz 0)), .pointer (some (bz 1)), .pointer (some (bz 2)), .pointer (some (bz 3)), .pointer (some (bz 4)), .pointer (some (bz 5)), .pointer (some (bz 6)), .pointer (some (bz 7)), .pointer (some (bz 8)), .pointer (some (bz 9)), .pointer (some (bz 10)), .pointer (some (bz 11))] 89)
  have hbw := below_of (below_of W0.out hb1) (below_alloc w1 (.cells #[.pointer (some (bz 0)), .pointer (some (bz 1)), .pointer (some (bz 2)), .pointer (some (bz 3)), .pointer (some (bz 4)), .pointer (some (bz 5)), .pointer (some (bz 6)), .pointer (some (bz 7)), .pointer (some (bz 8)), .pointer (some (bz 9)), .pointer (some (bz 10)), .pointer (some (bz 11))] 89))
  have R1 := (R0.out.below hb1).below (below_alloc w1 (.cells #[.pointer (some (bz 0)), .pointer (some (bz 1)), .pointer (some (bz 2)), .pointer (some (bz 3)), .pointer (some (bz 4)), .pointer (some (bz 5)), .pointer (some (bz 6)), .pointer (some (bz 7)), .pointer (some (bz 8)), .pointer (some (bz 9)), .pointer (some (bz 10)), .pointer (some (bz 11))] 89))
  have hgs : w.heap.size < w1.heap.size := by have := hb1.size; simp at this; omega
  generalize w1.alloc (.cells #[.pointer (some (bz 0)), .pointer (some (bz 1)), .pointer (some (bz 2)), .pointer (some (bz 3)), .pointer (some (bz 4)), .pointer (some (bz 5)), .pointer (some (bz 6)), .pointer (some (bz 7)), .pointer (some (bz 8)), .pointer (some (bz 9)), .pointer (some (bz 10)), .pointer (some (bz 11))] 89) = W2 at *
  obtain ⟨g, hg⟩ := named w1.heap.size
  rw [← hg.out] at hg1 hgs ⊢
  clear r0 r1 r2 r3 r4 S hb1
  have H2 := Lib.hid (H.out.grow hbw)
  have c0 : W2.cell? ⟨g, 0, none⟩ = some (.pointer (some (bz 0))) := by simp [World.cell?, hg1]
  have c1 := l0.out _ H2.out
  obtain ⟨N0, hN0⟩ := named (nxt 0 D)
  rw [← hN0.out] at c1
  rw [← b0.out] at c1
  obtain ⟨⟨r0, r1, r2, r3⟩, r4⟩ := R1.cells
  replace R1 := Lib.hid R1
  replace hbw := Lib.hid hbw
  replace hgs := Lib.hid hgs
  replace hg1 := Lib.hid hg1
  go_upto_region 5 with fail
  go_cut [49] from 28 to 49 (fun b wc => b = .bool T ∧ ∃ n, wc = W2.drewN n)
  case first =>
    clear CP b0 l0 hG
    cases D with
    | nil =>
      obtain rfl : T = false := hT2.out
      obtain rfl : N0 = none := hN0.out
      go_quiet (fail)
      go_wp2_with fail
      go_meet
      exact ⟨rfl, _, rfl⟩
    | cons y r =>
      have hy : y ∈ ns := by rw [hAD.out]; simp
      obtain rfl : N0 = some ⟨y.blk, 0, none⟩ := hN0.out.trans (nxt_hit (show 0 < y.hgt by have := (H2.out.hgt y hy).1; omega) r)
      obtain ⟨y0, y1, _, _⟩ := H2.out.node y hy
      have ht : T = (decide (y.row.key.toList = xk.toList) && decide (y.row.seq = xs)) := hT2.out
      by_cases q1 : y.row.key.toList = xk.toList
      · have q1b : (y.row.key.toList == xk.toList) = true := by simpa using q1
        by_cases q2 : y.row.seq = xs
        · have q2b : ((y.row.seq : Int) == (xs : Int)) = true := by rw [beq_iff_eq]; omega
          obtain rfl : T = true := by rw [ht, q1, q2]; simp
          clear q1 q2 ht
          go_quiet (fail)
          go_wp2_with fail
          go_meet
          exact ⟨rfl, _, rfl⟩
        · have q2b : ((y.row.seq : Int) == (xs : Int)) = false := by rw [beq_eq_false_iff_ne]; omega
          obtain rfl : T = false := by rw [ht, decide_eq_false q2]; simp
          clear q1 q2 ht
          go_quiet (fail)
          go_wp2_with fail
          go_meet
          exact ⟨rfl, _, rfl⟩
      · have q1b : (y.row.key.toList == xk.toList) = false := by simpa using q1
        obtain rfl : T = false := by rw [ht, decide_eq_false q1]; simp
        clear q1 ht
        go_quiet (fail)
        go_wp2_with fail
        go_meet
        exact ⟨rfl, _, rfl⟩
  case rest =>
    obtain ⟨rfl, n, rfl⟩ := hcut
    have hd := below_drewN (n := n) (Below.refl W2.heap.size W2)
    have hg3 := hg1.out
    rw [← hd.block g (by have := (Array.getElem?_eq_some_iff.1 hg1.out).1; exact this)] at hg3
    have hbw3 := below_of hbw.out hd
    have R3 := R1.out.below hd
    have hW2 := (Array.getElem?_eq_some_iff.1 hg1.out).1
    have H3 := Lib.hid (H2.out.grow hd)
    generalize W2.drewN n = W3 at *
    clear H2 hbw R1 r0 r1 r2 r3 r4 c0 c1 hd hT2
    cases T with
    | true =>
      have Q : Hid (Only p ns w W3 ∧ SkA p ns W3) := Lib.hid ⟨Only.of_below hbw3 (Nat.le_refl _), H3.out⟩
      clear hbw3 R3 hg3 H3 hg1
      go_wp2_with fail
      go_returns
      exact ⟨rfl, Q.out.1, by simpa using Q.out.2⟩
    | false =>
      obtain ⟨⟨r0, r1, r2, r3⟩, r4⟩ := R3.cells
      go_upto_region 9 with (go_at_call 43; ((with_reducible refine (CP _).out.mono ?_); rintro e4 w4 ⟨rfl, hb4⟩))
      rw [show min (max hgt 1) 12 = ((HH : Nat) : Int) by rw [hHH.out]; unfold hgtOf; split <;> (try split) <;> omega]
      have hm := (H3.out.grow hb4)
      rw [hAD.out] at hm
      have hc := heap_alloc_new w4 (.cells #[.string xk, .int .u64 (xs : Int), .int .i64 xi, .string xv, .pointer none, .pointer none, .pointer none, .pointer none, .pointer none, .pointer none, .pointer none, .pointer none, .pointer none, .pointer none, .pointer none, .pointer none] 93)
      have hm0 := SkM.start (d := ⟨⟨xk, xs, xi, xv⟩, HH, w4.heap.size⟩) hm (below_alloc w4 _) (Nat.le_refl _) hc rfl (node_cells hc)
      have hb5 := below_of hb4 (below_alloc w4 (.cells #[.string xk, .int .u64 (xs : Int), .int .i64 xi, .string xv, .pointer none, .pointer none, .pointer none, .pointer none, .pointer none, .pointer none, .pointer none, .pointer none, .pointer none, .pointer none, .pointer none, .pointer none] 93))
      have hlt5 : w4.heap.size < (w4.alloc (.cells #[.string xk, .int .u64 (xs : Int), .int .i64 xi, .string xv, .pointer none, .pointer none, .pointer none, .pointer none, .pointer none, .pointer none, .pointer none, .pointer none, .pointer none, .pointer none, .pointer none, .pointer none] 93)).heap.size := by simp
      have hnb : w.heap.size ≤ w4.heap.size ∧ g ≠ w4.heap.size := by
        have := hbw3.size; have := hb4.size; have := (Array.getElem?_eq_some_iff.1 hg3).1; omega
      generalize w4.alloc (.cells #[.string xk, .int .u64 (xs : Int), .int .i64 xi, .string xv, .pointer none, .pointer none, .pointer none, .pointer none, .pointer none, .pointer none, .pointer none, .pointer none, .pointer none, .pointer none, .pointer none, .pointer none] 93) = W5 at *
      obtain ⟨nb, hnbe⟩ := named w4.heap.size
      rw [← hnbe.out] at hm0 hnb hlt5 ⊢
      clear hc hm hb4 r0 r1 r2 r3 r4 R3 CP
      have hO := Only.of_below (p := p) (ns := ns) (below_of hbw3 hb5) (Nat.le_refl _)
      have hg5 := (hb5.block g (Array.getElem?_eq_some_iff.1 hg3).1).trans hg3
      replace hm0 := Lib.hid hm0
      replace hO := Lib.hid hO
      replace hg5 := Lib.hid hg5
      replace hgs := hgs.out
      have hgns : Hid (g ≠ p ∧ ∀ y ∈ ns, g ≠ y.blk) := Lib.hid ⟨by have := H.out.lt; omega, fun y hy => by have := H.out.nlt hy; omega⟩
      clear hb5 hbw3 hg3 hg1 H3 hW2
      go_wp2_with fail
      go_loopw [58] (fun c wr => ∃ i : Nat, i ≤ HH ∧ c = .int .i64 (i : Int) ∧ SkM p A D ⟨⟨xk, xs, xi, xv⟩, HH, nb⟩ i wr ∧ Only p ns w wr ∧ nb < wr.heap.size ∧ ∀ l, l < 12 → wr.cell? ⟨g, l, none⟩ = some (.pointer (some (bz l)))) (fun c _ => HH - (intOf c).toNat)
      case atStart => exact ⟨0, by omega, rfl, hm0.out, hO.out, hlt5, fun l hl => by simp only [World.cell?, hg5.out]; exact hG.out l hl⟩
      case round =>
        clear hm0 hO hg5 hlt5
        obtain ⟨i, hi, rfl, hM, hO, hlt, hgc⟩ := hrel
        by_cases hlt12 : i < HH
        · obtain ⟨pre, hpre⟩ := named (A.take (dn (hgtsN A) (12 - i)).1)
          obtain ⟨mid, hmid⟩ := named (A.drop (dn (hgtsN A) (12 - i)).1)
          have hA1 : A = pre ++ mid := by rw [hpre.out, hmid.out, List.take_append_drop]
          have hhi : High i pre ∧ ∀ x ∈ mid, x.hgt ≤ i := by
            obtain ⟨h1, h2⟩ := dn_high (A := A) (fun y hy => (H.out.hgt y (by rw [hAD.out]; simp [hy])).2) (show 12 - i ≤ 12 by omega)
            rw [← hpre.out] at h1
            rw [← hmid.out] at h2
            rw [show 12 - (12 - i) = i by omega] at h1 h2
            exact ⟨h1, h2⟩
          have hbi : bz i = lnk p pre 0 := by
            rw [hbz.out]
            unfold bfA
            rw [hgtsN_take, ← hA.out, hpre.out]
            congr 1
            rw [hA.out, List.take_take]
            congr 1
            have := (dn_le (hgtsN (ns.take e)) (12 - i)).1
            have hl2 : (hgtsN (ns.take e)).length = e := by unfold hgtsN; rw [List.length_map, List.length_take]; omega
            omega
          obtain ⟨b, o, hform, hf0⟩ := lnk_form p pre
          have c0 := hgc i (by omega)
          rw [hbi, hf0] at c0
          obtain ⟨c1, c2⟩ := hM.at (by omega) hA1 hhi.1 hhi.2
          rw [hform] at c1 c2
          have c3 : wr.frozen? ⟨nb, 4 + i, none⟩ = false := hM.nfrz ⟨⟨xk, xs, xi, xv⟩, HH, nb⟩ (by simp) _
          obtain ⟨v0, c4⟩ := Option.isSome_iff_exists.1 (hM.own (4 + i) (by omega))
          simp only at c4
          have i0 : (0 : Int) ≤ (i : Int) := by omega
          have i1 : (i : Int) < 12 := by omega
          have i2 : (i : Int) < (HH : Int) := by omega
          have hne : nb ≠ b := by
            have h1 := (lnk_block p pre 0)
            rw [hf0] at h1
            rcases h1 with e1 | ⟨y, hy, e1⟩
            · have := H.out.lt; simp only at e1; omega
            · have := H.out.nlt (x := y) (by rw [hAD.out, hA1]; simp [hy]); simp only at e1; omega
          have hne2 : Hid (g ≠ b) := Lib.hid (by
            have h1 := (lnk_block p pre 0)
            rw [hf0] at h1
            rcases h1 with e1 | ⟨y, hy, e1⟩
            · simp only at e1; rw [e1]; exact hgns.out.1
            · simp only at e1; rw [e1]; exact hgns.out.2 y (by rw [hAD.out, hA1]; simp [hy]))
          replace hM := Lib.hid hM
          replace hO := Lib.hid hO
          replace hgc := Lib.hid hgc
          replace hA1 := Lib.hid hA1
          replace hform := Lib.hid hform
          replace hf0 := Lib.hid hf0
          replace hbi := Lib.hid hbi
          go_upto_region 12 with fail
          go_region
          have Q : Hid (SkM p A D ⟨⟨xk, xs, xi, xv⟩, HH, nb⟩ (i + 1) ((wr.setCell ⟨nb, 4 + i, none⟩ (.pointer (nxt i D))).drew.setCell ⟨b, o + i, none⟩ (.pointer (some ⟨nb, 0, none⟩))) ∧ Only p ns w ((wr.setCell ⟨nb, 4 + i, none⟩ (.pointer (nxt i D))).drew.setCell ⟨b, o + i, none⟩ (.pointer (some ⟨nb, 0, none⟩))) ∧ nb < ((wr.setCell ⟨nb, 4 + i, none⟩ (.pointer (nxt i D))).drew.setCell ⟨b, o + i, none⟩ (.pointer (some ⟨nb, 0, none⟩))).heap.size ∧ ∀ l, l < 12 → ((wr.setCell ⟨nb, 4 + i, none⟩ (.pointer (nxt i D))).drew.setCell ⟨b, o + i, none⟩ (.pointer (some ⟨nb, 0, none⟩))).cell? ⟨g, l, none⟩ = some (.pointer (some (bz l)))) := Lib.hid (by
            refine ⟨?_, ?_, ?_, fun l hl => ?_⟩
            · have := (hM.out.step (by show i < HH; omega) hr.2 hA1.out hhi.1 hhi.2).drew
              rw [hform.out] at this
              exact this
            · refine Only.setCell (Only.drew (hO.out.setCell (.inr (.inr hnb.1)) _)) ?_ _
              have h1 := (lnk_block p pre 0)
              rw [hf0.out] at h1
              rcases h1 with e1 | ⟨y, hy, e1⟩
              · exact .inl e1
              · exact .inr (.inl ⟨y, by rw [hAD.out, hA1.out]; simp [hy], e1⟩)
            · have := ((Below.refl 0 wr).setCell (p := ⟨nb, 4 + i, none⟩) (Nat.zero_le _) (.pointer (nxt i D))).drew.setCell (p := ⟨b, o + i, none⟩) (Nat.zero_le _) (.pointer (some ⟨nb, 0, none⟩))
              exact Nat.lt_of_lt_of_le hlt this.size
            · rw [World.cell?_setCell_other _ _ _ _ (fun e => hne2.out (congrArg Addr.block e).symm), World.cell?_drew, World.cell?_setCell_other _ _ _ _ (fun e => hnb.2 (congrArg Addr.block e).symm)]
              exact hgc.out l hl)
          have d0 : (wr.setCell ⟨nb, 4 + i, none⟩ (.pointer (nxt i D))).drew.cell? ⟨g, i, none⟩ = some (.pointer (some ⟨b, o, none⟩)) := by
            rw [World.cell?_drew, World.cell?_setCell_other _ _ _ _ (fun e => hnb.2 (congrArg Addr.block e).symm)]; exact c0
          have d1 : (wr.setCell ⟨nb, 4 + i, none⟩ (.pointer (nxt i D))).drew.cell? ⟨b, o + i, none⟩ = some (.pointer (nxt i D)) := by
            rw [World.cell?_drew, World.cell?_setCell_other _ _ _ _ (fun e => hne (congrArg Addr.block e))]; exact c1
          have d2 : (wr.setCell ⟨nb, 4 + i, none⟩ (.pointer (nxt i D))).drew.frozen? ⟨b, o + i, none⟩ = false := by
            show (wr.setCell ⟨nb, 4 + i, none⟩ (.pointer (nxt i D))).frozen? _ = false
            rw [World.frozen?_setCell]; exact c2
          generalize (wr.setCell ⟨nb, 4 + i, none⟩ (.pointer (nxt i D))).drew = V at *
          clear c0 c1 c2 c3 c4 hM hO hgc hlt
          go_wp2_with fail
          go_roundw
          case rel => exact ⟨i + 1, by omega, by go_num, Q.out⟩
          case measure => simp [intOf]; omega
        · have hiH : i = HH := by omega
          subst hiH
          have m12 : wr.cell? ⟨p, 12, none⟩ = some (.int .i64 ((A ++ D).length : Int)) := hM.many
          have m13 : wr.cell? ⟨p, 13, none⟩ = some (.int .i64 (topH (hgtsN (A ++ D)) : Int)) := hM.top
          have f12 := hM.frz 12
          have f13 := hM.frz 13
          have hlen : (A ++ D).length ≤ 4611686018427387903 := by rw [← hAD.out]; exact hn
          have i2 : ¬ ((i : Int) < (i : Int)) := by omega
          obtain ⟨L, hL⟩ := named (A ++ D).length
          obtain ⟨M, hM2⟩ := named (topH (hgtsN (A ++ D)))
          rw [← hL.out] at m12 hlen
          rw [← hM2.out] at m13
          have eL : (A ++ (⟨⟨xk, xs, xi, xv⟩, i, nb⟩ : Nd) :: D).length = L + 1 := by rw [hL.out]; simp only [List.length_append, List.length_cons]; omega
          have eM : topH (hgtsN (A ++ (⟨⟨xk, xs, xi, xv⟩, i, nb⟩ : Nd) :: D)) = max M i := by
            rw [hM2.out]
            unfold hgtsN
            simp only [List.map_append, List.map_cons, topH_app, topH_cons]
            omega
          have hmem : ∀ y, y ∈ A ++ (⟨⟨xk, xs, xi, xv⟩, i, nb⟩ : Nd) :: D → y = ⟨⟨xk, xs, xi, xv⟩, i, nb⟩ ∨ y ∈ ns := fun y hy => by
            rw [hAD.out]
            simp only [List.mem_append, List.mem_cons] at hy ⊢
            rcases hy with h1 | h1 | h1
            · exact .inr (.inl h1)
            · exact .inl h1
            · exact .inr (.inr h1)
          have hsort : SortedR (rowsN (A ++ (⟨⟨xk, xs, xi, xv⟩, i, nb⟩ : Nd) :: D)) := by
            have := insR_sorted H.out.sort (x := ⟨xk, xs, xi, xv⟩) hT.out.symm
            unfold insR at this
            have he2 : plc (rowsN ns) xk xs = e := he.out.symm
            simp only [he2] at this
            rw [hA.out, hD.out]
            unfold rowsN at this ⊢
            rw [List.map_append, List.map_cons, List.map_take, List.map_drop]
            exact this
          have Q := hM.done rfl hsort (fun y hy => by
            rcases hmem y hy with rfl | hy
            · exact hr
            · exact H.out.hgt y hy) (fun y hy => by
            rcases hmem y hy with rfl | hy
            · exact hkv.out
            · exact H.out.small y hy)
          rw [eL, eM] at Q
          have Q2 : Only p ns w ((wr.setCell ⟨p, 12, none⟩ (.int .i64 ((L + 1 : Nat) : Int))).setCell ⟨p, 13, none⟩ (.int .i64 ((max M i : Nat) : Int))) := (hO.setCell (.inl rfl) _).setCell (.inl rfl) _
          have Q3 : nb < ((wr.setCell ⟨p, 12, none⟩ (.int .i64 ((L + 1 : Nat) : Int))).setCell ⟨p, 13, none⟩ (.int .i64 ((max M i : Nat) : Int))).heap.size :=
            Nat.lt_of_lt_of_le hlt (((Below.refl 0 wr).setCell (p := ⟨p, 12, none⟩) (Nat.zero_le _) _).setCell (p := ⟨p, 13, none⟩) (Nat.zero_le _) _).size
          rw [show ((L + 1 : Nat) : Int) = (L : Int) + 1 by omega, show ((max M i : Nat) : Int) = max (M : Int) (i : Int) by omega] at Q Q2 Q3
          replace Q : Hid (Only p ns w ((wr.setCell ⟨p, 12, none⟩ (.int .i64 ((L : Int) + 1))).setCell ⟨p, 13, none⟩ (.int .i64 (max (M : Int) (i : Int)))) ∧ ∃ nb, w.heap.size ≤ nb ∧ nb < ((wr.setCell ⟨p, 12, none⟩ (.int .i64 ((L : Int) + 1))).setCell ⟨p, 13, none⟩ (.int .i64 (max (M : Int) (i : Int)))).heap.size ∧ SkA p (ns.take e ++ ⟨⟨xk, xs, xi, xv⟩, i, nb⟩ :: ns.drop e) ((wr.setCell ⟨p, 12, none⟩ (.int .i64 ((L : Int) + 1))).setCell ⟨p, 13, none⟩ (.int .i64 (max (M : Int) (i : Int))))) := Lib.hid ⟨Q2, nb, hnb.1, Q3, by rw [← hA.out, ← hD.out]; exact Q⟩
          clear hM hO hlt hgc eL eM hmem hsort Q2 Q3 hnb hgs
          go_wp2_with fail
          go_returns
          exact ⟨rfl, Q.out⟩
end Go.Proofs.Ytcgpcpplbmebgaa
