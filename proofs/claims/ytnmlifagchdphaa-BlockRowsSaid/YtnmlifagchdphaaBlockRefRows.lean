/-
  The contract of the document's Rows. Condition: at most 65536 bytes.
-/
import Derived.Test.YtnmlifagchdphaaBlockRefRead
import Derived.Test.YtnmlifagchdphaaBlockRefNum
import Derived.Test.YtnmlifagchdphaaBlockRefBuild
import Derived.Test.YtnmlifagchdphaaBlockAwake
namespace Go.Proofs.Ytnmlifagchdphaa
set_option maxRecDepth 100000
open Go.RowKit
theorem rdX_rest {s p t : List UInt8} {x : Rw} (h : rdX s p = some (x, t)) : s.drop (s.length - t.length) = t := by
  have hs : t <:+ s := by
    unfold rdX at h
    simp only at h
    split at h
    · cases h
    split at h
    · cases h
    split at h
    · cases h
    split at h
    · cases h
    rename_i k s3 h4
    have h5 : s3 <:+ s := by
      have a1 : s3 <:+ k :: s3 := List.suffix_cons k s3
      rw [← h4] at a1
      exact ((a1.trans (List.drop_suffix _ _)).trans (List.drop_suffix _ _)).trans (List.drop_suffix _ _)
    split at h
    · split at h
      · cases h
      · simp only [Option.some.injEq, Prod.mk.injEq] at h
        obtain ⟨_, rfl⟩ := h
        exact (List.drop_suffix _ _).trans h5
    · simp only [Option.some.injEq, Prod.mk.injEq] at h
      obtain ⟨_, rfl⟩ := h
      exact h5
  exact (List.suffix_iff_eq_drop.1 hs).symm
set_option maxRecDepth 100000 in
set_option maxHeartbeats 8000000 in
theorem rows_ref (L : List UInt8) (hL : L.length ≤ 65536) (w : World) :
    Calls Try.prog 7 #[.string ⟨L.toArray⟩] w (RowsD L w) := by
  have PL : (⟨L.toArray⟩ : ByteArray).size = L.length := ofList_size L
  have g2 : decide ((65536 : Int) < (L.length : Int)) = false := by rw [decide_eq_false_iff_not]; omega
  have g2b : decide (65536 < L.length) = false := by rw [decide_eq_false_iff_not]; omega
  have W0 := Lib.hid (Below.refl w.heap.size w)
  by_cases h1 : L.length < 8
  · have hno : Hid (∀ l d, ¬ IsB L l d) := Lib.hid (fun l d hB => by have := (isB_cut hB).1; omega)
    have g1 : (L.length : Int) < 8 := by omega
    go_enter Try.func7, Try.ntmps7
    go_wp2_with fail
    go_returns
    exact .inr ⟨hno.out, rfl, W0.out⟩
  have g1 : decide ((L.length : Int) < 8) = false := by rw [decide_eq_false_iff_not]; omega
  have g1b : decide (L.length < 8) = false := by rw [decide_eq_false_iff_not]; omega
  obtain ⟨m8, h8⟩ := named (L.length - 8)
  have a8 : (L.length : Int) - 8 = (m8 : Int) := by rw [h8.out]; omega
  obtain ⟨m4, h4⟩ := named (L.length - 4)
  have a4 : (L.length : Int) - 4 = (m4 : Int) := by rw [h4.out]; omega
  have b8 : m8 ≤ 65536 := by omega
  have S8 := slL_from L m8 (by rw [h8.out]; omega) (m8 : Int) rfl
  have S4 := slL_from L m4 (by rw [h4.out]; omega) (m4 : Int) rfl
  have F8 := Lib.hid (fun u => fourL_any (L.drop m8) (by rw [List.length_drop, h8.out]; omega) u)
  have F4 := Lib.hid (fun u => fourL_any (L.drop m4) (by rw [List.length_drop, h4.out]; omega) u)
  have u8lt := u4_lt (L.drop m8)
  have hC := Lib.hid (fun l d (hB : IsB L l d) => isB_cut hB)
  rw [← h8.out, ← h4.out] at hC
  obtain ⟨q, hq⟩ := named (u4 (L.drop m8))
  obtain ⟨d, hd⟩ := named (u4 (L.drop m4))
  have hd4 : Hid (u4 (L.drop (L.length - 4)) = d) := Lib.hid (by rw [← h4.out]; exact hd.out.symm)
  rw [← hq.out] at hC F8 u8lt
  rw [← hd.out] at hC F4
  obtain ⟨T8, hT8⟩ := named (L.drop m8)
  obtain ⟨T4, hT4⟩ := named (L.drop m4)
  rw [← hT8.out] at S8 F8
  rw [← hT4.out] at S4 F4
  clear hq hd hT8 hT4
  by_cases h3 : m8 / 4 < q
  · have hno : Hid (∀ l d, ¬ IsB L l d) := Lib.hid (fun l d hB => by have := (hC.out l d hB).2.2.1; omega)
    have g3 : ((m8 / 4 : Nat) : Int) < (q : Int) := by omega
    have g3b : (m8 : Int) / 4 < (q : Int) := by omega
    clear hC F4 S4
    go_enter Try.func7, Try.ntmps7
    go_wp2_with (go_at_call 14; ((with_reducible refine (F8.out _).mono ?_); rintro e w1 ⟨rfl, hb1⟩; have W1 := Lib.hid hb1; clear hb1))
    go_returns
    exact .inr ⟨hno.out, rfl, W1.out⟩
  have g3 : ¬ (m8 : Int) / 4 < (q : Int) := by omega
  have g3b : decide (m8 / 4 < q) = false := by rw [decide_eq_false_iff_not]; exact h3
  obtain ⟨N0, hN0⟩ := named (m8 - 4 * q)
  have a0 : (m8 : Int) - 4 * (q : Int) = (N0 : Int) := by rw [hN0.out]; omega
  have SU := slL_upto L N0 (by rw [hN0.out, h8.out]; omega) (N0 : Int) rfl
  obtain ⟨rows, hrows⟩ := named (L.take N0)
  have hrl : rows.length ≤ 65536 := by rw [hrows.out, List.length_take]; omega
  have hD0 : Hid (DeR L rows [] rows) := Lib.hid (DeR.zero (fun l' d' hB => by rw [hrows.out, hN0.out]; exact (hC.out l' d' hB).2.2.2.2))
  rw [← hrows.out] at SU
  have RP : (⟨rows.toArray⟩ : ByteArray).size = rows.length := ofList_size rows
  clear h3 hC hrows hN0 h8 h4
  have row0 : Hid (w.ownsRow w.heap.size 33 4 (.slice none 0 0) 0 (rowR [])) := Lib.hid ⟨by simp [rowR], .inl ⟨rfl, rfl⟩⟩
  go_enter Try.func7, Try.ntmps7
  go_wp2_with (go_at_call 14; ((with_reducible refine (F8.out _).mono ?_); rintro e w1 ⟨rfl, hb1⟩; have W1 := Lib.hid hb1; have row1 := Lib.hid (own_belowB row0.out hb1); clear hb1))
  go_loopw [6, 7, 8] (fun v s i wr => ∃ (l : List Rw) (j A : Nat) (P : List UInt8) (a : Option Addr) (c : Nat), l.length = j ∧ v = .slice a j c ∧ s = .string ⟨P.toArray⟩ ∧ i = .int .i64 (A : Int) ∧ P = lastK l ∧ P.length ≤ 520 * j ∧ A ≤ rows.length ∧ DeR L rows l (rows.drop A) ∧ wr.ownsRow w.heap.size 33 4 (.slice a j c) j (rowR l) ∧ Below w.heap.size w wr) (fun _ _ i _ => rows.length - (intOf i).toNat)
  case atStart => exact ⟨[], 0, 0, [], none, 0, rfl, rfl, rfl, rfl, rfl, by simp, Nat.zero_le _, hD0.out, row1.out, W1.out⟩
  case round =>
    clear W1 row1 row0 W0 F8 S8 hD0 SU
    obtain ⟨l, j, A, P, a, c, hjN, rfl, rfl, rfl, hPl, hPn, hA, hP, hrow, hb⟩ := hrel
    replace hP := Lib.hid hP
    replace hrow := Lib.hid hrow
    replace hb := Lib.hid hb
    replace hjN := Lib.hid hjN
    replace hPl := Lib.hid hPl
    have hj4 : j ≤ 1024 := by have := hP.out.1; rw [hjN.out] at this; exact this
    by_cases hlt : A < rows.length
    · have i0 : (A : Int) < (rows.length : Int) := by omega
      have SR := slL_from rows A hA (A : Int) rfl
      obtain ⟨R, hR⟩ := named (rows.drop A)
      have hRl : R.length = rows.length - A := by rw [hR.out, List.length_drop]
      have hRn : R ≠ [] := fun e => by rw [e] at hRl; simp at hRl; omega
      rw [← hR.out] at SR hP
      have RD := Lib.hid (fun u => read_ref R P (by omega) (by omega) u)
      have hDf := Lib.hid (fun hc => DeR.fail hP.out hRn hc)
      have hDn := Lib.hid (fun x t hc hn => @DeR.next L rows R t l x hP.out hRn hc hn)
      rw [← hPl.out] at hDf hDn
      obtain ⟨X, hX⟩ := named (rdX R P)
      rw [← hX.out] at RD hDf hDn
      cases X with
      | none =>
        have hno : Hid (∀ l d, ¬ IsB L l d) := Lib.hid (hDf.out (.inl rfl))
        have Z0 := Lib.hid hb.out
        clear hDn hDf hP hX hRn hRl
        have RD : Hid (∀ u, Calls Try.prog 15 #[.string ⟨R.toArray⟩, .string ⟨P.toArray⟩] u fun e w' => e = .returned (.tuple #[.agg #[.string ⟨#[]⟩, .int .u64 0, .int .i64 0, .string ⟨#[]⟩], .int .i64 0]) ∧ Below u.heap.size u w') := Lib.hid (fun u => RD.out u)
        go_wp2_with (go_at_call 15; ((with_reducible refine (RD.out _).mono ?_); rintro e u1 ⟨rfl, hb1⟩; have B1 := Lib.hid (below_of hb.out hb1); clear hb1))
        go_returns
        exact .inr ⟨hno.out, rfl, B1.out.alloc B1.out.size _⟩
      | some xt =>
        obtain ⟨x, t⟩ := xt
        have hF := rdX_fit hX.out.symm
        obtain ⟨KK, hKK⟩ := named (R.length - t.length)
        have hK0 : ¬ KK = 0 := by rw [hKK.out]; omega
        have gk : ((KK : Int) == 0) = false := by rw [beq_eq_false_iff_ne]; omega
        have gkb : (KK == 0) = false := by rw [beq_eq_false_iff_ne]; exact hK0
        have htl : Hid (rows.drop (A + KK) = t) := Lib.hid (by rw [← List.drop_drop, ← hR.out, hKK.out]; exact rdX_rest hX.out.symm)
        have hAK : A + KK ≤ rows.length := by rw [hKK.out]; omega
        have hkl : x.key.toList.length ≤ 520 * (j + 1) := by have := hF.2; omega
        have RD : Hid (∀ u, Calls Try.prog 15 #[.string ⟨R.toArray⟩, .string ⟨P.toArray⟩] u fun e w' => e = .returned (.tuple #[rowV x, .int .i64 (KK : Int)]) ∧ Below u.heap.size u w') := Lib.hid (fun u => by rw [hKK.out]; exact RD.out u)
        obtain ⟨xk, xs, xi, xv⟩ := x
        simp only [rowV] at RD hkl
        by_cases hj1 : j = 1024
        · have hno : Hid (∀ l d, ¬ IsB L l d) := Lib.hid (hDf.out (.inr (by rw [hjN.out]; exact hj1)))
          have g4 : ((j : Int) == 1024) = true := by rw [beq_iff_eq]; omega
          have g4b : (j == 1024) = true := by rw [beq_iff_eq]; exact hj1
          clear hDn hDf hP hX hRn hRl hF hKK
          go_wp2_with (go_at_call 15; ((with_reducible refine (RD.out _).mono ?_); rintro e u1 ⟨rfl, hb1⟩; have B1 := Lib.hid (below_of hb.out hb1); clear hb1))
          go_returns
          exact .inr ⟨hno.out, rfl, B1.out.alloc B1.out.size _⟩
        · have g4 : ((j : Int) == 1024) = false := by rw [beq_eq_false_iff_ne]; omega
          have g4b : (j == 1024) = false := by rw [beq_eq_false_iff_ne]; exact hj1
          have hP2 := Lib.hid (hDn.out _ t rfl (by rw [hjN.out]; exact hj1))
          have e9 : Hid ((l ++ [(⟨xk, xs, xi, xv⟩ : Rw)]).length = j + 1) := Lib.hid (by rw [List.length_append, hjN.out]; exact rfl)
          obtain ⟨i0', hi, hz0, hz1, hz2⟩ := info_parts info_rowB
          clear hDn hDf hP hX hRn hRl hF hKK
          go_upto_region 14 with (go_at_call 15; ((with_reducible refine (RD.out _).mono ?_); rintro e u1 ⟨rfl, hb1⟩; have B1 := Lib.hid (below_of hb.out hb1); have O1 := Lib.hid (own_belowB hrow.out hb1); clear hb1))
          have R7 := Lib.hid (RowAt.new ⟨xk, xs, xi, xv⟩ u1)
          have O7 := Lib.hid (own_belowB O1.out (below_alloc u1 (.cells #[.string xk, .int .u64 (xs : Int), .int .i64 xi, .string xv] 33)))
          have B7 := Lib.hid (B1.out.alloc B1.out.size (.cells #[.string xk, .int .u64 (xs : Int), .int .i64 xi, .string xv] 33))
          simp only at R7
          obtain ⟨B9, hB9⟩ := named u1.heap.size
          rw [← hB9.out] at R7 ⊢
          generalize u1.alloc (.cells #[.string xk, .int .u64 (xs : Int), .int .i64 xi, .string xv] 33) = v7 at *
          obtain ⟨c0, c1, c2, c3⟩ := R7.out.c4
          have O8 := Lib.hid (own_belowB O7.out (below_alloc v7 (.cells #[.string xk, .int .u64 (xs : Int), .int .i64 xi, .string xv] 33)))
          have R8 := Lib.hid (R7.out.below (below_alloc v7 (.cells #[.string xk, .int .u64 (xs : Int), .int .i64 xi, .string xv] 33)))
          have B8 := Lib.hid (B7.out.alloc B7.out.size (.cells #[.string xk, .int .u64 (xs : Int), .int .i64 xi, .string xv] 33))
          go_upto_region 15 with (at_builtin; refine wpList_append_own _ rfl _ _ 23 rfl w.heap.size 33 i0' (.agg #[.string .empty, .int .u64 0, .int .i64 0, .string .empty]) 4 48 Try.underlying23 hi hz0 hz1 hz2 rfl (by decide) (.slice a j c) j (rowR l) (by rfl) O8.out ⟨v7.heap.size, 0, none⟩ 1 1 [.string xk, .int .u64 (xs : Int), .int .i64 xi, .string xv] (by rfl) rfl (World.news_of_block (heap_alloc_new _ _)) (row_oneB ⟨xk, xs, xi, xv⟩) (by unfold maxLen; omega) (by omega) B8.out.size ?_; intro v' w9 hown9 hgrow9 _; obtain ⟨a2, c2', hv2⟩ : ∃ a2 c2', v' = .slice a2 (j + 1) c2' := (by rcases hown9.2 with ⟨e1, e0⟩ | ⟨g', cap, cur, e1, _⟩; exact absurd e0 (by omega); exact ⟨_, _, e1⟩); subst hv2; have hown9 := Lib.hid hown9; have hgrow9 := Lib.hid hgrow9)
          have R9 : Hid (RowAt B9 ⟨xk, xs, xi, xv⟩ w9) := Lib.hid ((hgrow9.out.block _ (Array.getElem?_eq_some_iff.1 R8.out).1 (fun e => by have := (World.ownsRow.lt O1.out _ e.symm).2; rw [hB9.out] at this; omega)).trans R8.out)
          have B10 : Hid (Below w.heap.size w w9) := Lib.hid (B8.out.trans ⟨hgrow9.out.os, hgrow9.out.tape, hgrow9.out.output, hgrow9.out.size, fun k hk => hgrow9.out.block k (by have := B8.out.size; omega) (fun e => by have := (World.ownsRow.lt O1.out _ e.symm).1; omega)⟩)
          clear c0 c1 c2 c3 R7 R8 O7 O8 B7 B8 O1 B1 hrow hgrow9
          obtain ⟨c0, c1, c2, c3⟩ := R9.out.c4
          go_wp2_with fail
          go_roundw
          case rel => exact ⟨l ++ [⟨xk, xs, xi, xv⟩], j + 1, A + KK, xk.toList, a2, c2', e9.out, rfl, by rw [ofL], by go_num, (lastK_snoc l ⟨xk, xs, xi, xv⟩).symm, hkl, hAK, by rw [htl.out]; exact hP2.out, by rw [rowR_snoc]; exact hown9.out, B10.out⟩
          case measure => simp [intOf]; omega
    · have i0 : ¬ (A : Int) < (rows.length : Int) := by omega
      have hA2 : rows.drop A = [] := List.drop_eq_nil_of_le (by omega)
      rw [hA2] at hP
      obtain ⟨a', c', b', e1, RS, hbb⟩ := rs_of_row (l := l) (by rw [hjN.out]; exact hrow.out)
      rw [hjN.out] at e1 RS hbb
      simp only [Value.slice.injEq, true_and] at e1
      obtain ⟨rfl, rfl⟩ := e1
      have RS := Lib.hid RS
      have hbb := Lib.hid hbb
      have hgood := Lib.hid (@DeR.good L rows l d)
      have hbad := Lib.hid (DeR.bad hP.out hd4.out)
      have BR : Hid (∀ u, Rs a j c b' 0 l u → Calls Try.prog 16 #[.slice a j c, .int .i64 (d : Int)] u fun e w' => e = .returned (.tuple #[.string ⟨(buildB l d).1.toArray⟩, .int .i64 ((buildB l d).2 : Nat)]) ∧ Below u.heap.size u w') := Lib.hid (fun u hu => refbuild_any (d : Int) hu)
      obtain ⟨⟨S, E⟩, hS⟩ := named (buildB l (d : Int))
      rw [← hS.out] at hgood hbad BR
      simp only at hgood hbad BR
      clear hS hA2 hrow
      by_cases hE : E = 0
      · subst hE
        by_cases hSL : S = L
        · have hyes := Lib.hid (hgood.out rfl hSL)
          subst hSL
          have q1 : (S != S) = false := by simp
          clear hgood hbad
          go_wp2_with (first
            | (go_at_call 14; ((with_reducible refine (F4.out _).mono ?_); rintro e u1 ⟨rfl, hb1⟩; have B1 := Lib.hid (below_of hb.out hb1); have R1 := Lib.hid (RS.out.below hb1 (Nat.le_refl _)); clear hb1))
            | (go_at_call 16; ((with_reducible refine (BR.out _ R1.out).mono ?_); rintro e u2 ⟨rfl, hb2⟩; have B2 := Lib.hid (below_of B1.out hb2); have R2 := Lib.hid (R1.out.below hb2 (Nat.le_refl _)); clear hb2)))
          go_returns
          exact .inl ⟨l, d, a, c, b', hyes.out, by rw [hjN.out]; rfl, by rw [hjN.out]; exact R2.out, by rw [hjN.out]; exact hbb.out, B2.out⟩
        · have hno := Lib.hid (hbad.out (.inr hSL))
          have q1 : (S != L) = true := by rw [bne_iff_ne]; exact hSL
          have q2 : (S == L) = false := by rw [beq_eq_false_iff_ne]; exact hSL
          clear hgood hbad
          go_wp2_with (first
            | (go_at_call 14; ((with_reducible refine (F4.out _).mono ?_); rintro e u1 ⟨rfl, hb1⟩; have B1 := Lib.hid (below_of hb.out hb1); have R1 := Lib.hid (RS.out.below hb1 (Nat.le_refl _)); clear hb1))
            | (go_at_call 16; ((with_reducible refine (BR.out _ R1.out).mono ?_); rintro e u2 ⟨rfl, hb2⟩; have B2 := Lib.hid (below_of B1.out hb2); clear hb2)))
          go_returns
          exact .inr ⟨hno.out, rfl, B2.out⟩
      · have hno := Lib.hid (hbad.out (.inl hE))
        have q1 : ((E : Int) != 0) = true := by rw [bne_iff_ne]; omega
        clear hgood hbad
        go_wp2_with (first
          | (go_at_call 14; ((with_reducible refine (F4.out _).mono ?_); rintro e u1 ⟨rfl, hb1⟩; have B1 := Lib.hid (below_of hb.out hb1); have R1 := Lib.hid (RS.out.below hb1 (Nat.le_refl _)); clear hb1))
          | (go_at_call 16; ((with_reducible refine (BR.out _ R1.out).mono ?_); rintro e u2 ⟨rfl, hb2⟩; have B2 := Lib.hid (below_of B1.out hb2); clear hb2)))
        go_returns
        exact .inr ⟨hno.out, rfl, B2.out⟩
end Go.Proofs.Ytnmlifagchdphaa
