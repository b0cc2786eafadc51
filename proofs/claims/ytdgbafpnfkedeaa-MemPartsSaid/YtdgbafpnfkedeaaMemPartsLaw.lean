/-
  MemParts: a range is told in two parts, wherever it is cut; the room is that of all rows. No condition.
-/
import Derived.Test.YtdgbafpnfkedeaaPack4
import Derived.StillTailTactics
namespace Go.Proofs.Ytdgbafpnfkedeaa
set_option maxRecDepth 100000
open Go.RowKit
theorem gtr_less (a b : ByteArray) (u : World) : (binOp .gtr 9 (.string a) (.string b)).run Try.prog u = .ok (.bool (Op.bytesLess b.toList a.toList)) u := by
  have : binOp .gtr 9 (.string a) (.string b) = pure (.bool (!(Op.bytesLess a.toList b.toList || a.toList == b.toList))) := by simp [binOp, Op.stringOp]
  rw [this]
  have e : (!(Op.bytesLess a.toList b.toList || a.toList == b.toList)) = Op.bytesLess b.toList a.toList := by
    cases h : Op.bytesLess a.toList b.toList with
    | true =>
      cases h2 : Op.bytesLess b.toList a.toList with
      | false => rfl
      | true => have := less_tr h h2; rw [less_irr] at this; cases this
    | false =>
      by_cases h2 : a.toList = b.toList
      · rw [h2, less_irr]; simp
      · rw [less_tot h h2]; simp [h2]
  rw [e]
  rfl
theorem own_below {w w' : World} {base size n : Nat} {e : TypeId} {v : Value} {xs : List Value} (h : w.ownsRow base e size v n xs) (hb : Below w.heap.size w w') : w'.ownsRow base e size v n xs := h.kept (grown_of_below hb) (by cases v.ownBlock <;> simp)
/-- An empty slice of an own block. -/
theorem row_zero {w : World} {g B size : Nat} {e : TypeId} (h : w.heap[g]? = some (.cells #[] e (0, 0))) (hB : B ≤ g) : w.ownsRow B e size (.slice (some ⟨g, 0, none⟩) 0 0) 0 [] :=
  ⟨by simp, .inr ⟨g, 0, #[], rfl, hB, h, Nat.le_refl _, by unfold maxLen; omega, by simp, by simp⟩⟩
theorem one_cells (l : List Rw) : ∀ u ∈ rowR l, u.oneCell' = true := by
  intro u hu
  unfold rowR at hu
  obtain ⟨x, _, hx⟩ := List.mem_flatMap.1 hu
  exact row_one x u hx
theorem rng_len (R : List Rw) (fr to' : ByteArray) : (rngR R fr to').length ≤ R.length := by
  unfold rngR
  exact Nat.le_trans (List.takeWhile_prefix _).length_le (by rw [List.length_drop]; omega)
theorem range_tab {q : Option Addr} {R : List Rw} {w : World} (h : TabQ q R w) (fr to' : ByteArray) (hk : fr.size ≤ 281474976710656) : Calls Try.prog 16 #[.pointer q, .string fr, .string to'] w (GaveR (rngR R fr to') w) := by
  rcases h with ⟨rfl, rfl⟩ | ⟨p, L, l, rfl, h, hL, hR, hn⟩
  · have E := Lib.hid (below_alloc w (.cells #[.string to'] 9))
    clear hk
    go_enter Try.func16, Try.ntmps16
    go_wp2_with fail
    go_returns
    exact ⟨_, rfl, World.ownsRow_nil _ _ _ _, E.out⟩
  · exact range_some h hL hR hn fr to' hk
theorem reach_small {s : ByteArray} (h : s.size ≤ reachBytes) : s.size ≤ 281474976710656 := by unfold reachBytes at h; omega
set_option maxRecDepth 100000 in
set_option maxHeartbeats 8000000 in
theorem parts_walk (a0 : Option Addr) (n0 c0 b0 o0 : Nat) (bs : List Bt) (fr : ByteArray) (hkf : fr.size ≤ reachBytes) (cut : ByteArray) (hkc : cut.size ≤ reachBytes) (to' : ByteArray) (_ : to'.size ≤ reachBytes) (w : World)
    (h0 : SlOf 2 cellsBt a0 n0 c0 b0 o0 bs w ∧ ∀ v ∈ bs, BtAt v w) :
    Calls Try.prog 7 #[.slice a0 n0 c0, .string fr, .string cut, .string to'] w fun e w' => e = .returned (.bool true) ∧ Below w.heap.size w w' := by
  replace hkf := Lib.hid (reach_small hkf)
  replace hkc := Lib.hid (reach_small hkc)
  have AW := fun u => Lib.hid (awake_mem u)
  have L1 := Lib.hid (laid_any (a1 := none) (n1 := 0) (c1 := 0) (b1 := 0) (o1 := 0) (hs := []) (Tb.nil w.heap.size w) (Nat.le_refl _) (fun u hu => ⟨h0.1.below hu (Nat.le_refl _), fun v hv => ⟨(h0.2 v hv).1, (h0.2 v hv).2.below hu (Nat.le_refl _)⟩, sl_nil u⟩) (Below.refl _ _))
  clear h0
  have GT1 := fun u => gtr_less fr cut u
  have GT2 := fun u => gtr_less cut to' u
  go_enter Try.func7, Try.ntmps7
  go_upto_region 2 with (go_at_call 23; ((with_reducible refine L1.out.mono ?_); rintro e w1 ⟨p1, R1, rfl, T1, B1, n1', e1⟩; have T1 := Lib.hid T1; have B1 := Lib.hid B1; have e1 := Lib.hid e1; clear L1))
  have hs1 : Hid (w.heap.size ≤ w1.heap.size) := Lib.hid B1.out.size
  have awk : True := trivial
  cases hf : fineB bs with
  | false =>
    go_wp2_with (go_at_call 9; ((with_reducible refine (AW _).out.mono ?_); rintro e w3 ⟨rfl, B3⟩; have B3 := Lib.hid (B1.out.trans (B3.mono hs1.out))))
    go_returns
    exact ⟨rfl, B3.out⟩
  | true =>
    have E1 := e1.out hf
    obtain ⟨RR, hRR⟩ := named (laidR bs)
    rw [← hRR.out] at E1
    rw [E1] at T1
    have hlR : Hid (RR.length ≤ 4000) := Lib.hid (by rw [← E1]; exact n1')
    have QT : Hid (∀ u, Below w1.heap.size w1 u → TabQ (some ⟨p1, 0, none⟩) RR u) := Lib.hid fun u hu => (T1.out.grow hu).q (i := 0) rfl (by have := hlR.out; omega)
    have hso : Hid (SortedR RR) := Lib.hid (T1.out.sort (i := 0) rfl)
    have hsh : Hid (∀ x ∈ RR, shortR x) := Lib.hid (T1.out.short (i := 0) rfl)
    have hsq : Hid (∀ x ∈ RR, x.seq ≤ 18446744073709551615) := Lib.hid fun x hx => (short_in (hsh.out x hx)).2.2
    have GR : Hid (∀ u, Below w1.heap.size w1 u → Calls Try.prog 20 #[.pointer (some ⟨p1, 0, none⟩)] u (GaveR RR u)) := Lib.hid fun u hu => rows_tab (QT.out u hu)
    have RM : Hid (∀ u, Below w1.heap.size w1 u → Calls Try.prog 24 #[.pointer (some ⟨p1, 0, none⟩)] u fun e w' => e = .returned (.int .i64 (roomR RR : Int)) ∧ w' = u) := Lib.hid fun u hu => room_any (QT.out u hu)
    have bs2 : Hid (∀ u v : World, Below w1.heap.size w1 u → Below u.heap.size u v → Below w1.heap.size w1 v) := Lib.hid fun u v h1 h2 => h1.trans (h2.mono h1.size)
    clear hf e1 hRR E1 n1'
    cases hb1 : Op.bytesLess cut.toList fr.toList with
    | true =>
      rw [hb1] at GT1
      go_wp2_with (go_at_call 9; ((with_reducible refine (AW _).out.mono ?_); rintro e w3 ⟨rfl, B3⟩; have B3 := Lib.hid (B1.out.trans (B3.mono hs1.out))))
      go_returns
      exact ⟨rfl, B3.out⟩
    | false =>
      rw [hb1] at GT1
      replace hb1 := Lib.hid hb1
      by_cases hc : cut.toList = []
      · have q1 : (cut.toList == []) = true := by rw [hc]; rfl
        go_wp2_with (go_at_call 9; ((with_reducible refine (AW _).out.mono ?_); rintro e w3 ⟨rfl, B3⟩; have B3 := Lib.hid (B1.out.trans (B3.mono hs1.out))))
        go_returns
        exact ⟨rfl, B3.out⟩
      · have q1 : (cut.toList == []) = false := by simpa using hc
        have hc1 := Lib.hid hc
        clear hc
        by_cases ht : to'.toList = []
        · have q2 : (to'.toList == []) = true := by rw [ht]; rfl
          have hto : to'.toList = [] ∨ Op.bytesLess to'.toList cut.toList = false := .inl ht
          replace hto := hto
          clear ht
          have RG1 : Hid (∀ u, Below w1.heap.size w1 u → Calls Try.prog 16 #[.pointer (some ⟨p1, 0, none⟩), .string fr, .string cut] u (GaveR (rngR RR fr cut) u)) := Lib.hid fun u hu => range_tab (QT.out u hu) fr cut hkf.out
          have RG2 : Hid (∀ u, Below w1.heap.size w1 u → Calls Try.prog 16 #[.pointer (some ⟨p1, 0, none⟩), .string cut, .string to'] u (GaveR (rngR RR cut to') u)) := Lib.hid fun u hu => range_tab (QT.out u hu) cut to' hkc.out
          have RG3 : Hid (∀ u, Below w1.heap.size w1 u → Calls Try.prog 16 #[.pointer (some ⟨p1, 0, none⟩), .string fr, .string to'] u (GaveR (rngR RR fr to') u)) := Lib.hid fun u hu => range_tab (QT.out u hu) fr to' hkf.out
          have SR : Hid (∀ v n c a' c' b' u, u.ownsRow w1.heap.size 43 4 (.slice v n c) n (rowR (rngR RR fr to')) → Rs a' (rngR RR fr to').length c' b' 0 (rngR RR fr to') u → Calls Try.prog 17 #[.slice v n c, .slice a' (rngR RR fr to').length c'] u fun e w' => e = .returned (.bool true) ∧ Below u.heap.size u w') := Lib.hid fun v n c a' c' b' u h1 h2 => by
            have hn : n = (rngR RR fr to').length := by have := h1.1; rw [rowR_len] at this; omega
            subst hn
            obtain ⟨a, c2, b, hv, hr, _⟩ := rs_of_row h1
            simp only [Value.slice.injEq] at hv
            obtain ⟨rfl, _, rfl⟩ := hv
            exact (samerows_any hr h2).mono fun e w' h => ⟨h.1.trans (by simp), h.2⟩
          have PT : Hid (rngR RR fr cut ++ rngR RR cut to' = rngR RR fr to') := Lib.hid (rng_parts hso.out hsq.out hb1.out hc1.out hto)
          have LA : Hid ((rngR RR fr cut).length ≤ 4000) := Lib.hid (Nat.le_trans (rng_len RR fr cut) hlR.out)
          have LB : Hid ((rngR RR cut to').length ≤ 4000) := Lib.hid (Nat.le_trans (rng_len RR cut to') hlR.out)
          clear hb1 hc1 hto hso
          go_upto_region 6 with (go_at_call 20; ((with_reducible refine (GR.out _ (Below.refl _ _)).mono ?_); rintro e w2 hd; obtain ⟨a2, c2, b2, rfl, r2, hb2⟩ := gave_rs hd; have Q2 := Lib.hid hb2; have m2 := r2.most; have n2 := r2.cap; have S2 := Lib.hid r2; clear hd hb2 r2 GR))
          obtain ⟨N, hN⟩ := named RR.length
          rw [← hN.out] at S2 n2 ⊢
          have hNb : N ≤ 4000 := by rw [hN.out]; exact hlR.out
          have LN : Hid (∀ u, Below w1.heap.size w1 u → Calls Try.prog 25 #[.pointer (some ⟨p1, 0, none⟩)] u fun e w' => e = .returned (.int .i64 (N : Int)) ∧ w' = u) := Lib.hid fun u hu => by rw [hN.out]; exact tlen_any (QT.out u hu)
          have Z2 := Lib.hid (Below.refl w2.heap.size w2)
          go_wp2_with fail
          go_loopw [11, 13] (fun s v wr => ∃ j : Nat, j ≤ N ∧ s = .int .i64 (roomR (RR.take j) : Int) ∧ v = .int .i64 (j : Int) ∧ Below w2.heap.size w2 wr) (fun _ v _ => N - (intOf v).toNat)
          case atStart => exact ⟨0, Nat.zero_le _, rfl, rfl, Z2.out⟩
          case round =>
            obtain ⟨j, hj, rfl, rfl, hB⟩ := hrel
            by_cases hlt : j < N
            · obtain ⟨x, hx, rfl, x0, x1, x2, x3⟩ := (S2.out.below hB (Nat.le_refl _)).at4 hlt
              rw [Nat.zero_add] at x0 x1 x2 x3
              have hxs := hsh.out x (List.mem_of_getElem? hx)
              have i1 : (j : Int) < (N : Int) := by omega
              have r1 := room_le (l := RR.take j) (fun y hy => hsh.out y (List.mem_of_mem_take hy))
              rw [List.length_take] at r1
              have r2 : roomR (RR.take (j + 1)) = roomR (RR.take j) + (x.key.size + x.val.size + 16) := by
                rw [List.take_add_one, hx]
                unfold roomR
                rw [Option.toList_some, List.foldl_append]
                rfl
              obtain ⟨A, hA⟩ := named (roomR (RR.take j))
              obtain ⟨A', hA'⟩ := named (roomR (RR.take (j + 1)))
              rw [← hA.out] at r1 r2 ⊢
              rw [← hA'.out] at r2
              unfold shortR at hxs
              have e3 : (A : Int) + (x.key.size : Int) + (x.val.size : Int) + 16 = (A' : Int) := by omega
              have s1 : x.key.size ≤ 520 := hxs.1
              have s2 : x.val.size ≤ 2048 := hxs.2.1
              have s3 : A ≤ 12000000 := by omega
              have e4 := Lib.hid e3
              have hB := Lib.hid hB
              clear hxs r1 r2
              go_upto_region 9 with fail
              go_still_tail 16, (by kernel_rfl)
              change wpList _ _ _ _ _ wr.drew
              have hB2 := Lib.hid hB.out.drew
              clear hB x0 x1 x2 x3
              generalize wr.drew = wr' at hB2 ⊢
              go_wp2_with fail
              go_roundw
              case rel => exact ⟨j + 1, by omega, by rw [← hA'.out, IntWalk.i64_in ((A : Int) + (x.key.size : Int)) ⟨by omega, by omega⟩, IntWalk.i64_in ((A : Int) + (x.key.size : Int) + (x.val.size : Int)) ⟨by omega, by omega⟩, IntWalk.i64_in ((A : Int) + (x.key.size : Int) + (x.val.size : Int) + 16) ⟨by omega, by omega⟩, e4.out], by go_num, hB2.out⟩
              case measure => simp [intOf]; omega
            · have hjN : j = N := by omega
              subst hjN
              have i1 : ¬ ((j : Int) < (j : Int)) := by omega
              rw [List.take_of_length_le (l := RR) (i := j) (by rw [← hN.out]; exact Nat.le_refl _)]
              obtain ⟨A, hA⟩ := named (roomR RR)
              rw [← hA.out] at RM ⊢
              have Q3 := Lib.hid (bs2.out _ _ Q2.out hB)
              clear hB Z2 hj hlt S2 hsh
              obtain ⟨N, hjN⟩ := named j
              rw [← hjN.out] at n2 hNb LN i1 ⊢
              clear hjN
              obtain ⟨X, hX⟩ := named (rngR RR fr cut)
              obtain ⟨Y, hY⟩ := named (rngR RR cut to')
              obtain ⟨Z, hZ⟩ := named (rngR RR fr to')
              rw [← hX.out] at RG1 PT LA
              rw [← hY.out] at RG2 PT LB
              rw [← hZ.out] at RG3 PT SR
              clear hX hY hZ
              go_upto_region 11 with (first
                | (go_at_call 16; ((with_reducible refine (RG1.out _ Q3.out).mono ?_); rintro e w4 ⟨v4, rfl, h4, hb4⟩; obtain ⟨a4, d4, rfl⟩ := ownsRow_slice h4; have Q4 := Lib.hid (bs2.out _ _ Q3.out hb4); have G4 := Lib.hid h4; clear h4 hb4 RG1))
                | (go_at_call 16; ((with_reducible refine (RG2.out _ Q4.out).mono ?_); rintro e w5 ⟨v5, rfl, h5, hb5⟩; obtain ⟨a5, d5, rfl⟩ := ownsRow_slice h5; have Q5 := Lib.hid (bs2.out _ _ Q4.out hb5); have G5 := Lib.hid h5; have G4' := Lib.hid (own_below G4.out hb5); clear h5 hb5 RG2))
                | fail "no arm")
              have Q6 := Lib.hid (bs2.out _ _ Q5.out (below_alloc w5 (.cells #[] 43)))
              have H4 := Lib.hid (own_below G4'.out (below_alloc w5 (.cells #[] 43)))
              have H5 := Lib.hid (own_below G5.out (below_alloc w5 (.cells #[] 43)))
              have H0 := Lib.hid (row_zero (w := w5.alloc (.cells #[] 43)) (g := w5.heap.size) (B := w1.heap.size) (size := 4) (e := 43) (heap_alloc_new _ _) Q5.out.size)
              have P5 : Hid ((Value.slice a5 Y.length d5).ownBlock ≠ some w5.heap.size) := Lib.hid fun e => by have := (World.ownsRow.lt G5.out _ e).2; omega
              clear G4 G4' G5
              go_wp2_with (first
                | (have t7 := P7; at_builtin; refine wpList_append_two rfl (.tmp 76) (.tmp 77) 27 rfl w1.heap.size _ 43 4 48 (.agg #[.string .empty, .int .u64 0, .int .i64 0, .string .empty]) Try.underlying27 info_row rfl (by decide) (by decide) _ X.length (rowR X) _ Y.length (rowR Y) t7.out K5.out rfl rfl (one_cells Y) (by have := LA.out; omega) (by have := LB.out; omega) Q7.out.size ?_; intro v8 w8 own8 grow8 sh8; obtain ⟨va8, vc8, rfl⟩ := sh8; have Q8 := Lib.hid (Q7.out.grown grow8 Q7.out.size (fun k hk => (World.ownsRow.lt t7.out k hk).1)); rw [← rowR_app, PT.out] at own8; have P8 := Lib.hid own8; clear own8 grow8 P7 t7 K5)
                | (at_builtin; refine wpList_append_two rfl (.tmp 74) (.tmp 75) 27 rfl w1.heap.size _ 43 4 48 (.agg #[.string .empty, .int .u64 0, .int .i64 0, .string .empty]) Try.underlying27 info_row rfl (by decide) (by decide) _ 0 [] _ X.length (rowR X) H0.out H4.out rfl rfl (one_cells X) (by omega) (by have := LA.out; omega) Q6.out.size ?_; intro v7 w7 own7 grow7 sh7; obtain ⟨va7, vc7, rfl⟩ := sh7; have Q7 := Lib.hid (Q6.out.grown grow7 Q6.out.size (fun k hk => by cases hk; exact Q5.out.size)); have K5 := Lib.hid (H5.out.kept grow7 (.inr P5.out)); rw [Nat.zero_add, List.nil_append] at own7; have P7 := Lib.hid own7; rw [Nat.zero_add]; clear own7 grow7 H0 H4 H5)
                | (go_at_call 16; ((with_reducible refine (RG3.out _ Q8.out).mono ?_); rintro e w9 hd; obtain ⟨a9, c9, b9, rfl, r9, hb9⟩ := gave_rs hd; have Q9 := Lib.hid (bs2.out _ _ Q8.out hb9); have S9 := Lib.hid (SR.out _ _ _ _ _ _ _ (own_below P8.out hb9) r9); clear hd hb9 r9 RG3 P8))
                | (go_at_call 17; ((with_reducible refine S9.out.mono ?_); rintro e w10 ⟨rfl, hb10⟩; have Q10 := Lib.hid (bs2.out _ _ Q9.out hb10); clear hb10 S9))
                | (go_at_call 24; ((with_reducible refine (RM.out _ Q10.out).mono ?_); rintro e w11 ⟨rfl, rfl⟩; clear RM))
                | (go_at_call 25; ((with_reducible refine (LN.out _ Q10.out).mono ?_); rintro e w11 ⟨rfl, rfl⟩; clear LN))
                | (go_at_call 9; ((with_reducible refine (AW _).out.mono ?_); rintro e w12 ⟨rfl, B12⟩; have Q12 := Lib.hid (bs2.out _ _ Q10.out B12); clear B12))
                | fail "no arm")
              go_returns
              exact ⟨rfl, B1.out.trans (Q12.out.mono hs1.out)⟩
        · have q2 : (to'.toList == []) = false := by simpa using ht
          clear ht
          cases hd : Op.bytesLess to'.toList cut.toList with
          | true =>
            rw [hd] at GT2
            go_wp2_with (go_at_call 9; ((with_reducible refine (AW _).out.mono ?_); rintro e w3 ⟨rfl, B3⟩; have B3 := Lib.hid (B1.out.trans (B3.mono hs1.out))))
            go_returns
            exact ⟨rfl, B3.out⟩
          | false =>
            rw [hd] at GT2
            have hto : to'.toList = [] ∨ Op.bytesLess to'.toList cut.toList = false := .inr hd
            clear hd
            have RG1 : Hid (∀ u, Below w1.heap.size w1 u → Calls Try.prog 16 #[.pointer (some ⟨p1, 0, none⟩), .string fr, .string cut] u (GaveR (rngR RR fr cut) u)) := Lib.hid fun u hu => range_tab (QT.out u hu) fr cut hkf.out
            have RG2 : Hid (∀ u, Below w1.heap.size w1 u → Calls Try.prog 16 #[.pointer (some ⟨p1, 0, none⟩), .string cut, .string to'] u (GaveR (rngR RR cut to') u)) := Lib.hid fun u hu => range_tab (QT.out u hu) cut to' hkc.out
            have RG3 : Hid (∀ u, Below w1.heap.size w1 u → Calls Try.prog 16 #[.pointer (some ⟨p1, 0, none⟩), .string fr, .string to'] u (GaveR (rngR RR fr to') u)) := Lib.hid fun u hu => range_tab (QT.out u hu) fr to' hkf.out
            have SR : Hid (∀ v n c a' c' b' u, u.ownsRow w1.heap.size 43 4 (.slice v n c) n (rowR (rngR RR fr to')) → Rs a' (rngR RR fr to').length c' b' 0 (rngR RR fr to') u → Calls Try.prog 17 #[.slice v n c, .slice a' (rngR RR fr to').length c'] u fun e w' => e = .returned (.bool true) ∧ Below u.heap.size u w') := Lib.hid fun v n c a' c' b' u h1 h2 => by
              have hn : n = (rngR RR fr to').length := by have := h1.1; rw [rowR_len] at this; omega
              subst hn
              obtain ⟨a, c2, b, hv, hr, _⟩ := rs_of_row h1
              simp only [Value.slice.injEq] at hv
              obtain ⟨rfl, _, rfl⟩ := hv
              exact (samerows_any hr h2).mono fun e w' h => ⟨h.1.trans (by simp), h.2⟩
            have PT : Hid (rngR RR fr cut ++ rngR RR cut to' = rngR RR fr to') := Lib.hid (rng_parts hso.out hsq.out hb1.out hc1.out hto)
            have LA : Hid ((rngR RR fr cut).length ≤ 4000) := Lib.hid (Nat.le_trans (rng_len RR fr cut) hlR.out)
            have LB : Hid ((rngR RR cut to').length ≤ 4000) := Lib.hid (Nat.le_trans (rng_len RR cut to') hlR.out)
            clear hb1 hc1 hto hso
            go_upto_region 6 with (go_at_call 20; ((with_reducible refine (GR.out _ (Below.refl _ _)).mono ?_); rintro e w2 hd; obtain ⟨a2, c2, b2, rfl, r2, hb2⟩ := gave_rs hd; have Q2 := Lib.hid hb2; have m2 := r2.most; have n2 := r2.cap; have S2 := Lib.hid r2; clear hd hb2 r2 GR))
            obtain ⟨N, hN⟩ := named RR.length
            rw [← hN.out] at S2 n2 ⊢
            have hNb : N ≤ 4000 := by rw [hN.out]; exact hlR.out
            have LN : Hid (∀ u, Below w1.heap.size w1 u → Calls Try.prog 25 #[.pointer (some ⟨p1, 0, none⟩)] u fun e w' => e = .returned (.int .i64 (N : Int)) ∧ w' = u) := Lib.hid fun u hu => by rw [hN.out]; exact tlen_any (QT.out u hu)
            have Z2 := Lib.hid (Below.refl w2.heap.size w2)
            go_wp2_with fail
            go_loopw [11, 13] (fun s v wr => ∃ j : Nat, j ≤ N ∧ s = .int .i64 (roomR (RR.take j) : Int) ∧ v = .int .i64 (j : Int) ∧ Below w2.heap.size w2 wr) (fun _ v _ => N - (intOf v).toNat)
            case atStart => exact ⟨0, Nat.zero_le _, rfl, rfl, Z2.out⟩
            case round =>
              obtain ⟨j, hj, rfl, rfl, hB⟩ := hrel
              by_cases hlt : j < N
              · obtain ⟨x, hx, rfl, x0, x1, x2, x3⟩ := (S2.out.below hB (Nat.le_refl _)).at4 hlt
                rw [Nat.zero_add] at x0 x1 x2 x3
                have hxs := hsh.out x (List.mem_of_getElem? hx)
                have i1 : (j : Int) < (N : Int) := by omega
                have r1 := room_le (l := RR.take j) (fun y hy => hsh.out y (List.mem_of_mem_take hy))
                rw [List.length_take] at r1
                have r2 : roomR (RR.take (j + 1)) = roomR (RR.take j) + (x.key.size + x.val.size + 16) := by
                  rw [List.take_add_one, hx]
                  unfold roomR
                  rw [Option.toList_some, List.foldl_append]
                  rfl
                obtain ⟨A, hA⟩ := named (roomR (RR.take j))
                obtain ⟨A', hA'⟩ := named (roomR (RR.take (j + 1)))
                rw [← hA.out] at r1 r2 ⊢
                rw [← hA'.out] at r2
                unfold shortR at hxs
                have e3 : (A : Int) + (x.key.size : Int) + (x.val.size : Int) + 16 = (A' : Int) := by omega
                have s1 : x.key.size ≤ 520 := hxs.1
                have s2 : x.val.size ≤ 2048 := hxs.2.1
                have s3 : A ≤ 12000000 := by omega
                have e4 := Lib.hid e3
                have hB := Lib.hid hB
                clear hxs r1 r2
                go_upto_region 9 with fail
                go_still_tail 16, (by kernel_rfl)
                change wpList _ _ _ _ _ wr.drew
                have hB2 := Lib.hid hB.out.drew
                clear hB x0 x1 x2 x3
                generalize wr.drew = wr' at hB2 ⊢
                go_wp2_with fail
                go_roundw
                case rel => exact ⟨j + 1, by omega, by rw [← hA'.out, IntWalk.i64_in ((A : Int) + (x.key.size : Int)) ⟨by omega, by omega⟩, IntWalk.i64_in ((A : Int) + (x.key.size : Int) + (x.val.size : Int)) ⟨by omega, by omega⟩, IntWalk.i64_in ((A : Int) + (x.key.size : Int) + (x.val.size : Int) + 16) ⟨by omega, by omega⟩, e4.out], by go_num, hB2.out⟩
                case measure => simp [intOf]; omega
              · have hjN : j = N := by omega
                subst hjN
                have i1 : ¬ ((j : Int) < (j : Int)) := by omega
                rw [List.take_of_length_le (l := RR) (i := j) (by rw [← hN.out]; exact Nat.le_refl _)]
                obtain ⟨A, hA⟩ := named (roomR RR)
                rw [← hA.out] at RM ⊢
                have Q3 := Lib.hid (bs2.out _ _ Q2.out hB)
                clear hB Z2 hj hlt S2 hsh
                obtain ⟨N, hjN⟩ := named j
                rw [← hjN.out] at n2 hNb LN i1 ⊢
                clear hjN
                obtain ⟨X, hX⟩ := named (rngR RR fr cut)
                obtain ⟨Y, hY⟩ := named (rngR RR cut to')
                obtain ⟨Z, hZ⟩ := named (rngR RR fr to')
                rw [← hX.out] at RG1 PT LA
                rw [← hY.out] at RG2 PT LB
                rw [← hZ.out] at RG3 PT SR
                clear hX hY hZ
                go_upto_region 11 with (first
                  | (go_at_call 16; ((with_reducible refine (RG1.out _ Q3.out).mono ?_); rintro e w4 ⟨v4, rfl, h4, hb4⟩; obtain ⟨a4, d4, rfl⟩ := ownsRow_slice h4; have Q4 := Lib.hid (bs2.out _ _ Q3.out hb4); have G4 := Lib.hid h4; clear h4 hb4 RG1))
                  | (go_at_call 16; ((with_reducible refine (RG2.out _ Q4.out).mono ?_); rintro e w5 ⟨v5, rfl, h5, hb5⟩; obtain ⟨a5, d5, rfl⟩ := ownsRow_slice h5; have Q5 := Lib.hid (bs2.out _ _ Q4.out hb5); have G5 := Lib.hid h5; have G4' := Lib.hid (own_below G4.out hb5); clear h5 hb5 RG2))
                  | fail "no arm")
                have Q6 := Lib.hid (bs2.out _ _ Q5.out (below_alloc w5 (.cells #[] 43)))
                have H4 := Lib.hid (own_below G4'.out (below_alloc w5 (.cells #[] 43)))
                have H5 := Lib.hid (own_below G5.out (below_alloc w5 (.cells #[] 43)))
                have H0 := Lib.hid (row_zero (w := w5.alloc (.cells #[] 43)) (g := w5.heap.size) (B := w1.heap.size) (size := 4) (e := 43) (heap_alloc_new _ _) Q5.out.size)
                have P5 : Hid ((Value.slice a5 Y.length d5).ownBlock ≠ some w5.heap.size) := Lib.hid fun e => by have := (World.ownsRow.lt G5.out _ e).2; omega
                clear G4 G4' G5
                go_wp2_with (first
                  | (have t7 := P7; at_builtin; refine wpList_append_two rfl (.tmp 76) (.tmp 77) 27 rfl w1.heap.size _ 43 4 48 (.agg #[.string .empty, .int .u64 0, .int .i64 0, .string .empty]) Try.underlying27 info_row rfl (by decide) (by decide) _ X.length (rowR X) _ Y.length (rowR Y) t7.out K5.out rfl rfl (one_cells Y) (by have := LA.out; omega) (by have := LB.out; omega) Q7.out.size ?_; intro v8 w8 own8 grow8 sh8; obtain ⟨va8, vc8, rfl⟩ := sh8; have Q8 := Lib.hid (Q7.out.grown grow8 Q7.out.size (fun k hk => (World.ownsRow.lt t7.out k hk).1)); rw [← rowR_app, PT.out] at own8; have P8 := Lib.hid own8; clear own8 grow8 P7 t7 K5)
                  | (at_builtin; refine wpList_append_two rfl (.tmp 74) (.tmp 75) 27 rfl w1.heap.size _ 43 4 48 (.agg #[.string .empty, .int .u64 0, .int .i64 0, .string .empty]) Try.underlying27 info_row rfl (by decide) (by decide) _ 0 [] _ X.length (rowR X) H0.out H4.out rfl rfl (one_cells X) (by omega) (by have := LA.out; omega) Q6.out.size ?_; intro v7 w7 own7 grow7 sh7; obtain ⟨va7, vc7, rfl⟩ := sh7; have Q7 := Lib.hid (Q6.out.grown grow7 Q6.out.size (fun k hk => by cases hk; exact Q5.out.size)); have K5 := Lib.hid (H5.out.kept grow7 (.inr P5.out)); rw [Nat.zero_add, List.nil_append] at own7; have P7 := Lib.hid own7; rw [Nat.zero_add]; clear own7 grow7 H0 H4 H5)
                  | (go_at_call 16; ((with_reducible refine (RG3.out _ Q8.out).mono ?_); rintro e w9 hd; obtain ⟨a9, c9, b9, rfl, r9, hb9⟩ := gave_rs hd; have Q9 := Lib.hid (bs2.out _ _ Q8.out hb9); have S9 := Lib.hid (SR.out _ _ _ _ _ _ _ (own_below P8.out hb9) r9); clear hd hb9 r9 RG3 P8))
                  | (go_at_call 17; ((with_reducible refine S9.out.mono ?_); rintro e w10 ⟨rfl, hb10⟩; have Q10 := Lib.hid (bs2.out _ _ Q9.out hb10); clear hb10 S9))
                  | (go_at_call 24; ((with_reducible refine (RM.out _ Q10.out).mono ?_); rintro e w11 ⟨rfl, rfl⟩; clear RM))
                  | (go_at_call 25; ((with_reducible refine (LN.out _ Q10.out).mono ?_); rintro e w11 ⟨rfl, rfl⟩; clear LN))
                  | (go_at_call 9; ((with_reducible refine (AW _).out.mono ?_); rintro e w12 ⟨rfl, B12⟩; have Q12 := Lib.hid (bs2.out _ _ Q10.out B12); clear B12))
                  | fail "no arm")
                go_returns
                exact ⟨rfl, B1.out.trans (Q12.out.mono hs1.out)⟩
--LAW freshetlaw09.MemParts parts_walk bts:l string:fr string:cut string:tt
--BEGIN
namespace MemPartsProof
open Go.ChangeShapes Go.WideShapes Go.ChangeAt Go.RowKit
open Go.ChangeMaps (open_string shut_string)
theorem own : ownKnob Try.prog.godebug = none := by kernel_rfl
set_option maxRecDepth 100000 in
theorem lifted (os : Os) (started : os.Started) (H : Type) (enc : TypeId × Value → H) :
    ReturnsInHanded {} Try.checked os 7 .any (Rows.memPartsSpec.pre6 enc Try.prog Try.f7 Rows.memPartsRow.domain false) (Rows.memPartsSpec.post enc Try.prog Try.f7 false true false false) := by
  refine returnsInHanded_of_change_sized (C := Try.checked) own started (by kernel_rfl) Try.func7
    (ChangeSpec.witness6 (enc := enc) (C := Try.checked) false ⟨#[], #[.slice none 0 0, .string .empty, .string .empty, .string .empty], []⟩ 8 (by kernel_rfl) (by kernel_rfl) (by kernel_rfl) (by kernel_rfl)) ?_
  intro W base args ds gs before hval0 hW _ hsz _
  have hval : ∀ (j : Nat) t v, Try.f7.params[j]? = some t → args[j]? = some v → Value.okWide Try.prog W .any base t v := hval0
  have hW' := hW
  obtain ⟨p, q, hA0, hV, rfl, hfz, hnd⟩ := hW
  have hA : DataW.TrodAll enc Try.prog W 0 (fun _ => true) true Try.f7.params.toList args.toList ds p := hA0
  rw [Try.params7] at hA hval hsz
  obtain ⟨v0, vs0, d0, ds0, p0, q0, hargs, rfl, rfl, h0, r0⟩ := trodAll_cons hA
  obtain ⟨v1, vs1, d1, ds1, p1, q1, rfl, rfl, rfl, h1, r1⟩ := trodAll_cons r0
  obtain ⟨v2, vs2, d2, ds2, p2, q2, rfl, rfl, rfl, h2, r2⟩ := trodAll_cons r1
  obtain ⟨v3, vs3, d3, ds3, p3, q3, rfl, rfl, rfl, h3, r3⟩ := trodAll_cons r2
  obtain ⟨rfl, rfl, rfl⟩ := trodAll_nil r3
  obtain rfl : args = #[v0, v1, v2, v3] := by cases args; simp_all
  obtain ⟨rfl, rfl⟩ := trodVars_none hV
  obtain ⟨a0, n0, c0, rfl⟩ := okWide_slice Try.underlying57 (hval 0 57 v0 rfl rfl)
  have k0 := h0
  obtain ⟨fu0, hf0⟩ := h0
  obtain ⟨b0, o0, l, ia0⟩ := open_bts hf0 hsz (j := 0) rfl rfl
  have lt0 : ∀ x ∈ p0, x.block < W.heap.size := fun x hx => hW'.lt x (by simp only [List.mem_append]; simp [hx])
  obtain ⟨fr, rfl, rfl, rfl, m1⟩ := open_string Try.underlying9 (hval 1 9 v1 rfl rfl) h1
  obtain ⟨cut, rfl, rfl, rfl, m2⟩ := open_string Try.underlying9 (hval 2 9 v2 rfl rfl) h2
  obtain ⟨tt, rfl, rfl, rfl, m3⟩ := open_string Try.underlying9 (hval 3 9 v3 rfl rfl) h3
  have z1 : fr.size ≤ reachBytes := by have := sized_string hsz (j := 1) (t := 9) (bytes := fr.data.toList) rfl rfl; simpa using this
  have z2 : cut.size ≤ reachBytes := by have := sized_string hsz (j := 2) (t := 9) (bytes := cut.data.toList) rfl rfl; simpa using this
  have z3 : tt.size ≤ reachBytes := by have := sized_string hsz (j := 3) (t := 9) (bytes := tt.data.toList) rfl rfl; simpa using this
  clear hA0 hval0
  simp only [List.append_nil] at hW'
  refine (parts_walk a0 n0 c0 b0 o0 l fr z1 cut z2 tt z3 W ia0).mono fun e W' ⟨he, hg⟩ => ?_
  subst he
  exact ⟨_, rfl, _, _, _, [], _, [], hW', (trodAll_cons_mk (shut_bool Try.underlying4 _) trodAll_mk0), (trodAll_cons_mk (Below.trod laid_out (by kernel_rfl) (of_decide_eq_true (by kernel_rfl)) k0 hg lt0) (trodAll_cons_mk (shut_string Try.underlying9 m1) (trodAll_cons_mk (shut_string Try.underlying9 m2) (trodAll_cons_mk (shut_string Try.underlying9 m3) trodAll_mk0)))), rfl, hg.frame _, fun h => by cases h⟩
theorem holds : Rows.MemPartsSaid :=
  OpenClaim.holds_of_wide 7 Try.f7 rfl rfl rfl rfl rfl rfl rfl ⟨rfl, rfl, rfl, rfl, rfl⟩ rfl rfl rfl rfl rfl (by kernel_rfl) Try.func7 (by kernel_rfl)
    (of_decide_eq_true (by kernel_rfl)) (by unfold Func.isWrapper; first | (rw [if_pos (by decide +kernel)]; kernel_rfl) | (rw [if_neg (by decide +kernel)]; exact ⟨rfl, rfl⟩))
    (fun os started H enc _ => lifted os started H enc)
end MemPartsProof
--END
end Go.Proofs.Ytdgbafpnfkedeaa
