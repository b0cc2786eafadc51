/-
  P10.4: the order of the keys changes nothing; a filter of the same width of some of them has no bit that the filter of all has not. Condition: 1 to 400 keys and 1 to 32 bits (else the law is its own check).
-/
import Derived.Test.YtccdbodemoefkaaBloomTwo
import Derived.Laws.EntriesVeiled
namespace Go.Proofs.Ytccdbodemoefkaa
set_option maxRecDepth 100000
open Go.RowKit
theorem info_str : (Try.prog.info? 9).map (fun i => (i.zero, i.size, i.bytes)) = some (some (.string ⟨#[]⟩), 1, 16) := by kernel_rfl
theorem turned_other (a : Option Addr) (n c : Nat) (bits : Int) (which : Int) (h : n < 1 ∨ 400 < n ∨ bits < 1 ∨ 32 < bits) (w : World) :
    Calls Try.prog 4 #[.slice a n c, .int .i64 bits, .int .i64 which] w fun e w' => e = .returned (.bool true) ∧ Below w.heap.size w w' := by
  have AW := Lib.hid (fun u : World => awake_any u)
  by_cases c1 : n < 1
  · have i1 : (n : Int) < 1 := by omega
    go_enter Try.func4, Try.ntmps4
    go_wp2_with (go_at_call 6; (with_reducible refine (AW.out _).mono ?_); rintro e w1 ⟨rfl, b1⟩)
    go_returns
    exact ⟨rfl, b1⟩
  have j1 : (1 : Int) ≤ (n : Int) := by omega
  by_cases c2 : 400 < n
  · have i1 : (400 : Int) < (n : Int) := by omega
    go_enter Try.func4, Try.ntmps4
    go_wp2_with (go_at_call 6; (with_reducible refine (AW.out _).mono ?_); rintro e w1 ⟨rfl, b1⟩)
    go_returns
    exact ⟨rfl, b1⟩
  have j2 : (n : Int) ≤ 400 := by omega
  by_cases c3 : bits < 1
  · go_enter Try.func4, Try.ntmps4
    go_wp2_with (go_at_call 6; (with_reducible refine (AW.out _).mono ?_); rintro e w1 ⟨rfl, b1⟩)
    go_returns
    exact ⟨rfl, b1⟩
  have j3 : 1 ≤ bits := by omega
  have j4 : 32 < bits := by omega
  go_enter Try.func4, Try.ntmps4
  go_wp2_with (go_at_call 6; (with_reducible refine (AW.out _).mono ?_); rintro e w1 ⟨rfl, b1⟩)
  go_returns
  exact ⟨rfl, b1⟩
theorem andNot_code (x y : UInt8) : bits .andNot .u8 (x.toNat : Int) (y.toNat : Int) = ((x &&& ~~~y).toNat : Int) := by
  have e : ∀ z : UInt8, BitVec.ofInt 8 (z.toNat : Int) = z.toBitVec := fun z => by
    rw [BitVec.ofInt_natCast]; apply BitVec.eq_of_toNat_eq; rw [BitVec.toNat_ofNat]; have := UInt8.toNat_lt z; show z.toNat % 256 = z.toNat; omega
  show IntKind.u8.wrap (((BitVec.ofInt 8 (x.toNat : Int) &&& ~~~BitVec.ofInt 8 (y.toNat : Int)).toNat : Nat) : Int) = _
  rw [e, e, IntKind.wrap_u8]
  have h2 : (x.toBitVec &&& ~~~y.toBitVec).toNat = (x &&& ~~~y).toNat := rfl
  rw [h2]
  have := UInt8.toNat_lt (x &&& ~~~y)
  omega
set_option maxHeartbeats 8000000 in
theorem turned_good (a : Option Addr) (n c b o : Nat) (X : List ByteArray) (bits : Nat) (which : Int) (hn1 : 1 ≤ n) (hn : n ≤ 400) (hb1 : 1 ≤ bits) (hb2 : bits ≤ 32) (hw : (Lit.int .i64 which).wf = true) (w : World) (ht : TextsAt a n c b o X w) (hX : ∀ x ∈ X, x.size ≤ maxLen) :
    Calls Try.prog 4 #[.slice a n c, .int .i64 (bits : Int), .int .i64 which] w fun e w' => e = .returned (.bool true) ∧ Below w.heap.size w w' := by
  have AW := Lib.hid (fun u : World => awake_any u)
  have HX := Lib.hid hX
  have HT := Lib.hid ht
  have HL := Lib.hid ht.len
  have hr := i64_range hw
  have t1 : which.tmod (n : Int) < (n : Int) := Int.tmod_lt_of_pos _ (by omega)
  have t2 : -(n : Int) < which.tmod (n : Int) := Int.lt_tmod_of_pos _ (by omega)
  obtain ⟨i0, hi, hz0, hz1, hz2⟩ := info_parts info_str
  obtain ⟨hlen, hcap, hmost⟩ : X.length = n ∧ True ∧ True := ⟨ht.len, trivial, trivial⟩
  have a1 := (ht.addr (by omega)).1
  subst a1
  clear ht hX hw hlen hcap hmost
  go_enter Try.func4, Try.ntmps4
  go_upto_if 40 with fail
  generalize which.tmod (n : Int) = tm at t1 t2 ⊢
  go_cut [8] from 40 to 43 (fun v wc => wc = w ∧ ∃ k : Nat, k < n ∧ v = .int .i64 (k : Int))
  case first =>
    by_cases q : tm < 0
    · have e : Hid (tm + (n : Int) = ((tm + (n : Int)).toNat : Int) ∧ (tm + (n : Int)).toNat < n) := Lib.hid (by omega)
      go_wp2_with fail
      go_meet
      exact ⟨rfl, (tm + (n : Int)).toNat, e.out.2, by rw [← e.out.1]⟩
    · have e : Hid (tm = (tm.toNat : Int) ∧ tm.toNat < n) := Lib.hid (by omega)
      go_wp2_with fail
      go_meet
      exact ⟨rfl, tm.toNat, e.out.2, by rw [← e.out.1]⟩
  case rest =>
  obtain ⟨rfl, k, hk, rfl⟩ := hcut
  have TN := Lib.hid (Two.nil wc.heap.size wc)
  go_wp2
  go_loopw [9, 10, 11] (fun v z d wr => ∃ i : Nat, i ≤ n ∧ d = .int .i64 i ∧ Hid (Two wc.heap.size v (turnL X i) z (someL X k i) wr) ∧ Hid (Below wc.heap.size wc wr)) (fun _ _ d _ => n - (intOf d).toNat)
  case atStart => exact ⟨0, by omega, rfl, TN, Lib.hid (Below.refl _ _)⟩
  case round =>
    obtain ⟨i, hi', rfl, hT, hB⟩ := hrel
    by_cases hlt : i < n
    · have C1 := (HT.out.below hB.out (Nat.le_refl _)).cell (j := n - 1 - i) (by rw [HL.out]; omega)
      obtain ⟨x, hx⟩ := named (X[n - 1 - i]'(by rw [HL.out]; omega))
      rw [← hx.out] at C1
      have hx' : Hid (X.getD (X.length - 1 - i) default = x) := Lib.hid (by
        have e : X.length - 1 - i = n - 1 - i := by rw [HL.out]
        rw [hx.out, List.getD_eq_getElem?_getD, e, List.getElem?_eq_getElem (by rw [HL.out]; omega)]; rfl)
      have n1 : (n : Int) - 1 - (i : Int) = ((n - 1 - i : Nat) : Int) := by omega
      obtain ⟨m, hm⟩ := named (n - 1 - i)
      rw [← hm.out] at C1 n1
      have n2 : (m : Int) < (n : Int) := by rw [hm.out]; omega
      have n3 : (0 : Int) ≤ (m : Int) := by omega
      have n4 : (i : Int) < (n : Int) := by omega
      have n5 : m < n := by omega
      have hturn : Hid (turnL X (i + 1) = turnL X i ++ [x]) := Lib.hid (by rw [turnL_succ, hx'.out])
      have O1 := Lib.hid (hT.out.born (.cells #[.string x] 9)).one
      rw [turnL_len] at O1
      have hBs : Hid (wc.heap.size ≤ (wr.alloc (.cells #[.string x] 9)).heap.size) := Lib.hid (Nat.le_trans hB.out.size (by simp))
      go_upto_if 61 with (at_builtin; refine wpList_append_own_at _ rfl (.tmp 49) (.tmp 57) 22 rfl wc.heap.size 9 i0 (.string ⟨#[]⟩) 1 16 Try.underlying22 hi hz0 hz1 hz2 rfl (by decide) _ i (rowT (turnL X i)) rfl O1.out ⟨wr.heap.size, 0, none⟩ 1 1 [.string x] rfl rfl (cell_one_new _ _ _) (by intro u hu; simp only [List.mem_cons, List.not_mem_nil, or_false] at hu; subst hu; rfl) (by unfold maxLen; omega) (by omega) hBs.out ?_; intro v2 w2 own2 grow2 _ at2; have T2 := Lib.hid ((hT.out.born _).left (R' := turnL X (i + 1)) (by rw [hturn.out, ← rowT_snoc, List.length_append, turnL_len]; exact own2) grow2 at2); have B2 := Lib.hid ((hB.out.alloc hB.out.size _).grown grow2 hBs.out (fun k hk => (O1.out.lt k hk).1)); clear own2 grow2 at2)
      by_cases q : i ≤ k
      · skip
        have C2 := (HT.out.below B2.out (Nat.le_refl _)).cell (j := i) (by rw [HL.out]; omega)
        obtain ⟨y, hy⟩ := named (X[i]'(by rw [HL.out]; omega))
        rw [← hy.out] at C2
        have hsome : Hid (someL X k (i + 1) = someL X k i ++ [y]) := Lib.hid (by
          rw [someL_succ, hy.out, List.getD_eq_getElem?_getD, show min i k = i by omega, List.getElem?_eq_getElem (by rw [HL.out]; omega)]; rfl)
        have O2 := Lib.hid (T2.out.born (.cells #[.string y] 9)).two
        rw [someL_len] at O2
        have hBs2 : Hid (wc.heap.size ≤ (w2.alloc (.cells #[.string y] 9)).heap.size) := Lib.hid (Nat.le_trans B2.out.size (by simp))
        have q1 : (i : Int) ≤ (k : Int) := by omega
        go_wp2_with (at_builtin; refine wpList_append_own_at _ rfl (.tmp 62) (.tmp 67) 22 rfl wc.heap.size 9 i0 (.string ⟨#[]⟩) 1 16 Try.underlying22 hi hz0 hz1 hz2 rfl (by decide) _ i (rowT (someL X k i)) rfl O2.out ⟨w2.heap.size, 0, none⟩ 1 1 [.string y] rfl rfl (cell_one_new _ _ _) (by intro u hu; simp only [List.mem_cons, List.not_mem_nil, or_false] at hu; subst hu; rfl) (by unfold maxLen; omega) (by omega) hBs2.out ?_; intro v3 w3 own2 grow2 _ at2; have T3 := Lib.hid ((T2.out.born _).symm.left (R' := someL X k (i + 1)) (by rw [hsome.out, ← rowT_snoc, List.length_append, someL_len]; exact own2) grow2 at2).symm; have B3 := Lib.hid ((B2.out.alloc B2.out.size _).grown grow2 hBs2.out (fun k hk => (O2.out.lt k hk).1)); clear own2 grow2 at2)
        go_roundw
        case rel => exact ⟨i + 1, by omega, by go_num, T3, B3⟩
        case measure => simp [intOf]; omega
      · skip
        have C2 := (HT.out.below B2.out (Nat.le_refl _)).cell (j := k) (by rw [HL.out]; omega)
        obtain ⟨y, hy⟩ := named (X[k]'(by rw [HL.out]; omega))
        rw [← hy.out] at C2
        have hsome : Hid (someL X k (i + 1) = someL X k i ++ [y]) := Lib.hid (by
          rw [someL_succ, hy.out, List.getD_eq_getElem?_getD, show min i k = k by omega, List.getElem?_eq_getElem (by rw [HL.out]; omega)]; rfl)
        have O2 := Lib.hid (T2.out.born (.cells #[.string y] 9)).two
        rw [someL_len] at O2
        have hBs2 : Hid (wc.heap.size ≤ (w2.alloc (.cells #[.string y] 9)).heap.size) := Lib.hid (Nat.le_trans B2.out.size (by simp))
        have q1 : (k : Int) < (i : Int) := by omega
        go_wp2_with (at_builtin; refine wpList_append_own_at _ rfl (.tmp 69) (.tmp 74) 22 rfl wc.heap.size 9 i0 (.string ⟨#[]⟩) 1 16 Try.underlying22 hi hz0 hz1 hz2 rfl (by decide) _ i (rowT (someL X k i)) rfl O2.out ⟨w2.heap.size, 0, none⟩ 1 1 [.string y] rfl rfl (cell_one_new _ _ _) (by intro u hu; simp only [List.mem_cons, List.not_mem_nil, or_false] at hu; subst hu; rfl) (by unfold maxLen; omega) (by omega) hBs2.out ?_; intro v3 w3 own2 grow2 _ at2; have T3 := Lib.hid ((T2.out.born _).symm.left (R' := someL X k (i + 1)) (by rw [hsome.out, ← rowT_snoc, List.length_append, someL_len]; exact own2) grow2 at2).symm; have B3 := Lib.hid ((B2.out.alloc B2.out.size _).grown grow2 hBs2.out (fun k hk => (O2.out.lt k hk).1)); clear own2 grow2 at2)
        go_roundw
        case rel => exact ⟨i + 1, by omega, by go_num, T3, B3⟩
        case measure => simp [intOf]; omega
    · obtain rfl : i = n := by omega
      obtain ⟨a9, c9, b9, e9, R9, _⟩ := textsAt_row hT.out.one
      obtain ⟨a10, c10, b10, e10, R10, _⟩ := textsAt_row hT.out.two
      rw [turnL_len] at R9 e9
      rw [someL_len] at R10 e10
      subst e9 e10
      have hk' : k < X.length := by rw [HL.out]; exact hk
      have hR : ∀ x, x ∈ turnL X i ↔ x ∈ X := fun x => by
        have e : turnL X i = turnL X X.length := by rw [HL.out]
        rw [e]; exact turnL_mem X x
      have M1 := make_calls bits hb1 hb2 _ i c b o X wc HT.out HX.out (by omega)
      have M2 := make_calls bits hb1 hb2 a9 i c9 b9 0 (turnL X i) wr R9 (fun x hx => HX.out x ((hR x).1 hx)) (by omega)
      have M3 := make_calls bits hb1 hb2 a10 i c10 b10 0 (someL X k i) wr R10 (fun x hx => HX.out x (someL_mem X k hk' i x hx)) (by omega)
      have sm : mkT (turnL X i) bits = mkT X bits := mkT_same _ _ bits (by rw [turnL_len, HL.out]) hR
      rw [sm] at M2
      have hsub := Lib.hid (mkT_sub (someL X k i) X bits (by rw [someL_len, HL.out]) (fun x hx => someL_mem X k hk' i x hx))
      have z1 : (mkT X bits).size = Blm.wide i bits + 1 := by rw [mkT_size, HL.out]
      have z2 : (mkT (someL X k i) bits).size = Blm.wide i bits + 1 := by rw [mkT_size, someL_len]
      have z3 := Blm.wide_le i bits (by omega) hb2
      have p1 : 0 < (mkT X bits).size := by omega
      have p2 : 0 < (mkT (someL X k i) bits).size := by omega
      have h1 := mkT_head X bits hb2 p1
      have h2 := mkT_head (someL X k i) bits hb2 p2
      have hK := Blm.probes_le bits hb2
      obtain ⟨F, hF⟩ := named (mkT X bits)
      obtain ⟨S, hS⟩ := named (mkT (someL X k i) bits)
      simp only [← hF.out] at M1 M2 hsub z1 p1 h1
      simp only [← hS.out] at M3 hsub z2 p2 h2
      have sz : S.size = F.size := by rw [z1, z2]
      have sl : F.size ≤ 262145 := by omega
      have f1 : (F[0].toNat : Int) = ((Blm.probes bits : Nat) : Int) := by rw [h1]
      have f2 : (S[0].toNat : Int) = ((Blm.probes bits : Nat) : Int) := by rw [h2]
      obtain ⟨K, hK'⟩ := named (Blm.probes bits)
      rw [← hK'.out] at f1 f2 hK
      have q1 : (0 : Int) < (F.size : Int) := by omega
      have q2 : (0 : Int) < (S.size : Int) := by omega
      clear z1 z2 z3 h1 h2 sm hT R9 R10 hk' hR
      go_upto_region 20 with (first
        | (go_at_call 7; (with_reducible refine (M1.out _ hB.out).mono ?_); rintro e w1 ⟨rfl, b1⟩)
        | (go_at_call 7; (with_reducible refine (M2.out _ b1).mono ?_); rintro e w2 ⟨rfl, b2⟩)
        | (go_at_call 7; (with_reducible refine (M3.out _ (below_of b1 b2)).mono ?_); rintro e w3 ⟨rfl, b3⟩)
        | fail "no arm")
      have B3 := Lib.hid (hB.out.trans ((below_of (below_of b1 b2) b3).mono hB.out.size))
      clear b1 b2 b3 M1 M2 M3
      go_wp2
      go_loopw [18] (fun d wr => ∃ j : Nat, 1 ≤ j ∧ j ≤ F.size ∧ d = .int .i64 j ∧ Hid (Below wc.heap.size wc wr)) (fun d _ => F.size - (intOf d).toNat)
      case atStart => exact ⟨1, Nat.le_refl _, by omega, rfl, B3⟩
      case round =>
        obtain ⟨j, hj1, hj2, rfl, hB4⟩ := hrel
        by_cases hlt : j < F.size
        · have hs2 : j < S.size := by rw [sz]; exact hlt
          have c0 : Go.bits .andNot .u8 (S[j].toNat : Int) (F[j].toNat : Int) = 0 := by
            rw [andNot_code, hsub.out j hj1 hs2 hlt]; rfl
          have r1 : (j : Int) < (F.size : Int) := by omega
          have r2 : (j : Int) < (S.size : Int) := by omega
          have r3 : (0 : Int) ≤ (j : Int) := by omega
          go_wp2
          go_region
          go_wp2
          go_roundw
          case rel => exact ⟨j + 1, by omega, by omega, by go_num, Lib.hid hB4.out.drew⟩
          case measure => simp [intOf]; omega
        · obtain rfl : j = F.size := by omega
          go_upto_region 25 with fail
          have g0 : ((S[0].toNat : Int) == (F[0].toNat : Int)) = true := by rw [f1, f2]; exact beq_self_eq_true _
          have A1 := Lib.hid (AW.out wr.drew)
          go_region_with (go_at_call 6; ((with_reducible refine A1.out.mono ?_); rintro e w9 ⟨rfl, b9⟩))
          all_goals have b9 := Lib.hid b9
          all_goals go_wp2
          all_goals go_returns
          all_goals exact ⟨rfl, hB4.out.trans ((Below.trans (Below.refl _ _).drew b9.out).mono hB4.out.size)⟩
theorem turned_walk (a : Option Addr) (n c b o : Nat) (X : List ByteArray) (bits : Int) (_ : (Lit.int .i64 bits).wf = true) (which : Int) (hw : (Lit.int .i64 which).wf = true) (w : World) (hX : TextsAt a n c b o X w ∧ ∀ v ∈ X, v.size ≤ reachBytes) :
    Calls Try.prog 4 #[.slice a n c, .int .i64 bits, .int .i64 which] w fun e w' => e = .returned (.bool true) ∧ Below w.heap.size w w' := by
  by_cases h : n < 1 ∨ 400 < n ∨ bits < 1 ∨ 32 < bits
  · exact turned_other a n c bits which h w
  · obtain ⟨k, rfl⟩ : ∃ k : Nat, bits = (k : Int) := ⟨bits.toNat, by omega⟩
    exact turned_good a n c b o X k which (by omega) (by omega) (by omega) (by omega) hw w hX.1 (reach_texts hX.2)
--LAW freshetlaw10.BloomTurned turned_walk texts:t int:bits int:which
--BEGIN
namespace BloomTurnedProof
open Go.ChangeShapes Go.WideShapes Go.ChangeAt Go.RowKit
open Go.ChangeMaps (open_string shut_string)
theorem own : ownKnob Try.prog.godebug = none := by kernel_rfl
set_option maxRecDepth 100000 in
theorem lifted (os : Os) (started : os.Started) (H : Type) (enc : TypeId × Value → H) :
    ReturnsInHanded {} Try.checked os 4 .any (Rows.bloomTurnedSpec.pre6 enc Try.prog Try.f4 Rows.bloomTurnedRow.domain false) (Rows.bloomTurnedSpec.post enc Try.prog Try.f4 false true false false) := by
  refine returnsInHanded_of_change_sized (C := Try.checked) own started (by kernel_rfl) Try.func4
    (ChangeSpec.witness6 (enc := enc) (C := Try.checked) false ⟨#[], #[.slice none 0 0, .int .i64 0, .int .i64 0], []⟩ 8 (by kernel_rfl) (by kernel_rfl) (by kernel_rfl) (by kernel_rfl)) ?_
  intro W base args ds gs before hval0 hW _ hsz _
  have hval : ∀ (j : Nat) t v, Try.f4.params[j]? = some t → args[j]? = some v → Value.okWide Try.prog W .any base t v := hval0
  have hW' := hW
  obtain ⟨p, q, hA0, hV, rfl, hfz, hnd⟩ := hW
  have hA : DataW.TrodAll enc Try.prog W 0 (fun _ => true) true Try.f4.params.toList args.toList ds p := hA0
  rw [Try.params4] at hA hval hsz
  obtain ⟨v0, vs0, d0, ds0, p0, q0, hargs, rfl, rfl, h0, r0⟩ := trodAll_cons hA
  obtain ⟨v1, vs1, d1, ds1, p1, q1, rfl, rfl, rfl, h1, r1⟩ := trodAll_cons r0
  obtain ⟨v2, vs2, d2, ds2, p2, q2, rfl, rfl, rfl, h2, r2⟩ := trodAll_cons r1
  obtain ⟨rfl, rfl, rfl⟩ := trodAll_nil r2
  obtain rfl : args = #[v0, v1, v2] := by cases args; simp_all
  obtain ⟨rfl, rfl⟩ := trodVars_none hV
  obtain ⟨a0, n0, c0, rfl⟩ := okWide_slice Try.underlying22 (hval 0 22 v0 rfl rfl)
  have k0 := h0
  obtain ⟨fu0, hf0⟩ := h0
  obtain ⟨b0, o0, t, ia0⟩ := open_texts hf0 hsz (j := 0) rfl rfl
  have lt0 : ∀ x ∈ p0, x.block < W.heap.size := fun x hx => hW'.lt x (by simp only [List.mem_append]; simp [hx])
  obtain ⟨bits, rfl, rfl, rfl, m1⟩ := open_int Try.underlying3 (hval 1 3 v1 rfl rfl) h1
  obtain ⟨which, rfl, rfl, rfl, m2⟩ := open_int Try.underlying3 (hval 2 3 v2 rfl rfl) h2
  clear hA0 hval0
  simp only [List.append_nil] at hW'
  refine (turned_walk a0 n0 c0 b0 o0 t bits m1 which m2 W ia0).mono fun e W' ⟨he, hg⟩ => ?_
  subst he
  exact ⟨_, rfl, _, _, _, [], _, [], hW', (trodAll_cons_mk (shut_bool Try.underlying4 _) trodAll_mk0), (trodAll_cons_mk (Below.trod laid_out (by kernel_rfl) (of_decide_eq_true (by kernel_rfl)) k0 hg lt0) (trodAll_cons_mk (shut_int Try.underlying3 m1) (trodAll_cons_mk (shut_int Try.underlying3 m2) trodAll_mk0))), rfl, hg.frame _, fun h => by cases h⟩
theorem holds : Rows.BloomTurnedSaid :=
  OpenClaim.holds_of_wide 4 Try.f4 rfl rfl rfl rfl rfl rfl rfl ⟨rfl, rfl, rfl, rfl, rfl⟩ rfl rfl rfl rfl rfl (by kernel_rfl) Try.func4 (by kernel_rfl)
    (of_decide_eq_true (by kernel_rfl)) (by unfold Func.isWrapper; first | (rw [if_pos (by decide +kernel)]; kernel_rfl) | (rw [if_neg (by decide +kernel)]; exact ⟨rfl, rfl⟩))
    (fun os started H enc _ => lifted os started H enc)
end BloomTurnedProof
--END
end Go.Proofs.Ytccdbodemoefkaa
