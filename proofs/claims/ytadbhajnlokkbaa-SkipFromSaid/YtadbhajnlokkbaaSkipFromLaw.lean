/-
  SkipFrom: from any place an end of all rows is told, just those that are not ahead, and Seek tells the first of them. No condition.
-/
import Derived.Test.YtadbhajnlokkbaaSkipSlice
import Derived.Test.YtadbhajnlokkbaaSkipStepsLaw
import Derived.BigRegion
import Derived.Test.YtadbhajnlokkbaaHeld
namespace Go.Proofs.Ytadbhajnlokkbaa
open Go.RowKit
attribute [local go_sem] eq_node ne_node eq_list
theorem zoo_one (w : World) : Zoo w.heap.size [(w.heap.size, [])] (w.alloc zeroList) ∧ Below w.heap.size w (w.alloc zeroList) :=
  ⟨(Zoo.nil w.heap.size w).new (Nat.le_refl _), below_alloc _ _⟩
theorem eql_rw (xs ys : ByteArray) (xn yn : Nat) (xk yk : Int) (xv yv : ByteArray) (B : Bool) (hB : B = true ↔ (⟨xs, xn, xk, xv⟩ : Rw) = ⟨ys, yn, yk, yv⟩) (u : World) : (binOp .eql 36 (.agg #[.string xs, .int .u64 (xn : Int), .int .i64 xk, .string xv]) (.agg #[.string ys, .int .u64 (yn : Int), .int .i64 yk, .string yv])).run Try.prog u = .ok (.bool B) u := by
  rw [rw_eq] at hB
  go_simp
  by_cases h1 : xs.toList = ys.toList
  · by_cases h2 : (xn : Int) = (yn : Int)
    · by_cases h3 : xk = yk
      · by_cases h4 : xv.toList = yv.toList
        · have : B = true := hB.2 ⟨h1, h2, h3, h4⟩
          simp [h1, h2, h3, h4, this]
        · have : B = false := by cases B <;> simp_all
          simp [h1, h2, h3, h4, this]
      · have : B = false := by cases B <;> simp_all
        simp [h1, h2, h3, this]
    · have : B = false := by cases B <;> simp_all
      simp [h1, h2, this]
  · have : B = false := by cases B <;> simp_all
    simp [h1, this]
set_option maxRecDepth 100000 in
set_option maxHeartbeats 8000000 in
theorem from_main (a0 : Option Addr) (n0 c0 b0 o0 : Nat) (rs : List Rw) (a1 : Option Addr) (n1 c1 b1 o1 : Nat) (hl : List Int) (key : ByteArray) (hz : key.size ≤ 281474976710656) (s : Nat) (w : World)
    (h0 : Rs a0 n0 c0 b0 o0 rs w) (g0 : ∀ v ∈ rs, RwIn v) (h1 : SlOf 1 cellsI a1 n1 c1 b1 o1 hl w) (hn : n0 ≤ 100) :
    Calls Try.prog 7 #[.slice a0 n0 c0, .slice a1 n1 c1, .string key, .int .u64 (s : Int)] w fun e w' => e = .returned (.bool true) ∧ Below w.heap.size w w' := by
  have AW := Lib.hid (fun u => awake_any u)
  obtain ⟨Z0, B0⟩ := zoo_one w
  have Z0 := Lib.hid Z0
  have B0 := Lib.hid B0
  have e0 := h0.len
  have e1 := h1.len
  have m0 := h0.most
  have m1 := h1.most
  have q0 := h0.cap
  have q1 := h1.cap
  have d0 : decide ((100 : Int) < (n0 : Int)) = false := by rw [decide_eq_false_iff_not]; omega
  replace e0 := Lib.hid e0
  replace e1 := Lib.hid e1
  replace h0 := Lib.hid h0
  replace h1 := Lib.hid h1
  replace g0 := Lib.hid g0
  go_enter Try.func7, Try.ntmps7
  go_wp2_with fail
  go_loopw [10] (fun i wr => ∃ j : Nat, j ≤ n0 ∧ i = .int .i64 (j : Int) ∧ Zoo w.heap.size [(w.heap.size, fp rs (hAt hl) j)] wr ∧ Below w.heap.size w wr) (fun i _ => n0 - (intOf i).toNat)
  case atStart => exact ⟨0, Nat.zero_le _, rfl, Z0.out, B0.out⟩
  case round =>
    clear Z0 B0
    obtain ⟨j, hj, rfl, hZ, hb⟩ := hrel
    by_cases hlt : j < n0
    · obtain ⟨x, hx, rfl, x0, x1, x2, x3⟩ := (h0.out.below hb (Nat.le_refl _)).at4 hlt
      obtain ⟨k1, k2, k3⟩ := g0.out x (List.mem_of_getElem? hx)
      have l1 := fp_len rs (hAt hl) j
      have sA := Lib.hid (fp_step (f := hAt hl) hx)
      have P := Lib.hid (fun H => hZ.put (i := 0) hb.size rfl (by omega) x k1 k2 k3 H)
      have hb' := Lib.hid hb
      obtain ⟨xk, xs, xi, xv⟩ := x
      simp only at x0 x1 x2 x3 P sA
      by_cases hh : j < n1
      · obtain ⟨H, hH, rfl, y0⟩ := num_at (h1.out.below hb (Nat.le_refl _)) hh
        have eH : Hid (hAt hl j = H) := Lib.hid (by unfold hAt; rw [if_pos (by rw [e1.out]; exact hh), List.getD_eq_getElem?_getD, hH]; rfl)
        rw [eH.out] at sA
        clear hZ hb k1 k2 k3 l1 hx hH eH
        go_wp2_with (go_at_call 10; ((with_reducible refine (P.out _).mono ?_); rintro e w2 ⟨rfl, hZ2, hb2⟩; rw [← sA.out] at hZ2; have Z2 := Lib.hid hZ2; have B2 := Lib.hid (hb'.out.trans hb2); clear hZ2 hb2 P))
        go_roundw
        case rel => exact ⟨j + 1, by omega, by go_num, Z2.out, B2.out⟩
        case measure => simp [intOf]; omega
      · have eH : Hid (hAt hl j = 1) := Lib.hid (by unfold hAt; rw [if_neg (by rw [e1.out]; exact hh)])
        rw [eH.out] at sA
        clear hZ hb k1 k2 k3 l1 hx eH
        go_wp2_with (go_at_call 10; ((with_reducible refine (P.out _).mono ?_); rintro e w2 ⟨rfl, hZ2, hb2⟩; rw [← sA.out] at hZ2; have Z2 := Lib.hid hZ2; have B2 := Lib.hid (hb'.out.trans hb2); clear hZ2 hb2 P))
        go_roundw
        case rel => exact ⟨j + 1, by omega, by go_num, Z2.out, B2.out⟩
        case measure => simp [intOf]; omega
    · have hjn : j = n0 := by omega
      subst hjn
      have l1 := fp_len rs (hAt hl) j
      have srt := fp_sorted rs (hAt hl) j
      have hL := hZ.ls (i := 0) rfl
      obtain ⟨L, hLn⟩ := named (fp rs (hAt hl) j)
      rw [← hLn.out] at hL l1 srt
      obtain ⟨R, hR⟩ := named (rowsL L)
      have hRl : R.length ≤ 100 := by rw [hR.out, rows_len]; omega
      have ple := plL_le L key s
      have hlR : L.length = R.length := by rw [hR.out, rows_len]
      have srt' : SortedR R := by rw [hR.out]; exact srt
      have ahdi := fun (i : Nat) (x : Rw) (hx : R[i]? = some x) => plc_iff srt' (k := key) (q := s) hx
      obtain ⟨E, hE⟩ := named (plL L key s)
      have hE2 : plc R key s = E := by rw [hE.out, hR.out]; rfl
      rw [hE2] at ahdi
      rw [← hE.out, hlR] at ple
      have WH := whole_l hL (by omega)
      rw [← hR.out] at WH
      have WH := Lib.hid (WH.mono fun e w' h => rs_of_gave h)
      have AL : Hid (∀ u, Below wr.heap.size wr u → Calls Try.prog 14 #[.pointer (some ⟨w.heap.size, 0, none⟩), .string key, .int .u64 (s : Int), .int .i64 200] u fun e w' => ∃ p c b, e = .returned (.slice p (R.length - E) c) ∧ Rs p (R.length - E) c b 0 (R.drop E) w' ∧ Below u.heap.size u w') := Lib.hid fun u hu =>
        (all_l (hL.grow hu) (by omega) key hz s 200).mono fun e w' h => by
          have e3 : upTo 200 ((rowsL L).drop (plL L key s)) = R.drop E := by
            rw [← hE.out, ← hR.out]
            unfold upTo
            rw [if_neg (by rw [List.length_drop]; omega)]
          rw [e3] at h
          obtain ⟨p, c, b, h1, h2, h3⟩ := rs_of_gave h
          rw [List.length_drop] at h1 h2
          exact ⟨p, c, b, h1, h2, h3⟩
      have SE : Hid (∀ (i : Nat) (x : Rw), R[i]? = some x → ∀ u, Below wr.heap.size wr u → Calls Try.prog 12 #[.pointer (some ⟨w.heap.size, 0, none⟩), .string x.key, .int .u64 (x.seq : Int)] u fun e w' => e = .returned (.tuple #[rowV x, .bool true]) ∧ Below u.heap.size u w') := Lib.hid fun i x hx u hu => by
        have := seek_l (hL.grow hu) (by omega) x.key x.seq
        rw [seek_self srt (by rw [← hR.out]; exact hx)] at this
        exact this
      have SK : Hid (∀ u, Below wr.heap.size wr u → Calls Try.prog 12 #[.pointer (some ⟨w.heap.size, 0, none⟩), .string key, .int .u64 (s : Int)] u fun e w' => e = .returned (seekR (R.drop E)) ∧ Below u.heap.size u w') := Lib.hid fun u hu => by
        have := seek_l (hL.grow hu) (by omega) key s
        rw [← hE.out, ← hR.out] at this
        exact this
      have hb := Lib.hid hb
      replace ahdi := Lib.hid ahdi
      clear hZ hL srt srt' hE2 hlR l1 hR hE
      go_wp2_with (go_at_call 20; ((with_reducible refine WH.out.mono ?_); rintro e w2 ⟨pa, ca, ba, rfl, ra, hb2⟩; have BB := Lib.hid hb2; have RA := Lib.hid ra; clear WH hb2 ra))
      refine (AL.out w2 BB.out).mono ?_
      rintro e w3 ⟨pb, cb, bb, rfl, rb, hb3⟩
      have B3 := Lib.hid (below_of BB.out hb3)
      have ra3 := RA.out.below hb3 (Nat.le_refl _)
      have am := ra3.most
      have ac := ra3.cap
      have bm := rb.most
      have bc := rb.cap
      obtain ⟨p2, SL, ra2⟩ := rows_from ra3 ple
      have SR := Lib.hid (same_rows ra2 rb)
      have RA3 := Lib.hid ra3
      have RB3 := Lib.hid rb
      have t7 : ((R.length : Int) - ((R.length - E : Nat) : Int)) = (E : Int) := by omega
      have t8 : decide ((E : Int) < 0) = false := by rw [decide_eq_false_iff_not]; omega
      clear AL hb3 RA BB ra3 ra2 rb
      go_wp2_with (go_at_call 13; ((with_reducible refine SR.out.mono ?_); rintro e w4 ⟨rfl, hb4⟩; have B4 := Lib.hid hb4; clear hb4 SR))
      go_loopw [15] (fun i wq => ∃ m : Nat, m ≤ R.length ∧ i = .int .i64 (m : Int) ∧ Below w3.heap.size w3 wq) (fun i _ => R.length - (intOf i).toNat)
      case atStart => exact ⟨0, Nat.zero_le _, rfl, B4.out⟩
      case round =>
        clear B4
        obtain ⟨m, hm, rfl, hq⟩ := hrel
        by_cases hlt2 : m < R.length
        · obtain ⟨x, hx, rfl, x0, x1, x2, x3⟩ := (RA3.out.below hq (Nat.le_refl _)).at4 hlt2
          rw [Nat.zero_add] at x0 x1 x2 x3
          have hah := ahdi.out m x hx
          have CS := Lib.hid (SE.out m x hx)
          have bq := Lib.hid (below_of B3.out hq)
          have kx : Hid (∀ u, Below w3.heap.size w3 u → u.cell? ⟨ba, m * 4, none⟩ = some (.string x.key) ∧ u.cell? ⟨ba, m * 4 + 1, none⟩ = some (.int .u64 (x.seq : Int)) ∧ u.cell? ⟨ba, m * 4 + 2, none⟩ = some (.int .i64 x.kind) ∧ u.cell? ⟨ba, m * 4 + 3, none⟩ = some (.string x.val)) := Lib.hid fun u hu => by
            have := (RA3.out.below hu (Nat.le_refl _)).at' m x hx
            rw [Nat.zero_add] at this
            exact this
          have hpar := ahd_parts x key s
          obtain ⟨xk, xs, xi, xv⟩ := x
          simp only at x0 x1 x2 x3 CS kx hpar hah
          have mi : (m : Int) < (R.length : Int) := by omega
          have hq' := Lib.hid hq
          go_upto_region 18 with fail
          go_cut [102] from 74 to 102 (fun b wc => b = .bool false ∧ wc = wr)
          case first =>
            clear CS kx
            rcases hpar with ⟨p1, p2'⟩ | ⟨p1, p3, p2'⟩ | ⟨p1, p3, p2'⟩
            · have i1 : (m : Int) < (E : Int) := by
                have := hah.1 p2'
                omega
              clear hah p2' hx
              go_wp2_with fail
              go_meet
              exact ⟨rfl, rfl⟩
            · by_cases i1 : m < E
              · have p4 := hah.2 i1
                rw [p2'] at p4
                have i2 : (m : Int) < (E : Int) := by omega
                have p5 := of_decide_eq_true p4
                clear hah p2' hx p4
                go_wp2_with fail
                go_meet
                exact ⟨rfl, rfl⟩
              · have p4 : ¬ ahd ⟨xk, xs, xi, xv⟩ key s = true := fun e => i1 (hah.1 e)
                rw [p2', decide_eq_true_eq] at p4
                have i2 : ¬ ((m : Int) < (E : Int)) := by omega
                clear hah p2' hx
                go_wp2_with fail
                go_meet
                exact ⟨rfl, rfl⟩
            · have i2 : ¬ ((m : Int) < (E : Int)) := by
                have : ¬ m < E := fun e => by have := hah.2 e; rw [p2'] at this; cases this
                omega
              clear hah p2' hx
              go_wp2_with fail
              go_meet
              exact ⟨rfl, rfl⟩
          case rest =>
            obtain ⟨rfl, rfl⟩ := hcut
            clear hpar hah hx
            have C1 := Lib.hid ((CS.out _ bq.out.drew).mono fun e w' hp => (show e = .returned (.tuple #[rowV ⟨xk, xs, xi, xv⟩, .bool true]) ∧ Below w3.heap.size w3 w' from ⟨hp.1, below_of hq'.out.drew hp.2⟩))
            have C2 := Lib.hid ((CS.out _ (below_of bq.out (below_alloc wc (.cells #[.string ⟨#[]⟩, .int .u64 0, .int .i64 0, .string ⟨#[]⟩] 36))).drew).mono fun e w' hp => (show e = .returned (.tuple #[rowV ⟨xk, xs, xi, xv⟩, .bool true]) ∧ Below w3.heap.size w3 w' ∧ RowAt wc.heap.size zeroR w' from ⟨hp.1, below_of (below_of hq'.out (below_alloc _ _)).drew hp.2, (show RowAt wc.heap.size zeroR (wc.alloc (.cells #[.string ⟨#[]⟩, .int .u64 0, .int .i64 0, .string ⟨#[]⟩] 36)).drew from RowAt.new zeroR wc).below hp.2⟩))
            go_upto_region 20 with fail
            go_cut [16, 17] from 103 to 117 (fun r ok wc => ok = .bool true ∧ ∃ g, r = .pointer (some ⟨g, 0, none⟩) ∧ RowAt g ⟨xk, xs, xi, xv⟩ wc ∧ Below w3.heap.size w3 wc)
            case first =>
              have gl : ba < wc.heap.size := World.block_lt_of_cell? _ _ x0
              have gn : ¬ ba = wc.heap.size := by omega
              have gn2 : ¬ wc.heap.size = ba := by omega
              go_region_with (go_at_call 12; (first
                | ((with_reducible refine C1.out.mono ?_); rintro e w5 ⟨rfl, B5⟩)
                | ((with_reducible refine C2.out.mono ?_); rintro e w5 ⟨rfl, B5, rz⟩; obtain ⟨⟨v0, v1, v2, v3⟩, v4⟩ := rz.cells)
                | fail "no arm"))
              have hsz : w3.heap.size ≤ wc.heap.size := hq'.out.size
              all_goals (
                go_wp2_with fail
                go_meet
                first
                  | exact ⟨rfl, _, rfl, RowAt.new ⟨xk, xs, xi, xv⟩ w5, below_of B5 (below_alloc _ _)⟩
                  | exact ⟨rfl, _, rfl, RowAt.set4 rz ⟨xk, xs, xi, xv⟩, (((B5.setCell (p := ⟨wc.heap.size, 0, none⟩) hq'.out.size _).setCell (p := ⟨wc.heap.size, 1, none⟩) hq'.out.size _).setCell (p := ⟨wc.heap.size, 2, none⟩) hq'.out.size _).setCell (p := ⟨wc.heap.size, 3, none⟩) hq'.out.size _⟩)
            case rest =>
              clear C1 C2 x0 x1 x2 x3
              obtain ⟨rfl, g, rfl, rg, B5⟩ := hcut
              obtain ⟨⟨x0, x1, x2, x3⟩, _⟩ := rg.cells
              obtain ⟨y0, y1, y2, y3⟩ := kx.out _ B5
              have NEQ : ∀ u : World, (binOp .neq 36 (.agg #[.string xk, .int .u64 (xs : Int), .int .i64 xi, .string xv]) (.agg #[.string xk, .int .u64 (xs : Int), .int .i64 xi, .string xv])).run Try.prog u = .ok (.bool false) u := fun u => neq_rw _ _ _ _ _ _ _ _ _ (by simp) u
              have B5 := Lib.hid B5
              clear CS kx rg
              go_upto_region 21 with fail
              go_quiet (fail)
              go_wp2_with fail
              go_roundw
              case rel => exact ⟨m + 1, by omega, by go_num, below_drewN B5.out⟩
              case measure => simp [intOf]; omega
        · have hmR : m = R.length := by omega
          have mi : ¬ ((m : Int) < (R.length : Int)) := by omega
          have SK3 := Lib.hid (SK.out wr (below_of B3.out hq))
          have rb := RB3.out.below hq (Nat.le_refl _)
          have hq' := Lib.hid hq
          have hbb := Lib.hid (hb.out.trans ((below_of B3.out hq).mono hb.out.size))
          have lenE : (R.drop E).length = R.length - E := List.length_drop
          have FIN : Hid (∀ u v, Below wr.heap.size wr u → Below u.heap.size u v → Below w.heap.size w v) := Lib.hid fun u v h1 h2 => hbb.out.trans ((below_of h1 h2).mono hbb.out.size)
          cases hRE : R.drop E with
          | nil =>
            rw [hRE] at SK3 rb lenE
            have h0' : R.length - E = 0 := lenE.symm
            rw [h0'] at rb ⊢
            rw [show seekR [] = .tuple #[.agg #[.string ⟨#[]⟩, .int .u64 0, .int .i64 0, .string ⟨#[]⟩], .bool false] from rfl] at SK3
            have g1 : (false == decide ((0 : Int) < 0)) = true := rfl
            clear rb hq hRE lenE h0' RA3 RB3 SE SK
            go_upto_region 24 with (go_at_call 12; ((with_reducible refine SK3.out.mono ?_); rintro e w5 ⟨rfl, hb5⟩))
            have B5 := below_of hb5 (below_alloc w5 (.cells #[.string ⟨#[]⟩, .int .u64 0, .int .i64 0, .string ⟨#[]⟩] 36))
            generalize w5.alloc (.cells #[.string ⟨#[]⟩, .int .u64 0, .int .i64 0, .string ⟨#[]⟩] 36) = V at *
            have AV := Lib.hid (AW.out V.drew)
            refine wp_region_held_drew (S := fun _ => True) (by kernel_rfl) (trivial) (fun hHeld => ?_)
            refine held_take (i := 0) (v := ?_) rfl (by kernel_rfl) (by kernel_rfl) (by kernel_rfl) (fun _ _ _ h => h) (by rfl) (fun w hSw => ?_) (by assumption) ?_; rotate_left 1; focus (((try dsimp only at hSw); first | (go_simp; done) | (go_simp; with_reducible rfl)))
            try simp only [Act.put, List.setIfInBounds_toArray, List.set_cons_zero, List.set_cons_succ]
            refine held_take (i := 1) (v := ?_) rfl (by kernel_rfl) (by kernel_rfl) (by kernel_rfl) (fun _ _ _ h => h) (by rfl) (fun w hSw => ?_) (by assumption) ?_; rotate_left 1; focus (((try dsimp only at hSw); first | (go_simp; done) | (go_simp; with_reducible rfl)))
            try simp only [Act.put, List.setIfInBounds_toArray, List.set_cons_zero, List.set_cons_succ]
            refine held_take (i := 2) (v := ?_) rfl (by kernel_rfl) (by kernel_rfl) (by kernel_rfl) (fun _ _ _ h => h) (by rfl) (fun w hSw => ?_) (by assumption) ?_; rotate_left 1; focus (((try dsimp only at hSw); first | (go_simp; done) | (go_simp; with_reducible rfl)))
            try simp only [Act.put, List.setIfInBounds_toArray, List.set_cons_zero, List.set_cons_succ]
            refine held_take (i := 3) (v := ?_) rfl (by kernel_rfl) (by kernel_rfl) (by kernel_rfl) (fun _ _ _ h => h) (by rfl) (fun w hSw => ?_) (by assumption) ?_; rotate_left 1; focus (((try dsimp only at hSw); first | (go_simp; done) | (go_simp; with_reducible rfl)))
            try simp only [Act.put, List.setIfInBounds_toArray, List.set_cons_zero, List.set_cons_succ]
            refine held_take (i := 4) (v := ?_) rfl (by kernel_rfl) (by kernel_rfl) (by kernel_rfl) (fun _ _ _ h => h) (by rfl) (fun w hSw => ?_) (by assumption) ?_; rotate_left 1; focus (((try dsimp only at hSw); first | (go_simp; done) | (go_simp; with_reducible rfl)))
            try simp only [Act.put, List.setIfInBounds_toArray, List.set_cons_zero, List.set_cons_succ]
            refine held_take (i := 5) (v := ?_) rfl (by kernel_rfl) (by kernel_rfl) (by kernel_rfl) (fun _ _ _ h => h) (by rfl) (fun w hSw => ?_) (by assumption) ?_; rotate_left 1; focus (((try dsimp only at hSw); first | (go_simp; done) | (go_simp; with_reducible rfl)))
            try simp only [Act.put, List.setIfInBounds_toArray, List.set_cons_zero, List.set_cons_succ]
            refine held_take (i := 6) (v := ?_) rfl (by kernel_rfl) (by kernel_rfl) (by kernel_rfl) (fun _ _ _ h => h) (by rfl) (fun w hSw => ?_) (by assumption) ?_; rotate_left 1; focus (((try dsimp only at hSw); first | (go_simp; done) | (go_simp; with_reducible rfl)))
            try simp only [Act.put, List.setIfInBounds_toArray, List.set_cons_zero, List.set_cons_succ]
            refine held_take (i := 7) (v := ?_) rfl (by kernel_rfl) (by kernel_rfl) (by kernel_rfl) (fun _ _ _ h => h) (by rfl) (fun w hSw => ?_) (by assumption) ?_; rotate_left 1; focus (((try dsimp only at hSw); first | (go_simp; done) | (go_simp; with_reducible rfl)))
            try simp only [Act.put, List.setIfInBounds_toArray, List.set_cons_zero, List.set_cons_succ]
            refine held_take (i := 8) (v := ?_) rfl (by kernel_rfl) (by kernel_rfl) (by kernel_rfl) (fun _ _ _ h => h) (by rfl) (fun w hSw => ?_) (by assumption) ?_; rotate_left 1; focus (((try dsimp only at hSw); first | (go_simp; done) | (go_simp; with_reducible rfl)))
            try simp only [Act.put, List.setIfInBounds_toArray, List.set_cons_zero, List.set_cons_succ]
            refine held_skip (i := 9) rfl (by kernel_rfl) (by kernel_rfl) (by kernel_rfl) (fun _ _ _ h => h) (by rfl) (by assumption) ?_
            try simp only [Act.put, List.setIfInBounds_toArray, List.set_cons_zero, List.set_cons_succ]
            refine held_skip (i := 10) rfl (by kernel_rfl) (by kernel_rfl) (by kernel_rfl) (fun _ _ _ h => h) (by rfl) (by assumption) ?_
            try simp only [Act.put, List.setIfInBounds_toArray, List.set_cons_zero, List.set_cons_succ]
            refine held_skip (i := 11) rfl (by kernel_rfl) (by kernel_rfl) (by kernel_rfl) (fun _ _ _ h => h) (by rfl) (by assumption) ?_
            try simp only [Act.put, List.setIfInBounds_toArray, List.set_cons_zero, List.set_cons_succ]
            refine held_skip (i := 12) rfl (by kernel_rfl) (by kernel_rfl) (by kernel_rfl) (fun _ _ _ h => h) (by rfl) (by assumption) ?_
            try simp only [Act.put, List.setIfInBounds_toArray, List.set_cons_zero, List.set_cons_succ]
            refine held_skip (i := 13) rfl (by kernel_rfl) (by kernel_rfl) (by kernel_rfl) (fun _ _ _ h => h) (by rfl) (by assumption) ?_
            try simp only [Act.put, List.setIfInBounds_toArray, List.set_cons_zero, List.set_cons_succ]
            refine held_take (i := 14) (v := ?_) rfl (by kernel_rfl) (by kernel_rfl) (by kernel_rfl) (fun _ _ _ h => h) (by rfl) (fun w hSw => ?_) (by assumption) ?_; rotate_left 1; focus (((try dsimp only at hSw); first | (go_simp; done) | (go_simp; with_reducible rfl)))
            try simp only [Act.put, List.setIfInBounds_toArray, List.set_cons_zero, List.set_cons_succ]
            refine held_take (i := 15) (v := ?_) rfl (by kernel_rfl) (by kernel_rfl) (by kernel_rfl) (fun _ _ _ h => h) (by rfl) (fun w hSw => ?_) (by assumption) ?_; rotate_left 1; focus (((try dsimp only at hSw); first | (go_simp; done) | (go_simp; with_reducible rfl)))
            try simp only [Act.put, List.setIfInBounds_toArray, List.set_cons_zero, List.set_cons_succ]
            refine held_take (i := 16) (v := ?_) rfl (by kernel_rfl) (by kernel_rfl) (by kernel_rfl) (fun _ _ _ h => h) (by rfl) (fun w hSw => ?_) (by assumption) ?_; rotate_left 1; focus (((try dsimp only at hSw); first | (go_simp; done) | (go_simp; with_reducible rfl)))
            try simp only [Act.put, List.setIfInBounds_toArray, List.set_cons_zero, List.set_cons_succ]
            refine held_call (i := 17) (by kernel_rfl) rfl (by rfl) (fun K hK => ?_)
            go_simp
            (go_at_call 8; ((with_reducible refine AV.out.mono ?_); rintro e w6 ⟨rfl, hb6⟩; have B6 := FIN.out V.drew w6 B5.drew hb6))
            refine hK.out _ _ (trivial) (fun hHeld => ?_)
            try simp only [Act.put, List.setIfInBounds_toArray, List.set_cons_zero, List.set_cons_succ]
            refine held_take (i := 18) (v := ?_) rfl (by kernel_rfl) (by kernel_rfl) (by kernel_rfl) (fun _ _ _ h => h) (by rfl) (fun w hSw => ?_) (by assumption) ?_; rotate_left 1; focus (((try dsimp only at hSw); first | (go_simp; done) | (go_simp; with_reducible rfl)))
            try simp only [Act.put, List.setIfInBounds_toArray, List.set_cons_zero, List.set_cons_succ]
            refine held_take (i := 19) (v := ?_) rfl (by kernel_rfl) (by kernel_rfl) (by kernel_rfl) (fun _ _ _ h => h) (by rfl) (fun w hSw => ?_) (by assumption) ?_; rotate_left 1; focus (((try dsimp only at hSw); first | (go_simp; done) | (go_simp; with_reducible rfl)))
            try simp only [Act.put, List.setIfInBounds_toArray, List.set_cons_zero, List.set_cons_succ]
            refine wpAnyH_done (by kernel_rfl) ?_ _
            go_wp2_with fail
            go_returns
            exact ⟨rfl, B6⟩
          | cons x r =>
            rw [hRE] at SK3 rb lenE
            have hpos : 0 < R.length - E := by rw [← lenE]; simp
            obtain ⟨x', hx', rfl, b0, b1, b2, b3⟩ := rb.at4 hpos
            obtain rfl : x = x' := by simpa using hx'
            rw [show seekR (x :: r) = .tuple #[rowV x, .bool true] from rfl] at SK3
            obtain ⟨LB, hLB⟩ := named (R.length - E)
            rw [← hLB.out] at hpos ⊢
            have gpos : (0 : Int) < (LB : Int) := by omega
            have gp2 : (true == decide ((0 : Int) < (LB : Int))) = true := by rw [decide_eq_true gpos]; rfl
            obtain ⟨xk, xs, xi, xv⟩ := x
            simp only [Nat.zero_add, Nat.zero_mul] at b0 b1 b2 b3
            have EQ : ∀ u : World, (binOp .eql 36 (.agg #[.string xk, .int .u64 (xs : Int), .int .i64 xi, .string xv]) (.agg #[.string xk, .int .u64 (xs : Int), .int .i64 xi, .string xv])).run Try.prog u = .ok (.bool true) u := fun u => eql_rw _ _ _ _ _ _ _ _ _ (by simp) u
            have hlb := World.block_lt_of_cell? _ _ b0
            clear rb hq hRE lenE RA3 RB3 SE SK hx'
            go_upto_region 24 with (go_at_call 12; ((with_reducible refine SK3.out.mono ?_); rintro e w5 ⟨rfl, hb5⟩))
            have B5 := below_of hb5 (below_alloc w5 (.cells #[.string xk, .int .u64 (xs : Int), .int .i64 xi, .string xv] 36))
            have RN := RowAt.new ⟨xk, xs, xi, xv⟩ w5
            obtain ⟨g, hg⟩ := named w5.heap.size
            rw [← hg.out] at RN ⊢
            generalize w5.alloc (.cells #[.string xk, .int .u64 (xs : Int), .int .i64 xi, .string xv] 36) = V at *
            have KS : Hid (∀ (u : World) (B : Nat), Below B V.drew u → V.drew.heap.size ≤ B → (u.cell? ⟨g, 0, none⟩ = some (.string xk) ∧ u.cell? ⟨g, 1, none⟩ = some (.int .u64 (xs : Int)) ∧ u.cell? ⟨g, 2, none⟩ = some (.int .i64 xi) ∧ u.cell? ⟨g, 3, none⟩ = some (.string xv)) ∧ u.cell? ⟨bb, 0, none⟩ = some (.string xk) ∧ u.cell? ⟨bb, 1, none⟩ = some (.int .u64 (xs : Int)) ∧ u.cell? ⟨bb, 2, none⟩ = some (.int .i64 xi) ∧ u.cell? ⟨bb, 3, none⟩ = some (.string xv)) := Lib.hid fun u B hu hB => by
              have hu' : Below V.heap.size V u := ⟨hu.os, hu.tape, hu.output, hu.size, fun k hk => hu.block k (Nat.lt_of_lt_of_le hk hB)⟩
              have c := (RN.below hu').cells.1
              have hbu := below_of B5 hu'
              have e : ∀ i, u.cell? ⟨bb, i, none⟩ = wr.cell? ⟨bb, i, none⟩ := fun i => hbu.cell (p := ⟨bb, i, none⟩) hlb
              exact ⟨c, by rw [e, e, e, e]; exact ⟨b0, b1, b2, b3⟩⟩
            have AV := Lib.hid (AW.out V.drew)
            clear b0 b1 b2 b3 RN hlb SK3
            refine wp_region_held_drew (S := fun v => (v.cell? ⟨g, 0, none⟩ = some (.string xk) ∧ v.cell? ⟨g, 1, none⟩ = some (.int .u64 (xs : Int)) ∧ v.cell? ⟨g, 2, none⟩ = some (.int .i64 xi) ∧ v.cell? ⟨g, 3, none⟩ = some (.string xv)) ∧ v.cell? ⟨bb, 0, none⟩ = some (.string xk) ∧ v.cell? ⟨bb, 1, none⟩ = some (.int .u64 (xs : Int)) ∧ v.cell? ⟨bb, 2, none⟩ = some (.int .i64 xi) ∧ v.cell? ⟨bb, 3, none⟩ = some (.string xv)) (by kernel_rfl) (KS.out V.drew V.drew.heap.size (Below.refl _ _) (Nat.le_refl _)) (fun hHeld => ?_)
            refine held_take (i := 0) (v := ?_) rfl (by kernel_rfl) (by kernel_rfl) (by kernel_rfl) (fun _ _ _ h => h) (by rfl) (fun w hSw => ?_) (by assumption) ?_; rotate_left 1; focus (((try dsimp only at hSw); first | (go_simp; done) | (go_simp; with_reducible rfl)))
            try simp only [Act.put, List.setIfInBounds_toArray, List.set_cons_zero, List.set_cons_succ]
            refine held_take (i := 1) (v := ?_) rfl (by kernel_rfl) (by kernel_rfl) (by kernel_rfl) (fun _ _ _ h => h) (by rfl) (fun w hSw => ?_) (by assumption) ?_; rotate_left 1; focus (((try dsimp only at hSw); first | (go_simp; done) | (go_simp; with_reducible rfl)))
            try simp only [Act.put, List.setIfInBounds_toArray, List.set_cons_zero, List.set_cons_succ]
            refine held_take (i := 2) (v := ?_) rfl (by kernel_rfl) (by kernel_rfl) (by kernel_rfl) (fun _ _ _ h => h) (by rfl) (fun w hSw => ?_) (by assumption) ?_; rotate_left 1; focus (((try dsimp only at hSw); first | (go_simp; done) | (go_simp; with_reducible rfl)))
            try simp only [Act.put, List.setIfInBounds_toArray, List.set_cons_zero, List.set_cons_succ]
            refine held_take (i := 3) (v := ?_) rfl (by kernel_rfl) (by kernel_rfl) (by kernel_rfl) (fun _ _ _ h => h) (by rfl) (fun w hSw => ?_) (by assumption) ?_; rotate_left 1; focus (((try dsimp only at hSw); first | (go_simp; done) | (go_simp; with_reducible rfl)))
            try simp only [Act.put, List.setIfInBounds_toArray, List.set_cons_zero, List.set_cons_succ]
            refine held_take (i := 4) (v := ?_) rfl (by kernel_rfl) (by kernel_rfl) (by kernel_rfl) (fun _ _ _ h => h) (by rfl) (fun w hSw => ?_) (by assumption) ?_; rotate_left 1; focus (((try dsimp only at hSw); first | (go_simp; done) | (go_simp; with_reducible rfl)))
            try simp only [Act.put, List.setIfInBounds_toArray, List.set_cons_zero, List.set_cons_succ]
            refine held_take (i := 5) (v := ?_) rfl (by kernel_rfl) (by kernel_rfl) (by kernel_rfl) (fun _ _ _ h => h) (by rfl) (fun w hSw => ?_) (by assumption) ?_; rotate_left 1; focus (((try dsimp only at hSw); first | (go_simp; done) | (go_simp; with_reducible rfl)))
            try simp only [Act.put, List.setIfInBounds_toArray, List.set_cons_zero, List.set_cons_succ]
            refine held_take (i := 6) (v := ?_) rfl (by kernel_rfl) (by kernel_rfl) (by kernel_rfl) (fun _ _ _ h => h) (by rfl) (fun w hSw => ?_) (by assumption) ?_; rotate_left 1; focus (((try dsimp only at hSw); first | (go_simp; done) | (go_simp; with_reducible rfl)))
            try simp only [Act.put, List.setIfInBounds_toArray, List.set_cons_zero, List.set_cons_succ]
            refine held_take (i := 7) (v := ?_) rfl (by kernel_rfl) (by kernel_rfl) (by kernel_rfl) (fun _ _ _ h => h) (by rfl) (fun w hSw => ?_) (by assumption) ?_; rotate_left 1; focus (((try dsimp only at hSw); first | (go_simp; done) | (go_simp; with_reducible rfl)))
            try simp only [Act.put, List.setIfInBounds_toArray, List.set_cons_zero, List.set_cons_succ]
            refine held_take (i := 8) (v := ?_) rfl (by kernel_rfl) (by kernel_rfl) (by kernel_rfl) (fun _ _ _ h => h) (by rfl) (fun w hSw => ?_) (by assumption) ?_; rotate_left 1; focus (((try dsimp only at hSw); first | (go_simp; done) | (go_simp; with_reducible rfl)))
            try simp only [Act.put, List.setIfInBounds_toArray, List.set_cons_zero, List.set_cons_succ]
            refine held_take (i := 9) (v := ?_) rfl (by kernel_rfl) (by kernel_rfl) (by kernel_rfl) (fun _ _ _ h => h) (by rfl) (fun w hSw => ?_) (by assumption) ?_; rotate_left 1; focus (((try dsimp only at hSw); first | (go_simp; done) | (go_simp; with_reducible rfl)))
            try simp only [Act.put, List.setIfInBounds_toArray, List.set_cons_zero, List.set_cons_succ]
            refine held_take (i := 10) (v := ?_) rfl (by kernel_rfl) (by kernel_rfl) (by kernel_rfl) (fun _ _ _ h => h) (by rfl) (fun w hSw => ?_) (by assumption) ?_; rotate_left 1; focus (((try dsimp only at hSw); first | (go_simp; done) | (go_simp; with_reducible rfl)))
            try simp only [Act.put, List.setIfInBounds_toArray, List.set_cons_zero, List.set_cons_succ]
            refine held_take (i := 11) (v := ?_) rfl (by kernel_rfl) (by kernel_rfl) (by kernel_rfl) (fun _ _ _ h => h) (by rfl) (fun w hSw => ?_) (by assumption) ?_; rotate_left 1; focus (((try dsimp only at hSw); first | (go_simp; done) | (go_simp; with_reducible rfl)))
            try simp only [Act.put, List.setIfInBounds_toArray, List.set_cons_zero, List.set_cons_succ]
            refine held_take (i := 12) (v := ?_) rfl (by kernel_rfl) (by kernel_rfl) (by kernel_rfl) (fun _ _ _ h => h) (by rfl) (fun w hSw => ?_) (by assumption) ?_; rotate_left 1; focus (((try dsimp only at hSw); first | (go_simp; done) | (go_simp; with_reducible rfl)))
            try simp only [Act.put, List.setIfInBounds_toArray, List.set_cons_zero, List.set_cons_succ]
            refine held_take (i := 13) (v := ?_) rfl (by kernel_rfl) (by kernel_rfl) (by kernel_rfl) (fun _ _ _ h => h) (by rfl) (fun w hSw => ?_) (by assumption) ?_; rotate_left 1; focus (((try dsimp only at hSw); first | (go_simp; done) | (go_simp; with_reducible rfl)))
            try simp only [Act.put, List.setIfInBounds_toArray, List.set_cons_zero, List.set_cons_succ]
            refine held_take (i := 14) (v := ?_) rfl (by kernel_rfl) (by kernel_rfl) (by kernel_rfl) (fun _ _ _ h => h) (by rfl) (fun w hSw => ?_) (by assumption) ?_; rotate_left 1; focus (((try dsimp only at hSw); first | (go_simp; done) | (go_simp; with_reducible rfl)))
            try simp only [Act.put, List.setIfInBounds_toArray, List.set_cons_zero, List.set_cons_succ]
            refine held_take (i := 15) (v := ?_) rfl (by kernel_rfl) (by kernel_rfl) (by kernel_rfl) (fun _ _ _ h => h) (by rfl) (fun w hSw => ?_) (by assumption) ?_; rotate_left 1; focus (((try dsimp only at hSw); first | (go_simp; done) | (go_simp; with_reducible rfl)))
            try simp only [Act.put, List.setIfInBounds_toArray, List.set_cons_zero, List.set_cons_succ]
            refine held_take (i := 16) (v := ?_) rfl (by kernel_rfl) (by kernel_rfl) (by kernel_rfl) (fun _ _ _ h => h) (by rfl) (fun w hSw => ?_) (by assumption) ?_; rotate_left 1; focus (((try dsimp only at hSw); first | (go_simp; done) | (go_simp; with_reducible rfl)))
            try simp only [Act.put, List.setIfInBounds_toArray, List.set_cons_zero, List.set_cons_succ]
            refine held_call (i := 17) (by kernel_rfl) rfl (by rfl) (fun K hK => ?_)
            go_simp
            (go_at_call 8; ((with_reducible refine AV.out.mono ?_); rintro e w6 ⟨rfl, hb6⟩; have B6 := FIN.out V.drew w6 B5.drew hb6))
            refine hK.out _ _ (KS.out w6 _ hb6 (Nat.le_refl _)) (fun hHeld => ?_)
            try simp only [Act.put, List.setIfInBounds_toArray, List.set_cons_zero, List.set_cons_succ]
            refine held_take (i := 18) (v := ?_) rfl (by kernel_rfl) (by kernel_rfl) (by kernel_rfl) (fun _ _ _ h => h) (by rfl) (fun w hSw => ?_) (by assumption) ?_; rotate_left 1; focus (((try dsimp only at hSw); first | (go_simp; done) | (go_simp; with_reducible rfl)))
            try simp only [Act.put, List.setIfInBounds_toArray, List.set_cons_zero, List.set_cons_succ]
            refine held_take (i := 19) (v := ?_) rfl (by kernel_rfl) (by kernel_rfl) (by kernel_rfl) (fun _ _ _ h => h) (by rfl) (fun w hSw => ?_) (by assumption) ?_; rotate_left 1; focus (((try dsimp only at hSw); first | (go_simp; done) | (go_simp; with_reducible rfl)))
            try simp only [Act.put, List.setIfInBounds_toArray, List.set_cons_zero, List.set_cons_succ]
            refine wpAnyH_done (by kernel_rfl) ?_ _
            go_wp2_with fail
            go_returns
            exact ⟨rfl, B6⟩
set_option maxRecDepth 100000 in
set_option maxHeartbeats 2000000 in
theorem from_big (a0 : Option Addr) (n0 c0 : Nat) (a1 : Option Addr) (n1 c1 : Nat) (key : ByteArray) (s : Int) (w : World) (hn : 100 < n0) :
    Calls Try.prog 7 #[.slice a0 n0 c0, .slice a1 n1 c1, .string key, .int .u64 s] w fun e w' => e = .returned (.bool true) ∧ Below w.heap.size w w' := by
  have AW := Lib.hid (awake_any w)
  have d0 : decide ((100 : Int) < (n0 : Int)) = true := by rw [decide_eq_true_eq]; omega
  go_enter Try.func7, Try.ntmps7
  go_wp2_with fail
  refine AW.out.mono ?_
  rintro e w' ⟨rfl, hb⟩
  go_wp2_with fail
  go_returns
  exact ⟨rfl, hb⟩
theorem from_walk (a0 : Option Addr) (n0 c0 b0 o0 : Nat) (rs : List Rw) (a1 : Option Addr) (n1 c1 b1 o1 : Nat) (hl : List Int) (key : ByteArray) (hz : key.size ≤ reachBytes) (s : Int) (hs : (Lit.int .u64 s).wf = true) (w : World)
    (h0 : Rs a0 n0 c0 b0 o0 rs w ∧ ∀ v ∈ rs, RwIn v) (h1 : SlOf 1 cellsI a1 n1 c1 b1 o1 hl w ∧ ∀ v ∈ hl, (Lit.int .i64 v).wf = true) :
    Calls Try.prog 7 #[.slice a0 n0 c0, .slice a1 n1 c1, .string key, .int .u64 s] w fun e w' => e = .returned (.bool true) ∧ Below w.heap.size w w' := by
  by_cases hn : n0 ≤ 100
  · have hr : 0 ≤ s ∧ s ≤ 18446744073709551615 := by simpa [Lit.wf, IntKind.min, IntKind.max, IntKind.signed, IntKind.bits] using hs
    obtain ⟨q, rfl⟩ := Int.eq_ofNat_of_zero_le hr.1
    exact from_main a0 n0 c0 b0 o0 rs a1 n1 c1 b1 o1 hl key (by unfold reachBytes at hz; omega) q w h0.1 h0.2 h1.1 hn
  · exact from_big a0 n0 c0 a1 n1 c1 key s w (by omega)
--LAW freshetlaw08.SkipFrom from_walk rows:ra nums:ha string:key uint64:sq
--BEGIN
namespace SkipFromProof
open Go.ChangeShapes Go.WideShapes Go.ChangeAt Go.RowKit
open Go.ChangeMaps (open_string shut_string)
theorem own : ownKnob Try.prog.godebug = none := by kernel_rfl
set_option maxRecDepth 100000 in
theorem lifted (os : Os) (started : os.Started) (H : Type) (enc : TypeId × Value → H) :
    ReturnsInHanded {} Try.checked os 7 .any (Rows.skipFromSpec.pre6 enc Try.prog Try.f7 Rows.skipFromRow.domain false) (Rows.skipFromSpec.post enc Try.prog Try.f7 false true false false) := by
  refine returnsInHanded_of_change_sized (C := Try.checked) own started (by kernel_rfl) Try.func7
    (ChangeSpec.witness6 (enc := enc) (C := Try.checked) false ⟨#[], #[.slice none 0 0, .slice none 0 0, .string .empty, .int .u64 0], []⟩ 8 (by kernel_rfl) (by kernel_rfl) (by kernel_rfl) (by kernel_rfl)) ?_
  intro W base args ds gs before hval0 hW _ hsz _
  have hval : ∀ (j : Nat) t v, Try.f7.params[j]? = some t → args[j]? = some v → Value.okWide Try.prog W .any base t v := hval0
  have hW' := hW
  obtain ⟨p, q, hA0, hV, rfl, hfz, hnd⟩ := hW
  have hA : DataW.TrodAll enc Try.prog W 0 (fun _ => true) true Try.f7.params.toList args.toList ds p := hA0
  rw [Try.params7] at hA hval hsz
  obtain ⟨v0, vs0, d0, ds0, p0, q0, hargs, rfl, rfl, h0, r0⟩ := trodAll_cons hA
  obtain ⟨v1, vs1, d1, ds1, p1, q1, rfl, rfl, rfl, h1, r1⟩ := trodAll_cons r0
  obtain ⟨v2, vs2, d2, ds2, p2, q2, rfl, rfl, rfl, h2, r2⟩ := trodAll_cons r1
  obtain ⟨v3, vs3, d3, ds3, p3, q3, rfl, rfl, rfl, h3, r3⟩ := trodAll_cons r2
  obtain ⟨rfl, rfl, rfl⟩ := trodAll_nil r3
  obtain rfl : args = #[v0, v1, v2, v3] := by cases args; simp_all
  obtain ⟨rfl, rfl⟩ := trodVars_none hV
  obtain ⟨a0, n0, c0, rfl⟩ := okWide_slice Try.underlying30 (hval 0 30 v0 rfl rfl)
  have k0 := h0
  obtain ⟨fu0, hf0⟩ := h0
  obtain ⟨b0, o0, ra, ia0⟩ := open_rows hf0 hsz (j := 0) rfl rfl
  have lt0 : ∀ x ∈ p0, x.block < W.heap.size := fun x hx => hW'.lt x (by simp only [List.mem_append]; simp [hx])
  obtain ⟨a1, n1, c1, rfl⟩ := okWide_slice Try.underlying31 (hval 1 31 v1 rfl rfl)
  have k1 := h1
  obtain ⟨fu1, hf1⟩ := h1
  obtain ⟨b1, o1, ha, ia1⟩ := open_nums hf1 hsz (j := 1) rfl rfl
  have lt1 : ∀ x ∈ p1, x.block < W.heap.size := fun x hx => hW'.lt x (by simp only [List.mem_append]; simp [hx])
  obtain ⟨key, rfl, rfl, rfl, m2⟩ := open_string Try.underlying9 (hval 2 9 v2 rfl rfl) h2
  obtain ⟨sq, rfl, rfl, rfl, m3⟩ := open_int Try.underlying34 (hval 3 34 v3 rfl rfl) h3
  have z2 : key.size ≤ reachBytes := by have := sized_string hsz (j := 2) (t := 9) (bytes := key.data.toList) rfl rfl; simpa using this
  clear hA0 hval0
  simp only [List.append_nil] at hW'
  refine (from_walk a0 n0 c0 b0 o0 ra a1 n1 c1 b1 o1 ha key z2 sq m3 W ia0 ia1).mono fun e W' ⟨he, hg⟩ => ?_
  subst he
  exact ⟨_, rfl, _, _, _, [], _, [], hW', (trodAll_cons_mk (shut_bool Try.underlying4 _) trodAll_mk0), (trodAll_cons_mk (Below.trod laid_out (by kernel_rfl) (of_decide_eq_true (by kernel_rfl)) k0 hg lt0) (trodAll_cons_mk (Below.trod laid_out (by kernel_rfl) (of_decide_eq_true (by kernel_rfl)) k1 hg lt1) (trodAll_cons_mk (shut_string Try.underlying9 m2) (trodAll_cons_mk (shut_int Try.underlying34 m3) trodAll_mk0)))), rfl, hg.frame _, fun h => by cases h⟩
theorem holds : Rows.SkipFromSaid :=
  OpenClaim.holds_of_wide 7 Try.f7 rfl rfl rfl rfl rfl rfl rfl ⟨rfl, rfl, rfl, rfl, rfl⟩ rfl rfl rfl rfl rfl (by kernel_rfl) Try.func7 (by kernel_rfl)
    (of_decide_eq_true (by kernel_rfl)) (by unfold Func.isWrapper; first | (rw [if_pos (by decide +kernel)]; kernel_rfl) | (rw [if_neg (by decide +kernel)]; exact ⟨rfl, rfl⟩))
    (fun os started H enc _ => lifted os started H enc)
end SkipFromProof
--END
end Go.Proofs.Ytadbhajnlokkbaa
