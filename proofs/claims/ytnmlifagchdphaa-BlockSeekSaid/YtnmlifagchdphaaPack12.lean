/-
  The document's Build. No condition.
-/
import Derived.Test.YtnmlifagchdphaaPack11
namespace Go.Proofs.Ytnmlifagchdphaa
set_option maxRecDepth 100000
open Go.RowKit
theorem buildB_two {l : List Rw} {d : Int} (h : chkA l d = 2) : buildB l d = ([], 2) := by unfold buildB; rw [h]; rfl
theorem buildB_three {l : List Rw} {d : Int} (h : chkA l d = 3) : buildB l d = ([], 3) := by unfold buildB; rw [h]; rfl
theorem buildB_great {l : List Rw} {D : Nat} (h : chkA l (D : Int) = 0) {j : Nat} (hj : j ≤ l.length) (hb : 65536 < (bodB D l j).length) : buildB l (D : Int) = ([], 3) := by
  have := bodB_mono D l j (l.length - j)
  rw [show j + (l.length - j) = l.length by omega] at this
  unfold buildB
  rw [if_neg (by simpa using h), if_pos]
  show 65536 < (blkB D l).length
  unfold blkB
  rw [List.length_append, tailB_len]
  omega
theorem mod_yes {m d : Nat} (h : m % d = 0) : (((m : Int) % (d : Int)) == 0) = true := by rw [← Int.natCast_emod, h]; rfl
theorem mod_no {m d : Nat} (h : ¬ m % d = 0) : (((m : Int) % (d : Int)) == 0) = false := by rw [← Int.natCast_emod, beq_eq_false_iff_ne]; omega
theorem mod_pos {m d : Nat} (h : ¬ m % d = 0) : ∃ r, m = r + 1 := ⟨m - 1, by rcases Nat.eq_zero_or_pos m with e | e; exact absurd (by rw [e]; exact Nat.zero_mod d) h; omega⟩
theorem wr_one (r : Nat) (h : r ≤ 100000) : wrap64 ((r : Int) + 1 - 1) = (r : Int) ∧ wrap64 (r : Int) = (r : Int) := by unfold wrap64; omega
set_option maxRecDepth 100000 in
set_option maxHeartbeats 2000000 in
theorem refbuild_arg {a : Option Addr} {n c b o : Nat} {l : List Rw} {w : World} (d : Int) (h : Rs a n c b o l w) (hE : d < 1 ∨ 64 < d ∨ ordR l = false) :
    Calls Try.prog 16 #[.slice a n c, .int .i64 d] w fun e w' => e = .returned (.tuple #[.string ⟨#[]⟩, .int .i64 2]) ∧ Below w.heap.size w w' := by
  have OC := Lib.hid (reforder_any h)
  obtain ⟨T, hT⟩ := named (ordR l)
  rw [← hT.out] at OC hE
  by_cases h1 : d < 1
  · have g1 : decide (d < 1) = true := by simpa using h1
    go_enter Try.func16, Try.ntmps16
    go_wp2_with fail
    go_returns
    exact ⟨rfl, Below.refl _ _⟩
  · have g1 : decide (d < 1) = false := by simpa using h1
    by_cases h2 : 64 < d
    · have g2 : decide (64 < d) = true := by simpa using h2
      clear hE
      go_enter Try.func16, Try.ntmps16
      go_wp2_with fail
      go_returns
      exact ⟨rfl, Below.refl _ _⟩
    · have g2 : decide (64 < d) = false := by simpa using h2
      obtain rfl : T = false := by rcases hE with e | e | e; exact absurd e h1; exact absurd e h2; exact e
      clear hE
      go_enter Try.func16, Try.ntmps16
      go_wp2_with (go_at_call 34; ((with_reducible refine OC.out.mono ?_); rintro e w2 ⟨rfl, hb2⟩; have B2 := Lib.hid hb2; clear hb2))
      go_returns
      exact ⟨rfl, B2.out⟩
set_option maxRecDepth 100000 in
set_option maxHeartbeats 8000000 in
theorem refbuild_main {a : Option Addr} {n c b o : Nat} {l : List Rw} {w : World} (d : Nat) (h : Rs a n c b o l w) (h1 : 1 ≤ d) (h2 : d ≤ 64) (ho : ordR l = true) :
    Calls Try.prog 16 #[.slice a n c, .int .i64 (d : Int)] w fun e w' => e = .returned (.tuple #[.string ⟨(buildB l (d : Int)).1.toArray⟩, .int .i64 ((buildB l (d : Int)).2 : Nat)]) ∧ Below w.heap.size w w' := by
  have OC := Lib.hid (reforder_any h)
  rw [ho] at OC
  have hcap := h.cap
  have hmost := h.most
  have hlen := Lib.hid h.len
  have hTwo : Hid (l.any badR = true → buildB l (d : Int) = ([], 2)) := Lib.hid (fun hb => buildB_two (chkA_bad hb))
  have hEnd : Hid (l.any badR = false → chkA l (d : Int) = sofR (decide (1024 < n)) l) := Lib.hid (fun hb => by rw [chkA_end (by rw [ho]; simp; omega) hb, h.len])
  have hThree : Hid (chkA l (d : Int) = 3 → buildB l (d : Int) = ([], 3)) := Lib.hid buildB_three
  have hGreat : Hid (chkA l (d : Int) = 0 → ∀ j, j ≤ l.length → 65536 < (bodB d l j).length → buildB l (d : Int) = ([], 3)) := Lib.hid (fun hc j hj hb => buildB_great hc hj hb)
  have hFin : Hid (chkA l (d : Int) = 0 → buildB l (d : Int) = if 65536 < (blkB d l).length then ([], 3) else (blkB d l, 0)) := Lib.hid (fun hc => by unfold buildB; rw [if_neg (by simpa using hc)]; rfl)
  obtain ⟨R, hR⟩ := named (buildB l (d : Int))
  rw [← hR.out] at hTwo hThree hGreat hFin ⊢
  have h := Lib.hid h
  clear hR ho
  have FR := Lib.hid (fun k hk u => four_any k hk u)
  have q1 : decide ((d : Int) < 1) = false := by rw [decide_eq_false_iff_not]; omega
  have q2 : decide (64 < (d : Int)) = false := by rw [decide_eq_false_iff_not]; omega
  have d0 : (d : Int) ≠ 0 := by omega
  have B64 : Hid (decide ((1024 : Int) < (n : Int)) = decide (1024 < n)) := Lib.hid (by congr 1; apply propext; omega)
  obtain ⟨LG, hLG⟩ := named (decide (1024 < n))
  have q3 : decide ((1024 : Int) < (n : Int)) = LG := by rw [B64.out, hLG.out]
  have q3b : decide (1024 < n) = LG := hLG.out.symm
  rw [q3b] at hEnd
  go_enter Try.func16, Try.ntmps16
  go_wp2_with (go_at_call 34; ((with_reducible refine OC.out.mono ?_); rintro e w0 ⟨rfl, hb0⟩; have K := Lib.hid hb0; clear hb0))
  go_loopw [7, 6] (fun i e wr => ∃ j : Nat, j ≤ n ∧ i = .int .i64 (j : Int) ∧ e = .bool (decide (sofR LG (l.take j) = 3)) ∧ (l.take j).any badR = false ∧ Below w.heap.size w wr) (fun i _ _ => n - (intOf i).toNat)
  case atStart => exact ⟨0, Nat.zero_le _, rfl, (by cases LG <;> rfl), by simp, K.out⟩
  case round =>
    obtain ⟨j, hj, rfl, rfl, hany, hb⟩ := hrel
    have hb := Lib.hid hb
    have hany := Lib.hid hany
    obtain ⟨S, hS⟩ := named (decide (sofR LG (l.take j) = 3))
    rw [← hS.out]
    by_cases hlt : j < n
    · obtain ⟨x, hx, rfl, e0, e1, e2, e3⟩ := (h.out.keep (w' := wr) (fun h0 => hb.out.block b (h.out.addr h0).2) hb.out.size).at4 hlt
      have hx := Lib.hid hx
      have i0 : (j : Int) < (n : Int) := by omega
      obtain ⟨xk, xs, xi, xv⟩ := x
      obtain ⟨r, hr⟩ := named (chkR ⟨xk, xs, xi, xv⟩)
      have C : Hid (∀ u, Calls Try.prog 35 #[.agg #[.string xk, .int .u64 (xs : Int), .int .i64 xi, .string xv]] u fun e w' => e = .returned (.int .i64 (r : Nat)) ∧ Below u.heap.size u w') := Lib.hid fun u => by rw [hr.out]; exact refchk_any ⟨xk, xs, xi, xv⟩ u
      simp only at e0 e1 e2 e3
      have take1 : Hid (l.take (j + 1) = l.take j ++ [⟨xk, xs, xi, xv⟩]) := Lib.hid (by rw [List.take_add_one, hx.out]; rfl)
      by_cases hxb : badR ⟨xk, xs, xi, xv⟩ = true
      · have r2 : r = 2 := by rw [hr.out]; exact chkR_two.2 hxb
        have hR2 := Lib.hid (hTwo.out (List.any_eq_true.2 ⟨_, List.mem_of_getElem? hx.out, hxb⟩))
        subst r2
        clear hxb hr
        go_wp2_with (go_at_call 35; ((with_reducible refine (C.out _).mono ?_); rintro e w1 ⟨rfl, hb1⟩; have W1 := Lib.hid (below_of hb.out hb1); clear hb1))
        go_returns
        exact ⟨by rw [hR2.out]; rfl, W1.out⟩
      · have hxf : badR ⟨xk, xs, xi, xv⟩ = false := by simpa using hxb
        have any1 : Hid ((l.take (j + 1)).any badR = false) := Lib.hid (by rw [take1.out, List.any_append, hany.out]; simp [hxf])
        have so1 : Hid (decide (sofR LG (l.take (j + 1)) = 3) = if r = 3 then true else S) := Lib.hid (by rw [take1.out, sofR_snoc hxf, ← hr.out, hS.out]; split <;> simp)
        have r30 : r = 3 ∨ r = 0 := by rw [hr.out]; exact chkR_zero hxf
        clear hxb hr hxf hS hany take1
        rcases r30 with rfl | rfl
        all_goals (
          cases S
          all_goals (
            go_wp2_with (go_at_call 35; ((with_reducible refine (C.out _).mono ?_); rintro e w1 ⟨rfl, hb1⟩; have W1 := Lib.hid (below_of hb.out hb1); clear hb1))
            go_roundw
            case rel => exact ⟨j + 1, by omega, by go_num, by rw [so1.out]; rfl, any1.out, W1.out⟩
            case measure => simp [intOf]; omega))
    · have hjn : j = n := by omega
      subst hjn
      have i0 : ¬ (j : Int) < (j : Int) := by omega
      have ht : l.take j = l := by rw [← hlen.out, List.take_length]
      have hany2 : l.any badR = false := by rw [← ht]; exact hany.out
      rw [ht] at hS
      have hC := Lib.hid (hEnd.out hany2)
      cases S with
      | true =>
        have hR3 := Lib.hid (hThree.out (by rw [hC.out]; exact of_decide_eq_true hS.out.symm))
        clear hS ht hany hany2
        go_wp2_with fail
        go_returns
        exact ⟨by rw [hR3.out]; rfl, hb.out⟩
      | false =>
        have hc0 : Hid (chkA l (d : Int) = 0) := Lib.hid (by
          have h3 : ¬ sofR LG l = 3 := of_decide_eq_false hS.out.symm
          rw [hC.out]
          unfold sofR at h3 ⊢
          split
          · rename_i hh; rw [if_pos hh] at h3; exact absurd rfl h3
          · rfl)
        obtain ⟨_, _, _, k3, k4⟩ := chkA_ok hc0.out
        have k3 := Lib.hid k3
        rw [hlen.out] at k4
        have hGr := Lib.hid (hGreat.out hc0.out)
        have hFi := Lib.hid (hFin.out hc0.out)
        have H2 := Lib.hid (h.out.below hb.out (Nat.le_refl _))
        clear hS ht hany hany2 hC hGreat hFin hThree hTwo hEnd q3 q3b hLG B64 i0
        go_wp2_with fail
        go_loopw [11, 9, 10] (fun i s e wr => ∃ m : Nat, m ≤ j ∧ i = .int .i64 (m : Int) ∧ s = .string ⟨(bodB d l m).toArray⟩ ∧ e = .string ⟨(rstB d l m).toArray⟩ ∧ (bodB d l m).length ≤ 65536 ∧ Below w.heap.size w wr) (fun i _ _ _ => j - (intOf i).toNat)
        case atStart => exact ⟨0, Nat.zero_le _, rfl, rfl, rfl, by simp [bodB], hb.out⟩
        case round =>
          clear hb H2
          obtain ⟨m, hm, rfl, rfl, rfl, hbd, hb⟩ := hrel
          have hb := Lib.hid hb
          by_cases hlt2 : m < j
          · obtain ⟨x, hx, rfl, e0, e1, e2, e3⟩ := (h.out.below hb.out (Nat.le_refl _)).at4 hlt2
            have hxc := Lib.hid (k3.out x (List.mem_of_getElem? hx))
            have i0 : (m : Int) < (j : Int) := by omega
            obtain ⟨xk, xs, xi, xv⟩ := x
            simp only at e0 e1 e2 e3
            have hpl : (prvB d l m).length ≤ 520 := prvB_le k3.out (by rw [hlen.out]; omega)
            have RC := Lib.hid (fun u => row_any ⟨xk, xs, xi, xv⟩ ⟨(prvB d l m).toArray⟩ u hxc.out (by rw [ofList_size]; exact hpl))
            rw [ofList_toList] at RC
            have hsn : Hid (bodB d l (m + 1) = bodB d l m ++ encX (prvB d l m) ⟨xk, xs, xi, xv⟩) := Lib.hid (by rw [bodB_snoc]; unfold encI; rw [rwAt_some hx])
            have hXl : (encX (prvB d l m) ⟨xk, xs, xi, xv⟩).length ≤ 2700 := encX_le _ hxc.out
            have hrl := rstB_le d l m
            have hGm := Lib.hid (hGr.out (m + 1) (by rw [hlen.out]; omega))
            obtain ⟨X, hX⟩ := named (encX (prvB d l m) ⟨xk, xs, xi, xv⟩)
            rw [← hX.out] at RC hsn hXl
            rw [hsn.out] at hGm
            have hFB := Lib.hid (FR.out (bodB d l m).length (by omega))
            have hrs : Hid (rstB d l (m + 1) = rstB d l m ++ (if m % d = 0 then le4 (bodB d l m).length else [])) := Lib.hid (rstB_snoc d l m)
            have hpv : Hid (m % d = 0 → prvB d l m = []) := Lib.hid (fun hh => by unfold prvB; rw [if_pos hh])
            have hpn : Hid (m % d ≠ 0 → prvB d l m = (rwAt l (m - 1)).key.toList) := Lib.hid (fun hh => by unfold prvB; rw [if_neg hh])
            obtain ⟨Y, hY⟩ := named (bodB d l m)
            obtain ⟨Z, hZ⟩ := named (rstB d l m)
            rw [← hY.out] at hFB hrs hsn hGm hbd ⊢
            rw [← hZ.out] at hrs hrl ⊢
            obtain ⟨F4, hF4⟩ := named (le4 Y.length)
            have f4 : F4.length = 4 := by rw [hF4.out]; rfl
            rw [← hF4.out] at hFB hrs
            have z1 : ¬ 9223372036854775807 < Z.length + F4.length := by omega
            have z2 : ¬ 9223372036854775807 < Y.length + X.length := by omega
            have c1 := cat_ba Z F4
            have c2 := cat_ba Y X
            have hzl : (Y ++ X).length = Y.length + X.length := List.length_append
            replace f4 := Lib.hid f4
            clear hx hX hY hZ hF4 hpl
            go_upto_if 56 with fail
            go_cut [12, 10] from 56 to 67 (fun s e wc => s = .string ⟨(prvB d l m).toArray⟩ ∧ e = .string ⟨(Z ++ (if m % d = 0 then F4 else [])).toArray⟩ ∧ Below wr.heap.size wr wc)
            case first =>
              by_cases hmd : m % d = 0
              · have g1 := mod_yes hmd
                have hmdH := Lib.hid hmd
                clear hmd
                go_wp2_with (go_at_call 36; ((with_reducible refine (hFB.out _).mono ?_); rintro e v1 ⟨rfl, hb2⟩))
                go_meet
                exact ⟨by rw [hpv.out hmdH.out], by rw [if_pos hmdH.out], hb2⟩
              · have g1 := mod_no hmd
                have hmdH := Lib.hid hmd
                obtain ⟨r, hr⟩ := mod_pos hmd
                have hrj : r < j := by rw [hr] at hlt2; exact Nat.lt_of_succ_lt hlt2
                have hr1 : r ≤ 100000 := Nat.le_trans (Nat.le_of_lt hrj) (Nat.le_trans k4 (by decide))
                obtain ⟨y, hy, ey, y0, _⟩ := (h.out.below hb.out (Nat.le_refl _)).at4 hrj
                have hyk : Hid (prvB d l m = y.key.toList) := Lib.hid (by rw [hpn.out hmdH.out, hr, Nat.add_sub_cancel, rwAt_some hy])
                obtain ⟨w1, w3⟩ := wr_one r hr1
                have i1 : (r : Int) < (j : Int) := Int.ofNat_lt.2 hrj
                have w5 : (m : Int) = (r : Int) + 1 := by rw [hr]; rfl
                have w6 : wrap64 ((m : Int) - 1) = (r : Int) := by rw [w5]; exact w1
                have w7 : (m : Int) - 1 = (r : Int) := by rw [w5]; exact Int.add_sub_cancel _ _
                clear hmd hy ey hr w5 hbd hXl hzl c1 c2 z1 z2 hlt2 hrl hm i0 hr1 hrj e0 e1 e2 e3 hcap hmost h1 h2 q1 q2 k4
                go_wp2_with fail
                go_meet
                exact ⟨by rw [hyk.out, ofL], by rw [if_neg hmdH.out, List.append_nil], Below.refl _ _⟩
            case rest =>
              obtain ⟨rfl, rfl, hcb⟩ := hcut
              have W1 := Lib.hid (below_of hb.out hcb)
              have d0' := cell_keep hcb e0
              have d1' := cell_keep hcb e1
              have d2' := cell_keep hcb e2
              have d3' := cell_keep hcb e3
              clear hcb
              by_cases hbig : 65536 < Y.length + X.length
              · have hR3 := Lib.hid (hGm.out (by rw [hzl]; exact hbig))
                have g5 : decide ((65536 : Int) < ((Y.length + X.length : Nat) : Int)) = true := by rw [decide_eq_true_eq]; omega
                have g6 : (65536 : Int) < (Y.length : Int) + (X.length : Int) := by omega
                go_wp2_with (go_at_call 37; ((with_reducible refine (RC.out _).mono ?_); rintro e v2 ⟨rfl, hb3⟩; have W2 := Lib.hid (below_of W1.out hb3); clear hb3))
                all_goals first
                  | (exfalso; omega)
                  | (go_returns; exact ⟨by rw [hR3.out]; rfl, W2.out⟩)
              · have g6 : ¬ (65536 : Int) < (Y.length : Int) + (X.length : Int) := by omega
                have g7 : ¬ (65536 : Int) < (((Y ++ X).length : Nat) : Int) := by rw [hzl]; omega
                have g8 : ¬ 65536 < Y.length + X.length := hbig
                have g9 : decide (65536 < Y.length + X.length) = false := decide_eq_false hbig
                go_wp2_with (go_at_call 37; ((with_reducible refine (RC.out _).mono ?_); rintro e v2 ⟨rfl, hb3⟩; have W2 := Lib.hid (below_of W1.out hb3); clear hb3))
                all_goals first
                  | (exfalso; omega)
                  | skip
                refine ⟨⟨m + 1, by omega, by go_num, by rw [hsn.out], by rw [hrs.out], by rw [hsn.out, hzl]; omega, W2.out⟩, ?_⟩
                simp [intOf]
                omega
          · have hmj : m = j := by omega
            subst hmj
            have i0 : ¬ (m : Int) < (m : Int) := by omega
            have hrl := rstB_le d l m
            have hTl : Hid (blkB d l = bodB d l m ++ tailB (rstB d l m) d) := Lib.hid (by unfold blkB; rw [hlen.out])
            obtain ⟨Y, hY⟩ := named (bodB d l m)
            obtain ⟨Z, hZ⟩ := named (rstB d l m)
            rw [← hY.out] at hbd hTl ⊢
            rw [← hZ.out] at hrl hTl ⊢
            obtain ⟨q, hq⟩ := named (Z.length / 4)
            have qe : ((Z.length : Nat) : Int) / 4 = (q : Int) := by rw [hq.out]; omega
            have F1 := Lib.hid (FR.out q (by rw [hq.out]; omega))
            have F2 := Lib.hid (FR.out d (by omega))
            have hTl2 : Hid (tailB Z d = Z ++ le4 q ++ le4 d) := Lib.hid (by rw [hq.out]; rfl)
            obtain ⟨G1, hG1⟩ := named (le4 q)
            obtain ⟨G2, hG2⟩ := named (le4 d)
            have g4 : G1.length = 4 ∧ G2.length = 4 := by rw [hG1.out, hG2.out]; exact ⟨rfl, rfl⟩
            obtain ⟨g4a, g4b⟩ := g4
            rw [← hG1.out] at F1 hTl2
            rw [← hG2.out] at F2 hTl2
            have z1 : ¬ 9223372036854775807 < Y.length + Z.length := by omega
            have z2 : ¬ 9223372036854775807 < Y.length + Z.length + G1.length := by omega
            have z3 : ¬ 9223372036854775807 < Y.length + Z.length + G1.length + G2.length := by omega
            have hB4 : Hid (blkB d l = Y ++ Z ++ G1 ++ G2) := Lib.hid (by rw [hTl.out, hTl2.out]; simp)
            rw [hB4.out] at hFi
            have c1 := cat_ba Y Z
            have c2 := cat_ba (Y ++ Z) G1
            have c3 := cat_ba (Y ++ Z ++ G1) G2
            have n1 : (Y ++ Z).length = Y.length + Z.length := List.length_append
            have n2 : (Y ++ Z ++ G1).length = Y.length + Z.length + G1.length := by rw [List.length_append, n1]
            have n3 : (Y ++ Z ++ G1 ++ G2).length = Y.length + Z.length + G1.length + G2.length := by rw [List.length_append, n2]
            rw [n3] at hFi
            have BIG : ∀ T : Bool, decide (65536 < Y.length + Z.length + G1.length + G2.length) = T → (T = true → R = ([], 3)) ∧ (T = false → R = (Y ++ Z ++ G1 ++ G2, 0)) := fun T hT => by
              cases T with
              | true => exact ⟨(fun _ => by rw [hFi.out, if_pos (of_decide_eq_true hT)]), (fun h => by cases h)⟩
              | false => exact ⟨(fun h => by cases h), (fun _ => by rw [hFi.out, if_neg (of_decide_eq_false hT)])⟩
            obtain ⟨T, hT⟩ : ∃ T, decide (65536 < Y.length + Z.length + G1.length + G2.length) = T := ⟨_, rfl⟩
            have BT := Lib.hid (BIG T hT)
            have TI2 : Hid ((65536 : Int) < (((Y ++ Z ++ G1 ++ G2).length : Nat) : Int) ↔ T = true) := Lib.hid (by rw [n3, ← hT, decide_eq_true_eq]; omega)
            have TI3 : Hid (65536 < Y.length + Z.length + G1.length + G2.length ↔ T = true) := Lib.hid (by rw [← hT, decide_eq_true_eq])
            have TI : Hid (((65536 : Int) < (Y.length : Int) + (Z.length : Int) + (G1.length : Int) + (G2.length : Int)) ↔ T = true) := Lib.hid (by rw [← hT, decide_eq_true_eq]; omega)
            have z1 := z1
            clear BIG hFi hY hZ hq hG1 hG2 hTl hTl2 hB4 n1 n2 n3 hrl hbd g4a g4b hm hlt2 hcap hmost h1 h2 k4 q1 q2 hT
            cases T with
            | true =>
              have gb := TI.out.2 rfl
              have gb2 := TI2.out.2 rfl
              have gb3 := TI3.out.2 rfl
              have hR := Lib.hid (BT.out.1 rfl)
              go_wp2_with (first
                | (go_at_call 36; ((with_reducible refine (F1.out _).mono ?_); rintro e v1 ⟨rfl, hb2⟩; have W2 := Lib.hid (below_of hb.out hb2); clear hb2))
                | (go_at_call 36; ((with_reducible refine (F2.out _).mono ?_); rintro e v2 ⟨rfl, hb3⟩; have W3 := Lib.hid (below_of W2.out hb3); clear hb3)))
              all_goals first
                | (exfalso; omega)
                | skip
              go_returns
              exact ⟨by rw [hR.out]; rfl, W3.out⟩
            | false =>
              have gb : ¬ (65536 : Int) < (Y.length : Int) + (Z.length : Int) + (G1.length : Int) + (G2.length : Int) := fun hh => by have := TI.out.1 hh; cases this
              have gb2 : ¬ (65536 : Int) < (((Y ++ Z ++ G1 ++ G2).length : Nat) : Int) := fun hh => by have := TI2.out.1 hh; cases this
              have gb3 : ¬ 65536 < Y.length + Z.length + G1.length + G2.length := fun hh => by have := TI3.out.1 hh; cases this
              have gb4 : decide (65536 < Y.length + Z.length + G1.length + G2.length) = false := decide_eq_false gb3
              have hR := Lib.hid (BT.out.2 rfl)
              go_wp2_with (first
                | (go_at_call 36; ((with_reducible refine (F1.out _).mono ?_); rintro e v1 ⟨rfl, hb2⟩; have W2 := Lib.hid (below_of hb.out hb2); clear hb2))
                | (go_at_call 36; ((with_reducible refine (F2.out _).mono ?_); rintro e v2 ⟨rfl, hb3⟩; have W3 := Lib.hid (below_of W2.out hb3); clear hb3)))
              all_goals first
                | (exfalso; omega)
                | skip
              have fin : (⟨(Y ++ Z ++ G1 ++ G2).toArray⟩ : ByteArray) = ⟨(Y ++ (Z ++ G1)).toArray⟩ ++ ⟨G2.toArray⟩ := by rw [cat_ba]; simp
              go_returns
              exact ⟨by rw [hR.out, fin]; rfl, W3.out⟩
theorem refbuild_any {a : Option Addr} {n c b o : Nat} {l : List Rw} {w : World} (d : Int) (h : Rs a n c b o l w) :
    Calls Try.prog 16 #[.slice a n c, .int .i64 d] w fun e w' => e = .returned (.tuple #[.string ⟨(buildB l d).1.toArray⟩, .int .i64 ((buildB l d).2 : Nat)]) ∧ Below w.heap.size w w' := by
  by_cases hE : d < 1 ∨ 64 < d ∨ ordR l = false
  · rw [buildB_two (chkA_arg hE)]
    exact refbuild_arg d h hE
  · obtain ⟨D, rfl⟩ : ∃ D : Nat, d = (D : Int) := ⟨d.toNat, by omega⟩
    exact refbuild_main D h (by omega) (by omega) (by cases ho : ordR l; exact absurd (.inr (.inr ho)) hE; rfl)
end Go.Proofs.Ytnmlifagchdphaa
/-
  The contract of the document's Rows. Condition: at most 65536 bytes.
-/
namespace Go.Proofs.Ytnmlifagchdphaa
set_option maxRecDepth 100000
open Go.RowKit
theorem rdX_rest {s p t : List UInt8} {x : Rw} (h : rdX s p = some (x, t)) : s.drop (s.length - t.length) = t := by
  have hs : t <:+ s := by
    unfold rdX at h
    simp only at h
    split at h
    · cases h
    split at h
    · cases h
    split at h
    · cases h
    split at h
    · cases h
    rename_i k s3 h4
    have h5 : s3 <:+ s := by
      have a1 : s3 <:+ k :: s3 := List.suffix_cons k s3
      rw [← h4] at a1
      exact ((a1.trans (List.drop_suffix _ _)).trans (List.drop_suffix _ _)).trans (List.drop_suffix _ _)
    split at h
    · split at h
      · cases h
      · simp only [Option.some.injEq, Prod.mk.injEq] at h
        obtain ⟨_, rfl⟩ := h
        exact (List.drop_suffix _ _).trans h5
    · simp only [Option.some.injEq, Prod.mk.injEq] at h
      obtain ⟨_, rfl⟩ := h
      exact h5
  exact (List.suffix_iff_eq_drop.1 hs).symm
set_option maxRecDepth 100000 in
set_option maxHeartbeats 8000000 in
theorem rows_ref (L : List UInt8) (hL : L.length ≤ 65536) (w : World) :
    Calls Try.prog 7 #[.string ⟨L.toArray⟩] w (RowsD L w) := by
  have PL : (⟨L.toArray⟩ : ByteArray).size = L.length := ofList_size L
  have g2 : decide ((65536 : Int) < (L.length : Int)) = false := by rw [decide_eq_false_iff_not]; omega
  have g2b : decide (65536 < L.length) = false := by rw [decide_eq_false_iff_not]; omega
  have W0 := Lib.hid (Below.refl w.heap.size w)
  by_cases h1 : L.length < 8
  · have hno : Hid (∀ l d, ¬ IsB L l d) := Lib.hid (fun l d hB => by have := (isB_cut hB).1; omega)
    have g1 : (L.length : Int) < 8 := by omega
    go_enter Try.func7, Try.ntmps7
    go_wp2_with fail
    go_returns
    exact .inr ⟨hno.out, rfl, W0.out⟩
  have g1 : decide ((L.length : Int) < 8) = false := by rw [decide_eq_false_iff_not]; omega
  have g1b : decide (L.length < 8) = false := by rw [decide_eq_false_iff_not]; omega
  obtain ⟨m8, h8⟩ := named (L.length - 8)
  have a8 : (L.length : Int) - 8 = (m8 : Int) := by rw [h8.out]; omega
  obtain ⟨m4, h4⟩ := named (L.length - 4)
  have a4 : (L.length : Int) - 4 = (m4 : Int) := by rw [h4.out]; omega
  have b8 : m8 ≤ 65536 := by omega
  have S8 := slL_from L m8 (by rw [h8.out]; omega) (m8 : Int) rfl
  have S4 := slL_from L m4 (by rw [h4.out]; omega) (m4 : Int) rfl
  have F8 := Lib.hid (fun u => fourL_any (L.drop m8) (by rw [List.length_drop, h8.out]; omega) u)
  have F4 := Lib.hid (fun u => fourL_any (L.drop m4) (by rw [List.length_drop, h4.out]; omega) u)
  have u8lt := u4_lt (L.drop m8)
  have hC := Lib.hid (fun l d (hB : IsB L l d) => isB_cut hB)
  rw [← h8.out, ← h4.out] at hC
  obtain ⟨q, hq⟩ := named (u4 (L.drop m8))
  obtain ⟨d, hd⟩ := named (u4 (L.drop m4))
  have hd4 : Hid (u4 (L.drop (L.length - 4)) = d) := Lib.hid (by rw [← h4.out]; exact hd.out.symm)
  rw [← hq.out] at hC F8 u8lt
  rw [← hd.out] at hC F4
  obtain ⟨T8, hT8⟩ := named (L.drop m8)
  obtain ⟨T4, hT4⟩ := named (L.drop m4)
  rw [← hT8.out] at S8 F8
  rw [← hT4.out] at S4 F4
  clear hq hd hT8 hT4
  by_cases h3 : m8 / 4 < q
  · have hno : Hid (∀ l d, ¬ IsB L l d) := Lib.hid (fun l d hB => by have := (hC.out l d hB).2.2.1; omega)
    have g3 : ((m8 / 4 : Nat) : Int) < (q : Int) := by omega
    have g3b : (m8 : Int) / 4 < (q : Int) := by omega
    clear hC F4 S4
    go_enter Try.func7, Try.ntmps7
    go_wp2_with (go_at_call 14; ((with_reducible refine (F8.out _).mono ?_); rintro e w1 ⟨rfl, hb1⟩; have W1 := Lib.hid hb1; clear hb1))
    go_returns
    exact .inr ⟨hno.out, rfl, W1.out⟩
  have g3 : ¬ (m8 : Int) / 4 < (q : Int) := by omega
  have g3b : decide (m8 / 4 < q) = false := by rw [decide_eq_false_iff_not]; exact h3
  obtain ⟨N0, hN0⟩ := named (m8 - 4 * q)
  have a0 : (m8 : Int) - 4 * (q : Int) = (N0 : Int) := by rw [hN0.out]; omega
  have SU := slL_upto L N0 (by rw [hN0.out, h8.out]; omega) (N0 : Int) rfl
  obtain ⟨rows, hrows⟩ := named (L.take N0)
  have hrl : rows.length ≤ 65536 := by rw [hrows.out, List.length_take]; omega
  have hD0 : Hid (DeR L rows [] rows) := Lib.hid (DeR.zero (fun l' d' hB => by rw [hrows.out, hN0.out]; exact (hC.out l' d' hB).2.2.2.2))
  rw [← hrows.out] at SU
  have RP : (⟨rows.toArray⟩ : ByteArray).size = rows.length := ofList_size rows
  clear h3 hC hrows hN0 h8 h4
  have row0 : Hid (w.ownsRow w.heap.size 33 4 (.slice none 0 0) 0 (rowR [])) := Lib.hid ⟨by simp [rowR], .inl ⟨rfl, rfl⟩⟩
  go_enter Try.func7, Try.ntmps7
  go_wp2_with (go_at_call 14; ((with_reducible refine (F8.out _).mono ?_); rintro e w1 ⟨rfl, hb1⟩; have W1 := Lib.hid hb1; have row1 := Lib.hid (own_belowB row0.out hb1); clear hb1))
  go_loopw [6, 7, 8] (fun v s i wr => ∃ (l : List Rw) (j A : Nat) (P : List UInt8) (a : Option Addr) (c : Nat), l.length = j ∧ v = .slice a j c ∧ s = .string ⟨P.toArray⟩ ∧ i = .int .i64 (A : Int) ∧ P = lastK l ∧ P.length ≤ 520 * j ∧ A ≤ rows.length ∧ DeR L rows l (rows.drop A) ∧ wr.ownsRow w.heap.size 33 4 (.slice a j c) j (rowR l) ∧ Below w.heap.size w wr) (fun _ _ i _ => rows.length - (intOf i).toNat)
  case atStart => exact ⟨[], 0, 0, [], none, 0, rfl, rfl, rfl, rfl, rfl, by simp, Nat.zero_le _, hD0.out, row1.out, W1.out⟩
  case round =>
    clear W1 row1 row0 W0 F8 S8 hD0 SU
    obtain ⟨l, j, A, P, a, c, hjN, rfl, rfl, rfl, hPl, hPn, hA, hP, hrow, hb⟩ := hrel
    replace hP := Lib.hid hP
    replace hrow := Lib.hid hrow
    replace hb := Lib.hid hb
    replace hjN := Lib.hid hjN
    replace hPl := Lib.hid hPl
    have hj4 : j ≤ 1024 := by have := hP.out.1; rw [hjN.out] at this; exact this
    by_cases hlt : A < rows.length
    · have i0 : (A : Int) < (rows.length : Int) := by omega
      have SR := slL_from rows A hA (A : Int) rfl
      obtain ⟨R, hR⟩ := named (rows.drop A)
      have hRl : R.length = rows.length - A := by rw [hR.out, List.length_drop]
      have hRn : R ≠ [] := fun e => by rw [e] at hRl; simp at hRl; omega
      rw [← hR.out] at SR hP
      have RD := Lib.hid (fun u => read_ref R P (by omega) (by omega) u)
      have hDf := Lib.hid (fun hc => DeR.fail hP.out hRn hc)
      have hDn := Lib.hid (fun x t hc hn => @DeR.next L rows R t l x hP.out hRn hc hn)
      rw [← hPl.out] at hDf hDn
      obtain ⟨X, hX⟩ := named (rdX R P)
      rw [← hX.out] at RD hDf hDn
      cases X with
      | none =>
        have hno : Hid (∀ l d, ¬ IsB L l d) := Lib.hid (hDf.out (.inl rfl))
        have Z0 := Lib.hid hb.out
        clear hDn hDf hP hX hRn hRl
        have RD : Hid (∀ u, Calls Try.prog 15 #[.string ⟨R.toArray⟩, .string ⟨P.toArray⟩] u fun e w' => e = .returned (.tuple #[.agg #[.string ⟨#[]⟩, .int .u64 0, .int .i64 0, .string ⟨#[]⟩], .int .i64 0]) ∧ Below u.heap.size u w') := Lib.hid (fun u => RD.out u)
        go_wp2_with (go_at_call 15; ((with_reducible refine (RD.out _).mono ?_); rintro e u1 ⟨rfl, hb1⟩; have B1 := Lib.hid (below_of hb.out hb1); clear hb1))
        go_returns
        exact .inr ⟨hno.out, rfl, B1.out.alloc B1.out.size _⟩
      | some xt =>
        obtain ⟨x, t⟩ := xt
        have hF := rdX_fit hX.out.symm
        obtain ⟨KK, hKK⟩ := named (R.length - t.length)
        have hK0 : ¬ KK = 0 := by rw [hKK.out]; omega
        have gk : ((KK : Int) == 0) = false := by rw [beq_eq_false_iff_ne]; omega
        have gkb : (KK == 0) = false := by rw [beq_eq_false_iff_ne]; exact hK0
        have htl : Hid (rows.drop (A + KK) = t) := Lib.hid (by rw [← List.drop_drop, ← hR.out, hKK.out]; exact rdX_rest hX.out.symm)
        have hAK : A + KK ≤ rows.length := by rw [hKK.out]; omega
        have hkl : x.key.toList.length ≤ 520 * (j + 1) := by have := hF.2; omega
        have RD : Hid (∀ u, Calls Try.prog 15 #[.string ⟨R.toArray⟩, .string ⟨P.toArray⟩] u fun e w' => e = .returned (.tuple #[rowV x, .int .i64 (KK : Int)]) ∧ Below u.heap.size u w') := Lib.hid (fun u => by rw [hKK.out]; exact RD.out u)
        obtain ⟨xk, xs, xi, xv⟩ := x
        simp only [rowV] at RD hkl
        by_cases hj1 : j = 1024
        · have hno : Hid (∀ l d, ¬ IsB L l d) := Lib.hid (hDf.out (.inr (by rw [hjN.out]; exact hj1)))
          have g4 : ((j : Int) == 1024) = true := by rw [beq_iff_eq]; omega
          have g4b : (j == 1024) = true := by rw [beq_iff_eq]; exact hj1
          clear hDn hDf hP hX hRn hRl hF hKK
          go_wp2_with (go_at_call 15; ((with_reducible refine (RD.out _).mono ?_); rintro e u1 ⟨rfl, hb1⟩; have B1 := Lib.hid (below_of hb.out hb1); clear hb1))
          go_returns
          exact .inr ⟨hno.out, rfl, B1.out.alloc B1.out.size _⟩
        · have g4 : ((j : Int) == 1024) = false := by rw [beq_eq_false_iff_ne]; omega
          have g4b : (j == 1024) = false := by rw [beq_eq_false_iff_ne]; exact hj1
          have hP2 := Lib.hid (hDn.out _ t rfl (by rw [hjN.out]; exact hj1))
          have e9 : Hid ((l ++ [(⟨xk, xs, xi, xv⟩ : Rw)]).length = j + 1) := Lib.hid (by rw [List.length_append, hjN.out]; exact rfl)
          obtain ⟨i0', hi, hz0, hz1, hz2⟩ := info_parts info_rowB
          clear hDn hDf hP hX hRn hRl hF hKK
          go_upto_region 14 with (go_at_call 15; ((with_reducible refine (RD.out _).mono ?_); rintro e u1 ⟨rfl, hb1⟩; have B1 := Lib.hid (below_of hb.out hb1); have O1 := Lib.hid (own_belowB hrow.out hb1); clear hb1))
          have R7 := Lib.hid (RowAt.new ⟨xk, xs, xi, xv⟩ u1)
          have O7 := Lib.hid (own_belowB O1.out (below_alloc u1 (.cells #[.string xk, .int .u64 (xs : Int), .int .i64 xi, .string xv] 33)))
          have B7 := Lib.hid (B1.out.alloc B1.out.size (.cells #[.string xk, .int .u64 (xs : Int), .int .i64 xi, .string xv] 33))
          simp only at R7
          obtain ⟨B9, hB9⟩ := named u1.heap.size
          rw [← hB9.out] at R7 ⊢
          generalize u1.alloc (.cells #[.string xk, .int .u64 (xs : Int), .int .i64 xi, .string xv] 33) = v7 at *
          obtain ⟨c0, c1, c2, c3⟩ := R7.out.c4
          have O8 := Lib.hid (own_belowB O7.out (below_alloc v7 (.cells #[.string xk, .int .u64 (xs : Int), .int .i64 xi, .string xv] 33)))
          have R8 := Lib.hid (R7.out.below (below_alloc v7 (.cells #[.string xk, .int .u64 (xs : Int), .int .i64 xi, .string xv] 33)))
          have B8 := Lib.hid (B7.out.alloc B7.out.size (.cells #[.string xk, .int .u64 (xs : Int), .int .i64 xi, .string xv] 33))
          go_upto_region 15 with (at_builtin; refine wpList_append_own _ rfl _ _ 23 rfl w.heap.size 33 i0' (.agg #[.string .empty, .int .u64 0, .int .i64 0, .string .empty]) 4 48 Try.underlying23 hi hz0 hz1 hz2 rfl (by decide) (.slice a j c) j (rowR l) (by rfl) O8.out ⟨v7.heap.size, 0, none⟩ 1 1 [.string xk, .int .u64 (xs : Int), .int .i64 xi, .string xv] (by rfl) rfl (World.news_of_block (heap_alloc_new _ _)) (row_oneB ⟨xk, xs, xi, xv⟩) (by unfold maxLen; omega) (by omega) B8.out.size ?_; intro v' w9 hown9 hgrow9 _; obtain ⟨a2, c2', hv2⟩ : ∃ a2 c2', v' = .slice a2 (j + 1) c2' := (by rcases hown9.2 with ⟨e1, e0⟩ | ⟨g', cap, cur, e1, _⟩; exact absurd e0 (by omega); exact ⟨_, _, e1⟩); subst hv2; have hown9 := Lib.hid hown9; have hgrow9 := Lib.hid hgrow9)
          have R9 : Hid (RowAt B9 ⟨xk, xs, xi, xv⟩ w9) := Lib.hid ((hgrow9.out.block _ (Array.getElem?_eq_some_iff.1 R8.out).1 (fun e => by have := (World.ownsRow.lt O1.out _ e.symm).2; rw [hB9.out] at this; omega)).trans R8.out)
          have B10 : Hid (Below w.heap.size w w9) := Lib.hid (B8.out.trans ⟨hgrow9.out.os, hgrow9.out.tape, hgrow9.out.output, hgrow9.out.size, fun k hk => hgrow9.out.block k (by have := B8.out.size; omega) (fun e => by have := (World.ownsRow.lt O1.out _ e.symm).1; omega)⟩)
          clear c0 c1 c2 c3 R7 R8 O7 O8 B7 B8 O1 B1 hrow hgrow9
          obtain ⟨c0, c1, c2, c3⟩ := R9.out.c4
          go_wp2_with fail
          go_roundw
          case rel => exact ⟨l ++ [⟨xk, xs, xi, xv⟩], j + 1, A + KK, xk.toList, a2, c2', e9.out, rfl, by rw [ofL], by go_num, (lastK_snoc l ⟨xk, xs, xi, xv⟩).symm, hkl, hAK, by rw [htl.out]; exact hP2.out, by rw [rowR_snoc]; exact hown9.out, B10.out⟩
          case measure => simp [intOf]; omega
    · have i0 : ¬ (A : Int) < (rows.length : Int) := by omega
      have hA2 : rows.drop A = [] := List.drop_eq_nil_of_le (by omega)
      rw [hA2] at hP
      obtain ⟨a', c', b', e1, RS, hbb⟩ := rs_of_row (l := l) (by rw [hjN.out]; exact hrow.out)
      rw [hjN.out] at e1 RS hbb
      simp only [Value.slice.injEq, true_and] at e1
      obtain ⟨rfl, rfl⟩ := e1
      have RS := Lib.hid RS
      have hbb := Lib.hid hbb
      have hgood := Lib.hid (@DeR.good L rows l d)
      have hbad := Lib.hid (DeR.bad hP.out hd4.out)
      have BR : Hid (∀ u, Rs a j c b' 0 l u → Calls Try.prog 16 #[.slice a j c, .int .i64 (d : Int)] u fun e w' => e = .returned (.tuple #[.string ⟨(buildB l d).1.toArray⟩, .int .i64 ((buildB l d).2 : Nat)]) ∧ Below u.heap.size u w') := Lib.hid (fun u hu => refbuild_any (d : Int) hu)
      obtain ⟨⟨S, E⟩, hS⟩ := named (buildB l (d : Int))
      rw [← hS.out] at hgood hbad BR
      simp only at hgood hbad BR
      clear hS hA2 hrow
      by_cases hE : E = 0
      · subst hE
        by_cases hSL : S = L
        · have hyes := Lib.hid (hgood.out rfl hSL)
          subst hSL
          have q1 : (S != S) = false := by simp
          clear hgood hbad
          go_wp2_with (first
            | (go_at_call 14; ((with_reducible refine (F4.out _).mono ?_); rintro e u1 ⟨rfl, hb1⟩; have B1 := Lib.hid (below_of hb.out hb1); have R1 := Lib.hid (RS.out.below hb1 (Nat.le_refl _)); clear hb1))
            | (go_at_call 16; ((with_reducible refine (BR.out _ R1.out).mono ?_); rintro e u2 ⟨rfl, hb2⟩; have B2 := Lib.hid (below_of B1.out hb2); have R2 := Lib.hid (R1.out.below hb2 (Nat.le_refl _)); clear hb2)))
          go_returns
          exact .inl ⟨l, d, a, c, b', hyes.out, by rw [hjN.out]; rfl, by rw [hjN.out]; exact R2.out, by rw [hjN.out]; exact hbb.out, B2.out⟩
        · have hno := Lib.hid (hbad.out (.inr hSL))
          have q1 : (S != L) = true := by rw [bne_iff_ne]; exact hSL
          have q2 : (S == L) = false := by rw [beq_eq_false_iff_ne]; exact hSL
          clear hgood hbad
          go_wp2_with (first
            | (go_at_call 14; ((with_reducible refine (F4.out _).mono ?_); rintro e u1 ⟨rfl, hb1⟩; have B1 := Lib.hid (below_of hb.out hb1); have R1 := Lib.hid (RS.out.below hb1 (Nat.le_refl _)); clear hb1))
            | (go_at_call 16; ((with_reducible refine (BR.out _ R1.out).mono ?_); rintro e u2 ⟨rfl, hb2⟩; have B2 := Lib.hid (below_of B1.out hb2); clear hb2)))
          go_returns
          exact .inr ⟨hno.out, rfl, B2.out⟩
      · have hno := Lib.hid (hbad.out (.inl hE))
        have q1 : ((E : Int) != 0) = true := by rw [bne_iff_ne]; omega
        clear hgood hbad
        go_wp2_with (first
          | (go_at_call 14; ((with_reducible refine (F4.out _).mono ?_); rintro e u1 ⟨rfl, hb1⟩; have B1 := Lib.hid (below_of hb.out hb1); have R1 := Lib.hid (RS.out.below hb1 (Nat.le_refl _)); clear hb1))
          | (go_at_call 16; ((with_reducible refine (BR.out _ R1.out).mono ?_); rintro e u2 ⟨rfl, hb2⟩; have B2 := Lib.hid (below_of B1.out hb2); clear hb2)))
        go_returns
        exact .inr ⟨hno.out, rfl, B2.out⟩
end Go.Proofs.Ytnmlifagchdphaa
/-
  BlockRows: Rows answers as the document's. Condition: at most 4096 bytes (the law's own).
-/
namespace Go.Proofs.Ytnmlifagchdphaa
set_option maxRecDepth 100000
open Go.RowKit
/-- What Rows answers of bytes. -/
def Ans (L : List UInt8) (l : List Rw) (E : Nat) : Prop := ((∃ d, IsB L l d) ∧ E = 0) ∨ ((∀ l d, ¬ IsB L l d) ∧ l = [] ∧ E = 7)
open Classical in
theorem ans_is (L : List UInt8) : ∃ l E, Ans L l E := by
  by_cases h : ∃ l d, IsB L l d
  · obtain ⟨l, d, h⟩ := h
    exact ⟨l, 0, .inl ⟨⟨d, h⟩, rfl⟩⟩
  · exact ⟨[], 7, .inr ⟨fun l d hB => h ⟨l, d, hB⟩, rfl, rfl⟩⟩
theorem RowsD.ans {L : List UInt8} {l : List Rw} {E : Nat} {w w' : World} {e : Ending} (h : RowsD L w e w') (hA : Ans L l E) : ∃ a n c b, e = .returned (.tuple #[.slice a n c, .int .i64 (E : Int)]) ∧ Rs a n c b 0 l w' ∧ Below w.heap.size w w' := by
  rcases hA with ⟨⟨d, hB⟩, rfl⟩ | ⟨hno, rfl, rfl⟩
  · obtain ⟨a, c, b, h1, h2, h3⟩ := h.yes hB
    exact ⟨a, _, c, b, h1, h2, h3⟩
  · rcases h with ⟨l', d', a, c, b, h1, _⟩ | ⟨_, h2, h3⟩
    · exact absurd h1 (hno l' d')
    · exact ⟨none, 0, 0, 0, h2, ⟨rfl, Nat.le_refl _, by omega, fun h => absurd h (by simp), RwsAt.nil _ _ _⟩, h3⟩
set_option maxRecDepth 100000 in
set_option maxHeartbeats 8000000 in
theorem rows_walk (s : ByteArray) (hs : s.size ≤ reachBytes) (w : World) : Calls Try.prog 3 #[.string s] w fun e w' => e = .returned (.bool true) ∧ Below w.heap.size w w' := by
  obtain ⟨L, rfl⟩ : ∃ L : List UInt8, s = ⟨L.toArray⟩ := ⟨s.toList, (ofL s).symm⟩
  rw [ofList_size] at hs
  unfold reachBytes at hs
  have AW := Lib.hid (fun u => awake_any u)
  by_cases hbig : 4096 < L.length
  · have g1 : (4096 : Int) < (L.length : Int) := by omega
    go_enter Try.func3, Try.ntmps3
    go_wp2_with (go_at_call 5; ((with_reducible refine (AW.out _).mono ?_); rintro e w1 ⟨rfl, hb1⟩))
    go_returns
    exact ⟨rfl, hb1⟩
  have g1 : ¬ (4096 : Int) < (L.length : Int) := by omega
  have RW := Lib.hid (fun u => rows_any L (by omega) u)
  have RR := Lib.hid (fun u => rows_ref L (by omega) u)
  obtain ⟨l, E, hA⟩ := ans_is L
  have hA := Lib.hid hA
  have s2 : (E == E) = true := beq_self_eq_true E
  go_enter Try.func3, Try.ntmps3
  go_wp2_with (first
    | (go_at_call 6; ((with_reducible refine (RW.out _).mono ?_); rintro e w1 hh; obtain ⟨a1, n1, c1, b1, rfl, hR1, hb1⟩ := hh.ans hA.out; have R1 := Lib.hid hR1; have W1 := Lib.hid hb1; clear hb1 hR1))
    | (go_at_call 7; ((with_reducible refine (RR.out _).mono ?_); rintro e w2 hh; obtain ⟨a2, n2, c2, b2, rfl, hR2, hb2⟩ := hh.ans hA.out; have R2 := Lib.hid hR2; have Q1 := Lib.hid (R1.out.below hb2 (Nat.le_refl _)); have W2 := Lib.hid (below_of W1.out hb2); clear hb2 hR2))
    | (go_at_call 8; ((with_reducible refine (same_rowsB Q1.out R2.out).mono ?_); rintro e w3 ⟨rfl, hb3⟩; have W3 := Lib.hid (below_of W2.out hb3); clear hb3))
    | (go_at_call 5; ((with_reducible refine (AW.out _).mono ?_); rintro e w4 ⟨rfl, hb4⟩; have W4 := Lib.hid (below_of W3.out hb4); clear hb4)))
  go_returns
  exact ⟨rfl, W4.out⟩
--LAW freshetlaw11.BlockRows rows_walk string:s
--BEGIN
namespace BlockRowsProof
open Go.ChangeShapes Go.WideShapes Go.ChangeAt Go.RowKit
open Go.ChangeMaps (open_string shut_string)
theorem own : ownKnob Try.prog.godebug = none := by kernel_rfl
set_option maxRecDepth 100000 in
theorem lifted (os : Os) (started : os.Started) (H : Type) (enc : TypeId × Value → H) :
    ReturnsInHanded {} Try.checked os 3 .any (Rows.blockRowsSpec.pre6 enc Try.prog Try.f3 Rows.blockRowsRow.domain false) (Rows.blockRowsSpec.post enc Try.prog Try.f3 false true false false) := by
  refine returnsInHanded_of_change_sized (C := Try.checked) own started (by kernel_rfl) Try.func3
    (ChangeSpec.witness6 (enc := enc) (C := Try.checked) false ⟨#[], #[.string .empty], []⟩ 8 (by kernel_rfl) (by kernel_rfl) (by kernel_rfl) (by kernel_rfl)) ?_
  intro W base args ds gs before hval0 hW _ hsz _
  have hval : ∀ (j : Nat) t v, Try.f3.params[j]? = some t → args[j]? = some v → Value.okWide Try.prog W .any base t v := hval0
  have hW' := hW
  obtain ⟨p, q, hA0, hV, rfl, hfz, hnd⟩ := hW
  have hA : DataW.TrodAll enc Try.prog W 0 (fun _ => true) true Try.f3.params.toList args.toList ds p := hA0
  rw [Try.params3] at hA hval hsz
  obtain ⟨v0, vs0, d0, ds0, p0, q0, hargs, rfl, rfl, h0, r0⟩ := trodAll_cons hA
  obtain ⟨rfl, rfl, rfl⟩ := trodAll_nil r0
  obtain rfl : args = #[v0] := by cases args; simp_all
  obtain ⟨rfl, rfl⟩ := trodVars_none hV
  obtain ⟨s, rfl, rfl, rfl, m0⟩ := open_string Try.underlying9 (hval 0 9 v0 rfl rfl) h0
  have z0 : s.size ≤ reachBytes := by have := sized_string hsz (j := 0) (t := 9) (bytes := s.data.toList) rfl rfl; simpa using this
  clear hA0 hval0
  simp only [List.append_nil] at hW'
  refine (rows_walk s z0 W).mono fun e W' ⟨he, hg⟩ => ?_
  subst he
  exact ⟨_, rfl, _, _, _, [], [], [], hW', (trodAll_cons_mk (shut_bool Try.underlying4 _) trodAll_mk0), (trodAll_cons_mk (shut_string Try.underlying9 m0) trodAll_mk0), rfl, hg.frame _, fun h => by cases h⟩
theorem holds : Rows.BlockRowsSaid :=
  OpenClaim.holds_of_wide 3 Try.f3 rfl rfl rfl rfl rfl rfl rfl ⟨rfl, rfl, rfl, rfl, rfl⟩ rfl rfl rfl rfl rfl (by kernel_rfl) Try.func3 (by kernel_rfl)
    (of_decide_eq_true (by kernel_rfl)) (by unfold Func.isWrapper; first | (rw [if_pos (by decide +kernel)]; kernel_rfl) | (rw [if_neg (by decide +kernel)]; exact ⟨rfl, rfl⟩))
    (fun os started H enc _ => lifted os started H enc)
end BlockRowsProof
--END
end Go.Proofs.Ytnmlifagchdphaa
