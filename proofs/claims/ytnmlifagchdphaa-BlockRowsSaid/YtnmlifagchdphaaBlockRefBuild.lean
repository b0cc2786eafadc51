/-
  The document's Build. No condition.
-/
import Derived.Test.YtnmlifagchdphaaBlockRefCheck
import Derived.Test.YtnmlifagchdphaaBlockRefOrder
import Derived.Test.YtnmlifagchdphaaBlockRefRow
import Derived.Test.YtnmlifagchdphaaBlockMath2
namespace Go.Proofs.Ytnmlifagchdphaa
set_option maxRecDepth 100000
open Go.RowKit
theorem buildB_two {l : List Rw} {d : Int} (h : chkA l d = 2) : buildB l d = ([], 2) := by unfold buildB; rw [h]; rfl
theorem buildB_three {l : List Rw} {d : Int} (h : chkA l d = 3) : buildB l d = ([], 3) := by unfold buildB; rw [h]; rfl
theorem buildB_great {l : List Rw} {D : Nat} (h : chkA l (D : Int) = 0) {j : Nat} (hj : j ≤ l.length) (hb : 65536 < (bodB D l j).length) : buildB l (D : Int) = ([], 3) := by
  have := bodB_mono D l j (l.length - j)
  rw [show j + (l.length - j) = l.length by omega] at this
  unfold buildB
  rw [if_neg (by simpa using h), if_pos]
  show 65536 < (blkB D l).length
  unfold blkB
  rw [List.length_append, tailB_len]
  omega
theorem mod_yes {m d : Nat} (h : m % d = 0) : (((m : Int) % (d : Int)) == 0) = true := by rw [← Int.natCast_emod, h]; rfl
theorem mod_no {m d : Nat} (h : ¬ m % d = 0) : (((m : Int) % (d : Int)) == 0) = false := by rw [← Int.natCast_emod, beq_eq_false_iff_ne]; omega
theorem mod_pos {m d : Nat} (h : ¬ m % d = 0) : ∃ r, m = r + 1 := ⟨m - 1, by rcases Nat.eq_zero_or_pos m with e | e; exact absurd (by rw [e]; exact Nat.zero_mod d) h; omega⟩
theorem wr_one (r : Nat) (h : r ≤ 100000) : wrap64 ((r : Int) + 1 - 1) = (r : Int) ∧ wrap64 (r : Int) = (r : Int) := by unfold wrap64; omega
set_option maxRecDepth 100000 in
set_option maxHeartbeats 2000000 in
theorem refbuild_arg {a : Option Addr} {n c b o : Nat} {l : List Rw} {w : World} (d : Int) (h : Rs a n c b o l w) (hE : d < 1 ∨ 64 < d ∨ ordR l = false) :
    Calls Try.prog 16 #[.slice a n c, .int .i64 d] w fun e w' => e = .returned (.tuple #[.string ⟨#[]⟩, .int .i64 2]) ∧ Below w.heap.size w w' := by
  have OC := Lib.hid (reforder_any h)
  obtain ⟨T, hT⟩ := named (ordR l)
  rw [← hT.out] at OC hE
  by_cases h1 : d < 1
  · have g1 : decide (d < 1) = true := by simpa using h1
    go_enter Try.func16, Try.ntmps16
    go_wp2_with fail
    go_returns
    exact ⟨rfl, Below.refl _ _⟩
  · have g1 : decide (d < 1) = false := by simpa using h1
    by_cases h2 : 64 < d
    · have g2 : decide (64 < d) = true := by simpa using h2
      clear hE
      go_enter Try.func16, Try.ntmps16
      go_wp2_with fail
      go_returns
      exact ⟨rfl, Below.refl _ _⟩
    · have g2 : decide (64 < d) = false := by simpa using h2
      obtain rfl : T = false := by rcases hE with e | e | e; exact absurd e h1; exact absurd e h2; exact e
      clear hE
      go_enter Try.func16, Try.ntmps16
      go_wp2_with (go_at_call 34; ((with_reducible refine OC.out.mono ?_); rintro e w2 ⟨rfl, hb2⟩; have B2 := Lib.hid hb2; clear hb2))
      go_returns
      exact ⟨rfl, B2.out⟩
set_option maxRecDepth 100000 in
set_option maxHeartbeats 8000000 in
theorem refbuild_main {a : Option Addr} {n c b o : Nat} {l : List Rw} {w : World} (d : Nat) (h : Rs a n c b o l w) (h1 : 1 ≤ d) (h2 : d ≤ 64) (ho : ordR l = true) :
    Calls Try.prog 16 #[.slice a n c, .int .i64 (d : Int)] w fun e w' => e = .returned (.tuple #[.string ⟨(buildB l (d : Int)).1.toArray⟩, .int .i64 ((buildB l (d : Int)).2 : Nat)]) ∧ Below w.heap.size w w' := by
  have OC := Lib.hid (reforder_any h)
  rw [ho] at OC
  have hcap := h.cap
  have hmost := h.most
  have hlen := Lib.hid h.len
  have hTwo : Hid (l.any badR = true → buildB l (d : Int) = ([], 2)) := Lib.hid (fun hb => buildB_two (chkA_bad hb))
  have hEnd : Hid (l.any badR = false → chkA l (d : Int) = sofR (decide (1024 < n)) l) := Lib.hid (fun hb => by rw [chkA_end (by rw [ho]; simp; omega) hb, h.len])
  have hThree : Hid (chkA l (d : Int) = 3 → buildB l (d : Int) = ([], 3)) := Lib.hid buildB_three
  have hGreat : Hid (chkA l (d : Int) = 0 → ∀ j, j ≤ l.length → 65536 < (bodB d l j).length → buildB l (d : Int) = ([], 3)) := Lib.hid (fun hc j hj hb => buildB_great hc hj hb)
  have hFin : Hid (chkA l (d : Int) = 0 → buildB l (d : Int) = if 65536 < (blkB d l).length then ([], 3) else (blkB d l, 0)) := Lib.hid (fun hc => by unfold buildB; rw [if_neg (by simpa using hc)]; rfl)
  obtain ⟨R, hR⟩ := named (buildB l (d : Int))
  rw [← hR.out] at hTwo hThree hGreat hFin ⊢
  have h := Lib.hid h
  clear hR ho
  have FR := Lib.hid (fun k hk u => four_any k hk u)
  have q1 : decide ((d : Int) < 1) = false := by rw [decide_eq_false_iff_not]; omega
  have q2 : decide (64 < (d : Int)) = false := by rw [decide_eq_false_iff_not]; omega
  have d0 : (d : Int) ≠ 0 := by omega
  have B64 : Hid (decide ((1024 : Int) < (n : Int)) = decide (1024 < n)) := Lib.hid (by congr 1; apply propext; omega)
  obtain ⟨LG, hLG⟩ := named (decide (1024 < n))
  have q3 : decide ((1024 : Int) < (n : Int)) = LG := by rw [B64.out, hLG.out]
  have q3b : decide (1024 < n) = LG := hLG.out.symm
  rw [q3b] at hEnd
  go_enter Try.func16, Try.ntmps16
  go_wp2_with (go_at_call 34; ((with_reducible refine OC.out.mono ?_); rintro e w0 ⟨rfl, hb0⟩; have K := Lib.hid hb0; clear hb0))
  go_loopw [7, 6] (fun i e wr => ∃ j : Nat, j ≤ n ∧ i = .int .i64 (j : Int) ∧ e = .bool (decide (sofR LG (l.take j) = 3)) ∧ (l.take j).any badR = false ∧ Below w.heap.size w wr) (fun i _ _ => n - (intOf i).toNat)
  case atStart => exact ⟨0, Nat.zero_le _, rfl, (by cases LG <;> rfl), by simp, K.out⟩
  case round =>
    obtain ⟨j, hj, rfl, rfl, hany, hb⟩ := hrel
    have hb := Lib.hid hb
    have hany := Lib.hid hany
    obtain ⟨S, hS⟩ := named (decide (sofR LG (l.take j) = 3))
    rw [← hS.out]
    by_cases hlt : j < n
    · obtain ⟨x, hx, rfl, e0, e1, e2, e3⟩ := (h.out.keep (w' := wr) (fun h0 => hb.out.block b (h.out.addr h0).2) hb.out.size).at4 hlt
      have hx := Lib.hid hx
      have i0 : (j : Int) < (n : Int) := by omega
      obtain ⟨xk, xs, xi, xv⟩ := x
      obtain ⟨r, hr⟩ := named (chkR ⟨xk, xs, xi, xv⟩)
      have C : Hid (∀ u, Calls Try.prog 35 #[.agg #[.string xk, .int .u64 (xs : Int), .int .i64 xi, .string xv]] u fun e w' => e = .returned (.int .i64 (r : Nat)) ∧ Below u.heap.size u w') := Lib.hid fun u => by rw [hr.out]; exact refchk_any ⟨xk, xs, xi, xv⟩ u
      simp only at e0 e1 e2 e3
      have take1 : Hid (l.take (j + 1) = l.take j ++ [⟨xk, xs, xi, xv⟩]) := Lib.hid (by rw [List.take_add_one, hx.out]; rfl)
      by_cases hxb : badR ⟨xk, xs, xi, xv⟩ = true
      · have r2 : r = 2 := by rw [hr.out]; exact chkR_two.2 hxb
        have hR2 := Lib.hid (hTwo.out (List.any_eq_true.2 ⟨_, List.mem_of_getElem? hx.out, hxb⟩))
        subst r2
        clear hxb hr
        go_wp2_with (go_at_call 35; ((with_reducible refine (C.out _).mono ?_); rintro e w1 ⟨rfl, hb1⟩; have W1 := Lib.hid (below_of hb.out hb1); clear hb1))
        go_returns
        exact ⟨by rw [hR2.out]; rfl, W1.out⟩
      · have hxf : badR ⟨xk, xs, xi, xv⟩ = false := by simpa using hxb
        have any1 : Hid ((l.take (j + 1)).any badR = false) := Lib.hid (by rw [take1.out, List.any_append, hany.out]; simp [hxf])
        have so1 : Hid (decide (sofR LG (l.take (j + 1)) = 3) = if r = 3 then true else S) := Lib.hid (by rw [take1.out, sofR_snoc hxf, ← hr.out, hS.out]; split <;> simp)
        have r30 : r = 3 ∨ r = 0 := by rw [hr.out]; exact chkR_zero hxf
        clear hxb hr hxf hS hany take1
        rcases r30 with rfl | rfl
        all_goals (
          cases S
          all_goals (
            go_wp2_with (go_at_call 35; ((with_reducible refine (C.out _).mono ?_); rintro e w1 ⟨rfl, hb1⟩; have W1 := Lib.hid (below_of hb.out hb1); clear hb1))
            go_roundw
            case rel => exact ⟨j + 1, by omega, by go_num, by rw [so1.out]; rfl, any1.out, W1.out⟩
            case measure => simp [intOf]; omega))
    · have hjn : j = n := by omega
      subst hjn
      have i0 : ¬ (j : Int) < (j : Int) := by omega
      have ht : l.take j = l := by rw [← hlen.out, List.take_length]
      have hany2 : l.any badR = false := by rw [← ht]; exact hany.out
      rw [ht] at hS
      have hC := Lib.hid (hEnd.out hany2)
      cases S with
      | true =>
        have hR3 := Lib.hid (hThree.out (by rw [hC.out]; exact of_decide_eq_true hS.out.symm))
        clear hS ht hany hany2
        go_wp2_with fail
        go_returns
        exact ⟨by rw [hR3.out]; rfl, hb.out⟩
      | false =>
        have hc0 : Hid (chkA l (d : Int) = 0) := Lib.hid (by
          have h3 : ¬ sofR LG l = 3 := of_decide_eq_false hS.out.symm
          rw [hC.out]
          unfold sofR at h3 ⊢
          split
          · rename_i hh; rw [if_pos hh] at h3; exact absurd rfl h3
          · rfl)
        obtain ⟨_, _, _, k3, k4⟩ := chkA_ok hc0.out
        have k3 := Lib.hid k3
        rw [hlen.out] at k4
        have hGr := Lib.hid (hGreat.out hc0.out)
        have hFi := Lib.hid (hFin.out hc0.out)
        have H2 := Lib.hid (h.out.below hb.out (Nat.le_refl _))
        clear hS ht hany hany2 hC hGreat hFin hThree hTwo hEnd q3 q3b hLG B64 i0
        go_wp2_with fail
        go_loopw [11, 9, 10] (fun i s e wr => ∃ m : Nat, m ≤ j ∧ i = .int .i64 (m : Int) ∧ s = .string ⟨(bodB d l m).toArray⟩ ∧ e = .string ⟨(rstB d l m).toArray⟩ ∧ (bodB d l m).length ≤ 65536 ∧ Below w.heap.size w wr) (fun i _ _ _ => j - (intOf i).toNat)
        case atStart => exact ⟨0, Nat.zero_le _, rfl, rfl, rfl, by simp [bodB], hb.out⟩
        case round =>
          clear hb H2
          obtain ⟨m, hm, rfl, rfl, rfl, hbd, hb⟩ := hrel
          have hb := Lib.hid hb
          by_cases hlt2 : m < j
          · obtain ⟨x, hx, rfl, e0, e1, e2, e3⟩ := (h.out.below hb.out (Nat.le_refl _)).at4 hlt2
            have hxc := Lib.hid (k3.out x (List.mem_of_getElem? hx))
            have i0 : (m : Int) < (j : Int) := by omega
            obtain ⟨xk, xs, xi, xv⟩ := x
            simp only at e0 e1 e2 e3
            have hpl : (prvB d l m).length ≤ 520 := prvB_le k3.out (by rw [hlen.out]; omega)
            have RC := Lib.hid (fun u => row_any ⟨xk, xs, xi, xv⟩ ⟨(prvB d l m).toArray⟩ u hxc.out (by rw [ofList_size]; exact hpl))
            rw [ofList_toList] at RC
            have hsn : Hid (bodB d l (m + 1) = bodB d l m ++ encX (prvB d l m) ⟨xk, xs, xi, xv⟩) := Lib.hid (by rw [bodB_snoc]; unfold encI; rw [rwAt_some hx])
            have hXl : (encX (prvB d l m) ⟨xk, xs, xi, xv⟩).length ≤ 2700 := encX_le _ hxc.out
            have hrl := rstB_le d l m
            have hGm := Lib.hid (hGr.out (m + 1) (by rw [hlen.out]; omega))
            obtain ⟨X, hX⟩ := named (encX (prvB d l m) ⟨xk, xs, xi, xv⟩)
            rw [← hX.out] at RC hsn hXl
            rw [hsn.out] at hGm
            have hFB := Lib.hid (FR.out (bodB d l m).length (by omega))
            have hrs : Hid (rstB d l (m + 1) = rstB d l m ++ (if m % d = 0 then le4 (bodB d l m).length else [])) := Lib.hid (rstB_snoc d l m)
            have hpv : Hid (m % d = 0 → prvB d l m = []) := Lib.hid (fun hh => by unfold prvB; rw [if_pos hh])
            have hpn : Hid (m % d ≠ 0 → prvB d l m = (rwAt l (m - 1)).key.toList) := Lib.hid (fun hh => by unfold prvB; rw [if_neg hh])
            obtain ⟨Y, hY⟩ := named (bodB d l m)
            obtain ⟨Z, hZ⟩ := named (rstB d l m)
            rw [← hY.out] at hFB hrs hsn hGm hbd ⊢
            rw [← hZ.out] at hrs hrl ⊢
            obtain ⟨F4, hF4⟩ := named (le4 Y.length)
            have f4 : F4.length = 4 := by rw [hF4.out]; rfl
            rw [← hF4.out] at hFB hrs
            have z1 : ¬ 9223372036854775807 < Z.length + F4.length := by omega
            have z2 : ¬ 9223372036854775807 < Y.length + X.length := by omega
            have c1 := cat_ba Z F4
            have c2 := cat_ba Y X
            have hzl : (Y ++ X).length = Y.length + X.length := List.length_append
            replace f4 := Lib.hid f4
            clear hx hX hY hZ hF4 hpl
            go_upto_if 56 with fail
            go_cut [12, 10] from 56 to 67 (fun s e wc => s = .string ⟨(prvB d l m).toArray⟩ ∧ e = .string ⟨(Z ++ (if m % d = 0 then F4 else [])).toArray⟩ ∧ Below wr.heap.size wr wc)
            case first =>
              by_cases hmd : m % d = 0
              · have g1 := mod_yes hmd
                have hmdH := Lib.hid hmd
                clear hmd
                go_wp2_with (go_at_call 36; ((with_reducible refine (hFB.out _).mono ?_); rintro e v1 ⟨rfl, hb2⟩))
                go_meet
                exact ⟨by rw [hpv.out hmdH.out], by rw [if_pos hmdH.out], hb2⟩
              · have g1 := mod_no hmd
                have hmdH := Lib.hid hmd
                obtain ⟨r, hr⟩ := mod_pos hmd
                have hrj : r < j := by rw [hr] at hlt2; exact Nat.lt_of_succ_lt hlt2
                have hr1 : r ≤ 100000 := Nat.le_trans (Nat.le_of_lt hrj) (Nat.le_trans k4 (by decide))
                obtain ⟨y, hy, ey, y0, _⟩ := (h.out.below hb.out (Nat.le_refl _)).at4 hrj
                have hyk : Hid (prvB d l m = y.key.toList) := Lib.hid (by rw [hpn.out hmdH.out, hr, Nat.add_sub_cancel, rwAt_some hy])
                obtain ⟨w1, w3⟩ := wr_one r hr1
                have i1 : (r : Int) < (j : Int) := Int.ofNat_lt.2 hrj
                have w5 : (m : Int) = (r : Int) + 1 := by rw [hr]; rfl
                have w6 : wrap64 ((m : Int) - 1) = (r : Int) := by rw [w5]; exact w1
                have w7 : (m : Int) - 1 = (r : Int) := by rw [w5]; exact Int.add_sub_cancel _ _
                clear hmd hy ey hr w5 hbd hXl hzl c1 c2 z1 z2 hlt2 hrl hm i0 hr1 hrj e0 e1 e2 e3 hcap hmost h1 h2 q1 q2 k4
                go_wp2_with fail
                go_meet
                exact ⟨by rw [hyk.out, ofL], by rw [if_neg hmdH.out, List.append_nil], Below.refl _ _⟩
            case rest =>
              obtain ⟨rfl, rfl, hcb⟩ := hcut
              have W1 := Lib.hid (below_of hb.out hcb)
              have d0' := cell_keep hcb e0
              have d1' := cell_keep hcb e1
              have d2' := cell_keep hcb e2
              have d3' := cell_keep hcb e3
              clear hcb
              by_cases hbig : 65536 < Y.length + X.length
              · have hR3 := Lib.hid (hGm.out (by rw [hzl]; exact hbig))
                have g5 : decide ((65536 : Int) < ((Y.length + X.length : Nat) : Int)) = true := by rw [decide_eq_true_eq]; omega
                have g6 : (65536 : Int) < (Y.length : Int) + (X.length : Int) := by omega
                go_wp2_with (go_at_call 37; ((with_reducible refine (RC.out _).mono ?_); rintro e v2 ⟨rfl, hb3⟩; have W2 := Lib.hid (below_of W1.out hb3); clear hb3))
                all_goals first
                  | (exfalso; omega)
                  | (go_returns; exact ⟨by rw [hR3.out]; rfl, W2.out⟩)
              · have g6 : ¬ (65536 : Int) < (Y.length : Int) + (X.length : Int) := by omega
                have g7 : ¬ (65536 : Int) < (((Y ++ X).length : Nat) : Int) := by rw [hzl]; omega
                have g8 : ¬ 65536 < Y.length + X.length := hbig
                have g9 : decide (65536 < Y.length + X.length) = false := decide_eq_false hbig
                go_wp2_with (go_at_call 37; ((with_reducible refine (RC.out _).mono ?_); rintro e v2 ⟨rfl, hb3⟩; have W2 := Lib.hid (below_of W1.out hb3); clear hb3))
                all_goals first
                  | (exfalso; omega)
                  | skip
                refine ⟨⟨m + 1, by omega, by go_num, by rw [hsn.out], by rw [hrs.out], by rw [hsn.out, hzl]; omega, W2.out⟩, ?_⟩
                simp [intOf]
                omega
          · have hmj : m = j := by omega
            subst hmj
            have i0 : ¬ (m : Int) < (m : Int) := by omega
            have hrl := rstB_le d l m
            have hTl : Hid (blkB d l = bodB d l m ++ tailB (rstB d l m) d) := Lib.hid (by unfold blkB; rw [hlen.out])
            obtain ⟨Y, hY⟩ := named (bodB d l m)
            obtain ⟨Z, hZ⟩ := named (rstB d l m)
            rw [← hY.out] at hbd hTl ⊢
            rw [← hZ.out] at hrl hTl ⊢
            obtain ⟨q, hq⟩ := named (Z.length / 4)
            have qe : ((Z.length : Nat) : Int) / 4 = (q : Int) := by rw [hq.out]; omega
            have F1 := Lib.hid (FR.out q (by rw [hq.out]; omega))
            have F2 := Lib.hid (FR.out d (by omega))
            have hTl2 : Hid (tailB Z d = Z ++ le4 q ++ le4 d) := Lib.hid (by rw [hq.out]; rfl)
            obtain ⟨G1, hG1⟩ := named (le4 q)
            obtain ⟨G2, hG2⟩ := named (le4 d)
            have g4 : G1.length = 4 ∧ G2.length = 4 := by rw [hG1.out, hG2.out]; exact ⟨rfl, rfl⟩
            obtain ⟨g4a, g4b⟩ := g4
            rw [← hG1.out] at F1 hTl2
            rw [← hG2.out] at F2 hTl2
            have z1 : ¬ 9223372036854775807 < Y.length + Z.length := by omega
            have z2 : ¬ 9223372036854775807 < Y.length + Z.length + G1.length := by omega
            have z3 : ¬ 9223372036854775807 < Y.length + Z.length + G1.length + G2.length := by omega
            have hB4 : Hid (blkB d l = Y ++ Z ++ G1 ++ G2) := Lib.hid (by rw [hTl.out, hTl2.out]; simp)
            rw [hB4.out] at hFi
            have c1 := cat_ba Y Z
            have c2 := cat_ba (Y ++ Z) G1
            have c3 := cat_ba (Y ++ Z ++ G1) G2
            have n1 : (Y ++ Z).length = Y.length + Z.length := List.length_append
            have n2 : (Y ++ Z ++ G1).length = Y.length + Z.length + G1.length := by rw [List.length_append, n1]
            have n3 : (Y ++ Z ++ G1 ++ G2).length = Y.length + Z.length + G1.length + G2.length := by rw [List.length_append, n2]
            rw [n3] at hFi
            have BIG : ∀ T : Bool, decide (65536 < Y.length + Z.length + G1.length + G2.length) = T → (T = true → R = ([], 3)) ∧ (T = false → R = (Y ++ Z ++ G1 ++ G2, 0)) := fun T hT => by
              cases T with
              | true => exact ⟨(fun _ => by rw [hFi.out, if_pos (of_decide_eq_true hT)]), (fun h => by cases h)⟩
              | false => exact ⟨(fun h => by cases h), (fun _ => by rw [hFi.out, if_neg (of_decide_eq_false hT)])⟩
            obtain ⟨T, hT⟩ : ∃ T, decide (65536 < Y.length + Z.length + G1.length + G2.length) = T := ⟨_, rfl⟩
            have BT := Lib.hid (BIG T hT)
            have TI2 : Hid ((65536 : Int) < (((Y ++ Z ++ G1 ++ G2).length : Nat) : Int) ↔ T = true) := Lib.hid (by rw [n3, ← hT, decide_eq_true_eq]; omega)
            have TI3 : Hid (65536 < Y.length + Z.length + G1.length + G2.length ↔ T = true) := Lib.hid (by rw [← hT, decide_eq_true_eq])
            have TI : Hid (((65536 : Int) < (Y.length : Int) + (Z.length : Int) + (G1.length : Int) + (G2.length : Int)) ↔ T = true) := Lib.hid (by rw [← hT, decide_eq_true_eq]; omega)
            have z1 := z1
            clear BIG hFi hY hZ hq hG1 hG2 hTl hTl2 hB4 n1 n2 n3 hrl hbd g4a g4b hm hlt2 hcap hmost h1 h2 k4 q1 q2 hT
            cases T with
            | true =>
              have gb := TI.out.2 rfl
              have gb2 := TI2.out.2 rfl
              have gb3 := TI3.out.2 rfl
              have hR := Lib.hid (BT.out.1 rfl)
              go_wp2_with (first
                | (go_at_call 36; ((with_reducible refine (F1.out _).mono ?_); rintro e v1 ⟨rfl, hb2⟩; have W2 := Lib.hid (below_of hb.out hb2); clear hb2))
                | (go_at_call 36; ((with_reducible refine (F2.out _).mono ?_); rintro e v2 ⟨rfl, hb3⟩; have W3 := Lib.hid (below_of W2.out hb3); clear hb3)))
              all_goals first
                | (exfalso; omega)
                | skip
              go_returns
              exact ⟨by rw [hR.out]; rfl, W3.out⟩
            | false =>
              have gb : ¬ (65536 : Int) < (Y.length : Int) + (Z.length : Int) + (G1.length : Int) + (G2.length : Int) := fun hh => by have := TI.out.1 hh; cases this
              have gb2 : ¬ (65536 : Int) < (((Y ++ Z ++ G1 ++ G2).length : Nat) : Int) := fun hh => by have := TI2.out.1 hh; cases this
              have gb3 : ¬ 65536 < Y.length + Z.length + G1.length + G2.length := fun hh => by have := TI3.out.1 hh; cases this
              have gb4 : decide (65536 < Y.length + Z.length + G1.length + G2.length) = false := decide_eq_false gb3
              have hR := Lib.hid (BT.out.2 rfl)
              go_wp2_with (first
                | (go_at_call 36; ((with_reducible refine (F1.out _).mono ?_); rintro e v1 ⟨rfl, hb2⟩; have W2 := Lib.hid (below_of hb.out hb2); clear hb2))
                | (go_at_call 36; ((with_reducible refine (F2.out _).mono ?_); rintro e v2 ⟨rfl, hb3⟩; have W3 := Lib.hid (below_of W2.out hb3); clear hb3)))
              all_goals first
                | (exfalso; omega)
                | skip
              have fin : (⟨(Y ++ Z ++ G1 ++ G2).toArray⟩ : ByteArray) = ⟨(Y ++ (Z ++ G1)).toArray⟩ ++ ⟨G2.toArray⟩ := by rw [cat_ba]; simp
              go_returns
              exact ⟨by rw [hR.out, fin]; rfl, W3.out⟩
theorem refbuild_any {a : Option Addr} {n c b o : Nat} {l : List Rw} {w : World} (d : Int) (h : Rs a n c b o l w) :
    Calls Try.prog 16 #[.slice a n c, .int .i64 d] w fun e w' => e = .returned (.tuple #[.string ⟨(buildB l d).1.toArray⟩, .int .i64 ((buildB l d).2 : Nat)]) ∧ Below w.heap.size w w' := by
  by_cases hE : d < 1 ∨ 64 < d ∨ ordR l = false
  · rw [buildB_two (chkA_arg hE)]
    exact refbuild_arg d h hE
  · obtain ⟨D, rfl⟩ : ∃ D : Nat, d = (D : Int) := ⟨d.toNat, by omega⟩
    exact refbuild_main D h (by omega) (by omega) (by cases ho : ordR l; exact absurd (.inr (.inr ho)) hE; rfl)
end Go.Proofs.Ytnmlifagchdphaa
