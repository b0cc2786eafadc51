/-
  Sifting down; Init, Push and Pop of the heap. Condition: at most 1000 lists.
-/
import Derived.Test.YtlnklpnldmcopaaPack7
import Derived.WalkKit
namespace Go.Proofs.Ytlnklpnldmcopaa
set_option maxRecDepth 100000
open Go.RowKit
set_option maxRecDepth 100000 in
set_option maxHeartbeats 8000000 in
theorem down_any {B hp k : Nat} {ps : List Nat} {it : Nat → It} {w : World} (h : Hp B hp k ps it w) {i0 n : Nat} (hn : n ≤ ps.length) (hl : ps.length ≤ 1000) (hi0 : i0 ≤ 1000) (hu : HeapP (fun a b => ltI (it a) (it b)) n (i0 + 1) ps) :
    Calls Try.prog 58 #[.iface 58 (.pointer (some ⟨hp, 0, none⟩)), .int .i64 (i0 : Int), .int .i64 (n : Int)] w fun e w' => ∃ R : Bool, e = .returned (.bool R) ∧ ∃ qs, qs.Perm ps ∧ HeapP (fun a b => ltI (it a) (it b)) n i0 qs ∧ (∀ c, n ≤ c → qs.getD c 0 = ps.getD c 0) ∧ HpD B hp k qs it w w' := by
  suffices hh : Calls Try.prog 58 #[.iface 58 (.pointer (some ⟨hp, 0, none⟩)), .int .i64 (i0 : Int), .int .i64 (n : Int)] w fun e w' => ∃ v, e = .returned v ∧ (∃ R : Bool, v = .bool R) ∧ ∃ qs, qs.Perm ps ∧ HeapP (fun a b => ltI (it a) (it b)) n i0 qs ∧ (∀ c, n ≤ c → qs.getD c 0 = ps.getD c 0) ∧ HpD B hp k qs it w w' from
    hh.mono fun e w' ⟨v, he, ⟨R, hR⟩, hr⟩ => ⟨R, by rw [he, hR], hr⟩
  have h := Lib.hid h
  have hu := Lib.hid hu
  go_enter Try.func58, Try.ntmps58
  go_wp2_with fail
  go_loopw [7] (fun iv wr => ∃ (i : Nat) (qs : List Nat), i0 ≤ i ∧ i ≤ 1000 ∧ iv = .int .i64 (i : Int) ∧ Hid (qs.Perm ps) ∧ Hid (DownI (fun a b => ltI (it a) (it b)) n i0 i qs) ∧ Hid (∀ c, n ≤ c → qs.getD c 0 = ps.getD c 0) ∧ Hid (HpD B hp k qs it w wr)) (fun iv _ => n - (intOf iv).toNat)
  case atStart => exact ⟨i0, ps, Nat.le_refl _, hi0, rfl, Lib.hid (List.Perm.refl _), Lib.hid (DownI.start hu.out), Lib.hid (fun _ _ => rfl), Lib.hid (HpD.refl h.out)⟩
  case round =>
    obtain ⟨i, qs, hki, hi1000, rfl, hp1, hd1, hsame, hD⟩ := hrel
    have hnq : n ≤ qs.length := by rw [hp1.out.length_eq]; exact hn
    have hql : qs.length ≤ 1000 := by rw [hp1.out.length_eq]; exact hl
    have B0 : Hid (Below wr.heap.size wr wr) := Lib.hid (Below.refl _ _)
    by_cases hA : n ≤ 2 * i + 1
    · have e0 : (n : Int) ≤ 2 * (i : Int) + 1 := by omega
      have hfin := Lib.hid (hd1.out.done (fun c hc0 hcn hpc => by unfold par at hpc; omega))
      go_wp2_with fail
      go_returns
      exact ⟨_, rfl, ⟨_, rfl⟩, qs, hp1.out, hfin.out, hsame.out, hD.out⟩
    · have e0 : ¬ (n : Int) ≤ 2 * (i : Int) + 1 := by omega
      have e1 : ¬ 2 * (i : Int) + 1 < 0 := by omega
      have gi : qs[i]? = some (qs.getD i 0) := by rw [List.getD_eq_getElem?_getD, List.getElem?_eq_getElem (show i < qs.length by omega)]; rfl
      have g1 : qs[2 * i + 1]? = some (qs.getD (2 * i + 1) 0) := by rw [List.getD_eq_getElem?_getD, List.getElem?_eq_getElem (show 2 * i + 1 < qs.length by omega)]; rfl
      by_cases hB : 2 * i + 2 < n
      · have e2 : 2 * (i : Int) + 1 + 1 < (n : Int) := by omega
        have g2 : qs[2 * i + 2]? = some (qs.getD (2 * i + 2) 0) := by rw [List.getD_eq_getElem?_getD, List.getElem?_eq_getElem (show 2 * i + 2 < qs.length by omega)]; rfl
        obtain ⟨T2, hT2⟩ := named (ltI (it (qs.getD (2 * i + 2) 0)) (it (qs.getD (2 * i + 1) 0)))
        have LC2 := less_any hD.out.hp g2 g1
        rw [show ((2 * i + 2 : Nat) : Int) = 2 * (i : Int) + 1 + 1 by omega, show ((2 * i + 1 : Nat) : Int) = 2 * (i : Int) + 1 by omega, ← hT2.out] at LC2
        have LC2 := Lib.hid LC2
        cases T2 with
        | true =>
          have hmin : Hid (∀ c, 0 < c → c < n → par c = i → ltI (it (qs.getD c 0)) (it (qs.getD (2 * i + 2) 0)) = false) := Lib.hid (fun c hc0 hcn hpc => by
            have hc : c = 2 * i + 1 ∨ c = 2 * i + 2 := by unfold par at hpc; omega
            rcases hc with rfl | rfl
            · exact (ordI it).asym _ _ hT2.out.symm
            · have := (ordI it).asym (qs.getD (2 * i + 2) 0) (qs.getD (2 * i + 2) 0)
              cases hq : ltI (it (qs.getD (2 * i + 2) 0)) (it (qs.getD (2 * i + 2) 0)) with
              | false => rfl
              | true => rw [← hq]; exact this hq)
          have gj := g2
          clear hT2
          obtain ⟨T, hT⟩ := named (ltI (it (qs.getD (2 * i + 2) 0)) (it (qs.getD i 0)))
          have LC := less_any hD.out.hp gj gi
          rw [show ((2 * i + 2 : Nat) : Int) = 2 * (i : Int) + 1 + 1 by omega, ← hT.out] at LC
          have LC := Lib.hid (fun (u : World) (hu : Below wr.heap.size wr u) => by
            have := less_any (hD.out.hp.below hu) gj gi
            rw [show ((2 * i + 2 : Nat) : Int) = 2 * (i : Int) + 1 + 1 by omega, ← hT.out] at this
            exact this)
          have SW := Lib.hid (fun (u : World) (hu : Hp B hp k qs it u) => by
            have := swap_any hu gi gj
            rw [show ((2 * i + 2 : Nat) : Int) = 2 * (i : Int) + 1 + 1 by omega] at this
            exact this)
          cases T with
          | false =>
            have hfin := Lib.hid (hd1.out.done (fun c hc0 hcn hpc => by
              have h1 := hmin.out c hc0 hcn hpc
              exact (ordI it).ntr _ _ _ h1 hT.out.symm))
            clear hT
            go_wp2_with (first
              | (go_at_call 84; ((with_reducible refine LC2.out.mono ?_); rintro e w0 ⟨rfl, hb0⟩; have B0 := Lib.hid hb0; clear hb0 LC2))
              | (go_at_call 84; ((with_reducible refine (LC.out _ B0.out).mono ?_); rintro e w1 ⟨rfl, hb1⟩; have D1 := Lib.hid (hD.out.below (below_of B0.out hb1)); clear hb1))
              | fail "no arm")
            go_returns
            exact ⟨_, rfl, ⟨_, rfl⟩, qs, hp1.out, hfin.out, hsame.out, D1.out⟩
          | true =>
            have hstep := hd1.out.step (ordI it) hnq (show 2 * i + 2 < n by omega) (by omega) (by unfold par; omega) hki hT.out.symm hmin.out
            have hperm2 := Lib.hid ((swp_perm (ps := qs) (i := i) (j := 2 * i + 2) (by omega) (by omega)).trans hp1.out)
            have hlen2 := Lib.hid (swp_len qs i (2 * i + 2))
            have hsame2 : Hid (∀ c, n ≤ c → (swp qs i (2 * i + 2)).getD c 0 = ps.getD c 0) := Lib.hid (fun c hc => by
              rw [swp_at (by omega) (by omega), if_neg (by omega), if_neg (by omega)]
              exact hsame.out c hc)
            have hstep := Lib.hid hstep
            clear hT
            go_wp2_with (first
              | (go_at_call 84; ((with_reducible refine LC2.out.mono ?_); rintro e w0 ⟨rfl, hb0⟩; have B0 := Lib.hid hb0; clear hb0 LC2))
              | (go_at_call 84; ((with_reducible refine (LC.out _ B0.out).mono ?_); rintro e w1 ⟨rfl, hb1⟩; have D1 := Lib.hid (hD.out.below (below_of B0.out hb1)); clear hb1))
              | (go_at_call 86; ((with_reducible refine (SW.out _ D1.out.hp).mono ?_); rintro e w2 ⟨rfl, hd2⟩; have D2 := Lib.hid (D1.out.trans hd2); clear hd2))
              | fail "no arm")
            go_roundw
            case rel => exact ⟨2 * i + 2, swp qs i (2 * i + 2), by omega, by omega, by rw [show ((2 * i + 2 : Nat) : Int) = 2 * (i : Int) + 1 + 1 by omega], hperm2, hstep, hsame2, D2⟩
            case measure => simp [intOf] <;> omega
        | false =>
          have hmin : Hid (∀ c, 0 < c → c < n → par c = i → ltI (it (qs.getD c 0)) (it (qs.getD (2 * i + 1) 0)) = false) := Lib.hid (fun c hc0 hcn hpc => by
            have hc : c = 2 * i + 1 ∨ c = 2 * i + 2 := by unfold par at hpc; omega
            rcases hc with rfl | rfl
            · have := (ordI it).asym (qs.getD (2 * i + 1) 0) (qs.getD (2 * i + 1) 0)
              cases hq : ltI (it (qs.getD (2 * i + 1) 0)) (it (qs.getD (2 * i + 1) 0)) with
              | false => rfl
              | true => rw [← hq]; exact this hq
            · exact hT2.out.symm)
          have gj := g1
          clear hT2
          obtain ⟨T, hT⟩ := named (ltI (it (qs.getD (2 * i + 1) 0)) (it (qs.getD i 0)))
          have LC := less_any hD.out.hp gj gi
          rw [show ((2 * i + 1 : Nat) : Int) = 2 * (i : Int) + 1 by omega, ← hT.out] at LC
          have LC := Lib.hid (fun (u : World) (hu : Below wr.heap.size wr u) => by
            have := less_any (hD.out.hp.below hu) gj gi
            rw [show ((2 * i + 1 : Nat) : Int) = 2 * (i : Int) + 1 by omega, ← hT.out] at this
            exact this)
          have SW := Lib.hid (fun (u : World) (hu : Hp B hp k qs it u) => by
            have := swap_any hu gi gj
            rw [show ((2 * i + 1 : Nat) : Int) = 2 * (i : Int) + 1 by omega] at this
            exact this)
          cases T with
          | false =>
            have hfin := Lib.hid (hd1.out.done (fun c hc0 hcn hpc => by
              have h1 := hmin.out c hc0 hcn hpc
              exact (ordI it).ntr _ _ _ h1 hT.out.symm))
            clear hT
            go_wp2_with (first
              | (go_at_call 84; ((with_reducible refine LC2.out.mono ?_); rintro e w0 ⟨rfl, hb0⟩; have B0 := Lib.hid hb0; clear hb0 LC2))
              | (go_at_call 84; ((with_reducible refine (LC.out _ B0.out).mono ?_); rintro e w1 ⟨rfl, hb1⟩; have D1 := Lib.hid (hD.out.below (below_of B0.out hb1)); clear hb1))
              | fail "no arm")
            go_returns
            exact ⟨_, rfl, ⟨_, rfl⟩, qs, hp1.out, hfin.out, hsame.out, D1.out⟩
          | true =>
            have hstep := hd1.out.step (ordI it) hnq (show 2 * i + 1 < n by omega) (by omega) (by unfold par; omega) hki hT.out.symm hmin.out
            have hperm2 := Lib.hid ((swp_perm (ps := qs) (i := i) (j := 2 * i + 1) (by omega) (by omega)).trans hp1.out)
            have hlen2 := Lib.hid (swp_len qs i (2 * i + 1))
            have hsame2 : Hid (∀ c, n ≤ c → (swp qs i (2 * i + 1)).getD c 0 = ps.getD c 0) := Lib.hid (fun c hc => by
              rw [swp_at (by omega) (by omega), if_neg (by omega), if_neg (by omega)]
              exact hsame.out c hc)
            have hstep := Lib.hid hstep
            clear hT
            go_wp2_with (first
              | (go_at_call 84; ((with_reducible refine LC2.out.mono ?_); rintro e w0 ⟨rfl, hb0⟩; have B0 := Lib.hid hb0; clear hb0 LC2))
              | (go_at_call 84; ((with_reducible refine (LC.out _ B0.out).mono ?_); rintro e w1 ⟨rfl, hb1⟩; have D1 := Lib.hid (hD.out.below (below_of B0.out hb1)); clear hb1))
              | (go_at_call 86; ((with_reducible refine (SW.out _ D1.out.hp).mono ?_); rintro e w2 ⟨rfl, hd2⟩; have D2 := Lib.hid (D1.out.trans hd2); clear hd2))
              | fail "no arm")
            go_roundw
            case rel => exact ⟨2 * i + 1, swp qs i (2 * i + 1), by omega, by omega, by rw [show ((2 * i + 1 : Nat) : Int) = 2 * (i : Int) + 1 by omega], hperm2, hstep, hsame2, D2⟩
            case measure => simp [intOf] <;> omega
      · have e2 : ¬ 2 * (i : Int) + 1 + 1 < (n : Int) := by omega
        have hmin : Hid (∀ c, 0 < c → c < n → par c = i → ltI (it (qs.getD c 0)) (it (qs.getD (2 * i + 1) 0)) = false) := Lib.hid (fun c hc0 hcn hpc => by
          have hc : c = 2 * i + 1 := by unfold par at hpc; omega
          subst hc
          have := (ordI it).asym (qs.getD (2 * i + 1) 0) (qs.getD (2 * i + 1) 0)
          cases hq : ltI (it (qs.getD (2 * i + 1) 0)) (it (qs.getD (2 * i + 1) 0)) with
          | false => rfl
          | true => rw [← hq]; exact this hq)
        have gj := g1
        obtain ⟨T, hT⟩ := named (ltI (it (qs.getD (2 * i + 1) 0)) (it (qs.getD i 0)))
        have LC := less_any hD.out.hp gj gi
        rw [show ((2 * i + 1 : Nat) : Int) = 2 * (i : Int) + 1 by omega, ← hT.out] at LC
        have LC := Lib.hid (fun (u : World) (hu : Below wr.heap.size wr u) => by
          have := less_any (hD.out.hp.below hu) gj gi
          rw [show ((2 * i + 1 : Nat) : Int) = 2 * (i : Int) + 1 by omega, ← hT.out] at this
          exact this)
        have SW := Lib.hid (fun (u : World) (hu : Hp B hp k qs it u) => by
          have := swap_any hu gi gj
          rw [show ((2 * i + 1 : Nat) : Int) = 2 * (i : Int) + 1 by omega] at this
          exact this)
        cases T with
        | false =>
          have hfin := Lib.hid (hd1.out.done (fun c hc0 hcn hpc => by
            have h1 := hmin.out c hc0 hcn hpc
            exact (ordI it).ntr _ _ _ h1 hT.out.symm))
          clear hT
          go_wp2_with (first
            | (go_at_call 84; ((with_reducible refine (LC.out _ B0.out).mono ?_); rintro e w1 ⟨rfl, hb1⟩; have D1 := Lib.hid (hD.out.below (below_of B0.out hb1)); clear hb1))
            | fail "no arm")
          go_returns
          exact ⟨_, rfl, ⟨_, rfl⟩, qs, hp1.out, hfin.out, hsame.out, D1.out⟩
        | true =>
          have hstep := hd1.out.step (ordI it) hnq (show 2 * i + 1 < n by omega) (by omega) (by unfold par; omega) hki hT.out.symm hmin.out
          have hperm2 := Lib.hid ((swp_perm (ps := qs) (i := i) (j := 2 * i + 1) (by omega) (by omega)).trans hp1.out)
          have hlen2 := Lib.hid (swp_len qs i (2 * i + 1))
          have hsame2 : Hid (∀ c, n ≤ c → (swp qs i (2 * i + 1)).getD c 0 = ps.getD c 0) := Lib.hid (fun c hc => by
            rw [swp_at (by omega) (by omega), if_neg (by omega), if_neg (by omega)]
            exact hsame.out c hc)
          have hstep := Lib.hid hstep
          clear hT
          go_wp2_with (first
            | (go_at_call 84; ((with_reducible refine (LC.out _ B0.out).mono ?_); rintro e w1 ⟨rfl, hb1⟩; have D1 := Lib.hid (hD.out.below (below_of B0.out hb1)); clear hb1))
            | (go_at_call 86; ((with_reducible refine (SW.out _ D1.out.hp).mono ?_); rintro e w2 ⟨rfl, hd2⟩; have D2 := Lib.hid (D1.out.trans hd2); clear hd2))
            | fail "no arm")
          go_roundw
          case rel => exact ⟨2 * i + 1, swp qs i (2 * i + 1), by omega, by omega, by rw [show ((2 * i + 1 : Nat) : Int) = 2 * (i : Int) + 1 by omega], hperm2, hstep, hsame2, D2⟩
          case measure => simp [intOf] <;> omega
end Go.Proofs.Ytlnklpnldmcopaa
/-
  Init, Push and Pop of the heap of lists. Condition: at most 1000 lists.
-/
namespace Go.Proofs.Ytlnklpnldmcopaa
set_option maxRecDepth 100000
open Go.RowKit
theorem HeapP.congr {it it2 : Nat → It} {n k : Nat} {ps : List Nat} (h : HeapP (fun a b => ltI (it a) (it b)) n k ps) (hn : n ≤ ps.length) (he : ∀ b ∈ ps, it2 b = it b) : HeapP (fun a b => ltI (it2 a) (it2 b)) n k ps := by
  intro c h0 hc hk
  have hm : ∀ i, i < n → ps.getD i 0 ∈ ps := fun i hi => by
    rw [List.getD_eq_getElem?_getD, List.getElem?_eq_getElem (show i < ps.length by omega)]
    exact List.getElem_mem _
  have hp : par c < n := by unfold par; omega
  show ltI (it2 (ps.getD c 0)) (it2 (ps.getD (par c) 0)) = false
  rw [he _ (hm c hc), he _ (hm _ hp)]
  exact h c h0 hc hk
theorem getD_take {ps : List Nat} {n c : Nat} (h : c < n) : (ps.take n).getD c 0 = ps.getD c 0 := by
  rw [List.getD_eq_getElem?_getD, List.getD_eq_getElem?_getD, List.getElem?_take, if_pos h]
theorem ItemAt.els {B b : Nat} {x : It} {w w' : World} (h : ItemAt B b x w) (he : ElseH w w') (hb : Below B w w') : ItemAt B b x w' := by
  obtain ⟨a, n, c, bb, o, h1, h2, h3⟩ := h
  exact ⟨a, n, c, bb, o, he.2 _ _ _ _ h1 (by decide) (by decide), h2.keep (fun _ => hb.block bb h3) hb.size, h3⟩
theorem tdiv_half (n : Nat) : ((n : Int)).tdiv 2 = ((n / 2 : Nat) : Int) := by
  rw [Int.tdiv_eq_ediv_of_nonneg (by omega)]; omega
set_option maxRecDepth 100000 in
set_option maxHeartbeats 4000000 in
theorem init_any {B hp k : Nat} {ps : List Nat} {it : Nat → It} {w : World} (h : Hp B hp k ps it w) (hl : ps.length ≤ 1000) :
    Calls Try.prog 42 #[.iface 58 (.pointer (some ⟨hp, 0, none⟩))] w fun e w' => e = .returned (.tuple #[]) ∧ ∃ qs, qs.Perm ps ∧ HeapP (fun a b => ltI (it a) (it b)) qs.length 0 qs ∧ HpD B hp k qs it w w' := by
  have LC := Lib.hid (hlen_any h)
  have h := Lib.hid h
  obtain ⟨n, hn⟩ := named ps.length
  rw [← hn.out] at LC
  have hl : n ≤ 1000 := by rw [hn.out]; exact hl
  have e0 := tdiv_half n
  have e1 : wrap64 (((n / 2 : Nat) : Int) - 1) = ((n / 2 : Nat) : Int) - 1 := by unfold wrap64; omega
  go_enter Try.func42, Try.ntmps42
  go_wp2_with (go_at_call 30; ((with_reducible refine LC.out.mono ?_); rintro e w1 ⟨rfl, rfl⟩))
  go_loopw [3] (fun iv wr => ∃ (m : Nat) (qs : List Nat), m ≤ n ∧ iv = .int .i64 ((m : Int) - 1) ∧ Hid (qs.Perm ps) ∧ Hid (HeapP (fun a b => ltI (it a) (it b)) n m qs) ∧ Hid (HpD B hp k qs it w1 wr)) (fun iv _ => (intOf iv + 1).toNat)
  case atStart => exact ⟨n / 2, ps, by omega, by first | rfl | rw [e1] | simp, Lib.hid (List.Perm.refl _), Lib.hid (fun c h0 hc hk => by unfold par at hk; omega), Lib.hid (HpD.refl h.out)⟩
  case round =>
    obtain ⟨m, qs, hm, rfl, hp1, hh1, hD⟩ := hrel
    cases m with
    | zero =>
      have i1 : ¬ (0 : Int) ≤ ((0 : Nat) : Int) - 1 := by omega
      have hlq : Hid (qs.length = n) := Lib.hid (by rw [hp1.out.length_eq, hn.out])
      go_wp2_with fail
      go_returns
      exact ⟨rfl, qs, hp1.out, by rw [hlq.out]; exact hh1.out, hD.out⟩
    | succ m =>
      have e2 : ((m + 1 : Nat) : Int) - 1 = (m : Int) := by omega
      rw [e2]
      have i1 : (0 : Int) ≤ (m : Int) := by omega
      have hlq : qs.length = n := by rw [hp1.out.length_eq, hn.out]
      have DC := Lib.hid (down_any (i0 := m) (n := n) hD.out.hp (by omega) (by omega) (by omega) hh1.out)
      have kw : wrap64 ((m : Int) - 1) = (m : Int) - 1 := by unfold wrap64; omega
      go_wp2_with (go_at_call 58; ((with_reducible refine DC.out.mono ?_); rintro e w2 ⟨R, rfl, rs, hr1, hr2, hr3, hr4⟩; have P2 := Lib.hid (hr1.trans hp1.out); have H2 := Lib.hid hr2; have D2 := Lib.hid (hD.out.trans hr4); clear hr1 hr2 hr3 hr4))
      go_roundw
      case rel => exact ⟨m, rs, by omega, by first | rfl | rw [kw], P2, H2, D2⟩
      case measure => simp [intOf] <;> omega
set_option maxRecDepth 100000 in
set_option maxHeartbeats 4000000 in
theorem hpush_any {B hp k : Nat} {ps : List Nat} {it : Nat → It} {w : World} (h : Hp B hp k ps it w) (hl : ps.length < 1000) (hh : HeapP (fun a b => ltI (it a) (it b)) ps.length 0 ps) {b : Nat} {x : It} (hx : ItemAt B b x w) (hB : B ≤ b) (hn : b ∉ ps) :
    Calls Try.prog 44 #[.iface 58 (.pointer (some ⟨hp, 0, none⟩)), .iface 76 (.pointer (some ⟨b, 0, none⟩))] w fun e w' => e = .returned (.tuple #[]) ∧ ∃ qs, qs.Perm (ps ++ [b]) ∧ HeapP (fun a c => ltI (if a = b then x else it a) (if c = b then x else it c)) qs.length 0 qs ∧ HpD B hp k qs (fun c => if c = b then x else it c) w w' := by
  have PC := Lib.hid (pushrest_any h (by omega) hx hB hn)
  have hlen : (ps ++ [b]).length = ps.length + 1 := by simp
  have hup : UpI (fun a c => ltI ((fun c => if c = b then x else it c) a) ((fun c => if c = b then x else it c) c)) (ps ++ [b]).length ps.length (ps ++ [b]) := by
    have hold := HeapP.congr (it2 := fun c => if c = b then x else it c) hh (Nat.le_refl _) (fun c hc => by show (if c = b then x else it c) = it c; rw [if_neg (fun e => hn (by rw [← e]; exact hc))])
    have hg : ∀ i, i < ps.length → (ps ++ [b]).getD i 0 = ps.getD i 0 := fun i hi => by rw [List.getD_eq_getElem?_getD, List.getD_eq_getElem?_getD, List.getElem?_append_left hi]
    refine ⟨fun c h0 hc hne => ?_, fun c h0 hc hp0 _ => by unfold par at hp0; omega⟩
    rw [hlen] at hc
    rw [hg c (by omega), hg (par c) (by unfold par; omega)]
    exact hold c h0 (by omega) (Nat.zero_le _)
  have UC := Lib.hid (fun (u : World) (hu : Hp B hp k (ps ++ [b]) (fun c => if c = b then x else it c) u) => up_any hu (by omega) (by omega) hup)
  have LC := Lib.hid (fun (u : World) (hu : Hp B hp k (ps ++ [b]) (fun c => if c = b then x else it c) u) => hlen_any hu)
  obtain ⟨n, hnn⟩ := named ps.length
  rw [hlen, ← hnn.out] at LC
  rw [← hnn.out] at UC hl
  have e1 : wrap64 (((n + 1 : Nat) : Int) - 1) = (n : Int) := by unfold wrap64; omega
  have e2 : ((n + 1 : Nat) : Int) - 1 = (n : Int) := by omega
  have e3 : (n : Int) + 1 - 1 = (n : Int) := by omega
  clear h hx hh hup hlen
  go_enter Try.func44, Try.ntmps44
  go_wp2_with (first
    | (go_at_call 41; ((with_reducible refine PC.out.mono ?_); rintro e w1 ⟨rfl, hd1⟩; have D1 := Lib.hid hd1; clear hd1))
    | (go_at_call 30; ((with_reducible refine (LC.out _ D1.out.hp).mono ?_); rintro e w1 ⟨rfl, rfl⟩))
    | (go_at_call 59; ((with_reducible refine (UC.out _ D1.out.hp).mono ?_); rintro e w2 ⟨rfl, qs, hq1, hq2, hq3⟩; have Q1 := Lib.hid hq1; have Q2 := Lib.hid hq2; have D2 := Lib.hid (D1.out.trans hq3); clear hq1 hq2 hq3)))
  go_returns
  exact ⟨rfl, qs, Q1.out, Q2.out, D2.out⟩
set_option maxRecDepth 100000 in
set_option maxHeartbeats 4000000 in
theorem htop_any {B hp k : Nat} {ps : List Nat} {it : Nat → It} {w : World} (h : Hp B hp k ps it w) (hl : ps.length ≤ 1000) (hh : HeapP (fun a b => ltI (it a) (it b)) ps.length 0 ps) {n b : Nat} (hn : ps.length = n + 1) (hb : ps[0]? = some b) :
    Calls Try.prog 43 #[.iface 58 (.pointer (some ⟨hp, 0, none⟩))] w fun e w' => e = .returned (.iface 76 (.pointer (some ⟨b, 0, none⟩))) ∧ ∃ qs, (b :: qs).Perm ps ∧ HeapP (fun a b => ltI (it a) (it b)) qs.length 0 qs ∧ HpD B hp k qs it w w' := by
  have LC := Lib.hid (hlen_any h)
  obtain ⟨bn, hbn⟩ : ∃ bn, ps[n]? = some bn := ⟨_, List.getElem?_eq_getElem (by omega)⟩
  have SC := swap_any h hb hbn
  have hlen2 : (swp ps 0 n).length = n + 1 := by rw [swp_len, hn]
  have hpre : HeapP (fun a b => ltI (it a) (it b)) n 1 (swp ps 0 n) := by
    intro c h0 hc hk
    have hpc : par c < c := by unfold par; omega
    rw [swp_at (by omega) (by omega), swp_at (by omega) (by omega), if_neg (by omega), if_neg (by omega), if_neg (by omega), if_neg (by omega)]
    exact hh c h0 (by omega) (Nat.zero_le _)
  have hlast : (swp ps 0 n).getD n 0 = b := by
    rw [swp_at (by omega) (by omega), if_pos rfl, List.getD_eq_getElem?_getD, hb]; rfl
  have DC : Hid (∀ u, Hp B hp k (swp ps 0 n) it u → Calls Try.prog 58 #[.iface 58 (.pointer (some ⟨hp, 0, none⟩)), .int .i64 0, .int .i64 (n : Int)] u fun e w' => ∃ R : Bool, e = .returned (.bool R) ∧ ∃ qs, qs.Perm (swp ps 0 n) ∧ HeapP (fun a b => ltI (it a) (it b)) n 0 qs ∧ (∀ c, n ≤ c → qs.getD c 0 = (swp ps 0 n).getD c 0) ∧ HpD B hp k qs it u w') := Lib.hid (fun (u : World) (hu : Hp B hp k (swp ps 0 n) it u) => down_any (i0 := 0) (n := n) hu (by omega) (by omega) (by omega) hpre)
  have PC := Lib.hid (fun (u : World) (qs : List Nat) (hq : qs.Perm (swp ps 0 n)) (hg : ∀ c, n ≤ c → qs.getD c 0 = (swp ps 0 n).getD c 0) (hu : Hp B hp k qs it u) => by
    have hql : qs.length = n + 1 := by rw [hq.length_eq, hlen2]
    have : qs[n]? = some b := by
      have h1 := hg n (Nat.le_refl _)
      rw [hlast, List.getD_eq_getElem?_getD, List.getElem?_eq_getElem (show n < qs.length by omega)] at h1
      rw [List.getElem?_eq_getElem (show n < qs.length by omega)]
      exact congrArg some h1
    exact hpop_any hu hql this)
  have hfin : Hid (∀ qs : List Nat, qs.Perm (swp ps 0 n) → (∀ c, n ≤ c → qs.getD c 0 = (swp ps 0 n).getD c 0) → HeapP (fun a b => ltI (it a) (it b)) n 0 qs → (b :: qs.take n).Perm ps ∧ HeapP (fun a b => ltI (it a) (it b)) (qs.take n).length 0 (qs.take n)) := Lib.hid (fun qs hq hg hhq => by
    have hql : qs.length = n + 1 := by rw [hq.length_eq, hlen2]
    have htl : (qs.take n).length = n := by rw [List.length_take]; omega
    refine ⟨?_, ?_⟩
    · have h1 := hg n (Nat.le_refl _)
      rw [hlast, List.getD_eq_getElem?_getD, List.getElem?_eq_getElem (show n < qs.length by omega)] at h1
      have e : qs = qs.take n ++ [b] := by
        have := List.take_append_drop n qs
        rw [List.drop_eq_getElem_cons (show n < qs.length by omega), show qs[n] = b from h1, List.drop_eq_nil_of_le (by omega)] at this
        exact this.symm
      have hp2 := hq.trans (swp_perm (ps := ps) (i := 0) (j := n) (by omega) (by omega))
      refine List.Perm.trans ?_ hp2
      rw [e]
      simp only [List.take_append]
      rw [List.take_of_length_le (by omega), htl, Nat.sub_self, List.take_zero, List.append_nil]
      exact List.perm_append_comm (l₁ := [b])
    · rw [htl]
      intro c h0 hc hk
      have hpc : par c < c := by unfold par; omega
      rw [getD_take hc, getD_take (by omega)]
      exact hhq c h0 hc hk)
  rw [hn] at LC
  have hl : n ≤ 1000 := by omega
  have e1 : wrap64 (((n + 1 : Nat) : Int) - 1) = (n : Int) := by unfold wrap64; omega
  have e2 : ((n + 1 : Nat) : Int) - 1 = (n : Int) := by omega
  have e3 : (n : Int) + 1 - 1 = (n : Int) := by omega
  have SC : Hid (Calls Try.prog 86 #[.pointer (some ⟨hp, 0, none⟩), .int .i64 0, .int .i64 (n : Int)] w fun e w' => e = .returned (.tuple #[]) ∧ HpD B hp k (swp ps 0 n) it w w') := Lib.hid SC
  clear h hh hpre hlast hlen2 hb hbn
  go_enter Try.func43, Try.ntmps43
  go_wp2_with (first
    | (go_at_call 30; ((with_reducible refine LC.out.mono ?_); rintro e w1 ⟨rfl, rfl⟩))
    | (go_at_call 86; ((with_reducible refine SC.out.mono ?_); rintro e w1 ⟨rfl, hd1⟩; have D1 := Lib.hid hd1; clear hd1))
    | (go_at_call 58; ((with_reducible refine (DC.out _ D1.out.hp).mono ?_); rintro e w2 ⟨R, rfl, qs, hq1, hq2, hq3, hq4⟩; have Q1 := Lib.hid hq1; have Q2 := Lib.hid hq2; have Q3 := Lib.hid hq3; have D2 := Lib.hid (D1.out.trans hq4); clear hq1 hq2 hq3 hq4))
    | (go_at_call 85; ((with_reducible refine (PC.out _ _ Q1.out Q3.out D2.out.hp).mono ?_); rintro e w3 ⟨rfl, hd3⟩; have D3 := Lib.hid (D2.out.trans hd3); clear hd3)))
  go_returns
  obtain ⟨f1, f2⟩ := hfin.out qs Q1.out Q3.out Q2.out
  exact ⟨rfl, qs.take n, f1, f2, D3.out⟩
end Go.Proofs.Ytlnklpnldmcopaa
/-
  Slices of slices of rows. No condition.
-/
namespace Go.Proofs.Ytlnklpnldmcopaa
set_option maxRecDepth 100000
open Go.RowKit
theorem size_rowB (w : World) : (Go.sizeOf (Try.prog.elem 22)).run Try.prog w = .ok 4 w := by
  obtain ⟨i0, hi, hz0, hz1, hz2⟩ := info_parts (show (Try.prog.info? (Try.prog.elem 22)).map (fun i => (i.zero, i.size, i.bytes)) = some (some (.agg #[.string .empty, .int .u64 0, .int .i64 0, .string .empty]), 4, 48) by kernel_rfl)
  simp [Go.sizeOf, typeInfo, hi, hz1]
theorem slr_upto (p : Option Addr) (n c k : Nat) (hk : k ≤ c) (u : World) : (Instr.slice 22 (.slice p n c) none (some (.int .i64 (k : Int))) none).run Try.prog u = .ok (.slice p k c) u := by
  rw [run_slice_h u 22 p n c (by kernel_rfl) .i64 (k : Int) (by omega) (by omega), size_rowB]
  cases p <;> simp [Result.andThen, sliced, Addr.add]
theorem Rs.upto {a : Option Addr} {n c b o : Nat} {l : List Rw} {w : World} (h : Rs a n c b o l w) {k : Nat} (hk : k ≤ n) : Rs a k c b o (l.take k) w :=
  ⟨by rw [List.length_take, h.len]; omega, by have := h.cap; omega, h.most, fun h0 => h.addr (by omega), fun j x hx => by
    rw [List.getElem?_take] at hx
    split at hx
    · exact h.at' j x hx
    · cases hx⟩
theorem addr_add (b o k : Nat) : (⟨b, o, none⟩ : Addr).add k = ⟨b, o + k, none⟩ := by
  unfold Addr.add
  split
  · rename_i h; rw [h]; rfl
  · rfl
/-- Where the rows from the k-th on lie. -/
def fromA (p : Option Addr) (c k : Nat) : Option Addr := if c = k then p else p.map (·.add (k * 4))
theorem slr_from (p : Option Addr) (n c k : Nat) (hk : k ≤ n) (x : Int) (hx : x = (k : Int)) (u : World) : (Instr.slice 22 (.slice p n c) (some (.int .i64 x)) none none).run Try.prog u = .ok (.slice (fromA p c k) (n - k) (c - k)) u := by
  subst hx
  rw [run_slice_l u 22 p n c (by kernel_rfl) .i64 (k : Int) (by omega) (by omega), size_rowB]
  simp only [Result.andThen, sliced, Int.toNat_natCast, fromA]
theorem slr_mid (p : Option Addr) (n c k m : Nat) (hk : k ≤ m) (hm : m ≤ c) (u : World) : (Instr.slice 22 (.slice p n c) (some (.int .i64 (k : Int))) (some (.int .i64 (m : Int))) none).run Try.prog u = .ok (.slice (fromA p c k) (m - k) (c - k)) u := by
  rw [run_slice_lh u 22 p n c (by kernel_rfl) .i64 .i64 (k : Int) (m : Int) (by omega) (by omega) (by omega), size_rowB]
  simp only [Result.andThen, sliced, Int.toNat_natCast, fromA]
theorem Rs.mid {p : Option Addr} {n c b o : Nat} {l : List Rw} {w : World} (h : Rs p n c b o l w) {k m : Nat} (hk : k ≤ m) (hm : m ≤ n) : Rs (fromA p c k) (m - k) (c - k) b (o + k * 4) ((l.take m).drop k) w := by
  have hc := h.cap
  refine ⟨by rw [List.length_drop, List.length_take, h.len]; omega, by omega, by have := h.most; omega, fun h0 => ?_, fun j x hx => ?_⟩
  · obtain ⟨rfl, hb⟩ := h.addr (by omega)
    refine ⟨?_, hb⟩
    unfold fromA
    rw [if_neg (by omega)]
    simp [addr_add]
  · rw [List.getElem?_drop, List.getElem?_take] at hx
    split at hx
    · have := h.at' (k + j) x hx
      rw [show o + (k + j) * 4 = o + k * 4 + j * 4 by omega] at this
      exact this
    · cases hx
theorem Rs.from {p : Option Addr} {n c b o : Nat} {l : List Rw} {w : World} (h : Rs p n c b o l w) {k : Nat} (hk : k ≤ n) : Rs (fromA p c k) (n - k) (c - k) b (o + k * 4) (l.drop k) w := by
  have := h.mid hk (Nat.le_refl n)
  rwa [List.take_of_length_le (by rw [h.len]; exact Nat.le_refl _)] at this
theorem same_rowsB {p1 p2 : Option Addr} {n1 c1 b1 o1 n2 c2 b2 o2 : Nat} {l : List Rw} {w : World} (h1 : Rs p1 n1 c1 b1 o1 l w) (h2 : Rs p2 n2 c2 b2 o2 l w) :
    Calls Try.prog 11 #[.slice p1 n1 c1, .slice p2 n2 c2] w fun e w' => e = .returned (.bool true) ∧ Below w.heap.size w w' := by
  have := samerows_any h1 h2
  simpa using this
end Go.Proofs.Ytlnklpnldmcopaa
/-
  The contract of take: the first row of all that are left. Condition: less than 1000 lists.
-/
namespace Go.Proofs.Ytlnklpnldmcopaa
set_option maxRecDepth 100000
open Go.RowKit
/-- Of what there was all blocks of cells stand but the heap's own and the lists'. -/
def ElseM (w w' : World) : Prop := w.heap.size ≤ w'.heap.size ∧ ∀ (k : Nat) (cs : Array Value) (t : TypeId) (m : Nat × Nat), w.heap[k]? = some (.cells cs t m) → t ≠ 73 → t ≠ 76 → t ≠ 79 → w'.heap[k]? = some (.cells cs t m)
theorem ElseH.m {w w' : World} (h : ElseH w w') : ElseM w w' := ⟨h.1, fun k cs t m hk h1 h2 _ => h.2 k cs t m hk h1 h2⟩
theorem ElseM.trans {x y z : World} (h : ElseM x y) (k : ElseM y z) : ElseM x z := ⟨Nat.le_trans h.1 k.1, fun a cs t m ha h1 h2 h3 => k.2 a cs t m (h.2 a cs t m ha h1 h2 h3) h1 h2 h3⟩
/-- What is no block of rows stands. -/
theorem Hp.keepR {B hp k : Nat} {ps : List Nat} {it : Nat → It} {w w' : World} (h : Hp B hp k ps it w) (hb : Below B w w') (hk : ∀ (c : Nat) (cs : Array Value) (t : TypeId) (m : Nat × Nat), w.heap[c]? = some (.cells cs t m) → t ≠ 38 → w'.heap[c]? = some (.cells cs t m)) : Hp B hp k ps it w' := by
  obtain ⟨v, h1, h2⟩ := h.hd
  refine ⟨⟨v, hk _ _ _ _ h1 (by decide), h2.1, ?_⟩, fun b hbm => ⟨?_, (h.item b hbm).2⟩, h.nodup, h.low⟩
  · rcases h2.2 with e | ⟨g, cap, cur, e1, e2, e3, e4⟩
    · exact .inl e
    · exact .inr ⟨g, cap, cur, e1, e2, hk _ _ _ _ e3 (by decide), e4⟩
  · obtain ⟨a, n, c, bb, o, q1, q2, q3⟩ := (h.item b hbm).1
    exact ⟨a, n, c, bb, o, hk _ _ _ _ q1 (by decide), q2.keep (fun _ => hb.block bb q3) hb.size, q3⟩
/-- A store into a list that is out of the heap. -/
theorem Hp.out {B hp k : Nat} {ps : List Nat} {it : Nat → It} {w : World} (h : Hp B hp k ps it w) {b : Nat} (hn : b ∉ ps) (hB : B ≤ b) {x y u : Value} (hb : w.heap[b]? = some (.cells #[x, y] 79 (0, 0))) : Hp B hp k ps it (w.setCell ⟨b, 0, none⟩ u) := by
  obtain ⟨v, h1, h2⟩ := h.hd
  have hbel : Below B w (w.setCell ⟨b, 0, none⟩ u) := (Below.refl B w).setCell (p := ⟨b, 0, none⟩) hB u
  have hk : ∀ c, c ≠ b → (w.setCell ⟨b, 0, none⟩ u).heap[c]? = w.heap[c]? := fun c hc => heap_setCell_other _ _ _ _ hc
  refine ⟨⟨v, (hk _ fun e => by subst e; rw [h1] at hb; cases hb).trans h1, h2.1, ?_⟩, fun c hc => ⟨?_, (h.item c hc).2⟩, h.nodup, h.low⟩
  · rcases h2.2 with e | ⟨g, cap, cur, e1, e2, e3, e4⟩
    · exact .inl e
    · exact .inr ⟨g, cap, cur, e1, e2, (hk _ fun e => by subst e; rw [e3] at hb; cases hb).trans e3, e4⟩
  · exact (h.item c hc).1.keep h.big hbel (hk _ fun e => hn (by rw [← e]; exact hc))
/-- What take leaves. -/
def TakeD (B hp k : Nat) (ps : List Nat) (it : Nat → It) (b : Nat) (w w' : World) : Prop := ElseM w w' ∧ Below B w w' ∧
  (((it b).tl = [] ∧ ∃ qs, (b :: qs).Perm ps ∧ HeapP (fun a c => ltI (it a) (it c)) qs.length 0 qs ∧ Hp B hp k qs it w') ∨
   (∃ y tl, (it b).tl = y :: tl ∧ ∃ qs, qs.Perm ps ∧ HeapP (fun a c => ltI (if a = b then ⟨(it b).num, y, tl⟩ else it a) (if c = b then ⟨(it b).num, y, tl⟩ else it c)) qs.length 0 qs ∧ Hp B hp k qs (fun c => if c = b then ⟨(it b).num, y, tl⟩ else it c) w'))
/-- The result's four cells are stored. -/
theorem res_row {W : World} {R : Nat} {cs : Array Value} (hR : W.heap[R]? = some (.cells cs 38 (0, 0))) (a b c d : Value) : ∃ F, F = ((((W.setCell ⟨R, 0, none⟩ a).setCell ⟨R, 1, none⟩ b).setCell ⟨R, 2, none⟩ c).setCell ⟨R, 3, none⟩ d) ∧ (∀ k, k ≠ R → F.heap[k]? = W.heap[k]?) ∧ (∀ B, B ≤ R → Below B W F) ∧ (∀ (k : Nat) (cs : Array Value) (t : TypeId) (m : Nat × Nat), W.heap[k]? = some (.cells cs t m) → t ≠ 38 → F.heap[k]? = some (.cells cs t m)) := by
  have h1 : ∀ k, k ≠ R → ((((W.setCell ⟨R, 0, none⟩ a).setCell ⟨R, 1, none⟩ b).setCell ⟨R, 2, none⟩ c).setCell ⟨R, 3, none⟩ d).heap[k]? = W.heap[k]? := fun k hk => by
    rw [heap_setCell_other _ _ _ _ hk, heap_setCell_other _ _ _ _ hk, heap_setCell_other _ _ _ _ hk, heap_setCell_other _ _ _ _ hk]
  refine ⟨_, rfl, h1, fun B hB => ?_, fun k cs' t m hk ht => (h1 k fun e => ?_).trans hk⟩
  · exact ((((Below.refl B W).setCell (p := ⟨R, 0, none⟩) hB a).setCell (p := ⟨R, 1, none⟩) hB b).setCell (p := ⟨R, 2, none⟩) hB c).setCell (p := ⟨R, 3, none⟩) hB d
  · subst e
    rw [hR] at hk; cases hk; exact ht rfl
theorem els_out {w W : World} {B b : Nat} {x y : Value} (hE : ElseM w W) (hB : Below B w W) (hbB : B ≤ b) (hb : W.heap[b]? = some (.cells #[x, y] 79 (0, 0))) (u : Value) : ElseM w (W.setCell ⟨b, 0, none⟩ u) ∧ Below B w (W.setCell ⟨b, 0, none⟩ u) := by
  have hbel : Below B W (W.setCell ⟨b, 0, none⟩ u) := (Below.refl B W).setCell (p := ⟨b, 0, none⟩) hbB u
  refine ⟨⟨Nat.le_trans hE.1 hbel.size, fun k cs t m hk h1 h2 h3 => (heap_setCell_other _ _ _ _ fun e => ?_).trans (hE.2 k cs t m hk h1 h2 h3)⟩, hB.trans hbel⟩
  have e : k = b := e
  subst e
  have := hE.2 _ cs t m hk h1 h2 h3
  rw [hb] at this; cases this; exact h3 rfl
set_option maxRecDepth 100000 in
set_option maxHeartbeats 8000000 in
theorem take_last {B hp k : Nat} {ps : List Nat} {it : Nat → It} {w : World} (h : Hp B hp k ps it w) (hl : ps.length < 1000) (hh : HeapP (fun a c => ltI (it a) (it c)) ps.length 0 ps) {n b : Nat} (hn : ps.length = n + 1) (hb : ps[0]? = some b) (htl : (it b).tl = []) :
    Calls Try.prog 31 #[.pointer (some ⟨hp, 0, none⟩)] w fun e w' => e = .returned (rowV (it b).hd) ∧ TakeD B hp k ps it b w w' := by
  have hbm : b ∈ ps := List.mem_of_getElem? hb
  have hbB := (h.item b hbm).2
  have hbig := h.big
  have h0 := h.below (below_alloc w (.cells #[.string ⟨#[]⟩, .int .u64 0, .int .i64 0, .string ⟨#[]⟩] 38))
  have TC := Lib.hid (htop_any h0 (by omega) hh hn hb)
  have I0 := (h0.item b hbm).1
  have nd := h.nodup
  obtain ⟨X, hX⟩ := named (it b).hd
  rw [← hX.out]
  have TA := ta_rest (.pointer (some ⟨b, 0, none⟩))
  have R0 : Hid ((w.alloc (.cells #[.string ⟨#[]⟩, .int .u64 0, .int .i64 0, .string ⟨#[]⟩] 38)).heap[w.heap.size]? = some (.cells #[.string ⟨#[]⟩, .int .u64 0, .int .i64 0, .string ⟨#[]⟩] 38)) := Lib.hid (heap_alloc_new w _)
  have W0 : Hid (ElseM w (w.alloc (.cells #[.string ⟨#[]⟩, .int .u64 0, .int .i64 0, .string ⟨#[]⟩] 38)) ∧ Below B w (w.alloc (.cells #[.string ⟨#[]⟩, .int .u64 0, .int .i64 0, .string ⟨#[]⟩] 38))) := Lib.hid ⟨(ElseH.of_below (below_alloc w _)).m, (below_alloc w _).mono hbig⟩
  have I0 := Lib.hid I0
  have hfin : Hid (∀ (W F : World) (a b c d : Value) (cs : Array Value), W.heap[w.heap.size]? = some (.cells cs 38 (0, 0)) → F = ((((W.setCell ⟨w.heap.size, 0, none⟩ a).setCell ⟨w.heap.size, 1, none⟩ b).setCell ⟨w.heap.size, 2, none⟩ c).setCell ⟨w.heap.size, 3, none⟩ d) → ElseM w W → Below B w W → ElseM w F ∧ Below B w F ∧ (∀ qs it', Hp B hp k qs it' W → Hp B hp k qs it' F)) := Lib.hid (fun W F a b c d cs hR hF hE hB => by
    obtain ⟨F', hF', f1, f2, f3⟩ := res_row hR a b c d
    have e : F = F' := by rw [hF, hF']
    subst e
    refine ⟨⟨Nat.le_trans hE.1 (f2 _ (Nat.le_refl _)).size, fun k cs t m hk h1 h2 h3 => (f1 k fun e => ?_).trans (hE.2 k cs t m hk h1 h2 h3)⟩, hB.trans (f2 B hbig), fun qs it' hq => hq.keepR (f2 B hbig) f3⟩
    have := (Array.getElem?_eq_some_iff.1 hk).1
    omega)
  obtain ⟨xk, xs, xi, xv⟩ := X
  clear h h0 hh
  go_enter Try.func31, Try.ntmps31
  go_wp2_with fail
  refine TC.out.mono ?_
  rintro e w1 ⟨rfl, qs, hq1, hq2, hq3⟩
  have I1 := I0.out.els hq3.els hq3.bel
  have R1 := Lib.hid (hq3.els.2 _ _ _ _ R0.out (by decide) (by decide))
  have D1 := Lib.hid hq3
  have Q1 := Lib.hid hq1
  have Q2 := Lib.hid hq2
  have hbq : Hid (b ∉ qs) := Lib.hid (fun hm => by have := (hq1.nodup_iff).2 nd; exact (List.nodup_cons.1 this).1 hm)
  obtain ⟨a, n1, c, bb, o, i1, i2, i3⟩ := I1
  have hn1 : n1 = (it b).tl.length + 1 := by
    have := i2.len
    simp at this
    omega
  obtain ⟨rfl, _⟩ := i2.addr (by omega)
  rw [htl] at hn1
  replace hn1 : n1 = 1 := hn1
  subst hn1
  by_cases hc : c = 1
  · subst hc
    obtain ⟨j0, j1, jf, _⟩ := two_cells i1
    obtain ⟨x0, x1, x2, x3⟩ := i2.at' 0 _ rfl
    rw [Nat.zero_mul, Nat.add_zero, ← hX.out] at x0 x1 x2 x3
    simp only at x0 x1 x2 x3
    have icap := i2.cap
    have imost := i2.most
    have i1 := Lib.hid i1
    have i2 := Lib.hid i2
    have i3 := Lib.hid i3
    clear hq1 hq2 hq3
    have hpA : Hid (fromA (some ⟨bb, o, none⟩) 1 1 = some ⟨bb, o, none⟩) := Lib.hid (by unfold fromA; simp)
    have E2 : Hid (ElseM w (w1.alloc (.cells #[.string xk, .int .u64 (xs : Int), .int .i64 xi, .string xv] 38)) ∧ Below B w (w1.alloc (.cells #[.string xk, .int .u64 (xs : Int), .int .i64 xi, .string xv] 38))) := Lib.hid ⟨W0.out.1.trans (D1.out.els.m.trans (ElseH.of_below (below_alloc w1 _)).m), W0.out.2.trans (D1.out.bel.trans ((below_alloc w1 _).mono D1.out.hp.big))⟩
    have j0' : (w1.alloc (.cells #[.string xk, .int .u64 (xs : Int), .int .i64 xi, .string xv] 38)).cell? ⟨b, 0, none⟩ = some (.slice (some ⟨bb, o, none⟩) 1 1) := cell_keep (below_alloc _ _) j0
    have i1' : Hid ((w1.alloc (.cells #[.string xk, .int .u64 (xs : Int), .int .i64 xi, .string xv] 38)).heap[b]? = some (.cells #[.slice (some ⟨bb, o, none⟩) 1 1, .int .i64 ((it b).num : Int)] 79 (0, 0))) := Lib.hid (((below_alloc w1 _).block b (Array.getElem?_eq_some_iff.1 i1.out).1).trans i1.out)
    have j0f : (w1.alloc (.cells #[.string xk, .int .u64 (xs : Int), .int .i64 xi, .string xv] 38)).frozen? ⟨b, 0, none⟩ = false := (two_cells i1'.out).2.2.1
    have X2 : Hid (RowAt w1.heap.size ⟨xk, xs, xi, xv⟩ (w1.alloc (.cells #[.string xk, .int .u64 (xs : Int), .int .i64 xi, .string xv] 38))) := Lib.hid (RowAt.new ⟨xk, xs, xi, xv⟩ w1)
    have R2 : Hid ((w1.alloc (.cells #[.string xk, .int .u64 (xs : Int), .int .i64 xi, .string xv] 38)).heap[w.heap.size]? = some (.cells #[.string ⟨#[]⟩, .int .u64 0, .int .i64 0, .string ⟨#[]⟩] 38)) := Lib.hid (((below_alloc w1 _).block _ (Array.getElem?_eq_some_iff.1 R1.out).1).trans R1.out)
    obtain ⟨W3, hW3⟩ : ∃ W, W = (w1.alloc (.cells #[.string xk, .int .u64 (xs : Int), .int .i64 xi, .string xv] 38)).setCell ⟨b, 0, none⟩ (.slice (some ⟨bb, o, none⟩) 0 0) := ⟨_, rfl⟩
    have H3 : Hid (Hp B hp k qs it W3) := Lib.hid (by rw [hW3]; exact (D1.out.hp.below (below_alloc w1 _)).out hbq.out hbB i1'.out)
    have E3 : Hid (ElseM w W3 ∧ Below B w W3) := Lib.hid (by rw [hW3]; exact els_out E2.out.1 E2.out.2 hbB i1'.out _)
    have hb3 : Hid (W3.heap[b]? = some (.cells #[.slice (some ⟨bb, o, none⟩) 0 0, .int .i64 ((it b).num : Int)] 79 (0, 0))) := Lib.hid (by rw [hW3]; exact heap_setCell_same _ _ 0 _ _ _ i1'.out)
    have X3 : Hid (RowAt w1.heap.size ⟨xk, xs, xi, xv⟩ W3) := Lib.hid (by
      rw [hW3]
      refine (heap_setCell_other _ _ _ _ (fun e => ?_)).trans X2.out
      have h1 := X2.out
      have e : w1.heap.size = b := e
      unfold RowAt at h1
      rw [e, i1'.out] at h1; cases h1)
    have R3 : Hid (W3.heap[w.heap.size]? = some (.cells #[.string ⟨#[]⟩, .int .u64 0, .int .i64 0, .string ⟨#[]⟩] 38)) := Lib.hid (by
      rw [hW3]
      refine (heap_setCell_other _ _ _ _ (fun e => ?_)).trans R2.out
      have h1 := R2.out
      have e : w.heap.size = b := e
      rw [e, i1'.out] at h1; cases h1)
    have I3 : Hid (Rs (some ⟨bb, o, none⟩) 0 0 bb (o + 4) (it b).tl W3) := Lib.hid (by
      have h1 := i2.out.below (below_alloc w1 (.cells #[.string xk, .int .u64 (xs : Int), .int .i64 xi, .string xv] 38)) (Nat.le_refl _)
      have h2 := h1.from (k := 1) (by omega)
      rw [hpA.out] at h2
      rw [Nat.one_mul] at h2
      have h3 := (els_out E2.out.1 E2.out.2 hbB i1'.out (.slice (some ⟨bb, o, none⟩) 0 0)).2
      rw [← hW3] at h3
      have hB2 : Below B (w1.alloc (.cells #[.string xk, .int .u64 (xs : Int), .int .i64 xi, .string xv] 38)) W3 := by rw [hW3]; exact (Below.refl B _).setCell (p := ⟨b, 0, none⟩) hbB _
      exact h2.keep (fun _ => hB2.block bb i3.out) hB2.size)
    have j3 := (two_cells hb3.out).1
    go_upto_region 4 with fail
    rw [← hW3]
    clear hW3
    obtain ⟨⟨y0, y1, y2, y3⟩, _⟩ := X3.out.cells
    obtain ⟨⟨z0, z1, z2, z3⟩, z4⟩ := RowAt.cells (x := ⟨⟨#[]⟩, 0, 0, ⟨#[]⟩⟩) R3.out
    clear x0 x1 x2 x3 j0 j0' j0f jf j1
    go_wp2_with fail
    all_goals (
      refine bodyPost_ret (v := rowV ⟨xk, xs, xi, xv⟩) (by simp [results, Try.results31, go_sem, y0, y1, y2, y3, z0, z1, z2, z3]) rfl ⟨by first | rfl | rw [hX.out], ?_⟩
      obtain ⟨f1, f2, f3⟩ := hfin.out _ _ _ _ _ _ _ R3.out rfl E3.out.1 E3.out.2
      exact ⟨f1, f2, .inl ⟨htl, qs, Q1.out, Q2.out, f3 _ _ H3.out⟩⟩)
  · skip
    obtain ⟨j0, j1, jf, _⟩ := two_cells i1
    obtain ⟨x0, x1, x2, x3⟩ := i2.at' 0 _ rfl
    rw [Nat.zero_mul, Nat.add_zero, ← hX.out] at x0 x1 x2 x3
    simp only at x0 x1 x2 x3
    have icap := i2.cap
    have imost := i2.most
    have i1 := Lib.hid i1
    have i2 := Lib.hid i2
    have i3 := Lib.hid i3
    clear hq1 hq2 hq3
    have hpA : Hid (fromA (some ⟨bb, o, none⟩) c 1 = some ⟨bb, o + 4, none⟩) := Lib.hid (by unfold fromA; rw [if_neg hc]; simp [addr_add])
    have E2 : Hid (ElseM w (w1.alloc (.cells #[.string xk, .int .u64 (xs : Int), .int .i64 xi, .string xv] 38)) ∧ Below B w (w1.alloc (.cells #[.string xk, .int .u64 (xs : Int), .int .i64 xi, .string xv] 38))) := Lib.hid ⟨W0.out.1.trans (D1.out.els.m.trans (ElseH.of_below (below_alloc w1 _)).m), W0.out.2.trans (D1.out.bel.trans ((below_alloc w1 _).mono D1.out.hp.big))⟩
    have j0' : (w1.alloc (.cells #[.string xk, .int .u64 (xs : Int), .int .i64 xi, .string xv] 38)).cell? ⟨b, 0, none⟩ = some (.slice (some ⟨bb, o, none⟩) 1 c) := cell_keep (below_alloc _ _) j0
    have i1' : Hid ((w1.alloc (.cells #[.string xk, .int .u64 (xs : Int), .int .i64 xi, .string xv] 38)).heap[b]? = some (.cells #[.slice (some ⟨bb, o, none⟩) 1 c, .int .i64 ((it b).num : Int)] 79 (0, 0))) := Lib.hid (((below_alloc w1 _).block b (Array.getElem?_eq_some_iff.1 i1.out).1).trans i1.out)
    have j0f : (w1.alloc (.cells #[.string xk, .int .u64 (xs : Int), .int .i64 xi, .string xv] 38)).frozen? ⟨b, 0, none⟩ = false := (two_cells i1'.out).2.2.1
    have X2 : Hid (RowAt w1.heap.size ⟨xk, xs, xi, xv⟩ (w1.alloc (.cells #[.string xk, .int .u64 (xs : Int), .int .i64 xi, .string xv] 38))) := Lib.hid (RowAt.new ⟨xk, xs, xi, xv⟩ w1)
    have R2 : Hid ((w1.alloc (.cells #[.string xk, .int .u64 (xs : Int), .int .i64 xi, .string xv] 38)).heap[w.heap.size]? = some (.cells #[.string ⟨#[]⟩, .int .u64 0, .int .i64 0, .string ⟨#[]⟩] 38)) := Lib.hid (((below_alloc w1 _).block _ (Array.getElem?_eq_some_iff.1 R1.out).1).trans R1.out)
    obtain ⟨W3, hW3⟩ : ∃ W, W = (w1.alloc (.cells #[.string xk, .int .u64 (xs : Int), .int .i64 xi, .string xv] 38)).setCell ⟨b, 0, none⟩ (.slice (some ⟨bb, o + 4, none⟩) 0 (c - 1)) := ⟨_, rfl⟩
    have H3 : Hid (Hp B hp k qs it W3) := Lib.hid (by rw [hW3]; exact (D1.out.hp.below (below_alloc w1 _)).out hbq.out hbB i1'.out)
    have E3 : Hid (ElseM w W3 ∧ Below B w W3) := Lib.hid (by rw [hW3]; exact els_out E2.out.1 E2.out.2 hbB i1'.out _)
    have hb3 : Hid (W3.heap[b]? = some (.cells #[.slice (some ⟨bb, o + 4, none⟩) 0 (c - 1), .int .i64 ((it b).num : Int)] 79 (0, 0))) := Lib.hid (by rw [hW3]; exact heap_setCell_same _ _ 0 _ _ _ i1'.out)
    have X3 : Hid (RowAt w1.heap.size ⟨xk, xs, xi, xv⟩ W3) := Lib.hid (by
      rw [hW3]
      refine (heap_setCell_other _ _ _ _ (fun e => ?_)).trans X2.out
      have h1 := X2.out
      have e : w1.heap.size = b := e
      unfold RowAt at h1
      rw [e, i1'.out] at h1; cases h1)
    have R3 : Hid (W3.heap[w.heap.size]? = some (.cells #[.string ⟨#[]⟩, .int .u64 0, .int .i64 0, .string ⟨#[]⟩] 38)) := Lib.hid (by
      rw [hW3]
      refine (heap_setCell_other _ _ _ _ (fun e => ?_)).trans R2.out
      have h1 := R2.out
      have e : w.heap.size = b := e
      rw [e, i1'.out] at h1; cases h1)
    have I3 : Hid (Rs (some ⟨bb, o + 4, none⟩) 0 (c - 1) bb (o + 4) (it b).tl W3) := Lib.hid (by
      have h1 := i2.out.below (below_alloc w1 (.cells #[.string xk, .int .u64 (xs : Int), .int .i64 xi, .string xv] 38)) (Nat.le_refl _)
      have h2 := h1.from (k := 1) (by omega)
      rw [hpA.out] at h2
      rw [Nat.one_mul] at h2
      have h3 := (els_out E2.out.1 E2.out.2 hbB i1'.out (.slice (some ⟨bb, o + 4, none⟩) 0 (c - 1))).2
      rw [← hW3] at h3
      have hB2 : Below B (w1.alloc (.cells #[.string xk, .int .u64 (xs : Int), .int .i64 xi, .string xv] 38)) W3 := by rw [hW3]; exact (Below.refl B _).setCell (p := ⟨b, 0, none⟩) hbB _
      exact h2.keep (fun _ => hB2.block bb i3.out) hB2.size)
    have j3 := (two_cells hb3.out).1
    go_upto_region 4 with fail
    rw [← hW3]
    clear hW3
    obtain ⟨⟨y0, y1, y2, y3⟩, _⟩ := X3.out.cells
    obtain ⟨⟨z0, z1, z2, z3⟩, z4⟩ := RowAt.cells (x := ⟨⟨#[]⟩, 0, 0, ⟨#[]⟩⟩) R3.out
    clear x0 x1 x2 x3 j0 j0' j0f jf j1
    go_wp2_with fail
    all_goals (
      refine bodyPost_ret (v := rowV ⟨xk, xs, xi, xv⟩) (by simp [results, Try.results31, go_sem, y0, y1, y2, y3, z0, z1, z2, z3]) rfl ⟨by first | rfl | rw [hX.out], ?_⟩
      obtain ⟨f1, f2, f3⟩ := hfin.out _ _ _ _ _ _ _ R3.out rfl E3.out.1 E3.out.2
      exact ⟨f1, f2, .inl ⟨htl, qs, Q1.out, Q2.out, f3 _ _ H3.out⟩⟩)
set_option maxRecDepth 100000 in
set_option maxHeartbeats 8000000 in
theorem take_more {B hp k : Nat} {ps : List Nat} {it : Nat → It} {w : World} (h : Hp B hp k ps it w) (hl : ps.length < 1000) (hh : HeapP (fun a c => ltI (it a) (it c)) ps.length 0 ps) {n b : Nat} (hn : ps.length = n + 1) (hb : ps[0]? = some b) {y : Rw} {tl : List Rw} (htl : (it b).tl = y :: tl) :
    Calls Try.prog 31 #[.pointer (some ⟨hp, 0, none⟩)] w fun e w' => e = .returned (rowV (it b).hd) ∧ TakeD B hp k ps it b w w' := by
  have hbm : b ∈ ps := List.mem_of_getElem? hb
  have hbB := (h.item b hbm).2
  have hbig := h.big
  have h0 := h.below (below_alloc w (.cells #[.string ⟨#[]⟩, .int .u64 0, .int .i64 0, .string ⟨#[]⟩] 38))
  have TC := Lib.hid (htop_any h0 (by omega) hh hn hb)
  have I0 := (h0.item b hbm).1
  have nd := h.nodup
  obtain ⟨X, hX⟩ := named (it b).hd
  rw [← hX.out]
  have TA := ta_rest (.pointer (some ⟨b, 0, none⟩))
  have R0 : Hid ((w.alloc (.cells #[.string ⟨#[]⟩, .int .u64 0, .int .i64 0, .string ⟨#[]⟩] 38)).heap[w.heap.size]? = some (.cells #[.string ⟨#[]⟩, .int .u64 0, .int .i64 0, .string ⟨#[]⟩] 38)) := Lib.hid (heap_alloc_new w _)
  have W0 : Hid (ElseM w (w.alloc (.cells #[.string ⟨#[]⟩, .int .u64 0, .int .i64 0, .string ⟨#[]⟩] 38)) ∧ Below B w (w.alloc (.cells #[.string ⟨#[]⟩, .int .u64 0, .int .i64 0, .string ⟨#[]⟩] 38))) := Lib.hid ⟨(ElseH.of_below (below_alloc w _)).m, (below_alloc w _).mono hbig⟩
  have I0 := Lib.hid I0
  have hfin : Hid (∀ (W F : World) (a b c d : Value) (cs : Array Value), W.heap[w.heap.size]? = some (.cells cs 38 (0, 0)) → F = ((((W.setCell ⟨w.heap.size, 0, none⟩ a).setCell ⟨w.heap.size, 1, none⟩ b).setCell ⟨w.heap.size, 2, none⟩ c).setCell ⟨w.heap.size, 3, none⟩ d) → ElseM w W → Below B w W → ElseM w F ∧ Below B w F ∧ (∀ qs it', Hp B hp k qs it' W → Hp B hp k qs it' F)) := Lib.hid (fun W F a b c d cs hR hF hE hB => by
    obtain ⟨F', hF', f1, f2, f3⟩ := res_row hR a b c d
    have e : F = F' := by rw [hF, hF']
    subst e
    refine ⟨⟨Nat.le_trans hE.1 (f2 _ (Nat.le_refl _)).size, fun k cs t m hk h1 h2 h3 => (f1 k fun e => ?_).trans (hE.2 k cs t m hk h1 h2 h3)⟩, hB.trans (f2 B hbig), fun qs it' hq => hq.keepR (f2 B hbig) f3⟩
    have := (Array.getElem?_eq_some_iff.1 hk).1
    omega)
  obtain ⟨xk, xs, xi, xv⟩ := X
  clear h h0 hh
  go_enter Try.func31, Try.ntmps31
  go_wp2_with fail
  refine TC.out.mono ?_
  rintro e w1 ⟨rfl, qs, hq1, hq2, hq3⟩
  have I1 := I0.out.els hq3.els hq3.bel
  have R1 := Lib.hid (hq3.els.2 _ _ _ _ R0.out (by decide) (by decide))
  have D1 := Lib.hid hq3
  have Q1 := Lib.hid hq1
  have Q2 := Lib.hid hq2
  have hbq : Hid (b ∉ qs) := Lib.hid (fun hm => by have := (hq1.nodup_iff).2 nd; exact (List.nodup_cons.1 this).1 hm)
  obtain ⟨a, n1, c, bb, o, i1, i2, i3⟩ := I1
  have hn1 : n1 = (it b).tl.length + 1 := by
    have := i2.len
    simp at this
    omega
  obtain ⟨rfl, _⟩ := i2.addr (by omega)
  rw [htl] at hn1 
  simp only [List.length_cons] at hn1
  have hc : ¬ c = 1 := by have := i2.cap; omega
  have n1p : 2 ≤ n1 := by omega
  replace hn1 := Lib.hid hn1
  have n1i : (1 : Int) ≤ (n1 : Int) := by omega
  obtain ⟨j0, j1, jf, _⟩ := two_cells i1
  obtain ⟨x0, x1, x2, x3⟩ := i2.at' 0 _ rfl
  rw [Nat.zero_mul, Nat.add_zero, ← hX.out] at x0 x1 x2 x3
  simp only at x0 x1 x2 x3
  have icap := i2.cap
  have imost := i2.most
  have i1 := Lib.hid i1
  have i2 := Lib.hid i2
  have i3 := Lib.hid i3
  clear hq1 hq2 hq3
  have hpA : Hid (fromA (some ⟨bb, o, none⟩) c 1 = some ⟨bb, o + 4, none⟩) := Lib.hid (by unfold fromA; rw [if_neg hc]; simp [addr_add])
  have E2 : Hid (ElseM w (w1.alloc (.cells #[.string xk, .int .u64 (xs : Int), .int .i64 xi, .string xv] 38)) ∧ Below B w (w1.alloc (.cells #[.string xk, .int .u64 (xs : Int), .int .i64 xi, .string xv] 38))) := Lib.hid ⟨W0.out.1.trans (D1.out.els.m.trans (ElseH.of_below (below_alloc w1 _)).m), W0.out.2.trans (D1.out.bel.trans ((below_alloc w1 _).mono D1.out.hp.big))⟩
  have j0' : (w1.alloc (.cells #[.string xk, .int .u64 (xs : Int), .int .i64 xi, .string xv] 38)).cell? ⟨b, 0, none⟩ = some (.slice (some ⟨bb, o, none⟩) n1 c) := cell_keep (below_alloc _ _) j0
  have i1' : Hid ((w1.alloc (.cells #[.string xk, .int .u64 (xs : Int), .int .i64 xi, .string xv] 38)).heap[b]? = some (.cells #[.slice (some ⟨bb, o, none⟩) n1 c, .int .i64 ((it b).num : Int)] 79 (0, 0))) := Lib.hid (((below_alloc w1 _).block b (Array.getElem?_eq_some_iff.1 i1.out).1).trans i1.out)
  have j0f : (w1.alloc (.cells #[.string xk, .int .u64 (xs : Int), .int .i64 xi, .string xv] 38)).frozen? ⟨b, 0, none⟩ = false := (two_cells i1'.out).2.2.1
  have X2 : Hid (RowAt w1.heap.size ⟨xk, xs, xi, xv⟩ (w1.alloc (.cells #[.string xk, .int .u64 (xs : Int), .int .i64 xi, .string xv] 38))) := Lib.hid (RowAt.new ⟨xk, xs, xi, xv⟩ w1)
  have R2 : Hid ((w1.alloc (.cells #[.string xk, .int .u64 (xs : Int), .int .i64 xi, .string xv] 38)).heap[w.heap.size]? = some (.cells #[.string ⟨#[]⟩, .int .u64 0, .int .i64 0, .string ⟨#[]⟩] 38)) := Lib.hid (((below_alloc w1 _).block _ (Array.getElem?_eq_some_iff.1 R1.out).1).trans R1.out)
  obtain ⟨W3, hW3⟩ : ∃ W, W = (w1.alloc (.cells #[.string xk, .int .u64 (xs : Int), .int .i64 xi, .string xv] 38)).setCell ⟨b, 0, none⟩ (.slice (some ⟨bb, o + 4, none⟩) (n1 - 1) (c - 1)) := ⟨_, rfl⟩
  have H3 : Hid (Hp B hp k qs it W3) := Lib.hid (by rw [hW3]; exact (D1.out.hp.below (below_alloc w1 _)).out hbq.out hbB i1'.out)
  have E3 : Hid (ElseM w W3 ∧ Below B w W3) := Lib.hid (by rw [hW3]; exact els_out E2.out.1 E2.out.2 hbB i1'.out _)
  have hb3 : Hid (W3.heap[b]? = some (.cells #[.slice (some ⟨bb, o + 4, none⟩) (n1 - 1) (c - 1), .int .i64 ((it b).num : Int)] 79 (0, 0))) := Lib.hid (by rw [hW3]; exact heap_setCell_same _ _ 0 _ _ _ i1'.out)
  have X3 : Hid (RowAt w1.heap.size ⟨xk, xs, xi, xv⟩ W3) := Lib.hid (by
    rw [hW3]
    refine (heap_setCell_other _ _ _ _ (fun e => ?_)).trans X2.out
    have h1 := X2.out
    have e : w1.heap.size = b := e
    unfold RowAt at h1
    rw [e, i1'.out] at h1; cases h1)
  have R3 : Hid (W3.heap[w.heap.size]? = some (.cells #[.string ⟨#[]⟩, .int .u64 0, .int .i64 0, .string ⟨#[]⟩] 38)) := Lib.hid (by
    rw [hW3]
    refine (heap_setCell_other _ _ _ _ (fun e => ?_)).trans R2.out
    have h1 := R2.out
    have e : w.heap.size = b := e
    rw [e, i1'.out] at h1; cases h1)
  have I3 : Hid (Rs (some ⟨bb, o + 4, none⟩) (n1 - 1) (c - 1) bb (o + 4) (it b).tl W3) := Lib.hid (by
    have h1 := i2.out.below (below_alloc w1 (.cells #[.string xk, .int .u64 (xs : Int), .int .i64 xi, .string xv] 38)) (Nat.le_refl _)
    have h2 := h1.from (k := 1) (by omega)
    rw [hpA.out] at h2
    rw [Nat.one_mul] at h2
    have h3 := (els_out E2.out.1 E2.out.2 hbB i1'.out (.slice (some ⟨bb, o + 4, none⟩) (n1 - 1) (c - 1))).2
    rw [← hW3] at h3
    have hB2 : Below B (w1.alloc (.cells #[.string xk, .int .u64 (xs : Int), .int .i64 xi, .string xv] 38)) W3 := by rw [hW3]; exact (Below.refl B _).setCell (p := ⟨b, 0, none⟩) hbB _
    exact h2.keep (fun _ => hB2.block bb i3.out) hB2.size)
  have j3 := (two_cells hb3.out).1
  go_upto_region 4 with fail
  rw [← hW3]
  clear hW3
  clear x0 x1 x2 x3 j0 j0' j0f jf j1
  have IT : ItemAt B b ⟨(it b).num, y, tl⟩ W3 := by
    have h3 := I3.out
    rw [htl] at h3
    exact ⟨_, _, _, _, _, hb3.out, h3, i3.out⟩
  have PC := Lib.hid (hpush_any H3.out (by have := Q1.out.length_eq; simp at this; omega) Q2.out IT hbB hbq.out)
  clear IT
  have k1 : (0 : Int) < ((n1 - 1 : Nat) : Int) := by omega
  have k2 : 0 < n1 - 1 := by omega
  go_wp2_with (go_at_call 44; ((with_reducible refine PC.out.mono ?_); rintro e w4 ⟨rfl, rs, hr1, hr2, hr3⟩; have P4 := Lib.hid hr1; have G4 := Lib.hid hr2; have D4 := Lib.hid hr3; have X4 := Lib.hid (hr3.els.2 _ _ _ _ X3.out (by decide) (by decide)); have R4 := Lib.hid (hr3.els.2 _ _ _ _ R3.out (by decide) (by decide)); have E4 : Hid (ElseM w w4 ∧ Below B w w4) := Lib.hid ⟨E3.out.1.trans hr3.els.m, E3.out.2.trans hr3.bel⟩; clear hr1 hr2 hr3; obtain ⟨⟨y0, y1, y2, y3⟩, _⟩ := RowAt.cells (x := ⟨xk, xs, xi, xv⟩) X4.out; obtain ⟨⟨z0, z1, z2, z3⟩, z4⟩ := RowAt.cells (x := ⟨⟨#[]⟩, 0, 0, ⟨#[]⟩⟩) R4.out))
  all_goals (
    refine bodyPost_ret (v := rowV ⟨xk, xs, xi, xv⟩) (by simp [results, Try.results31, go_sem, y0, y1, y2, y3, z0, z1, z2, z3]) rfl ⟨by first | rfl | rw [hX.out], ?_⟩
    obtain ⟨f1, f2, f3⟩ := hfin.out _ _ _ _ _ _ _ R4.out rfl E4.out.1 E4.out.2
    exact ⟨f1, f2, .inr ⟨y, tl, htl, rs, P4.out.trans ((List.perm_append_singleton b qs).trans Q1.out), G4.out, f3 _ _ D4.out.hp⟩⟩)
theorem take_any {B hp k : Nat} {ps : List Nat} {it : Nat → It} {w : World} (h : Hp B hp k ps it w) (hl : ps.length < 1000) (hh : HeapP (fun a c => ltI (it a) (it c)) ps.length 0 ps) {n b : Nat} (hn : ps.length = n + 1) (hb : ps[0]? = some b) :
    Calls Try.prog 31 #[.pointer (some ⟨hp, 0, none⟩)] w fun e w' => e = .returned (rowV (it b).hd) ∧ TakeD B hp k ps it b w w' := by
  cases htl : (it b).tl with
  | nil => exact take_last h hl hh hn hb htl
  | cons y tl => exact take_more h hl hh hn hb htl
end Go.Proofs.Ytlnklpnldmcopaa
