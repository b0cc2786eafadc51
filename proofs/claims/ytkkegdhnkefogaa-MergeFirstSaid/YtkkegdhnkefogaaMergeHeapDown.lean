/-
  Sifting down; Init, Push and Pop of the heap. Condition: at most 1000 lists.
-/
import Derived.Test.YtkkegdhnkefogaaMergeHeapPop
namespace Go.Proofs.Ytkkegdhnkefogaa
set_option maxRecDepth 100000
open Go.RowKit
set_option maxRecDepth 100000 in
set_option maxHeartbeats 8000000 in
theorem down_any {B hp k : Nat} {ps : List Nat} {it : Nat → It} {w : World} (h : Hp B hp k ps it w) {i0 n : Nat} (hn : n ≤ ps.length) (hl : ps.length ≤ 1000) (hi0 : i0 ≤ 1000) (hu : HeapP (fun a b => ltI (it a) (it b)) n (i0 + 1) ps) :
    Calls Try.prog 52 #[.iface 49 (.pointer (some ⟨hp, 0, none⟩)), .int .i64 (i0 : Int), .int .i64 (n : Int)] w fun e w' => ∃ R : Bool, e = .returned (.bool R) ∧ ∃ qs, qs.Perm ps ∧ HeapP (fun a b => ltI (it a) (it b)) n i0 qs ∧ (∀ c, n ≤ c → qs.getD c 0 = ps.getD c 0) ∧ HpD B hp k qs it w w' := by
  suffices hh : Calls Try.prog 52 #[.iface 49 (.pointer (some ⟨hp, 0, none⟩)), .int .i64 (i0 : Int), .int .i64 (n : Int)] w fun e w' => ∃ v, e = .returned v ∧ (∃ R : Bool, v = .bool R) ∧ ∃ qs, qs.Perm ps ∧ HeapP (fun a b => ltI (it a) (it b)) n i0 qs ∧ (∀ c, n ≤ c → qs.getD c 0 = ps.getD c 0) ∧ HpD B hp k qs it w w' from
    hh.mono fun e w' ⟨v, he, ⟨R, hR⟩, hr⟩ => ⟨R, by rw [he, hR], hr⟩
  have h := Lib.hid h
  have hu := Lib.hid hu
  go_enter Try.func52, Try.ntmps52
  go_wp2_with fail
  go_loopw [7] (fun iv wr => ∃ (i : Nat) (qs : List Nat), i0 ≤ i ∧ i ≤ 1000 ∧ iv = .int .i64 (i : Int) ∧ Hid (qs.Perm ps) ∧ Hid (DownI (fun a b => ltI (it a) (it b)) n i0 i qs) ∧ Hid (∀ c, n ≤ c → qs.getD c 0 = ps.getD c 0) ∧ Hid (HpD B hp k qs it w wr)) (fun iv _ => n - (intOf iv).toNat)
  case atStart => exact ⟨i0, ps, Nat.le_refl _, hi0, rfl, Lib.hid (List.Perm.refl _), Lib.hid (DownI.start hu.out), Lib.hid (fun _ _ => rfl), Lib.hid (HpD.refl h.out)⟩
  case round =>
    obtain ⟨i, qs, hki, hi1000, rfl, hp1, hd1, hsame, hD⟩ := hrel
    have hnq : n ≤ qs.length := by rw [hp1.out.length_eq]; exact hn
    have hql : qs.length ≤ 1000 := by rw [hp1.out.length_eq]; exact hl
    have B0 : Hid (Below wr.heap.size wr wr) := Lib.hid (Below.refl _ _)
    by_cases hA : n ≤ 2 * i + 1
    · have e0 : (n : Int) ≤ 2 * (i : Int) + 1 := by omega
      have hfin := Lib.hid (hd1.out.done (fun c hc0 hcn hpc => by unfold par at hpc; omega))
      go_wp2_with fail
      go_returns
      exact ⟨_, rfl, ⟨_, rfl⟩, qs, hp1.out, hfin.out, hsame.out, hD.out⟩
    · have e0 : ¬ (n : Int) ≤ 2 * (i : Int) + 1 := by omega
      have e1 : ¬ 2 * (i : Int) + 1 < 0 := by omega
      have gi : qs[i]? = some (qs.getD i 0) := by rw [List.getD_eq_getElem?_getD, List.getElem?_eq_getElem (show i < qs.length by omega)]; rfl
      have g1 : qs[2 * i + 1]? = some (qs.getD (2 * i + 1) 0) := by rw [List.getD_eq_getElem?_getD, List.getElem?_eq_getElem (show 2 * i + 1 < qs.length by omega)]; rfl
      by_cases hB : 2 * i + 2 < n
      · have e2 : 2 * (i : Int) + 1 + 1 < (n : Int) := by omega
        have g2 : qs[2 * i + 2]? = some (qs.getD (2 * i + 2) 0) := by rw [List.getD_eq_getElem?_getD, List.getElem?_eq_getElem (show 2 * i + 2 < qs.length by omega)]; rfl
        obtain ⟨T2, hT2⟩ := named (ltI (it (qs.getD (2 * i + 2) 0)) (it (qs.getD (2 * i + 1) 0)))
        have LC2 := less_any hD.out.hp g2 g1
        rw [show ((2 * i + 2 : Nat) : Int) = 2 * (i : Int) + 1 + 1 by omega, show ((2 * i + 1 : Nat) : Int) = 2 * (i : Int) + 1 by omega, ← hT2.out] at LC2
        have LC2 := Lib.hid LC2
        cases T2 with
        | true =>
          have hmin : Hid (∀ c, 0 < c → c < n → par c = i → ltI (it (qs.getD c 0)) (it (qs.getD (2 * i + 2) 0)) = false) := Lib.hid (fun c hc0 hcn hpc => by
            have hc : c = 2 * i + 1 ∨ c = 2 * i + 2 := by unfold par at hpc; omega
            rcases hc with rfl | rfl
            · exact (ordI it).asym _ _ hT2.out.symm
            · have := (ordI it).asym (qs.getD (2 * i + 2) 0) (qs.getD (2 * i + 2) 0)
              cases hq : ltI (it (qs.getD (2 * i + 2) 0)) (it (qs.getD (2 * i + 2) 0)) with
              | false => rfl
              | true => rw [← hq]; exact this hq)
          have gj := g2
          clear hT2
          obtain ⟨T, hT⟩ := named (ltI (it (qs.getD (2 * i + 2) 0)) (it (qs.getD i 0)))
          have LC := less_any hD.out.hp gj gi
          rw [show ((2 * i + 2 : Nat) : Int) = 2 * (i : Int) + 1 + 1 by omega, ← hT.out] at LC
          have LC := Lib.hid (fun (u : World) (hu : Below wr.heap.size wr u) => by
            have := less_any (hD.out.hp.below hu) gj gi
            rw [show ((2 * i + 2 : Nat) : Int) = 2 * (i : Int) + 1 + 1 by omega, ← hT.out] at this
            exact this)
          have SW := Lib.hid (fun (u : World) (hu : Hp B hp k qs it u) => by
            have := swap_any hu gi gj
            rw [show ((2 * i + 2 : Nat) : Int) = 2 * (i : Int) + 1 + 1 by omega] at this
            exact this)
          cases T with
          | false =>
            have hfin := Lib.hid (hd1.out.done (fun c hc0 hcn hpc => by
              have h1 := hmin.out c hc0 hcn hpc
              exact (ordI it).ntr _ _ _ h1 hT.out.symm))
            clear hT
            go_wp2_with (first
              | (go_at_call 91; ((with_reducible refine LC2.out.mono ?_); rintro e w0 ⟨rfl, hb0⟩; have B0 := Lib.hid hb0; clear hb0 LC2))
              | (go_at_call 91; ((with_reducible refine (LC.out _ B0.out).mono ?_); rintro e w1 ⟨rfl, hb1⟩; have D1 := Lib.hid (hD.out.below (below_of B0.out hb1)); clear hb1))
              | fail "no arm")
            go_returns
            exact ⟨_, rfl, ⟨_, rfl⟩, qs, hp1.out, hfin.out, hsame.out, D1.out⟩
          | true =>
            have hstep := hd1.out.step (ordI it) hnq (show 2 * i + 2 < n by omega) (by omega) (by unfold par; omega) hki hT.out.symm hmin.out
            have hperm2 := Lib.hid ((swp_perm (ps := qs) (i := i) (j := 2 * i + 2) (by omega) (by omega)).trans hp1.out)
            have hlen2 := Lib.hid (swp_len qs i (2 * i + 2))
            have hsame2 : Hid (∀ c, n ≤ c → (swp qs i (2 * i + 2)).getD c 0 = ps.getD c 0) := Lib.hid (fun c hc => by
              rw [swp_at (by omega) (by omega), if_neg (by omega), if_neg (by omega)]
              exact hsame.out c hc)
            have hstep := Lib.hid hstep
            clear hT
            go_wp2_with (first
              | (go_at_call 91; ((with_reducible refine LC2.out.mono ?_); rintro e w0 ⟨rfl, hb0⟩; have B0 := Lib.hid hb0; clear hb0 LC2))
              | (go_at_call 91; ((with_reducible refine (LC.out _ B0.out).mono ?_); rintro e w1 ⟨rfl, hb1⟩; have D1 := Lib.hid (hD.out.below (below_of B0.out hb1)); clear hb1))
              | (go_at_call 93; ((with_reducible refine (SW.out _ D1.out.hp).mono ?_); rintro e w2 ⟨rfl, hd2⟩; have D2 := Lib.hid (D1.out.trans hd2); clear hd2))
              | fail "no arm")
            go_roundw
            case rel => exact ⟨2 * i + 2, swp qs i (2 * i + 2), by omega, by omega, by rw [show ((2 * i + 2 : Nat) : Int) = 2 * (i : Int) + 1 + 1 by omega], hperm2, hstep, hsame2, D2⟩
            case measure => simp [intOf] <;> omega
        | false =>
          have hmin : Hid (∀ c, 0 < c → c < n → par c = i → ltI (it (qs.getD c 0)) (it (qs.getD (2 * i + 1) 0)) = false) := Lib.hid (fun c hc0 hcn hpc => by
            have hc : c = 2 * i + 1 ∨ c = 2 * i + 2 := by unfold par at hpc; omega
            rcases hc with rfl | rfl
            · have := (ordI it).asym (qs.getD (2 * i + 1) 0) (qs.getD (2 * i + 1) 0)
              cases hq : ltI (it (qs.getD (2 * i + 1) 0)) (it (qs.getD (2 * i + 1) 0)) with
              | false => rfl
              | true => rw [← hq]; exact this hq
            · exact hT2.out.symm)
          have gj := g1
          clear hT2
          obtain ⟨T, hT⟩ := named (ltI (it (qs.getD (2 * i + 1) 0)) (it (qs.getD i 0)))
          have LC := less_any hD.out.hp gj gi
          rw [show ((2 * i + 1 : Nat) : Int) = 2 * (i : Int) + 1 by omega, ← hT.out] at LC
          have LC := Lib.hid (fun (u : World) (hu : Below wr.heap.size wr u) => by
            have := less_any (hD.out.hp.below hu) gj gi
            rw [show ((2 * i + 1 : Nat) : Int) = 2 * (i : Int) + 1 by omega, ← hT.out] at this
            exact this)
          have SW := Lib.hid (fun (u : World) (hu : Hp B hp k qs it u) => by
            have := swap_any hu gi gj
            rw [show ((2 * i + 1 : Nat) : Int) = 2 * (i : Int) + 1 by omega] at this
            exact this)
          cases T with
          | false =>
            have hfin := Lib.hid (hd1.out.done (fun c hc0 hcn hpc => by
              have h1 := hmin.out c hc0 hcn hpc
              exact (ordI it).ntr _ _ _ h1 hT.out.symm))
            clear hT
            go_wp2_with (first
              | (go_at_call 91; ((with_reducible refine LC2.out.mono ?_); rintro e w0 ⟨rfl, hb0⟩; have B0 := Lib.hid hb0; clear hb0 LC2))
              | (go_at_call 91; ((with_reducible refine (LC.out _ B0.out).mono ?_); rintro e w1 ⟨rfl, hb1⟩; have D1 := Lib.hid (hD.out.below (below_of B0.out hb1)); clear hb1))
              | fail "no arm")
            go_returns
            exact ⟨_, rfl, ⟨_, rfl⟩, qs, hp1.out, hfin.out, hsame.out, D1.out⟩
          | true =>
            have hstep := hd1.out.step (ordI it) hnq (show 2 * i + 1 < n by omega) (by omega) (by unfold par; omega) hki hT.out.symm hmin.out
            have hperm2 := Lib.hid ((swp_perm (ps := qs) (i := i) (j := 2 * i + 1) (by omega) (by omega)).trans hp1.out)
            have hlen2 := Lib.hid (swp_len qs i (2 * i + 1))
            have hsame2 : Hid (∀ c, n ≤ c → (swp qs i (2 * i + 1)).getD c 0 = ps.getD c 0) := Lib.hid (fun c hc => by
              rw [swp_at (by omega) (by omega), if_neg (by omega), if_neg (by omega)]
              exact hsame.out c hc)
            have hstep := Lib.hid hstep
            clear hT
            go_wp2_with (first
              | (go_at_call 91; ((with_reducible refine LC2.out.mono ?_); rintro e w0 ⟨rfl, hb0⟩; have B0 := Lib.hid hb0; clear hb0 LC2))
              | (go_at_call 91; ((with_reducible refine (LC.out _ B0.out).mono ?_); rintro e w1 ⟨rfl, hb1⟩; have D1 := Lib.hid (hD.out.below (below_of B0.out hb1)); clear hb1))
              | (go_at_call 93; ((with_reducible refine (SW.out _ D1.out.hp).mono ?_); rintro e w2 ⟨rfl, hd2⟩; have D2 := Lib.hid (D1.out.trans hd2); clear hd2))
              | fail "no arm")
            go_roundw
            case rel => exact ⟨2 * i + 1, swp qs i (2 * i + 1), by omega, by omega, by rw [show ((2 * i + 1 : Nat) : Int) = 2 * (i : Int) + 1 by omega], hperm2, hstep, hsame2, D2⟩
            case measure => simp [intOf] <;> omega
      · have e2 : ¬ 2 * (i : Int) + 1 + 1 < (n : Int) := by omega
        have hmin : Hid (∀ c, 0 < c → c < n → par c = i → ltI (it (qs.getD c 0)) (it (qs.getD (2 * i + 1) 0)) = false) := Lib.hid (fun c hc0 hcn hpc => by
          have hc : c = 2 * i + 1 := by unfold par at hpc; omega
          subst hc
          have := (ordI it).asym (qs.getD (2 * i + 1) 0) (qs.getD (2 * i + 1) 0)
          cases hq : ltI (it (qs.getD (2 * i + 1) 0)) (it (qs.getD (2 * i + 1) 0)) with
          | false => rfl
          | true => rw [← hq]; exact this hq)
        have gj := g1
        obtain ⟨T, hT⟩ := named (ltI (it (qs.getD (2 * i + 1) 0)) (it (qs.getD i 0)))
        have LC := less_any hD.out.hp gj gi
        rw [show ((2 * i + 1 : Nat) : Int) = 2 * (i : Int) + 1 by omega, ← hT.out] at LC
        have LC := Lib.hid (fun (u : World) (hu : Below wr.heap.size wr u) => by
          have := less_any (hD.out.hp.below hu) gj gi
          rw [show ((2 * i + 1 : Nat) : Int) = 2 * (i : Int) + 1 by omega, ← hT.out] at this
          exact this)
        have SW := Lib.hid (fun (u : World) (hu : Hp B hp k qs it u) => by
          have := swap_any hu gi gj
          rw [show ((2 * i + 1 : Nat) : Int) = 2 * (i : Int) + 1 by omega] at this
          exact this)
        cases T with
        | false =>
          have hfin := Lib.hid (hd1.out.done (fun c hc0 hcn hpc => by
            have h1 := hmin.out c hc0 hcn hpc
            exact (ordI it).ntr _ _ _ h1 hT.out.symm))
          clear hT
          go_wp2_with (first
            | (go_at_call 91; ((with_reducible refine (LC.out _ B0.out).mono ?_); rintro e w1 ⟨rfl, hb1⟩; have D1 := Lib.hid (hD.out.below (below_of B0.out hb1)); clear hb1))
            | fail "no arm")
          go_returns
          exact ⟨_, rfl, ⟨_, rfl⟩, qs, hp1.out, hfin.out, hsame.out, D1.out⟩
        | true =>
          have hstep := hd1.out.step (ordI it) hnq (show 2 * i + 1 < n by omega) (by omega) (by unfold par; omega) hki hT.out.symm hmin.out
          have hperm2 := Lib.hid ((swp_perm (ps := qs) (i := i) (j := 2 * i + 1) (by omega) (by omega)).trans hp1.out)
          have hlen2 := Lib.hid (swp_len qs i (2 * i + 1))
          have hsame2 : Hid (∀ c, n ≤ c → (swp qs i (2 * i + 1)).getD c 0 = ps.getD c 0) := Lib.hid (fun c hc => by
            rw [swp_at (by omega) (by omega), if_neg (by omega), if_neg (by omega)]
            exact hsame.out c hc)
          have hstep := Lib.hid hstep
          clear hT
          go_wp2_with (first
            | (go_at_call 91; ((with_reducible refine (LC.out _ B0.out).mono ?_); rintro e w1 ⟨rfl, hb1⟩; have D1 := Lib.hid (hD.out.below (below_of B0.out hb1)); clear hb1))
            | (go_at_call 93; ((with_reducible refine (SW.out _ D1.out.hp).mono ?_); rintro e w2 ⟨rfl, hd2⟩; have D2 := Lib.hid (D1.out.trans hd2); clear hd2))
            | fail "no arm")
          go_roundw
          case rel => exact ⟨2 * i + 1, swp qs i (2 * i + 1), by omega, by omega, by rw [show ((2 * i + 1 : Nat) : Int) = 2 * (i : Int) + 1 by omega], hperm2, hstep, hsame2, D2⟩
          case measure => simp [intOf] <;> omega
end Go.Proofs.Ytkkegdhnkefogaa
