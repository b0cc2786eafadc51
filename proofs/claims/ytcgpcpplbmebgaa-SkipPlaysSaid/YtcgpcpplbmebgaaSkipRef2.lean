/-
  The document's list: Height, Steps. No condition but at most 1048575 rows.
-/
import Derived.Test.YtcgpcpplbmebgaaSkipRef
namespace Go.Proofs.Ytcgpcpplbmebgaa
open Go.RowKit
def intsH (hs : List Nat) : List Int := hs.map fun (h : Nat) => ((h : Nat) : Int)
theorem intsH_at {hs : List Nat} {j : Nat} {x : Int} (h : (intsH hs)[j]? = some x) : ∃ y, hs[j]? = some y ∧ x = (y : Int) := by
  unfold intsH at h
  rw [List.getElem?_map] at h
  obtain ⟨y, hy, rfl⟩ := Option.map_eq_some_iff.1 h
  exact ⟨y, hy, rfl⟩
theorem pair_box {v : World} {N : Nat} {x0 x1 : Value} {T : TypeId} (h : v.heap[N]? = some (.cells #[x0, x1] T (0, 0))) : v.cell? ⟨N, 0, none⟩ = some x0 ∧ v.cell? ⟨N, 1, none⟩ = some x1 :=
  ⟨by simp [World.cell?, h], by simp [World.cell?, h]⟩
set_option maxRecDepth 100000 in
set_option maxHeartbeats 4000000 in
theorem height_ref {rv : Value} {p : Option Addr} {n c b o : Nat} {hs : List Nat} {w : World} (h : SlOf 1 cellsI p n c b o (intsH hs) w) (hn : n ≤ 1048575) :
    Calls Try.prog 20 #[.agg #[rv, .slice p n c]] w fun e w' => e = .returned (.int .i64 (topH hs : Int)) ∧ Below w.heap.size w w' := by
  have e0 : Hid (hs.length = n) := Lib.hid (by have := h.len; unfold intsH at this; rwa [List.length_map] at this)
  have m0 := h.most
  have q0 := h.cap
  have B0 := below_alloc w (.cells #[rv, .slice p n c] 33)
  have x0 := heap_alloc_new w (.cells #[rv, .slice p n c] 33)
  have h := Lib.hid h
  obtain ⟨E, hE⟩ := named (topH hs)
  rw [← hE.out]
  go_enter Try.func20, Try.ntmps20
  go_wp2_with fail
  generalize w.alloc (.cells #[rv, .slice p n c] 33) = W0 at *
  go_loopw [3, 4] (fun t i wr => ∃ j : Nat, j ≤ n ∧ i = .int .i64 (j : Int) ∧ t = .int .i64 (topH (hs.take j) : Int) ∧ wr = W0) (fun _ i _ => n - (intOf i).toNat)
  case atStart => exact ⟨0, Nat.zero_le _, rfl, rfl, rfl⟩
  case round =>
    obtain ⟨j, hj, rfl, rfl, rfl⟩ := hrel
    obtain ⟨y0, y1⟩ := pair_box x0
    obtain ⟨M, hM⟩ := named (topH (hs.take j))
    rw [← hM.out]
    by_cases hlt : j < n
    · obtain ⟨z, hz, rfl, z0⟩ := num_at (h.out.below B0 (Nat.le_refl _)) hlt
      obtain ⟨Y, hY, rfl⟩ := intsH_at hz
      have i1 : (j : Int) < (n : Int) := by omega
      have step : Hid (topH (hs.take (j + 1)) = max M Y) := Lib.hid (by
        rw [List.take_add_one, hY, topH_app, ← hM.out]
        show max M (topH [Y]) = _
        rw [topH_cons]
        show max M (max Y 0) = _
        omega)
      clear hz hY
      by_cases hg : M < Y
      · have g1 : (M : Int) < (Y : Int) := by omega
        have e2 : Hid (topH (hs.take (j + 1)) = Y) := Lib.hid (by rw [step.out]; omega)
        go_wp2_with fail
        go_roundw
        case rel => exact ⟨j + 1, by omega, by go_num, by rw [e2.out], trivial⟩
        case measure => simp [intOf]; omega
      · have g1 : ¬ ((M : Int) < (Y : Int)) := by omega
        have e2 : Hid (topH (hs.take (j + 1)) = M) := Lib.hid (by rw [step.out]; omega)
        go_wp2_with fail
        go_roundw
        case rel => exact ⟨j + 1, by omega, by go_num, by rw [e2.out], trivial⟩
        case measure => simp [intOf]; omega
    · have hEM : Hid (E = M) := Lib.hid (by rw [hE.out, hM.out, List.take_of_length_le (by rw [e0.out]; omega)])
      have i1 : ¬ ((j : Int) < (n : Int)) := by omega
      have B0 := Lib.hid B0
      go_wp2_with fail
      go_returns
      exact ⟨by rw [hEM.out]; rfl, B0.out⟩
set_option maxRecDepth 100000 in
set_option maxHeartbeats 8000000 in
theorem steps_ref {rp : Option Addr} {rn rc rb ro : Nat} {l : List Rw} {p : Option Addr} {n c b o : Nat} {hs : List Nat} {w : World} (hr : Rs rp rn rc rb ro l w) (h : SlOf 1 cellsI p n c b o (intsH hs) w) (hln : rn = n) (hn : n ≤ 1048575) (k : ByteArray) (q : Nat) :
    Calls Try.prog 17 #[.agg #[.slice rp rn rc, .slice p n c], .string k, .int .u64 (q : Int)] w fun e w' => e = .returned (.int .i64 (stp (hs.take (plc l k q)) : Int)) ∧ Below w.heap.size w w' := by
  subst hln
  have e0 : Hid (hs.length = rn) := Lib.hid (by have := h.len; unfold intsH at this; rwa [List.length_map] at this)
  have m0 := h.most
  have q0 := h.cap
  have B0 := below_alloc w (.cells #[.slice rp rn rc, .slice p rn c] 33)
  have x0 := heap_alloc_new w (.cells #[.slice rp rn rc, .slice p rn c] 33)
  have PC := Lib.hid (place_ref (hr.below B0 (Nat.le_refl _)) (by omega) k q)
  have ple := plc_le l k q
  rw [hr.len] at ple
  have h := Lib.hid h
  obtain ⟨E, hE⟩ := named (plc l k q)
  rw [← hE.out] at PC ple ⊢
  obtain ⟨D, hD⟩ := named (hs.take E)
  have lD : Hid (D.length = E) := Lib.hid (by rw [hD.out, List.length_take, e0.out]; omega)
  have dat : Hid (∀ i, i < E → D[i]? = hs[i]?) := Lib.hid fun i hi => by rw [hD.out, List.getElem?_take, if_pos hi]
  rw [← hD.out]
  clear hr hD hE
  go_enter Try.func17, Try.ntmps17
  obtain ⟨y0, y1⟩ := pair_box x0
  go_wp2_with (go_at_call 10; ((with_reducible refine PC.out.mono ?_); rintro e w2 ⟨rfl, hb2⟩; have hx2 := (hb2.block w.heap.size (by simp)).trans x0; have B2 := below_of B0 hb2; clear PC hb2))
  clear y0 y1 x0 B0
  go_loopw [8, 9, 10] (fun a s hv wr => ∃ kk : Nat, kk ≤ 12 ∧ hv = .int .i64 (12 - (kk : Int)) ∧ a = .int .i64 ((dn D kk).1 : Int) ∧ s = .int .i64 ((dn D kk).2 : Int) ∧ wr = w2) (fun _ _ hv _ => (intOf hv).toNat)
  case atStart => exact ⟨0, by omega, rfl, rfl, rfl, rfl⟩
  case round =>
    obtain ⟨kk, hk, rfl, rfl, rfl, rfl⟩ := hrel
    obtain ⟨z0, z1⟩ := pair_box hx2
    obtain ⟨d1, d2⟩ := dn_le D kk
    rw [lD.out] at d1
    by_cases hk12 : kk < 12
    · obtain ⟨A0, hA0⟩ := named (dn D kk).1
      obtain ⟨S0, hS0⟩ := named (dn D kk).2
      have hA1 : Hid ((dn D (kk + 1)).1 = A0 + hopI (11 - kk) (D.drop A0)) := Lib.hid (by rw [hA0.out]; rfl)
      have hS1 : Hid ((dn D (kk + 1)).2 = S0 + hopC (11 - kk) (D.drop A0)) := Lib.hid (by rw [hA0.out, hS0.out]; rfl)
      rw [← hA0.out] at d1 d2 ⊢
      rw [← hS0.out] at d2 ⊢
      obtain ⟨hv, hhv⟩ : ∃ hv : Nat, (12 - (kk : Int)) = (hv : Int) ∧ hv = 12 - kk := ⟨12 - kk, by omega, rfl⟩
      rw [hhv.1]
      have i0 : (1 : Int) ≤ (hv : Int) := by omega
      have hx2 := Lib.hid hx2
      have B2 := Lib.hid B2
      clear hA0 hS0
      go_wp2_with fail
      go_loopw [8, 9, 11] (fun a s i wq => wq = wr ∧ ∃ t : Nat, A0 + t ≤ E ∧ i = .int .i64 ((A0 + t : Nat) : Int) ∧ a = .int .i64 ((A0 + hopI (11 - kk) ((D.drop A0).take t) : Nat) : Int) ∧ s = .int .i64 ((S0 + hopC (11 - kk) ((D.drop A0).take t) : Nat) : Int)) (fun _ _ i _ => E - (intOf i).toNat)
      case atStart => exact ⟨rfl, 0, by omega, rfl, rfl, rfl⟩
      case round =>
        obtain ⟨rfl, t, ht, rfl, rfl, rfl⟩ := hrel
        obtain ⟨A, hA⟩ := named (A0 + hopI (11 - kk) ((D.drop A0).take t))
        obtain ⟨S, hS⟩ := named (S0 + hopC (11 - kk) ((D.drop A0).take t))
        obtain ⟨I, hI⟩ := named (A0 + t)
        have hb1 := hop_le (11 - kk) ((D.drop A0).take t)
        have hAb : A ≤ I := by
          rw [List.length_take] at hb1
          have := hA.out; have := hI.out; omega
        have hSb : S ≤ I := by have := hS.out; have := hI.out; rw [List.length_take] at hb1; omega
        rw [← hA.out, ← hS.out, ← hI.out]
        rw [← hI.out] at ht
        clear hb1
        by_cases hlt : I < E
        · have hin : I < rn := by omega
          obtain ⟨zz, hz, rfl, c0⟩ := num_at (h.out.below B2.out (Nat.le_refl _)) hin
          obtain ⟨Y, hY, rfl⟩ := intsH_at hz
          have i1 : (I : Int) < (E : Int) := by omega
          have i2 : (I : Int) < (rn : Int) := by omega
          have hYD : (D.drop A0)[t]? = some Y := by rw [List.getElem?_drop, ← hI.out, dat.out I hlt]; exact hY
          have sn := hop_snoc (11 - kk) Y ((D.drop A0).take t)
          have tk : (D.drop A0).take (t + 1) = (D.drop A0).take t ++ [Y] := by rw [List.take_add_one, hYD]; rfl
          rw [← tk] at sn
          have lt1 : ((D.drop A0).take t).length = t := by rw [List.length_take, List.length_drop, lD.out]; have := hI.out; omega
          rw [lt1] at sn
          by_cases hg : 11 - kk < Y
          · have g1 : (hv : Int) ≤ (Y : Int) := by omega
            rw [if_pos hg, if_pos hg] at sn
            have a1 : Hid (A0 + hopI (11 - kk) ((D.drop A0).take (t + 1)) = I + 1) := Lib.hid (by rw [sn.1]; have := hI.out; omega)
            have s1 : Hid (S0 + hopC (11 - kk) ((D.drop A0).take (t + 1)) = S + 1) := Lib.hid (by rw [sn.2]; have := hS.out; omega)
            have j1 : Hid (A0 + (t + 1) = I + 1) := Lib.hid (by have := hI.out; omega)
            clear sn tk lt1 hYD hz hY hA hS
            go_wp2_with fail
            go_roundw
            case rel => exact ⟨trivial, t + 1, by have := j1.out; omega, by rw [j1.out]; go_num, by rw [a1.out]; go_num, by rw [s1.out]; go_num⟩
            case measure => simp [intOf]; omega
          · have g1 : ¬ ((hv : Int) ≤ (Y : Int)) := by omega
            rw [if_neg hg, if_neg hg] at sn
            have a1 : Hid (A0 + hopI (11 - kk) ((D.drop A0).take (t + 1)) = A) := Lib.hid (by rw [sn.1]; exact hA.out.symm)
            have s1 : Hid (S0 + hopC (11 - kk) ((D.drop A0).take (t + 1)) = S) := Lib.hid (by rw [sn.2]; exact hS.out.symm)
            have j1 : Hid (A0 + (t + 1) = I + 1) := Lib.hid (by have := hI.out; omega)
            clear sn tk lt1 hYD hz hY hA hS
            go_wp2_with fail
            go_roundw
            case rel => exact ⟨trivial, t + 1, by have := j1.out; omega, by rw [j1.out]; go_num, by rw [a1.out], by rw [s1.out]⟩
            case measure => simp [intOf]; omega
        · have hIE : I = E := by omega
          have tkall : (D.drop A0).take t = D.drop A0 := List.take_of_length_le (by rw [List.length_drop, lD.out]; have := hI.out; omega)
          rw [tkall] at hA hS
          have a1 : Hid ((dn D (kk + 1)).1 = A) := Lib.hid (by rw [hA1.out]; exact hA.out.symm)
          have s1 : Hid ((dn D (kk + 1)).2 = S) := Lib.hid (by rw [hS1.out]; exact hS.out.symm)
          have i1 : ¬ ((I : Int) < (E : Int)) := by omega
          clear hA hS tkall hIE
          go_wp2_with fail
          go_roundw
          case rel => exact ⟨kk + 1, by omega, by have := hhv; go_num, by rw [a1.out], by rw [s1.out], trivial⟩
          case measure => simp [intOf]; omega
    · have hk2 : kk = 12 := by omega
      subst hk2
      have B2 := Lib.hid B2
      clear hx2 z0 z1
      go_wp2_with fail
      go_returns
      exact ⟨rfl, B2.out⟩
end Go.Proofs.Ytcgpcpplbmebgaa
