/-
  Init, Push and Pop of the heap of lists. Condition: at most 1000 lists.
-/
import Derived.Test.YtkkegdhnkefogaaMergeHeapDown
namespace Go.Proofs.Ytkkegdhnkefogaa
set_option maxRecDepth 100000
open Go.RowKit
theorem HeapP.congr {it it2 : Nat → It} {n k : Nat} {ps : List Nat} (h : HeapP (fun a b => ltI (it a) (it b)) n k ps) (hn : n ≤ ps.length) (he : ∀ b ∈ ps, it2 b = it b) : HeapP (fun a b => ltI (it2 a) (it2 b)) n k ps := by
  intro c h0 hc hk
  have hm : ∀ i, i < n → ps.getD i 0 ∈ ps := fun i hi => by
    rw [List.getD_eq_getElem?_getD, List.getElem?_eq_getElem (show i < ps.length by omega)]
    exact List.getElem_mem _
  have hp : par c < n := by unfold par; omega
  show ltI (it2 (ps.getD c 0)) (it2 (ps.getD (par c) 0)) = false
  rw [he _ (hm c hc), he _ (hm _ hp)]
  exact h c h0 hc hk
theorem getD_take {ps : List Nat} {n c : Nat} (h : c < n) : (ps.take n).getD c 0 = ps.getD c 0 := by
  rw [List.getD_eq_getElem?_getD, List.getD_eq_getElem?_getD, List.getElem?_take, if_pos h]
theorem ItemAt.els {B b : Nat} {x : It} {w w' : World} (h : ItemAt B b x w) (he : ElseH w w') (hb : Below B w w') : ItemAt B b x w' := by
  obtain ⟨a, n, c, bb, o, h1, h2, h3⟩ := h
  exact ⟨a, n, c, bb, o, he.2 _ _ _ _ h1 (by decide) (by decide), h2.keep (fun _ => hb.block bb h3) hb.size, h3⟩
theorem tdiv_half (n : Nat) : ((n : Int)).tdiv 2 = ((n / 2 : Nat) : Int) := by
  rw [Int.tdiv_eq_ediv_of_nonneg (by omega)]; omega
set_option maxRecDepth 100000 in
set_option maxHeartbeats 4000000 in
theorem init_any {B hp k : Nat} {ps : List Nat} {it : Nat → It} {w : World} (h : Hp B hp k ps it w) (hl : ps.length ≤ 1000) :
    Calls Try.prog 42 #[.iface 49 (.pointer (some ⟨hp, 0, none⟩))] w fun e w' => e = .returned (.tuple #[]) ∧ ∃ qs, qs.Perm ps ∧ HeapP (fun a b => ltI (it a) (it b)) qs.length 0 qs ∧ HpD B hp k qs it w w' := by
  have LC := Lib.hid (hlen_any h)
  have h := Lib.hid h
  obtain ⟨n, hn⟩ := named ps.length
  rw [← hn.out] at LC
  have hl : n ≤ 1000 := by rw [hn.out]; exact hl
  have e0 := tdiv_half n
  have e1 : wrap64 (((n / 2 : Nat) : Int) - 1) = ((n / 2 : Nat) : Int) - 1 := by unfold wrap64; omega
  go_enter Try.func42, Try.ntmps42
  go_wp2_with (go_at_call 25; ((with_reducible refine LC.out.mono ?_); rintro e w1 ⟨rfl, rfl⟩))
  go_loopw [3] (fun iv wr => ∃ (m : Nat) (qs : List Nat), m ≤ n ∧ iv = .int .i64 ((m : Int) - 1) ∧ Hid (qs.Perm ps) ∧ Hid (HeapP (fun a b => ltI (it a) (it b)) n m qs) ∧ Hid (HpD B hp k qs it w1 wr)) (fun iv _ => (intOf iv + 1).toNat)
  case atStart => exact ⟨n / 2, ps, by omega, by first | rfl | rw [e1] | simp, Lib.hid (List.Perm.refl _), Lib.hid (fun c h0 hc hk => by unfold par at hk; omega), Lib.hid (HpD.refl h.out)⟩
  case round =>
    obtain ⟨m, qs, hm, rfl, hp1, hh1, hD⟩ := hrel
    cases m with
    | zero =>
      have i1 : ¬ (0 : Int) ≤ ((0 : Nat) : Int) - 1 := by omega
      have hlq : Hid (qs.length = n) := Lib.hid (by rw [hp1.out.length_eq, hn.out])
      go_wp2_with fail
      go_returns
      exact ⟨rfl, qs, hp1.out, by rw [hlq.out]; exact hh1.out, hD.out⟩
    | succ m =>
      have e2 : ((m + 1 : Nat) : Int) - 1 = (m : Int) := by omega
      rw [e2]
      have i1 : (0 : Int) ≤ (m : Int) := by omega
      have hlq : qs.length = n := by rw [hp1.out.length_eq, hn.out]
      have DC := Lib.hid (down_any (i0 := m) (n := n) hD.out.hp (by omega) (by omega) (by omega) hh1.out)
      have kw : wrap64 ((m : Int) - 1) = (m : Int) - 1 := by unfold wrap64; omega
      go_wp2_with (go_at_call 52; ((with_reducible refine DC.out.mono ?_); rintro e w2 ⟨R, rfl, rs, hr1, hr2, hr3, hr4⟩; have P2 := Lib.hid (hr1.trans hp1.out); have H2 := Lib.hid hr2; have D2 := Lib.hid (hD.out.trans hr4); clear hr1 hr2 hr3 hr4))
      go_roundw
      case rel => exact ⟨m, rs, by omega, by first | rfl | rw [kw], P2, H2, D2⟩
      case measure => simp [intOf] <;> omega
set_option maxRecDepth 100000 in
set_option maxHeartbeats 4000000 in
theorem hpush_any {B hp k : Nat} {ps : List Nat} {it : Nat → It} {w : World} (h : Hp B hp k ps it w) (hl : ps.length < 1000) (hh : HeapP (fun a b => ltI (it a) (it b)) ps.length 0 ps) {b : Nat} {x : It} (hx : ItemAt B b x w) (hB : B ≤ b) (hn : b ∉ ps) :
    Calls Try.prog 44 #[.iface 49 (.pointer (some ⟨hp, 0, none⟩)), .iface 72 (.pointer (some ⟨b, 0, none⟩))] w fun e w' => e = .returned (.tuple #[]) ∧ ∃ qs, qs.Perm (ps ++ [b]) ∧ HeapP (fun a c => ltI (if a = b then x else it a) (if c = b then x else it c)) qs.length 0 qs ∧ HpD B hp k qs (fun c => if c = b then x else it c) w w' := by
  have PC := Lib.hid (pushrest_any h (by omega) hx hB hn)
  have hlen : (ps ++ [b]).length = ps.length + 1 := by simp
  have hup : UpI (fun a c => ltI ((fun c => if c = b then x else it c) a) ((fun c => if c = b then x else it c) c)) (ps ++ [b]).length ps.length (ps ++ [b]) := by
    have hold := HeapP.congr (it2 := fun c => if c = b then x else it c) hh (Nat.le_refl _) (fun c hc => by show (if c = b then x else it c) = it c; rw [if_neg (fun e => hn (by rw [← e]; exact hc))])
    have hg : ∀ i, i < ps.length → (ps ++ [b]).getD i 0 = ps.getD i 0 := fun i hi => by rw [List.getD_eq_getElem?_getD, List.getD_eq_getElem?_getD, List.getElem?_append_left hi]
    refine ⟨fun c h0 hc hne => ?_, fun c h0 hc hp0 _ => by unfold par at hp0; omega⟩
    rw [hlen] at hc
    rw [hg c (by omega), hg (par c) (by unfold par; omega)]
    exact hold c h0 (by omega) (Nat.zero_le _)
  have UC := Lib.hid (fun (u : World) (hu : Hp B hp k (ps ++ [b]) (fun c => if c = b then x else it c) u) => up_any hu (by omega) (by omega) hup)
  have LC := Lib.hid (fun (u : World) (hu : Hp B hp k (ps ++ [b]) (fun c => if c = b then x else it c) u) => hlen_any hu)
  obtain ⟨n, hnn⟩ := named ps.length
  rw [hlen, ← hnn.out] at LC
  rw [← hnn.out] at UC hl
  have e1 : wrap64 (((n + 1 : Nat) : Int) - 1) = (n : Int) := by unfold wrap64; omega
  have e2 : ((n + 1 : Nat) : Int) - 1 = (n : Int) := by omega
  have e3 : (n : Int) + 1 - 1 = (n : Int) := by omega
  clear h hx hh hup hlen
  go_enter Try.func44, Try.ntmps44
  go_wp2_with (first
    | (go_at_call 41; ((with_reducible refine PC.out.mono ?_); rintro e w1 ⟨rfl, hd1⟩; have D1 := Lib.hid hd1; clear hd1))
    | (go_at_call 25; ((with_reducible refine (LC.out _ D1.out.hp).mono ?_); rintro e w1 ⟨rfl, rfl⟩))
    | (go_at_call 53; ((with_reducible refine (UC.out _ D1.out.hp).mono ?_); rintro e w2 ⟨rfl, qs, hq1, hq2, hq3⟩; have Q1 := Lib.hid hq1; have Q2 := Lib.hid hq2; have D2 := Lib.hid (D1.out.trans hq3); clear hq1 hq2 hq3)))
  go_returns
  exact ⟨rfl, qs, Q1.out, Q2.out, D2.out⟩
set_option maxRecDepth 100000 in
set_option maxHeartbeats 4000000 in
theorem htop_any {B hp k : Nat} {ps : List Nat} {it : Nat → It} {w : World} (h : Hp B hp k ps it w) (hl : ps.length ≤ 1000) (hh : HeapP (fun a b => ltI (it a) (it b)) ps.length 0 ps) {n b : Nat} (hn : ps.length = n + 1) (hb : ps[0]? = some b) :
    Calls Try.prog 43 #[.iface 49 (.pointer (some ⟨hp, 0, none⟩))] w fun e w' => e = .returned (.iface 72 (.pointer (some ⟨b, 0, none⟩))) ∧ ∃ qs, (b :: qs).Perm ps ∧ HeapP (fun a b => ltI (it a) (it b)) qs.length 0 qs ∧ HpD B hp k qs it w w' := by
  have LC := Lib.hid (hlen_any h)
  obtain ⟨bn, hbn⟩ : ∃ bn, ps[n]? = some bn := ⟨_, List.getElem?_eq_getElem (by omega)⟩
  have SC := swap_any h hb hbn
  have hlen2 : (swp ps 0 n).length = n + 1 := by rw [swp_len, hn]
  have hpre : HeapP (fun a b => ltI (it a) (it b)) n 1 (swp ps 0 n) := by
    intro c h0 hc hk
    have hpc : par c < c := by unfold par; omega
    rw [swp_at (by omega) (by omega), swp_at (by omega) (by omega), if_neg (by omega), if_neg (by omega), if_neg (by omega), if_neg (by omega)]
    exact hh c h0 (by omega) (Nat.zero_le _)
  have hlast : (swp ps 0 n).getD n 0 = b := by
    rw [swp_at (by omega) (by omega), if_pos rfl, List.getD_eq_getElem?_getD, hb]; rfl
  have DC : Hid (∀ u, Hp B hp k (swp ps 0 n) it u → Calls Try.prog 52 #[.iface 49 (.pointer (some ⟨hp, 0, none⟩)), .int .i64 0, .int .i64 (n : Int)] u fun e w' => ∃ R : Bool, e = .returned (.bool R) ∧ ∃ qs, qs.Perm (swp ps 0 n) ∧ HeapP (fun a b => ltI (it a) (it b)) n 0 qs ∧ (∀ c, n ≤ c → qs.getD c 0 = (swp ps 0 n).getD c 0) ∧ HpD B hp k qs it u w') := Lib.hid (fun (u : World) (hu : Hp B hp k (swp ps 0 n) it u) => down_any (i0 := 0) (n := n) hu (by omega) (by omega) (by omega) hpre)
  have PC := Lib.hid (fun (u : World) (qs : List Nat) (hq : qs.Perm (swp ps 0 n)) (hg : ∀ c, n ≤ c → qs.getD c 0 = (swp ps 0 n).getD c 0) (hu : Hp B hp k qs it u) => by
    have hql : qs.length = n + 1 := by rw [hq.length_eq, hlen2]
    have : qs[n]? = some b := by
      have h1 := hg n (Nat.le_refl _)
      rw [hlast, List.getD_eq_getElem?_getD, List.getElem?_eq_getElem (show n < qs.length by omega)] at h1
      rw [List.getElem?_eq_getElem (show n < qs.length by omega)]
      exact congrArg some h1
    exact hpop_any hu hql this)
  have hfin : Hid (∀ qs : List Nat, qs.Perm (swp ps 0 n) → (∀ c, n ≤ c → qs.getD c 0 = (swp ps 0 n).getD c 0) → HeapP (fun a b => ltI (it a) (it b)) n 0 qs → (b :: qs.take n).Perm ps ∧ HeapP (fun a b => ltI (it a) (it b)) (qs.take n).length 0 (qs.take n)) := Lib.hid (fun qs hq hg hhq => by
    have hql : qs.length = n + 1 := by rw [hq.length_eq, hlen2]
    have htl : (qs.take n).length = n := by rw [List.length_take]; omega
    refine ⟨?_, ?_⟩
    · have h1 := hg n (Nat.le_refl _)
      rw [hlast, List.getD_eq_getElem?_getD, List.getElem?_eq_getElem (show n < qs.length by omega)] at h1
      have e : qs = qs.take n ++ [b] := by
        have := List.take_append_drop n qs
        rw [List.drop_eq_getElem_cons (show n < qs.length by omega), show qs[n] = b from h1, List.drop_eq_nil_of_le (by omega)] at this
        exact this.symm
      have hp2 := hq.trans (swp_perm (ps := ps) (i := 0) (j := n) (by omega) (by omega))
      refine List.Perm.trans ?_ hp2
      rw [e]
      simp only [List.take_append]
      rw [List.take_of_length_le (by omega), htl, Nat.sub_self, List.take_zero, List.append_nil]
      exact List.perm_append_comm (l₁ := [b])
    · rw [htl]
      intro c h0 hc hk
      have hpc : par c < c := by unfold par; omega
      rw [getD_take hc, getD_take (by omega)]
      exact hhq c h0 hc hk)
  rw [hn] at LC
  have hl : n ≤ 1000 := by omega
  have e1 : wrap64 (((n + 1 : Nat) : Int) - 1) = (n : Int) := by unfold wrap64; omega
  have e2 : ((n + 1 : Nat) : Int) - 1 = (n : Int) := by omega
  have e3 : (n : Int) + 1 - 1 = (n : Int) := by omega
  have SC : Hid (Calls Try.prog 93 #[.pointer (some ⟨hp, 0, none⟩), .int .i64 0, .int .i64 (n : Int)] w fun e w' => e = .returned (.tuple #[]) ∧ HpD B hp k (swp ps 0 n) it w w') := Lib.hid SC
  clear h hh hpre hlast hlen2 hb hbn
  go_enter Try.func43, Try.ntmps43
  go_wp2_with (first
    | (go_at_call 25; ((with_reducible refine LC.out.mono ?_); rintro e w1 ⟨rfl, rfl⟩))
    | (go_at_call 93; ((with_reducible refine SC.out.mono ?_); rintro e w1 ⟨rfl, hd1⟩; have D1 := Lib.hid hd1; clear hd1))
    | (go_at_call 52; ((with_reducible refine (DC.out _ D1.out.hp).mono ?_); rintro e w2 ⟨R, rfl, qs, hq1, hq2, hq3, hq4⟩; have Q1 := Lib.hid hq1; have Q2 := Lib.hid hq2; have Q3 := Lib.hid hq3; have D2 := Lib.hid (D1.out.trans hq4); clear hq1 hq2 hq3 hq4))
    | (go_at_call 92; ((with_reducible refine (PC.out _ _ Q1.out Q3.out D2.out.hp).mono ?_); rintro e w3 ⟨rfl, hd3⟩; have D3 := Lib.hid (D2.out.trans hd3); clear hd3)))
  go_returns
  obtain ⟨f1, f2⟩ := hfin.out qs Q1.out Q3.out Q2.out
  exact ⟨rfl, qs.take n, f1, f2, D3.out⟩
end Go.Proofs.Ytkkegdhnkefogaa
