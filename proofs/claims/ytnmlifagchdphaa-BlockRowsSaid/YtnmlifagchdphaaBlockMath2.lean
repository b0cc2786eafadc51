/-
  Plain mathematics of blocks: what is read is what was built, and nothing else. No model's run in this text. No condition.
-/
import Derived.Test.YtnmlifagchdphaaBlockParts
import Derived.Test.YtnmlifagchdphaaBlockBuild
namespace Go.Proofs.Ytnmlifagchdphaa
set_option maxRecDepth 100000
open Go.RowKit
theorem chkA_zero {l : List Rw} {d : Nat} (h1 : 1 ≤ d) (h2 : d ≤ 64) (ho : ordR l = true) (hv : ∀ x ∈ l, chkR x = 0) (hn : l.length ≤ 1024) : chkA l (d : Int) = 0 := by
  have hb : l.any badR = false := by
    cases h : l.any badR with
    | false => rfl
    | true =>
      obtain ⟨x, hx, hb⟩ := List.any_eq_true.1 h
      have := hv x hx
      rw [chkR_two.2 hb] at this
      cases this
  have hl : l.any longR = false := by
    cases h : l.any longR with
    | false => rfl
    | true =>
      obtain ⟨x, hx, hb⟩ := List.any_eq_true.1 h
      have := hv x hx
      unfold chkR at this
      rw [hb] at this
      split at this
      · cases this
      · cases this
  unfold chkA
  rw [if_neg (by rw [ho]; simp; omega), hb, hl]
  simp
  omega
theorem u4_le4 (n : Nat) (h : n < 4294967296) (t : List UInt8) : u4 (le4 n ++ t) = n := by
  show (UInt8.ofNat n).toNat + 256 * (UInt8.ofNat (n / 256)).toNat + 65536 * (UInt8.ofNat (n / 65536)).toNat + 16777216 * (UInt8.ofNat (n / 16777216)).toNat = n
  rw [UInt8.toNat_ofNat', UInt8.toNat_ofNat', UInt8.toNat_ofNat', UInt8.toNat_ofNat']
  omega
theorem ptB_isB {L : List UInt8} {l : List Rw} {d : Nat} (h : IsB L l d) : ptB L = some (bodB d l l.length, d) := by
  obtain ⟨hc, hL, hz⟩ := h
  obtain ⟨k1, k2, _, _, k4⟩ := chkA_ok hc
  have hm := rstB_mod d l l.length
  have hle := rstB_le d l l.length
  obtain ⟨R, hR⟩ : ∃ R, R = rstB d l l.length := ⟨_, rfl⟩
  obtain ⟨Y, hY⟩ : ∃ Y, Y = bodB d l l.length := ⟨_, rfl⟩
  have eL : L = Y ++ R ++ (le4 (R.length / 4) ++ le4 d) := by rw [hL, hY, hR]; unfold blkB tailB; simp
  rw [← hR] at hm hle
  have len : L.length = Y.length + R.length + 8 := by rw [eL]; simp only [List.length_append, le4_len]; try omega
  have d8 : L.drop (L.length - 8) = le4 (R.length / 4) ++ le4 d := by
    rw [eL, List.drop_append_of_le_length (by simp only [List.length_append, le4_len]; omega), List.drop_eq_nil_of_le (by simp only [List.length_append, le4_len]; omega), List.nil_append]
  have d4 : L.drop (L.length - 4) = le4 d := by
    have : L = (Y ++ R ++ le4 (R.length / 4)) ++ le4 d := by rw [eL]; simp
    rw [this, List.drop_append_of_le_length (by simp only [List.length_append, le4_len]; omega), List.drop_eq_nil_of_le (by simp only [List.length_append, le4_len]; omega), List.nil_append]
  have e1 : u4 (L.drop (L.length - 8)) = R.length / 4 := by rw [d8]; exact u4_le4 _ (by omega) _
  have e2 : u4 (L.drop (L.length - 4)) = d := by rw [d4, ← List.append_nil (le4 d)]; exact u4_le4 _ (by omega) _
  unfold ptB
  rw [if_neg (by omega), e1, e2, if_neg (by omega), ← hY]
  congr 2
  have : L.length - 8 - 4 * (R.length / 4) = Y.length := by omega
  rw [this, eL, List.append_assoc, List.take_left]
theorem ptB_some {L r : List UInt8} {d : Nat} (h : ptB L = some (r, d)) : 8 ≤ L.length ∧ L.length ≤ 65536 ∧ 1 ≤ d ∧ d ≤ 64 ∧ r.length ≤ L.length ∧ L = r ++ L.drop r.length := by
  unfold ptB at h
  split at h
  · cases h
  rename_i h1
  split at h
  · cases h
  rename_i h2
  simp only [Option.some.injEq, Prod.mk.injEq] at h
  obtain ⟨rfl, rfl⟩ := h
  refine ⟨by omega, by omega, by omega, by omega, by rw [List.length_take]; omega, ?_⟩
  rw [List.length_take, Nat.min_eq_left (by omega), List.take_append_drop]
theorem bodB_split (d : Nat) (l : List Rw) (n : Nat) : ∀ k, ∃ z, bodB d l (n + 1 + k) = bodB d l n ++ (encI d l n ++ z)
  | 0 => ⟨[], by rw [Nat.add_zero, bodB_snoc, List.append_nil]⟩
  | k + 1 => by
    obtain ⟨z, hz⟩ := bodB_split d l n k
    exact ⟨z ++ encI d l (n + 1 + k), by rw [← Nat.add_assoc, bodB_snoc, hz]; simp⟩
theorem prvB_take {d : Nat} {l l' : List Rw} {n : Nat} (h : l'.take n = l) : prvB d l' n = prvB d l n := by
  unfold prvB
  split
  · rfl
  · rename_i hm
    have hn : n ≠ 0 := fun e => hm (by rw [e]; exact Nat.zero_mod d)
    rw [← h, rwAt_take l' (by omega)]
theorem prvB_le {d : Nat} {l : List Rw} (hv : ∀ x ∈ l, chkR x = 0) {n : Nat} (hn : n ≤ l.length) : (prvB d l n).length ≤ 520 := by
  unfold prvB
  split
  · simp
  · rename_i hm
    have hn0 : n ≠ 0 := fun e => hm (by rw [e]; exact Nat.zero_mod d)
    have hlt : n - 1 < l.length := by omega
    rw [rwAt_some (List.getElem?_eq_getElem hlt), toL_len]
    exact (chkR_ok (hv _ (List.getElem_mem _))).2.2.2.2.2.1
/-- What stands at the loop's head when bytes are read. -/
def DeP (L rows : List UInt8) (d : Nat) (l : List Rw) (r : List UInt8) : Prop :=
  rows = bodB d l l.length ++ r ∧ (∀ x ∈ l, chkR x = 0) ∧ l.length ≤ 1024 ∧ ∀ l', IsB L l' d → l'.take l.length = l
theorem DeP.zero (L rows : List UInt8) (d : Nat) : DeP L rows d [] rows := ⟨by simp [bodB], (fun x hx => by cases hx), by simp, fun l' _ => rfl⟩
theorem DeP.next {L rows r t : List UInt8} {d : Nat} {l : List Rw} {x : Rw} (hp : ptB L = some (rows, d)) (h : DeP L rows d l r) (hc : cutX r (prvB d l l.length) = some (x, t)) (hn : l.length ≠ 1024) : DeP L rows d (l ++ [x]) t := by
  obtain ⟨h1, h2, h3, h4⟩ := h
  obtain ⟨hr, hx⟩ := cutX_only hc
  have tk : (l ++ [x]).take l.length = l := by simp
  have hlen : (l ++ [x]).length = l.length + 1 := by simp
  refine ⟨?_, ?_, by rw [hlen]; omega, fun l' hB => ?_⟩
  · rw [hlen, bodB_snoc, ← bodB_take d (l ++ [x]) (Nat.le_refl l.length), tk]
    unfold encI
    rw [prvB_take tk, rwAt_some (by simp : (l ++ [x])[l.length]? = some x), h1, hr, List.append_assoc]
  · intro y hy
    rw [List.mem_append, List.mem_singleton] at hy
    rcases hy with hy | rfl
    · exact h2 y hy
    · exact hx
  · have e := h4 l' hB
    have hrows := ptB_isB hB
    rw [hp] at hrows
    simp only [Option.some.injEq, Prod.mk.injEq, and_true] at hrows
    have hge : l.length ≤ l'.length := by rw [← e, List.length_take]; omega
    have hb : bodB d l' l.length = bodB d l l.length := by rw [← bodB_take d l' (Nat.le_refl l.length), e]
    by_cases hlt : l.length < l'.length
    · obtain ⟨z, hz⟩ := bodB_split d l' l.length (l'.length - l.length - 1)
      rw [show l.length + 1 + (l'.length - l.length - 1) = l'.length by omega, ← hrows, h1, hb] at hz
      have hz := List.append_cancel_left hz
      have hy : l'[l.length]? = some l'[l.length] := List.getElem?_eq_getElem hlt
      unfold encI at hz
      rw [prvB_take e, rwAt_some hy] at hz
      have hok : chkR l'[l.length] = 0 := (chkA_ok hB.1).2.2.2.1 _ (List.getElem_mem _)
      have := cutX_enc (prvB d l l.length) l'[l.length] hok z (prvB_le h2 (Nat.le_refl _))
      rw [← hz, hc] at this
      simp only [Option.some.injEq, Prod.mk.injEq] at this
      rw [hlen, List.take_add_one, e, hy, ← this.1]; rfl
    · have : l'.length = l.length := by omega
      rw [this, hb, h1] at hrows
      have : r = [] := by
        have h0 := congrArg List.length hrows
        rw [List.length_append] at h0
        exact List.length_eq_zero_iff.1 (by omega)
      rw [this] at hr
      have h0 := congrArg List.length hr
      have := encX_pos (prvB d l l.length) x
      rw [List.length_append] at h0
      simp only [List.length_nil] at h0
      omega
theorem DeP.fail {L rows r : List UInt8} {d : Nat} {l : List Rw} (hp : ptB L = some (rows, d)) (h : DeP L rows d l r) (hr : r ≠ []) (hc : cutX r (prvB d l l.length) = none ∨ l.length = 1024) (l' : List Rw) (d' : Nat) : ¬ IsB L l' d' := by
  intro hB
  have hrows := ptB_isB hB
  rw [hp] at hrows
  simp only [Option.some.injEq, Prod.mk.injEq] at hrows
  obtain ⟨hrows, rfl⟩ := hrows
  obtain ⟨h1, h2, h3, h4⟩ := h
  have e := h4 l' hB
  have hge : l.length ≤ l'.length := by rw [← e, List.length_take]; omega
  have hb : bodB d l' l.length = bodB d l l.length := by rw [← bodB_take d l' (Nat.le_refl l.length), e]
  have hlt : l.length < l'.length := by
    rcases Nat.lt_or_ge l.length l'.length with h | h
    · exact h
    · have : l'.length = l.length := by omega
      rw [this, hb, h1] at hrows
      have h0 := congrArg List.length hrows
      rw [List.length_append] at h0
      exact absurd (List.length_eq_zero_iff.1 (by omega)) hr
  rcases hc with hc | hc
  · obtain ⟨z, hz⟩ := bodB_split d l' l.length (l'.length - l.length - 1)
    rw [show l.length + 1 + (l'.length - l.length - 1) = l'.length by omega, ← hrows, h1, hb] at hz
    have hz := List.append_cancel_left hz
    have hy : l'[l.length]? = some l'[l.length] := List.getElem?_eq_getElem hlt
    unfold encI at hz
    rw [prvB_take e, rwAt_some hy] at hz
    have hok : chkR l'[l.length] = 0 := (chkA_ok hB.1).2.2.2.1 _ (List.getElem_mem _)
    have := cutX_enc (prvB d l l.length) l'[l.length] hok z (prvB_le h2 (Nat.le_refl _))
    rw [← hz, hc] at this
    cases this
  · have := (chkA_ok hB.1).2.2.2.2
    omega
theorem DeP.good {L rows : List UInt8} {d : Nat} {l : List Rw} (hp : ptB L = some (rows, d)) (h : DeP L rows d l []) (ho : ordR l = true) (ht : L.drop rows.length = tailB (rstB d l l.length) d) : IsB L l d := by
  obtain ⟨p1, p2, p3, p4, p5, p6⟩ := ptB_some hp
  obtain ⟨h1, h2, h3, h4⟩ := h
  refine ⟨chkA_zero p3 p4 ho h2 h3, ?_, p2⟩
  rw [p6, ht, h1, List.append_nil]
  rfl
theorem DeP.bad {L rows : List UInt8} {d : Nat} {l : List Rw} (hp : ptB L = some (rows, d)) (h : DeP L rows d l []) (hn : ordR l = false ∨ L.drop rows.length ≠ tailB (rstB d l l.length) d) (l' : List Rw) (d' : Nat) : ¬ IsB L l' d' := by
  intro hB
  have hrows := ptB_isB hB
  rw [hp] at hrows
  simp only [Option.some.injEq, Prod.mk.injEq] at hrows
  obtain ⟨hrows, rfl⟩ := hrows
  obtain ⟨h1, h2, h3, h4⟩ := h
  have e := h4 l' hB
  have hge : l.length ≤ l'.length := by rw [← e, List.length_take]; omega
  have hb : bodB d l' l.length = bodB d l l.length := by rw [← bodB_take d l' (Nat.le_refl l.length), e]
  have hel : l' = l := by
    have := bodB_mono d l' l.length (l'.length - l.length)
    rw [show l.length + (l'.length - l.length) = l'.length by omega, ← hrows, h1, hb] at this
    simp only [List.append_nil] at this
    rw [← e, List.take_of_length_le (by omega)]
  subst hel
  rcases hn with hn | hn
  · rw [(chkA_ok hB.1).2.2.1] at hn; cases hn
  · refine hn ?_
    have hL := hB.2.1
    unfold blkB at hL
    rw [hrows]
    conv => lhs; rw [hL]
    exact List.drop_left
theorem isB_one {L : List UInt8} {l l' : List Rw} {d d' : Nat} (h : IsB L l d) (h' : IsB L l' d') : l = l' ∧ d = d' := by
  have e := ptB_isB h
  rw [ptB_isB h'] at e
  simp only [Option.some.injEq, Prod.mk.injEq] at e
  obtain ⟨e, rfl⟩ := e
  refine ⟨?_, rfl⟩
  have v := (chkA_ok h.1).2.2.2.1
  have v' := (chkA_ok h'.1).2.2.2.1
  have m := (chkA_ok h.1).2.2.2.2
  have m' := (chkA_ok h'.1).2.2.2.2
  have K : ∀ n, n ≤ l.length → n ≤ l'.length → l.take n = l'.take n := by
    intro n
    induction n with
    | zero => intro _ _; rfl
    | succ n ih =>
      intro a b
      have ih := ih (by omega) (by omega)
      have hb : bodB d' l n = bodB d' l' n := by rw [← bodB_take d' l (Nat.le_refl n), ih, bodB_take d' l' (Nat.le_refl n)]
      obtain ⟨z, hz⟩ := bodB_split d' l n (l.length - n - 1)
      obtain ⟨z', hz'⟩ := bodB_split d' l' n (l'.length - n - 1)
      rw [show n + 1 + (l.length - n - 1) = l.length by omega] at hz
      rw [show n + 1 + (l'.length - n - 1) = l'.length by omega, e, hz, hb] at hz'
      have hz' := List.append_cancel_left hz'
      have hy : l[n]? = some l[n] := List.getElem?_eq_getElem (by omega)
      have hy' : l'[n]? = some l'[n] := List.getElem?_eq_getElem (by omega)
      have hpv : prvB d' l n = prvB d' l' n := by
        have a1 := prvB_take (d := d') (l := l.take n) (l' := l) (n := n) rfl
        have a2 := prvB_take (d := d') (l := l'.take n) (l' := l') (n := n) rfl
        rw [a1, a2, ih]
      unfold encI at hz'
      rw [rwAt_some hy, rwAt_some hy', hpv] at hz'
      have c1 := cutX_enc (prvB d' l' n) l[n] (v _ (List.getElem_mem _)) z (prvB_le v' (by omega))
      have c2 := cutX_enc (prvB d' l' n) l'[n] (v' _ (List.getElem_mem _)) z' (prvB_le v' (by omega))
      rw [hz', c2] at c1
      simp only [Option.some.injEq, Prod.mk.injEq] at c1
      rw [List.take_add_one, List.take_add_one, ih, hy, hy', c1.1]
  have hlen : l.length = l'.length := by
    rcases Nat.lt_trichotomy l.length l'.length with hlt | heq | hgt
    · have t := K l.length (Nat.le_refl _) (by omega)
      rw [List.take_length] at t
      have := bodB_mono d' l' l.length (l'.length - l.length)
      rw [show l.length + (l'.length - l.length) = l'.length by omega, ← bodB_take d' l' (Nat.le_refl l.length), ← t] at this
      rw [e] at this
      omega
    · exact heq
    · have t := K l'.length (by omega) (Nat.le_refl _)
      rw [List.take_length] at t
      have := bodB_mono d' l l'.length (l.length - l'.length)
      rw [show l'.length + (l.length - l'.length) = l.length by omega, ← bodB_take d' l (Nat.le_refl l'.length), t] at this
      rw [e] at this
      omega
  have := K l.length (Nat.le_refl _) (by omega)
  rw [List.take_length, hlen, List.take_length] at this
  exact this
end Go.Proofs.Ytnmlifagchdphaa
