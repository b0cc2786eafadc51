/-
  Frames: plain mathematics. No model's run in this text. No condition.
-/
import Derived.Test.YtdhomindchjoiaaCodeMath2
import Derived.Test.YtdhomindchjoiaaSumMath2
namespace Go.Proofs.Ytdhomindchjoiaa.Frame
open Go.Proofs.Ytdhomindchjoiaa.Code
abbrev Bs := List UInt8
/-- The four bytes behind what they seal. -/
def seal' (l : Bs) : Bs := Crc.four (Crc.more 0#32 l)
theorem seal_length (l : Bs) : (seal' l).length = 4 := rfl
def body (p : Bs) : Bs := uvar p.length ++ p
def put (p : Bs) : Bs := body p ++ seal' (body p)
/-- What is read at the beginning of bytes: a payload, how many bytes its frame has, and the error's number. -/
def get (s : Bs) : Bs × Nat × Nat :=
  if (rd 0 s).2.2 ≠ 0 then ([], 0, (rd 0 s).2.2) else
  if 65536 < (rd 0 s).1 then ([], 0, 3) else
  if s.length < (rd 0 s).2.1 + (rd 0 s).1 + 4 then ([], 0, 6) else
  if seal' (s.take ((rd 0 s).2.1 + (rd 0 s).1)) ≠ (s.drop ((rd 0 s).2.1 + (rd 0 s).1)).take 4 then ([], 0, 7) else
  ((s.drop (rd 0 s).2.1).take (rd 0 s).1, (rd 0 s).2.1 + (rd 0 s).1 + 4, 0)
theorem put_length (p : Bs) : (put p).length = (uvar p.length).length + p.length + 4 := by
  unfold put body; rw [List.length_append, List.length_append, seal_length]
theorem get_put (p t : Bs) (hp : p.length ≤ 65536) : get (put p ++ t) = (p, (put p).length, 0) := by
  have e : put p ++ t = uvar p.length ++ (p ++ (seal' (body p) ++ t)) := by unfold put body; simp
  have hr : rd 0 (put p ++ t) = (p.length, (uvar p.length).length, 0) := by
    rw [e]; exact rd_uvar p.length 0 _ (by omega) (by omega) (by omega)
  have hl := put_length p
  have e2 : put p ++ t = body p ++ (seal' (body p) ++ t) := by unfold put; simp
  have hb : (body p).length = (uvar p.length).length + p.length := by unfold body; simp
  unfold get
  rw [hr]
  simp only
  rw [if_neg (by simp), if_neg (by omega), if_neg (by rw [List.length_append]; omega), ← hb]
  have t1 : (put p ++ t).take (body p).length = body p := by rw [e2]; exact List.take_left
  have t2 : ((put p ++ t).drop (body p).length).take 4 = seal' (body p) := by
    rw [e2, List.drop_left]
    show List.take (seal' (body p)).length _ = _
    exact List.take_left
  rw [t1, t2, if_neg (by simp)]
  have t3 : ((put p ++ t).drop (uvar p.length).length).take p.length = p := by
    rw [e, List.drop_left]; exact List.take_left
  rw [t3, hl, hb]
theorem get_err (s : Bs) : (get s).2.2 = 0 ∨ ((get s).2.2 = 3 ∨ (get s).2.2 = 6 ∨ (get s).2.2 = 7) ∧ (get s).1 = [] ∧ (get s).2.1 = 0 := by
  unfold get
  by_cases h1 : (rd 0 s).2.2 = 0
  · rw [if_neg (by simpa using h1)]
    split
    · simp
    · split
      · simp
      · split <;> simp
  · rw [if_pos h1]
    have := rd_err 0 s
    rcases this with h | ⟨h, _⟩
    · exact absurd h h1
    · rcases h with h | h <;> simp [h]
/-- What is got is what is put of its payload. -/
theorem put_get (s : Bs) (h : (get s).2.2 = 0) : 5 ≤ (get s).2.1 ∧ (get s).2.1 ≤ s.length ∧ (get s).1.length ≤ 65536 ∧ put (get s).1 = s.take (get s).2.1 := by
  unfold get at h ⊢
  by_cases h1 : (rd 0 s).2.2 = 0
  · rw [if_neg (by simpa using h1)] at h ⊢
    by_cases h2 : 65536 < (rd 0 s).1
    · rw [if_pos h2] at h; cases h
    · rw [if_neg h2] at h ⊢
      by_cases h3 : s.length < (rd 0 s).2.1 + (rd 0 s).1 + 4
      · rw [if_pos h3] at h; cases h
      · rw [if_neg h3] at h ⊢
        by_cases h4 : seal' (s.take ((rd 0 s).2.1 + (rd 0 s).1)) = (s.drop ((rd 0 s).2.1 + (rd 0 s).1)).take 4
        · rw [if_neg (by simpa using h4)] at h ⊢
          obtain ⟨u1, u2, u3, _, _⟩ := uvar_rd s 0 (by omega) h1
          have hl : ((s.drop (rd 0 s).2.1).take (rd 0 s).1).length = (rd 0 s).1 := by rw [List.length_take, List.length_drop]; omega
          show 5 ≤ (rd 0 s).2.1 + (rd 0 s).1 + 4 ∧ (rd 0 s).2.1 + (rd 0 s).1 + 4 ≤ s.length ∧ ((s.drop (rd 0 s).2.1).take (rd 0 s).1).length ≤ 65536 ∧ put ((s.drop (rd 0 s).2.1).take (rd 0 s).1) = s.take ((rd 0 s).2.1 + (rd 0 s).1 + 4)
          refine ⟨by omega, by omega, by rw [hl]; omega, ?_⟩
          have hb : body ((s.drop (rd 0 s).2.1).take (rd 0 s).1) = s.take ((rd 0 s).2.1 + (rd 0 s).1) := by
            unfold body
            rw [hl, ← u3, List.take_add]
          unfold put
          rw [hb, h4]
          exact (List.take_add (l := s) (i := (rd 0 s).2.1 + (rd 0 s).1) (j := 4)).symm
        · rw [if_pos h4] at h; cases h
  · rw [if_pos h1] at h
    exact absurd h h1
theorem get_behind (s t : Bs) (h : (get s).2.2 = 0) : get (s.take (get s).2.1 ++ t) = get s := by
  obtain ⟨h5, hl, hp, he⟩ := put_get s h
  rw [← he, get_put _ _ hp]
  have : (put (get s).1).length = (get s).2.1 := by rw [he, List.length_take]; omega
  rw [this]
  exact Prod.ext rfl (Prod.ext rfl h.symm)
theorem get_cut (p : Bs) (hp : p.length ≤ 65536) (k : Nat) (hk : k < (put p).length) : get ((put p).take k) = ([], 0, 6) := by
  have hl := put_length p
  have h10 := uvar_ten (n := p.length) (by omega)
  by_cases hu : k < (uvar p.length).length
  · have e : (put p).take k = (uvar p.length).take k := by
      unfold put body
      rw [List.append_assoc, List.take_append_of_le_length (by omega)]
    rw [e]
    have hr := rd_cut p.length 0 k (by omega) hu
    unfold get
    rw [hr]; simp
  · have e : (put p).take k = uvar p.length ++ ((p ++ seal' (body p)).take (k - (uvar p.length).length)) := by
      unfold put
      have : body p ++ seal' (body p) = uvar p.length ++ (p ++ seal' (body p)) := by unfold body; simp
      rw [this, List.take_append, List.take_of_length_le (by omega)]
    have hr : rd 0 ((put p).take k) = (p.length, (uvar p.length).length, 0) := by
      rw [e]; exact rd_uvar p.length 0 _ (by omega) (by omega) (by omega)
    unfold get
    rw [hr]
    simp only
    rw [if_neg (by simp), if_neg (by omega), if_pos (by rw [List.length_take]; omega)]
/-- Frames one behind the other: payloads, how many bytes, and the error's number of what stands behind. -/
def all : Nat → Bs → List Bs × Nat × Nat
  | 0, _ => ([], 0, 0)
  | f + 1, s => if s = [] then ([], 0, 0) else if (get s).2.2 ≠ 0 then ([], 0, (get s).2.2) else
      ((get s).1 :: (all f (s.drop (get s).2.1)).1, (get s).2.1 + (all f (s.drop (get s).2.1)).2.1, (all f (s.drop (get s).2.1)).2.2)
theorem all_succ (f : Nat) (s : Bs) : all (f + 1) s = if s = [] then ([], 0, 0) else if (get s).2.2 ≠ 0 then ([], 0, (get s).2.2) else
      ((get s).1 :: (all f (s.drop (get s).2.1)).1, (get s).2.1 + (all f (s.drop (get s).2.1)).2.1, (all f (s.drop (get s).2.1)).2.2) := rfl
theorem all_fuel : ∀ (f g : Nat) (s : Bs), s.length ≤ f → s.length ≤ g → all f s = all g s
  | 0, 0, _, _, _ => rfl
  | 0, g + 1, s, h, _ => by
    obtain rfl := List.length_eq_zero_iff.1 (Nat.le_zero.1 h)
    simp [all]
  | f + 1, 0, s, _, h => by
    obtain rfl := List.length_eq_zero_iff.1 (Nat.le_zero.1 h)
    simp [all]
  | f + 1, g + 1, s, hf, hg => by
    rw [all_succ, all_succ]
    by_cases h0 : s = []
    · rw [if_pos h0, if_pos h0]
    · rw [if_neg h0, if_neg h0]
      by_cases h1 : (get s).2.2 = 0
      · rw [if_neg (by simpa using h1), if_neg (by simpa using h1)]
        obtain ⟨h5, hl, _, _⟩ := put_get s h1
        rw [all_fuel f g (s.drop (get s).2.1) (by rw [List.length_drop]; omega) (by rw [List.length_drop]; omega)]
      · rw [if_pos h1, if_pos h1]
/-- What All answers. -/
def alls (s : Bs) : List Bs × Nat × Nat := all s.length s
theorem alls_nil : alls [] = ([], 0, 0) := rfl
theorem alls_err {s : Bs} (h0 : s ≠ []) (h : (get s).2.2 ≠ 0) : alls s = ([], 0, (get s).2.2) := by
  unfold alls
  obtain ⟨n, hn⟩ : ∃ n, s.length = n + 1 := ⟨s.length - 1, by have := List.length_pos_iff.2 h0; omega⟩
  rw [hn, all_succ, if_neg h0, if_pos h]
theorem alls_one {s : Bs} (h : (get s).2.2 = 0) : alls s = ((get s).1 :: (alls (s.drop (get s).2.1)).1, (get s).2.1 + (alls (s.drop (get s).2.1)).2.1, (alls (s.drop (get s).2.1)).2.2) := by
  obtain ⟨h5, hl, _, _⟩ := put_get s h
  have h0 : s ≠ [] := by rintro rfl; simp at hl; omega
  unfold alls
  obtain ⟨n, hn⟩ : ∃ n, s.length = n + 1 := ⟨s.length - 1, by omega⟩
  rw [hn, all_succ, if_neg h0, if_neg (by simpa using h), all_fuel n _ _ (by rw [List.length_drop]; omega) (Nat.le_refl _)]
theorem alls_put (p t : Bs) (hp : p.length ≤ 65536) : alls (put p ++ t) = (p :: (alls t).1, (put p).length + (alls t).2.1, (alls t).2.2) := by
  have hg := get_put p t hp
  rw [alls_one (by rw [hg]), hg]
  simp only [List.drop_left]
/-- Whole frames with any bytes behind them. -/
theorem alls_behind (n : Nat) : ∀ (s t : Bs), s.length ≤ n → alls (s.take (alls s).2.1 ++ t) = ((alls s).1 ++ (alls t).1, (alls s).2.1 + (alls t).2.1, (alls t).2.2) := by
  induction n with
  | zero =>
    intro s t h
    obtain rfl := List.length_eq_zero_iff.1 (Nat.le_zero.1 h)
    rw [alls_nil]; simp
  | succ n ih =>
    intro s t h
    by_cases h0 : s = []
    · subst h0; rw [alls_nil]; simp
    · by_cases h1 : (get s).2.2 = 0
      · obtain ⟨h5, hl, hp, he⟩ := put_get s h1
        have hpl : (put (get s).1).length = (get s).2.1 := by rw [he, List.length_take]; omega
        have i := ih (s.drop (get s).2.1) t (by rw [List.length_drop]; omega)
        rw [alls_one h1]
        have e : s.take ((get s).2.1 + (alls (s.drop (get s).2.1)).2.1) = put (get s).1 ++ (s.drop (get s).2.1).take (alls (s.drop (get s).2.1)).2.1 := by
          rw [List.take_add, he]
        simp only
        rw [e, List.append_assoc, alls_put _ _ hp, i, hpl]
        simp [Nat.add_assoc]
      · rw [alls_err h0 h1]
        simp
def puts (l : List Bs) : Bs := l.flatMap put
/-- Of frames, cut anywhere, those that are whole are told. -/
theorem alls_cut : ∀ (l : List Bs) (k : Nat), (∀ p ∈ l, p.length ≤ 65536) → k ≤ (puts l).length →
    ∃ n, n ≤ l.length ∧ (puts (l.take n)).length ≤ k ∧ (n < l.length → k < (puts (l.take (n + 1))).length) ∧
      alls ((puts l).take k) = (l.take n, (puts (l.take n)).length, if (puts (l.take n)).length = k then 0 else 6)
  | [], k, _, hk => ⟨0, by simp, by simp [puts], by simp, by
      have : k = 0 := by simpa [puts] using hk
      subst this; simp [puts, alls_nil]⟩
  | p :: l, k, h, hk => by
    have hp := h p (by simp)
    have hc : puts (p :: l) = put p ++ puts l := by simp [puts]
    by_cases hlt : k < (put p).length
    · refine ⟨0, by simp, by simp [puts], fun _ => by simpa [puts] using hlt, ?_⟩
      have e : (puts (p :: l)).take k = (put p).take k := by rw [hc, List.take_append_of_le_length (by omega)]
      rw [e]
      by_cases h0 : k = 0
      · subst h0; simp [puts, alls_nil]
      · have hg := get_cut p hp k hlt
        have hne : (put p).take k ≠ [] := by
          intro e
          have := congrArg List.length e
          rw [List.length_take, List.length_nil] at this
          omega
        rw [alls_err hne (by rw [hg]; simp), hg]
        have : ¬ (puts (List.take 0 (p :: l))).length = k := fun e => h0 (by rw [← e]; rfl)
        rw [if_neg this]; simp [puts]
    · have hk2 : k - (put p).length ≤ (puts l).length := by rw [hc, List.length_append] at hk; omega
      obtain ⟨n, h1, h2, h3, h4⟩ := alls_cut l (k - (put p).length) (fun q hq => h q (by simp [hq])) hk2
      have e : (puts (p :: l)).take k = put p ++ (puts l).take (k - (put p).length) := by
        rw [hc, List.take_append, List.take_of_length_le (by omega)]
      have e2 : ∀ j, (puts ((p :: l).take (j + 1))).length = (put p).length + (puts (l.take j)).length := fun j => by simp [puts]
      refine ⟨n + 1, by simpa using h1, by rw [e2]; omega, fun hn => by rw [e2]; have := h3 (by simpa using hn); omega, ?_⟩
      rw [e, alls_put p _ hp, h4, e2]
      have : ((puts (l.take n)).length = k - (put p).length) = ((put p).length + (puts (l.take n)).length = k) := propext (by omega)
      simp only [this]
      simp
end Go.Proofs.Ytdhomindchjoiaa.Frame
