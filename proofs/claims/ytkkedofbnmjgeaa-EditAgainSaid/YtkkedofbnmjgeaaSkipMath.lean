/-
  A skip list as plain data: rows in order, each with a height; where a search comes to; what inserting makes of it. No condition.
-/
import Derived.Test.YtkkedofbnmjgeaaRowsOf
import Derived.WideAt
import Derived.WideShapes
namespace Go.Proofs.Ytkkedofbnmjgeaa
set_option maxRecDepth 100000
open Go.RowKit
theorem less_before : ∀ a b : List UInt8, Op.bytesLess a b = bytesBefore a b := by
  intro a
  induction a with
  | nil => intro b; cases b <;> simp [Op.bytesLess, bytesBefore]
  | cons x r ih => intro b; cases b <;> simp [Op.bytesLess, bytesBefore, ih]
/-- The row x stands ahead of the place of k and q. -/
def ahd (x : Rw) (k : ByteArray) (q : Nat) : Bool := if x.key.toList = k.toList then decide (q < x.seq) else bytesBefore x.key.toList k.toList
def sameP (x : Rw) (k : ByteArray) (q : Nat) : Prop := x.key.toList = k.toList ∧ x.seq = q
theorem ahd_irrefl {x : Rw} {k : ByteArray} {q : Nat} (h : sameP x k q) : ahd x k q = false := by
  unfold ahd; rw [if_pos h.1, h.2]; simp
theorem ahd_trans {x y : Rw} {k : ByteArray} {q : Nat} (h1 : ahd x y.key y.seq = true) (h2 : ahd y k q = true) : ahd x k q = true := by
  unfold ahd at *
  by_cases e1 : x.key.toList = y.key.toList
  · rw [if_pos e1] at h1
    by_cases e2 : y.key.toList = k.toList
    · rw [if_pos e2] at h2
      rw [if_pos (e1.trans e2)]
      simp only [decide_eq_true_eq] at *
      omega
    · rw [if_neg e2] at h2
      rw [if_neg (by rw [e1]; exact e2), e1]; exact h2
  · rw [if_neg e1] at h1
    by_cases e2 : y.key.toList = k.toList
    · rw [if_neg (by rw [← e2]; exact e1), ← e2]; exact h1
    · rw [if_neg e2] at h2
      have h3 := WideShapes.bytes_trans _ _ _ h1 h2
      rw [if_neg (fun e => by rw [e, WideAt.bytes_irrefl] at h3; cases h3)]; exact h3
theorem ahd_total {x y : Rw} (h : ¬ sameP x y.key y.seq) : ahd x y.key y.seq = true ∨ ahd y x.key x.seq = true := by
  unfold ahd
  by_cases e : x.key.toList = y.key.toList
  · rw [if_pos e, if_pos e.symm]
    have : x.seq ≠ y.seq := fun e2 => h ⟨e, e2⟩
    simp only [decide_eq_true_eq]
    omega
  · rw [if_neg e, if_neg (fun e2 => e e2.symm)]
    exact WideAt.bytes_total _ _ e
/-- The place of a row counts alone. -/
theorem ahd_same {x y : Rw} {k : ByteArray} {q : Nat} (h : sameP y k q) : ahd x y.key y.seq = ahd x k q := by
  unfold ahd; rw [h.1, h.2]
theorem ahd_left {x y : Rw} {k : ByteArray} {q : Nat} (h : sameP x y.key y.seq) : ahd x k q = ahd y k q := by
  unfold ahd; rw [h.1, h.2]
def SortedR (l : List Rw) : Prop := l.Pairwise fun x y => ahd x y.key y.seq = true
/-- How many rows stand ahead of a place. -/
def plc (l : List Rw) (k : ByteArray) (q : Nat) : Nat := (l.takeWhile fun x => ahd x k q).length
theorem plc_le (l : List Rw) (k : ByteArray) (q : Nat) : plc l k q ≤ l.length := (List.takeWhile_prefix _).length_le
theorem plc_iff : ∀ {l : List Rw}, SortedR l → ∀ {k : ByteArray} {q j : Nat} {x : Rw}, l[j]? = some x → (ahd x k q = true ↔ j < plc l k q)
  | [], _, _, _, _, _, h => by cases h
  | y :: r, hs, k, q, j, x, hx => by
    have hs' := List.pairwise_cons.1 hs
    unfold plc
    rw [List.takeWhile_cons]
    by_cases hy : ahd y k q = true
    · rw [if_pos hy]
      cases j with
      | zero =>
        obtain rfl : y = x := by simpa using hx
        simp [hy]
      | succ j =>
        have := plc_iff hs'.2 (k := k) (q := q) (j := j) (x := x) (by simpa using hx)
        rw [this]; unfold plc; simp
    · rw [if_neg hy]
      have : ahd x k q = false := by
        cases j with
        | zero =>
          obtain rfl : y = x := by simpa using hx
          simpa using hy
        | succ j =>
          have hm : x ∈ r := List.mem_of_getElem? (i := j) (by simpa using hx)
          cases e : ahd x k q with
          | false => rfl
          | true => exact absurd (ahd_trans (hs'.1 x hm) e) hy
      simp [this]
theorem plc_front {l : List Rw} {k : ByteArray} {q : Nat} {x : Rw} (hx : x ∈ l.take (plc l k q)) : ahd x k q = true := by
  have e : l.take (plc l k q) = l.takeWhile fun x => ahd x k q := by
    have := List.prefix_iff_eq_take.1 (List.takeWhile_prefix (l := l) fun x => ahd x k q)
    exact this.symm
  rw [e] at hx
  have : ∀ (l : List Rw), ∀ y ∈ l.takeWhile (fun x => ahd x k q), ahd y k q = true := by
    intro l
    induction l with
    | nil => intro y hy; cases hy
    | cons z r ih =>
      intro y hy
      rw [List.takeWhile_cons] at hy
      split at hy
      · rcases List.mem_cons.1 hy with rfl | h
        · assumption
        · exact ih y h
      · cases hy
  exact this l x hx
theorem plc_back {l : List Rw} (hs : SortedR l) {k : ByteArray} {q : Nat} {x : Rw} (hx : x ∈ l.drop (plc l k q)) : ahd x k q = false := by
  obtain ⟨j, hj⟩ := List.mem_iff_getElem?.1 hx
  rw [List.getElem?_drop] at hj
  have := plc_iff hs (k := k) (q := q) hj
  cases e : ahd x k q with
  | false => rfl
  | true => exact absurd (this.1 e) (by omega)
/-- There is a row of that place. -/
def thr (l : List Rw) (k : ByteArray) (q : Nat) : Bool := match l[plc l k q]? with | some x => decide (x.key.toList = k.toList) && decide (x.seq = q) | none => false
theorem thr_iff {l : List Rw} (hs : SortedR l) {k : ByteArray} {q : Nat} : thr l k q = true ↔ ∃ x ∈ l, sameP x k q := by
  unfold thr
  constructor
  · intro h
    split at h
    · rename_i x hx
      rw [Bool.and_eq_true, decide_eq_true_eq, decide_eq_true_eq] at h
      exact ⟨x, List.mem_of_getElem? hx, h⟩
    · cases h
  · rintro ⟨x, hm, hx⟩
    obtain ⟨j, hj⟩ := List.mem_iff_getElem?.1 hm
    have h1 := plc_iff hs (k := k) (q := q) hj
    rw [ahd_irrefl hx] at h1
    have h2 : plc l k q ≤ j := by
      rcases Nat.lt_or_ge j (plc l k q) with h | h
      · exact absurd (h1.2 h) (by simp)
      · exact h
    have hjl : j < l.length := (List.getElem?_eq_some_iff.1 hj).1
    obtain ⟨y, hy⟩ : ∃ y, l[plc l k q]? = some y := ⟨_, List.getElem?_eq_getElem (by omega)⟩
    rw [hy]
    rcases Nat.eq_or_lt_of_le h2 with e | hlt
    · rw [e, hj] at hy
      cases hy
      simp only [Bool.and_eq_true, decide_eq_true_eq]
      exact hx
    · have h3 : ahd y x.key x.seq = true := by
        have := List.pairwise_iff_getElem.1 hs _ _ (by omega) hjl hlt
        rw [(List.getElem?_eq_some_iff.1 hy).2, (List.getElem?_eq_some_iff.1 hj).2] at this
        exact this
      rw [ahd_same hx] at h3
      exact absurd ((plc_iff hs hy).1 h3) (by omega)
/-- A row put in. -/
def insR (l : List Rw) (x : Rw) : List Rw := l.take (plc l x.key x.seq) ++ x :: l.drop (plc l x.key x.seq)
theorem insR_sorted {l : List Rw} (hs : SortedR l) {x : Rw} (ht : thr l x.key x.seq = false) : SortedR (insR l x) := by
  unfold insR SortedR
  have hsp : SortedR (l.take (plc l x.key x.seq) ++ l.drop (plc l x.key x.seq)) := by rw [List.take_append_drop]; exact hs
  rw [SortedR, List.pairwise_append] at hsp
  rw [List.pairwise_append, List.pairwise_cons]
  refine ⟨hsp.1, ⟨fun y hy => ?_, hsp.2.1⟩, fun a ha b hb => ?_⟩
  · have h1 := plc_back hs hy
    have h2 : ¬ sameP y x.key x.seq := fun e => by
      have := (thr_iff hs (k := x.key) (q := x.seq)).2 ⟨y, List.mem_of_mem_drop hy, e⟩
      rw [ht] at this; cases this
    rcases ahd_total h2 with h | h
    · rw [h1] at h; cases h
    · exact h
  · rcases List.mem_cons.1 hb with rfl | h
    · exact plc_front ha
    · exact hsp.2.2 a ha b h
theorem insR_perm (l : List Rw) (x : Rw) : (insR l x).Perm (x :: l) := by
  unfold insR
  have h : (l.take (plc l x.key x.seq) ++ x :: l.drop (plc l x.key x.seq)).Perm (x :: (l.take (plc l x.key x.seq) ++ l.drop (plc l x.key x.seq))) := List.perm_middle
  rwa [List.take_append_drop] at h
theorem insR_len (l : List Rw) (x : Rw) : (insR l x).length = l.length + 1 := (insR_perm l x).length_eq
/-- Heights: how far one goes at level h, and in how many steps. -/
def hopI (h : Nat) : List Nat → Nat
  | [] => 0
  | x :: r => if hopI h r = 0 then (if h < x then 1 else 0) else hopI h r + 1
theorem hopI_cons (h x : Nat) (r : List Nat) : hopI h (x :: r) = if hopI h r = 0 then (if h < x then 1 else 0) else hopI h r + 1 := rfl
def hopC (h : Nat) (l : List Nat) : Nat := l.countP fun x => decide (h < x)
theorem hop_le (h : Nat) : ∀ l : List Nat, hopC h l ≤ hopI h l ∧ hopI h l ≤ l.length
  | [] => by simp [hopC, hopI]
  | x :: r => by
    obtain ⟨h1, h2⟩ := hop_le h r
    unfold hopC at *
    rw [List.countP_cons]
    rw [hopI_cons]
    simp only [List.length_cons, decide_eq_true_eq]
    by_cases hx : h < x
    · by_cases h0 : hopI h r = 0
      · simp only [hx, h0, if_true]; omega
      · simp only [hx, h0, if_true, if_false]; omega
    · by_cases h0 : hopI h r = 0
      · simp only [hx, h0, if_true, if_false]; omega
      · simp only [hx, h0, if_false]; omega
theorem hop_low (h : Nat) : ∀ l : List Nat, (∀ x ∈ l, x ≤ h) → hopI h l = 0 ∧ hopC h l = 0
  | [], _ => by simp [hopC, hopI]
  | x :: r, hl => by
    obtain ⟨h1, h2⟩ := hop_low h r fun y hy => hl y (List.mem_cons_of_mem _ hy)
    have hx : ¬ h < x := by have := hl x (by simp); omega
    unfold hopC at *
    rw [List.countP_cons]
    rw [hopI_cons]
    simp [h1, h2, hx]
theorem hop_hit (h x : Nat) (r : List Nat) (hx : h < x) : ∀ a : List Nat, (∀ y ∈ a, y ≤ h) → hopI h (a ++ x :: r) = a.length + 1 + hopI h r ∧ hopC h (a ++ x :: r) = 1 + hopC h r
  | [], _ => by
    unfold hopC
    rw [List.nil_append, List.countP_cons]
    rw [hopI_cons]
    simp only [hx, decide_true, if_true, List.length_nil]
    constructor
    · split <;> omega
    · omega
  | y :: a, ha => by
    obtain ⟨h1, h2⟩ := hop_hit h x r hx a fun z hz => ha z (List.mem_cons_of_mem _ hz)
    have hy : ¬ h < y := by have := ha y (by simp); omega
    unfold hopC at *
    rw [List.cons_append, List.countP_cons]
    rw [hopI_cons, h1, h2]
    simp only [hy, decide_false, List.length_cons]
    constructor
    · rw [if_neg (by omega)]; omega
    · simp
theorem hop_snoc (h x : Nat) : ∀ l : List Nat, hopI h (l ++ [x]) = (if h < x then l.length + 1 else hopI h l) ∧ hopC h (l ++ [x]) = hopC h l + (if h < x then 1 else 0)
  | [] => by
    unfold hopC
    by_cases hx : h < x <;> simp [hopI, hx]
  | y :: r => by
    obtain ⟨h1, h2⟩ := hop_snoc h x r
    unfold hopC at *
    rw [List.cons_append, List.countP_cons, List.countP_cons, h2]
    rw [hopI_cons, hopI_cons, h1]
    constructor
    · by_cases hx : h < x
      · simp only [hx, if_true, List.length_cons]; rw [if_neg (by omega)]
      · simp only [hx, if_false]
    · omega
theorem hop_rest (h : Nat) : ∀ l : List Nat, ∀ x ∈ l.drop (hopI h l), x ≤ h
  | [], x, hx => by simp at hx
  | y :: r, x, hx => by
    rw [hopI_cons] at hx
    by_cases h0 : hopI h r = 0
    · have hr := hop_rest h r
      rw [h0, List.drop_zero] at hr
      rw [if_pos h0] at hx
      by_cases hy : h < y
      · rw [if_pos hy, List.drop_succ_cons, List.drop_zero] at hx
        exact hr x hx
      · rw [if_neg hy, List.drop_zero] at hx
        rcases List.mem_cons.1 hx with rfl | hx
        · omega
        · exact hr x hx
    · rw [if_neg h0, List.drop_succ_cons] at hx
      exact hop_rest h r x hx
theorem hop_last (h : Nat) : ∀ l : List Nat, hopI h l ≠ 0 → ∃ x, l[hopI h l - 1]? = some x ∧ h < x
  | [], h0 => absurd rfl h0
  | y :: r, h0 => by
    rw [hopI_cons] at h0 ⊢
    by_cases h1 : hopI h r = 0
    · rw [if_pos h1] at h0 ⊢
      by_cases hy : h < y
      · rw [if_pos hy]; exact ⟨y, by simp, hy⟩
      · rw [if_neg hy] at h0; exact absurd rfl h0
    · rw [if_neg h1]
      obtain ⟨x, hx, hlt⟩ := hop_last h r h1
      refine ⟨x, ?_, hlt⟩
      have : hopI h r + 1 - 1 = (hopI h r - 1) + 1 := by omega
      rw [this, List.getElem?_cons_succ]; exact hx
/-- Behind k levels, from the highest one down: how far, and in how many steps. -/
def dn (hs : List Nat) : Nat → Nat × Nat
  | 0 => (0, 0)
  | k + 1 => ((dn hs k).1 + hopI (11 - k) (hs.drop (dn hs k).1), (dn hs k).2 + hopC (11 - k) (hs.drop (dn hs k).1))
theorem dn_le (hs : List Nat) : ∀ k, (dn hs k).1 ≤ hs.length ∧ (dn hs k).2 ≤ (dn hs k).1
  | 0 => ⟨Nat.zero_le _, Nat.le_refl _⟩
  | k + 1 => by
    obtain ⟨h1, h2⟩ := dn_le hs k
    obtain ⟨h3, h4⟩ := hop_le (11 - k) (hs.drop (dn hs k).1)
    rw [List.length_drop] at h4
    simp only [dn]
    omega
theorem dn_last {hs : List Nat} (hh : ∀ x ∈ hs, x ≤ 12) : ∀ k, k ≤ 12 → ((dn hs k).1 = 0 ∨ ∃ x, hs[(dn hs k).1 - 1]? = some x ∧ 12 - k < x) ∧ ∀ x ∈ hs.drop (dn hs k).1, x ≤ 12 - k
  | 0, _ => ⟨.inl rfl, fun x hx => by have := hh x (List.mem_of_mem_drop hx); omega⟩
  | k + 1, hk => by
    obtain ⟨h1, h2⟩ := dn_last hh k (by omega)
    have e : 12 - (k + 1) = 11 - k := by omega
    rw [e]
    simp only [dn]
    have h3 := hop_rest (11 - k) (hs.drop (dn hs k).1)
    rw [List.drop_drop] at h3
    refine ⟨?_, h3⟩
    by_cases h0 : hopI (11 - k) (hs.drop (dn hs k).1) = 0
    · rw [h0, Nat.add_zero]
      rcases h1 with h | ⟨x, hx, hlt⟩
      · exact .inl h
      · exact .inr ⟨x, hx, by omega⟩
    · obtain ⟨x, hx, hlt⟩ := hop_last _ _ h0
      rw [List.getElem?_drop] at hx
      refine .inr ⟨x, ?_, hlt⟩
      rw [show (dn hs k).1 + hopI (11 - k) (hs.drop (dn hs k).1) - 1 = (dn hs k).1 + (hopI (11 - k) (hs.drop (dn hs k).1) - 1) by omega]
      exact hx
def stp (hs : List Nat) : Nat := (dn hs 12).2
theorem stp_le (hs : List Nat) : stp hs ≤ hs.length := Nat.le_trans (dn_le hs 12).2 (dn_le hs 12).1
theorem stp_one {hs : List Nat} (h : ∀ x ∈ hs, x = 1) : stp hs = hs.length := by
  have low : ∀ k, k ≤ 11 → dn hs k = (0, 0) := by
    intro k
    induction k with
    | zero => intro _; rfl
    | succ k ih =>
      intro hk
      have e := hop_low (11 - k) hs fun x hx => by have := h x hx; omega
      simp [dn, ih (by omega), e.1, e.2]
  have : hopC 0 hs = hs.length := by
    unfold hopC
    rw [List.countP_eq_length]
    intro x hx
    rw [h x hx]; simp
  unfold stp
  show (dn hs 11).2 + hopC (11 - 11) (hs.drop (dn hs 11).1) = _
  rw [low 11 (by omega)]
  simp [this]
/-- A height as it counts. -/
def hgtOf (h : Int) : Nat := if h < 1 then 1 else if 12 < h then 12 else h.toNat
theorem hgtOf_range (h : Int) : 1 ≤ hgtOf h ∧ hgtOf h ≤ 12 := by unfold hgtOf; split <;> (try split) <;> omega
/-- The greatest of heights. -/
def topH (hs : List Nat) : Nat := hs.foldl max 0
theorem foldl_max : ∀ (hs : List Nat) (a : Nat), hs.foldl max a = max a (topH hs)
  | [], a => by simp [topH]
  | x :: r, a => by unfold topH; rw [List.foldl_cons, List.foldl_cons, foldl_max r, foldl_max r (max 0 x)]; omega
theorem topH_cons (x : Nat) (r : List Nat) : topH (x :: r) = max x (topH r) := by
  show (x :: r).foldl max 0 = _
  rw [List.foldl_cons, foldl_max]; omega
theorem topH_app (a b : List Nat) : topH (a ++ b) = max (topH a) (topH b) := by
  show (a ++ b).foldl max 0 = _
  rw [List.foldl_append, foldl_max]; rfl
theorem topH_le {hs : List Nat} (h : ∀ x ∈ hs, x ≤ 12) : topH hs ≤ 12 := by
  induction hs with
  | nil => simp [topH]
  | cons x r ih =>
    rw [topH_cons]
    have := h x (by simp)
    have := ih fun y hy => h y (List.mem_cons_of_mem _ hy)
    omega
/-- A list: rows in order, each with its height. -/
abbrev SL := List (Rw × Nat)
def rowsL (l : SL) : List Rw := l.map (·.1)
def hgtsL (l : SL) : List Nat := l.map (·.2)
def plL (l : SL) (k : ByteArray) (q : Nat) : Nat := plc (rowsL l) k q
def insL (l : SL) (x : Rw) (h : Nat) : SL := l.take (plL l x.key x.seq) ++ (x, h) :: l.drop (plL l x.key x.seq)
def thrL (l : SL) (k : ByteArray) (q : Nat) : Bool := thr (rowsL l) k q
def putL (l : SL) (x : Rw) (h : Nat) : SL := if thrL l x.key x.seq = true then l else insL l x h
def stepsL (l : SL) (k : ByteArray) (q : Nat) : Nat := stp ((hgtsL l).take (plL l k q))
theorem rows_insL (l : SL) (x : Rw) (h : Nat) : rowsL (insL l x h) = insR (rowsL l) x := by
  unfold insL insR plL rowsL
  rw [List.map_append, List.map_cons, List.map_take, List.map_drop]
theorem hgts_insL (l : SL) (x : Rw) (h : Nat) : hgtsL (insL l x h) = (hgtsL l).take (plL l x.key x.seq) ++ h :: (hgtsL l).drop (plL l x.key x.seq) := by
  unfold insL hgtsL
  rw [List.map_append, List.map_cons, List.map_take, List.map_drop]
theorem top_insL (l : SL) (x : Rw) (h : Nat) : topH (hgtsL (insL l x h)) = max (topH (hgtsL l)) h := by
  rw [hgts_insL, topH_app, topH_cons]
  have e : topH (hgtsL l) = max (topH ((hgtsL l).take (plL l x.key x.seq))) (topH ((hgtsL l).drop (plL l x.key x.seq))) := by
    rw [← topH_app, List.take_append_drop]
  rw [e]; omega
theorem rows_len (l : SL) : (rowsL l).length = l.length := by unfold rowsL; simp
theorem hgts_len (l : SL) : (hgtsL l).length = l.length := by unfold hgtsL; simp
end Go.Proofs.Ytkkedofbnmjgeaa
