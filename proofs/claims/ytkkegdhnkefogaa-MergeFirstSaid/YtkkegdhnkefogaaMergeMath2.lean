/-
  Which rows Drop leaves. No condition.
-/
import Derived.Test.YtkkegdhnkefogaaMergeMath
namespace Go.Proofs.Ytkkegdhnkefogaa
set_option maxRecDepth 100000
open Go.RowKit
/-- One of the numbers sees the row. -/
def need (ms : List Nat) (p : Option Rw) (x : Rw) : Bool := ms.any fun m => sees m p x
theorem need_mem {A B : List Nat} (h : ∀ m, m ∈ A ↔ m ∈ B) : need A = need B := by
  funext p x
  unfold need
  rw [Bool.eq_iff_iff, List.any_eq_true, List.any_eq_true]
  exact ⟨fun ⟨m, h1, h2⟩ => ⟨m, (h m).1 h1, h2⟩, fun ⟨m, h1, h2⟩ => ⟨m, (h m).2 h1, h2⟩⟩
theorem sees_other {m : Nat} {x y : Rw} (h : y.key.toList ≠ x.key.toList) : sees m (some y) x = sees m none x := by unfold sees; simp [h]
theorem need_other {ms : List Nat} {x y : Rw} (h : y.key.toList ≠ x.key.toList) : need ms (some y) x = need ms none x := by
  unfold need
  congr 1
  funext m
  exact sees_other h
theorem selL_other {ms : List Nat} {p : Option Rw} {R : List Rw} (hp : ∀ y x, p = some y → R.head? = some x → y.key.toList ≠ x.key.toList) : selL (need ms) p R = selL (need ms) none R := by
  cases R with
  | nil => rfl
  | cons x r =>
    have : need ms p x = need ms none x := by
      cases p with
      | none => rfl
      | some y => exact need_other (hp y x rfl rfl)
    rw [selL, selL, this]
/-- Of one key: some number lies between. -/
theorem need_same {ms : List Nat} {x y : Rw} (h : y.key.toList = x.key.toList) : need ms (some y) x = ms.any fun m => decide (x.seq ≤ m) && decide (m < y.seq) := by
  unfold need sees
  simp [h]
/-- Where the numbers ascend, the least one that is not too small tells. -/
theorem need_least {D : List Nat} {x y : Rw} (h : y.key.toList = x.key.toList) (hs : D.Pairwise (· ≤ ·)) {i m : Nat} (hm : D[i]? = some m) (hx : x.seq ≤ m) (hlo : ∀ (j : Nat) z, j < i → D[j]? = some z → z < x.seq) : need D (some y) x = decide (m < y.seq) := by
  rw [need_same h, Bool.eq_iff_iff, List.any_eq_true, decide_eq_true_iff]
  constructor
  · rintro ⟨z, hz, hb⟩
    rw [Bool.and_eq_true, decide_eq_true_iff, decide_eq_true_iff] at hb
    obtain ⟨j, hj⟩ := List.mem_iff_getElem?.1 hz
    rcases Nat.lt_or_ge j i with h1 | h1
    · have := hlo j z h1 hj; omega
    · obtain ⟨l1, e1⟩ := List.getElem?_eq_some_iff.1 hm
      obtain ⟨l2, e2⟩ := List.getElem?_eq_some_iff.1 hj
      rcases Nat.eq_or_lt_of_le h1 with h2 | h2
      · subst h2; omega
      · have := List.pairwise_iff_getElem.1 hs i j l1 l2 h2
        rw [e1, e2] at this; omega
  · intro hlt
    exact ⟨m, List.mem_of_getElem? hm, by simp [hx, hlt]⟩
def isPut (x : Rw) : Bool := decide (x.kind = 1)
/-- The rows up to the last put. -/
def upL : List Rw → List Rw
  | [] => []
  | x :: r => if (x :: r).any isPut = true then x :: upL r else []
theorem upL_take : ∀ {L : List Rw} {n : Nat}, n ≤ L.length → (∀ (i : Nat) x, n ≤ i → L[i]? = some x → isPut x = false) → (∀ (i : Nat) x, n = i + 1 → L[i]? = some x → isPut x = true) → upL L = L.take n
  | [], n, _, _, _ => by simp [upL]
  | x :: r, 0, _, h1, _ => by
    have : (x :: r).any isPut = false := by
      rw [Bool.eq_false_iff]
      intro hc
      obtain ⟨y, hy, hq⟩ := List.any_eq_true.1 hc
      obtain ⟨i, hi⟩ := List.mem_iff_getElem?.1 hy
      rw [h1 i y (Nat.zero_le _) hi] at hq; cases hq
    rw [upL, this]; simp
  | x :: r, n + 1, hn, h1, h2 => by
    have hl : n < (x :: r).length := hn
    have hput := h2 n _ rfl (List.getElem?_eq_getElem hl)
    have : (x :: r).any isPut = true := List.any_eq_true.2 ⟨_, List.getElem_mem hl, hput⟩
    rw [upL, if_pos this, List.take_succ_cons]
    congr 1
    refine upL_take (by simpa using hn) (fun i y hi hy => h1 (i + 1) y (by omega) (by simpa using hy)) (fun i y hi hy => ?_)
    exact h2 (i + 1) y (by omega) (by simpa using hy)
/-- A put stands among the rows of the first one's key that come first. -/
def putA : List Rw → Bool
  | [] => false
  | x :: r => isPut x || (match r with | [] => false | y :: _ => decide (y.key.toList = x.key.toList) && putA r)
/-- The rows without the last ones of a key that are no puts. -/
def botL : List Rw → List Rw
  | [] => []
  | x :: r => if putA (x :: r) = true then x :: botL r else botL r
/-- Two lists' keys part. -/
def Parts (A B : List Rw) : Prop := ∀ x y, A.getLast? = some x → B.head? = some y → x.key.toList ≠ y.key.toList
theorem parts_tail {x : Rw} {y : Rw} {r B : List Rw} (h : Parts (x :: y :: r) B) : Parts (y :: r) B := fun a b ha hb => h a b (by rw [List.getLast?_cons_cons]; exact ha) hb
theorem putA_app : ∀ {A B : List Rw}, A ≠ [] → Parts A B → putA (A ++ B) = putA A
  | [], _, h, _ => absurd rfl h
  | [x], B, _, h => by
    cases B with
    | nil => rfl
    | cons y r =>
      have := h x y rfl rfl
      show (isPut x || (decide (y.key.toList = x.key.toList) && putA (y :: r))) = (isPut x || false)
      rw [decide_eq_false (fun e => this e.symm), Bool.false_and]
  | x :: y :: r, B, _, h => by
    show (isPut x || (decide (y.key.toList = x.key.toList) && putA ((y :: r) ++ B))) = (isPut x || (decide (y.key.toList = x.key.toList) && putA (y :: r)))
    rw [putA_app (by simp) (parts_tail h)]
theorem botL_app : ∀ {A B : List Rw}, Parts A B → botL (A ++ B) = botL A ++ botL B
  | [], _, _ => rfl
  | [x], B, h => by
    have := putA_app (A := [x]) (by simp) h
    show (if putA ([x] ++ B) = true then x :: botL B else botL B) = (if putA [x] = true then x :: botL [] else botL []) ++ botL B
    rw [this]
    split <;> rfl
  | x :: y :: r, B, h => by
    have e := putA_app (A := x :: y :: r) (by simp) h
    have ih := botL_app (A := y :: r) (B := B) (parts_tail h)
    show (if putA ((x :: y :: r) ++ B) = true then x :: botL ((y :: r) ++ B) else botL ((y :: r) ++ B)) = (if putA (x :: y :: r) = true then x :: botL (y :: r) else botL (y :: r)) ++ botL B
    rw [e, ih]
    split <;> rfl
theorem putA_one {K : List UInt8} : ∀ {A : List Rw}, (∀ x ∈ A, x.key.toList = K) → putA A = A.any isPut
  | [], _ => rfl
  | [x], _ => by simp [putA]
  | x :: y :: r, h => by
    show (isPut x || (decide (y.key.toList = x.key.toList) && putA (y :: r))) = _
    rw [putA_one (A := y :: r) (fun z hz => h z (List.mem_cons_of_mem _ hz)), decide_eq_true ((h y (by simp)).trans (h x (by simp)).symm), Bool.true_and]
    rfl
theorem botL_one {K : List UInt8} : ∀ {A : List Rw}, (∀ x ∈ A, x.key.toList = K) → botL A = upL A
  | [], _ => rfl
  | x :: r, h => by
    have ih := botL_one (A := r) (fun z hz => h z (List.mem_cons_of_mem _ hz))
    rw [botL, putA_one h, upL, ih]
    split
    · rfl
    · rename_i hn
      have : r.any isPut = false := by
        rw [Bool.eq_false_iff]; intro hc
        exact hn (by simp only [List.any_cons, hc, Bool.or_true])
      cases r with
      | nil => rfl
      | cons y r => rw [upL, if_neg (by rw [this]; simp)]
/-- What Drop leaves: ms are the marks. -/
def topM : Nat := 18446744073709551615
def dropL (ms : List Nat) (bottom : Bool) (l : List Rw) : List Rw := if bottom = true then botL (selL (need (ms ++ [topM])) none l) else selL (need (ms ++ [topM])) none l
/-- One key's rows, of which Drop leaves these. -/
def dropR (ms : List Nat) (bottom : Bool) (R : List Rw) : List Rw := if bottom = true then upL (selL (need (ms ++ [topM])) none R) else selL (need (ms ++ [topM])) none R
theorem lastO_mem : ∀ {l : List Rw} {p : Option Rw} {x : Rw}, l.getLast? = some x → lastO p l = some x
  | [], _, _, h => by cases h
  | [y], _, _, h => h
  | y :: z :: r, p, x, h => by
    rw [lastO]
    exact lastO_mem (l := z :: r) (by rwa [List.getLast?_cons_cons] at h)
theorem sel_last {f : Option Rw → Rw → Bool} : ∀ {l : List Rw} {p : Option Rw} {x : Rw}, (selL f p l).getLast? = some x → x ∈ l := fun {l p x} h => (selL_sub f p l).subset (List.mem_of_getLast? h)
/-- One more key. -/
theorem dropL_run {ms : List Nat} {bottom : Bool} {l : List Rw} {k r : Nat} (hs : SortedR l) (h : IsRun l k r) (hb : Brk l k) :
    dropL ms bottom (l.take (k + r)) = dropL ms bottom (l.take k) ++ dropR ms bottom ((l.drop k).take r) := by
  obtain ⟨z, hz⟩ : ∃ z, l[k]? = some z := ⟨_, List.getElem?_eq_getElem (by have := h.le; have := h.pos; omega)⟩
  have hone := h.one hs hz
  have hhead : ∀ x, ((l.drop k).take r).head? = some x → x.key.toList = z.key.toList := fun x hx => hone.key x (List.mem_of_mem_head? (by rw [hx]; rfl))
  have e : selL (need (ms ++ [topM])) none (l.take (k + r)) = selL (need (ms ++ [topM])) none (l.take k) ++ selL (need (ms ++ [topM])) none ((l.drop k).take r) := by
    rw [seg_take, selL_app]
    congr 1
    refine selL_other fun y x hy hx => ?_
    rw [hhead x hx]
    exact hb.prev hz y hy
  unfold dropL dropR
  rw [e]
  cases bottom with
  | false => rfl
  | true =>
    have hk2 : ∀ x ∈ selL (need (ms ++ [topM])) none ((l.drop k).take r), x.key.toList = z.key.toList := fun x hx => hone.key x ((selL_sub _ _ _).subset hx)
    simp only [if_true]
    rw [botL_app, botL_one hk2]
    intro x y hx hy
    rw [hk2 y (List.mem_of_mem_head? (by rw [hy]; rfl))]
    -- every row ahead has a lesser key than the one here
    have hxm := sel_last hx
    obtain ⟨i, hi⟩ := List.mem_iff_getElem?.1 hxm
    have hik : i < k := by have := (List.getElem?_eq_some_iff.1 hi).1; rw [List.length_take] at this; omega
    rw [List.getElem?_take, if_pos hik] at hi
    intro ek
    obtain ⟨w, hw⟩ : ∃ w, l[k - 1]? = some w := ⟨_, List.getElem?_eq_getElem (by have := (List.getElem?_eq_some_iff.1 hz).1; omega)⟩
    have hne := hb (k - 1) w z (by omega) hw hz
    have hp := List.pairwise_iff_getElem.1 hs
    obtain ⟨li, ei⟩ := List.getElem?_eq_some_iff.1 hi
    obtain ⟨lw, ew⟩ := List.getElem?_eq_some_iff.1 hw
    obtain ⟨lz, ez⟩ := List.getElem?_eq_some_iff.1 hz
    have hwz : ahd w z.key z.seq = true := by have := hp (k - 1) k lw lz (by omega); rwa [ew, ez] at this
    unfold ahd at hwz
    rw [if_neg hne] at hwz
    rcases Nat.eq_or_lt_of_le (show i ≤ k - 1 by omega) with e3 | e3
    · subst e3; rw [hi] at hw; cases hw; exact hne ek
    · have hxw : ahd x w.key w.seq = true := by have := hp i (k - 1) li lw e3; rwa [ei, ew] at this
      unfold ahd at hxw
      by_cases e4 : x.key.toList = w.key.toList
      · exact hne (e4.symm.trans ek)
      · rw [if_neg e4] at hxw
        have := WideShapes.bytes_trans _ _ _ hxw hwz
        rw [ek, WideAt.bytes_irrefl] at this; cases this
theorem upL_sub : ∀ L : List Rw, (upL L).Sublist L
  | [] => List.Sublist.slnil
  | x :: r => by
    rw [upL]
    split
    · exact (upL_sub r).cons_cons x
    · exact List.nil_sublist _
theorem dropR_sub (ms : List Nat) (bottom : Bool) (R : List Rw) : (dropR ms bottom R).Sublist R := by
  unfold dropR
  split
  · refine List.Sublist.trans ?_ (selL_sub (need (ms ++ [topM])) none R)
    generalize selL (need (ms ++ [topM])) none R = L
    induction L with
    | nil => exact List.Sublist.slnil
    | cons x r ih =>
      rw [upL]
      split
      · exact ih.cons_cons x
      · exact List.nil_sublist _
  · exact selL_sub _ _ _
theorem botL_sub : ∀ l : List Rw, (botL l).Sublist l
  | [] => List.Sublist.slnil
  | x :: r => by
    rw [botL]
    split
    · exact (botL_sub r).cons_cons x
    · exact (botL_sub r).cons x
theorem dropL_sub (ms : List Nat) (bottom : Bool) (l : List Rw) : (dropL ms bottom l).Sublist l := by
  unfold dropL
  split
  · exact (botL_sub _).trans (selL_sub _ _ _)
  · exact selL_sub _ _ _
end Go.Proofs.Ytkkegdhnkefogaa
