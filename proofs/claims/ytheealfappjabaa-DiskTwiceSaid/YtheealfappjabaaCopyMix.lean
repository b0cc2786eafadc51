/-
  Changes of which the first ones have their twins already: what a loop over them has in memory. No condition.
-/
import Derived.Test.YtheealfappjabaaCopyAt
import Derived.Laws.OwnMore
namespace Go.Proofs.Ytheealfappjabaa
open Go Go.RowKit Go.Maps
/-- The first j changes point to the copy's files, the others to the disk's. -/
def RowsMix (own o2 : Own) : Nat → List Chg → List Value → Prop
  | 0, l, xs => RowsAre own l xs
  | _ + 1, [], xs => xs = []
  | j + 1, c :: r, xs => ∃ v ys, xs = encStr c.frm :: encStr c.to :: v :: ys ∧ PtrH o2 v c.file ∧ RowsMix own o2 j r ys
theorem RowsMix.more {own o2 o3 : Own} (h : More o2 o3) : ∀ {j : Nat} {l : List Chg} {xs : List Value}, RowsMix own o2 j l xs → RowsMix own o3 j l xs
  | 0, _, _, hx => hx
  | _ + 1, [], _, hx => hx
  | _ + 1, _ :: _, _, ⟨v, ys, e, hp, hr⟩ => ⟨v, ys, e, hp.more h, RowsMix.more h hr⟩
theorem RowsMix.all {own o2 : Own} : ∀ {l : List Chg} {xs : List Value}, RowsMix own o2 l.length l xs → RowsAre o2 l xs
  | [], _, hx => hx
  | _ :: _, _, ⟨v, ys, e, hp, hr⟩ => ⟨v, ys, e, hp, RowsMix.all hr⟩
theorem RowsMix.at {own o2 : Own} : ∀ {j : Nat} {l : List Chg} {xs : List Value}, RowsMix own o2 j l xs → ∀ {c : Chg}, l[j]? = some c → ∃ v, xs[3 * j + 2]? = some v ∧ PtrH own v c.file
  | 0, _, _, hx, c, h => by
    obtain ⟨v, _, _, h3, h4⟩ := RowsAre.at (k := 0) hx h
    exact ⟨v, h3, h4⟩
  | _ + 1, [], _, _, _, h => by cases h
  | j + 1, _ :: _, _, ⟨_, ys, e, _, hr⟩, c, h => by
    obtain ⟨v, h3, h4⟩ := RowsMix.at (j := j) hr (c := c) (by simpa using h)
    refine ⟨v, ?_, h4⟩
    rw [e, show 3 * (j + 1) + 2 = 3 * j + 2 + 1 + 1 + 1 by omega]; simpa using h3
theorem RowsMix.set {own o2 : Own} {u : Value} : ∀ {j : Nat} {l : List Chg} {xs : List Value}, RowsMix own o2 j l xs → ∀ {c : Chg}, l[j]? = some c → PtrH o2 u c.file → RowsMix own o2 (j + 1) l (xs.set (3 * j + 2) u)
  | 0, [], _, _, _, h, _ => by cases h
  | 0, d :: r, xs, ⟨v, ys, e, _, hr⟩, c, h, hp => by
    obtain rfl : d = c := by simpa using h
    exact ⟨u, ys, by rw [e]; rfl, hp, hr⟩
  | _ + 1, [], _, _, _, h, _ => by cases h
  | j + 1, d :: r, xs, ⟨v, ys, e, hq, hr⟩, c, h, hp => by
    refine ⟨v, ys.set (3 * j + 2) u, ?_, hq, RowsMix.set hr (c := c) (by simpa using h) hp⟩
    rw [e, show 3 * (j + 1) + 2 = 3 * j + 2 + 1 + 1 + 1 by omega]; rfl
/-- A copy of a disk under way: its directories and its own block are there. -/
structure Half (base p N : Nat) (own o2 : Own) (st : St) (B mb q nm km : Nat) (pv : Value) (L : List (Nat × Nat)) (W : World) : Prop where
  tw : Twins base own o2 st B mb L W
  at' : DiskAt base own p st W
  ns : MapAt o2 nm st.dir W
  ks : MapAt o2 km st.kept W
  blk : W.heap[q]? = some (.cells (diskCells st nm km pv) 52 (0, 0))
  fq : o2 q = none ∧ o2 nm = none ∧ o2 km = none
  ord : N ≤ B ∧ N ≤ mb ∧ B < q ∧ mb < q ∧ q < nm ∧ nm < km ∧ km < W.heap.size
  fr : ∀ k, own k ≠ none → k < N
  lo2 : ∀ k, o2 k ≠ none → N ≤ k
theorem Half.but {base p N : Nat} {own o2 : Own} {st : St} {B mb q nm km : Nat} {pv : Value} {L : List (Nat × Nat)} {W W' : World} (h : Half base p N own o2 st B mb q nm km pv L W) {r : Nat} (hr : km < r) (ho : o2 r = none) (b : But r W W') : Half base p N own o2 st B mb q nm km pv L W' := by
  obtain ⟨a1, a2, a3, a4, a5, a6, a7⟩ := h.ord
  exact ⟨h.tw.but ⟨by omega, by omega, ho⟩ b, h.at'.keep (fun k hk => b.block k (h.at'.lt hk) (by have := h.fr k hk; omega)) b.size, map_keep h.ns (.refl _) (b.block nm (by omega) (by omega)), map_keep h.ks (.refl _) (b.block km (by omega) (by omega)), (b.block q (by omega) (by omega)).trans h.blk, h.fq, ⟨a1, a2, a3, a4, a5, a6, Nat.lt_of_lt_of_le a7 b.size⟩, h.fr, h.lo2⟩
theorem Half.below {base p N : Nat} {own o2 : Own} {st : St} {B mb q nm km : Nat} {pv : Value} {L : List (Nat × Nat)} {W W' : World} (h : Half base p N own o2 st B mb q nm km pv L W) (b : Below W.heap.size W W') : Half base p N own o2 st B mb q nm km pv L W' :=
  h.but (r := W.heap.size) (by have := h.ord; omega) (by
    cases e : o2 W.heap.size with
    | none => rfl
    | some r => exact absurd (h.tw.lo W.heap.size (by simp [e])).2 (by omega)) (But.of_below b (Nat.le_refl _))
theorem Half.wait {base p N : Nat} {own o2 : Own} {st : St} {B mb q nm km : Nat} {pv : Value} {L : List (Nat × Nat)} {W : World} (h : Half base p N own o2 st B mb q nm km pv L W) (pv' : Value) : Half base p N own o2 st B mb q nm km pv' L (W.setCell ⟨q, 5, none⟩ pv') := by
  obtain ⟨a1, a2, a3, a4, a5, a6, a7⟩ := h.ord
  have b : But q W (W.setCell ⟨q, 5, none⟩ pv') := (But.refl q W).setCell rfl _
  exact ⟨h.tw.but ⟨by omega, by omega, h.fq.1⟩ b, h.at'.keep (fun k hk => b.block k (h.at'.lt hk) (by have := h.fr k hk; omega)) b.size, map_keep h.ns (.refl _) (b.block nm (by omega) (by omega)), map_keep h.ks (.refl _) (b.block km (by omega) (by omega)), (heap_setCell_same _ _ _ _ _ _ h.blk).trans rfl, h.fq, ⟨a1, a2, a3, a4, a5, a6, Nat.lt_of_lt_of_le a7 b.size⟩, h.fr, h.lo2⟩
theorem Half.twinned {base p N : Nat} {own o2 : Own} {st : St} {B mb q nm km : Nat} {pv : Value} {L : List (Nat × Nat)} {W W' : World} (h : Half base p N own o2 st B mb q nm km pv L W) {o3 : Own} {L' : List (Nat × Nat)} (tw : Twins base own o3 st B mb L' W') (up : ∀ k r, o2 k = some r → o3 k = some r) (fr : ∀ k, k < W.heap.size → o2 k = none → o3 k = none) (b : But mb W W') : Half base p N own o3 st B mb q nm km pv L' W' := by
  obtain ⟨a1, a2, a3, a4, a5, a6, a7⟩ := h.ord
  have m : More o2 o3 := fun k i => up k _
  exact ⟨tw, h.at'.keep (fun k hk => b.block k (h.at'.lt hk) (by have := h.fr k hk; omega)) b.size, map_keep h.ns m (b.block nm (by omega) (by omega)), map_keep h.ks m (b.block km (by omega) (by omega)), (b.block q (by omega) (by omega)).trans h.blk, ⟨fr q (by omega) h.fq.1, fr nm (by omega) h.fq.2.1, fr km (by omega) h.fq.2.2⟩, ⟨a1, a2, a3, a4, a5, a6, Nat.lt_of_lt_of_le a7 b.size⟩, h.fr, fun k hk => by
    by_cases e : o2 k = none
    · by_cases hl : k < W.heap.size
      · exact absurd (fr k hl e) hk
      · omega
    · exact h.lo2 k e⟩
theorem Half.new {base p N : Nat} {own o2 : Own} {st : St} {B mb q nm km nb kb : Nat} {pv : Value} {L : List (Nat × Nat)} {W : World} (tw : Twins base own o2 st B mb L W) (hd : DiskAt base own p st W) (hn : MapAt o2 nm st.dir W) (hk : MapAt o2 km st.kept W)
    (hq : W.heap[q]? = some (.cells (diskCells st nb kb pv) 52 (0, 0))) (fq : o2 q = none ∧ o2 nm = none ∧ o2 km = none) (ord : N ≤ B ∧ N ≤ mb ∧ B < q ∧ mb < q ∧ q < nm ∧ nm < km ∧ km < W.heap.size) (fr : ∀ k, own k ≠ none → k < N) (lo2 : ∀ k, o2 k ≠ none → N ≤ k) :
    Half base p N own o2 st B mb q nm km pv L ((W.setCell ⟨q, 2, none⟩ (.map (some nm))).setCell ⟨q, 4, none⟩ (.map (some km))) := by
  obtain ⟨a1, a2, a3, a4, a5, a6, a7⟩ := ord
  have b : But q W ((W.setCell ⟨q, 2, none⟩ (.map (some nm))).setCell ⟨q, 4, none⟩ (.map (some km))) := ((But.refl q W).setCell rfl _).setCell rfl _
  exact ⟨tw.but ⟨by omega, by omega, fq.1⟩ b, hd.keep (fun k hk => b.block k (hd.lt hk) (by have := fr k hk; omega)) b.size, map_keep hn (.refl _) (b.block nm (by omega) (by omega)), map_keep hk (.refl _) (b.block km (by omega) (by omega)), (heap_setCell_same _ _ _ _ _ _ (heap_setCell_same _ _ _ _ _ _ hq)).trans rfl, fq, ⟨a1, a2, a3, a4, a5, a6, Nat.lt_of_lt_of_le a7 b.size⟩, fr, lo2⟩
theorem row_base {w : World} {lo lo' : Nat} {e : TypeId} {size n : Nat} {v : Value} {xs : List Value} (h : w.ownsRow lo e size v n xs) (hg : ∀ g, v.ownBlock = some g → lo' ≤ g) : w.ownsRow lo' e size v n xs := by
  obtain ⟨h1, h2⟩ := h
  refine ⟨h1, ?_⟩
  rcases h2 with hn | ⟨g, cap, cur, rfl, _, b, c⟩
  · exact .inl hn
  · exact .inr ⟨g, cap, cur, rfl, hg g rfl, b, c⟩
theorem Half.done {base p N : Nat} {own o2 : Own} {st : St} {B mb q nm km : Nat} {pv : Value} {L : List (Nat × Nat)} {W : World} {xs : List Value} (h : Half base p N own o2 st B mb q nm km pv L W) (hb : base ≤ N) (hr : W.ownsRow 0 72 3 pv st.wait.length xs) (hx : RowsAre o2 st.wait xs) (hg : ∀ g, pv.ownBlock = some g → o2 g = none ∧ km < g) :
    ∃ o, DiskAt base o q st W ∧ ∀ k, k < N → o k = none := by
  obtain ⟨a1, a2, a3, a4, a5, a6, a7⟩ := h.ord
  have no : ∀ k, N ≤ k → own k = none := fun k hk => by
    cases e : own k with
    | none => rfl
    | some r => exact absurd (h.fr k (by simp [e])) (by omega)
  refine ⟨_, (copy_at h.tw h.at' h.ns h.ks h.blk hr hx (by omega) (by omega) (by omega) (fun g e => by obtain ⟨x, y⟩ := hg g e; exact ⟨by omega, by omega, by omega, x, no g (by omega), by omega⟩) h.fq ⟨no q (by omega), no nm (by omega), no km (by omega)⟩ ⟨by omega, by omega, by omega⟩).1, fun k hk => ?_⟩
  have hk2 : o2 k = none := by
    cases e : o2 k with
    | none => rfl
    | some r => exact absurd (h.lo2 k (by simp [e])) (by omega)
  have e1 : k ≠ q := by omega
  have e2 : k ≠ nm := by omega
  have e3 : k ≠ km := by omega
  have e4 : ¬ pv.ownBlock = some k := fun e => by have := (hg k e).2; omega
  unfold copyOwn
  rw [if_neg e1, if_neg e2, if_neg e3, if_neg e4, hk2]
  rfl
end Go.Proofs.Ytheealfappjabaa
