/-
  Levels that a call owns: four rows of tables, apart from one another; and a set of tables that go. No condition.
-/
import Derived.Test.YtkkedofbnmjgeaaEditWhole
import Derived.Test.YtkkedofbnmjgeaaEditCopy
import Derived.ChangeKeys
namespace Go.Proofs.Ytkkedofbnmjgeaa
set_option maxRecDepth 100000
open Go Go.RowKit
/-- Row i of the levels, n tables long. -/
structure OwnLv (B : Nat) (L : Nat → List Mt) (K : Nat → Hd) (w : World) : Prop where
  row : ∀ i, i < 4 → w.ownsRow B 40 7 (.slice (K i).a (K i).n (K i).c) (K i).n ((L i).flatMap cellsM)
  n : ∀ i, i < 4 → (L i).length = (K i).n
  shp : ∀ i, i < 4 → ((K i).a = none ∧ (K i).n = 0 ∧ (K i).c = 0) ∨ ((K i).a = some ⟨(K i).b, 0, none⟩ ∧ (K i).o = 0)
  apart : ∀ i j, i < 4 → j < 4 → i ≠ j → (K i).a = none ∨ (K j).a = none ∨ (K i).b ≠ (K j).b
theorem own_of {h : Hd} (hs : (h.a = none ∧ h.n = 0 ∧ h.c = 0) ∨ (h.a = some ⟨h.b, 0, none⟩ ∧ h.o = 0)) : (h.a = none ∧ (Value.slice h.a h.n h.c).ownBlock = none) ∨ (h.a ≠ none ∧ (Value.slice h.a h.n h.c).ownBlock = some h.b) := by
  rcases hs with ⟨e, _, _⟩ | ⟨e, _⟩
  · exact .inl ⟨e, by rw [e]; rfl⟩
  · exact .inr ⟨by rw [e]; simp, by rw [e]; rfl⟩
theorem OwnLv.ms {B : Nat} {L : Nat → List Mt} {K : Nat → Hd} {w : World} (h : OwnLv B L K w) : ∀ i, i < 4 → Ms (K i) (L i) w ∧ (0 < (K i).n → B ≤ (K i).b) := by
  intro i hi
  have hr := h.row i hi
  obtain ⟨a, c, b, h1, h2, h3, h4⟩ := sl_of_rowG (cells := cellsM) (fun _ => rfl) (h.n i hi) hr
  injection h1 with e1 e2 e3
  rcases h.shp i hi with ⟨s1, s2, s3⟩ | ⟨s1, s2⟩
  · refine ⟨⟨⟨h.n i hi, by omega, by rw [s3]; omega, fun h0 => by omega, fun j x hx => ?_⟩, fun _ => ⟨s2, s3⟩⟩, fun h0 => by omega⟩
    have : (L i).length = 0 := by rw [h.n i hi, s2]
    have := (List.getElem?_eq_some_iff.1 hx).1
    omega
  · obtain ⟨r1, r2, _⟩ := row_of hr (K i).b (by rw [s1]; rfl)
    refine ⟨⟨⟨h.n i hi, by rw [e3]; exact h2.cap, by rw [e3]; exact h2.most, fun h0 => ⟨by rw [s1, s2], r2⟩, fun j x hx m u hu => ?_⟩, fun h => by rw [s1] at h; cases h⟩, fun _ => r1⟩
    have hj : j < (K i).n := by rw [← h.n i hi]; exact (List.getElem?_eq_some_iff.1 hx).1
    have h6 := (h2.addr (by omega)).1
    rw [← e1, s1] at h6
    injection h6 with h6
    injection h6 with h6 _ _
    have h5 := h2.at' j x hx m u hu
    rw [s2, h6]; exact h5
theorem OwnLv.keep {B : Nat} {L : Nat → List Mt} {K : Nat → Hd} {w w' : World} (h : OwnLv B L K w) (hk : ∀ k, B ≤ k → k < w.heap.size → w'.heap[k]? = w.heap[k]?) : OwnLv B L K w' := by
  refine ⟨fun i hi => ?_, h.n, h.shp, h.apart⟩
  have k := h.row i hi
  refine ⟨k.1, ?_⟩
  rcases k.2 with h2 | ⟨g, cap, cur, h1, h2, h3, h4⟩
  · exact .inl h2
  · exact .inr ⟨g, cap, cur, h1, h2, (hk g h2 (Array.getElem?_eq_some_iff.1 h3).1).trans h3, h4⟩
theorem OwnLv.below {B : Nat} {L : Nat → List Mt} {K : Nat → Hd} {w w' : World} (h : OwnLv B L K w) (hb : Below w.heap.size w w') : OwnLv B L K w' := h.keep (fun k _ hk => hb.block k hk)
theorem OwnLv.but {B b : Nat} {L : Nat → List Mt} {K : Nat → Hd} {w w' : World} (h : OwnLv B L K w) (hb : But b w w') (hB : b < B) : OwnLv B L K w' := h.keep (fun k h1 hk => hb.block k hk (by omega))
theorem OwnLv.put {B p o : Nat} {u : Value} {L : Nat → List Mt} {K : Nat → Hd} {w : World} (h : OwnLv B L K w) (hp : p < B) : OwnLv B L K (w.setCell ⟨p, o, none⟩ u) := h.keep (fun k h1 _ => heap_setCell_other _ _ _ _ (by show k ≠ p; omega))
theorem OwnLv.nil (B : Nat) (w : World) : OwnLv B (fun _ => []) noHd w :=
  ⟨fun _ _ => World.ownsRow_nil _ _ _ _, fun _ _ => rfl, fun _ _ => .inl ⟨rfl, rfl, rfl⟩, fun _ _ _ _ _ => .inl rfl⟩
def upL (L : Nat → List Mt) (i : Nat) (l : List Mt) : Nat → List Mt := fun k => if k = i then l else L k
def upH (K : Nat → Hd) (i : Nat) (h : Hd) : Nat → Hd := fun k => if k = i then h else K k
theorem upL_same (L : Nat → List Mt) (i : Nat) (l : List Mt) : upL L i l i = l := if_pos rfl
theorem upH_same (K : Nat → Hd) (i : Nat) (h : Hd) : upH K i h i = h := if_pos rfl
theorem upL_other (L : Nat → List Mt) {i k : Nat} (l : List Mt) (h : k ≠ i) : upL L i l k = L k := if_neg h
theorem upH_other (K : Nat → Hd) {i k : Nat} (x : Hd) (h : k ≠ i) : upH K i x k = K k := if_neg h
/-- One table more in row i. -/
theorem OwnLv.add {B : Nat} {L : Nat → List Mt} {K : Nat → Hd} {C w1 : World} {tmp : Obj} (h : OwnLv B L K C) {i : Nat} (hi : i < 4) {x : Mt} {g cap : Nat} (hown : w1.ownsRow B 40 7 (.slice (some ⟨g, 0, none⟩) ((K i).n + 1) cap) ((K i).n + 1) ((L i).flatMap cellsM ++ cellsM x))
    (hgrow : (C.alloc tmp).grownBy w1 (Value.slice (K i).a (K i).n (K i).c).ownBlock) (hat : (Value.slice (K i).a (K i).n (K i).c).ownBlock = some g ∨ g = (C.alloc tmp).heap.size) : OwnLv B (upL L i (L i ++ [x])) (upH K i ⟨some ⟨g, 0, none⟩, (K i).n + 1, cap, g, 0⟩) w1 := by
  have hg : ∀ j, j < 4 → j ≠ i → (K j).a = none ∨ (K j).b ≠ g := by
    intro j hj hne
    rcases own_of (h.shp j hj) with ⟨e, _⟩ | ⟨e, eb⟩
    · exact .inl e
    · refine .inr fun e2 => ?_
      obtain ⟨_, r2, _⟩ := row_of (h.row j hj) _ eb
      rcases hat with ha | ha
      · rcases own_of (h.shp i hi) with ⟨f, fb⟩ | ⟨f, fb⟩
        · rw [fb] at ha; cases ha
        · rw [fb] at ha
          injection ha with ha
          rcases h.apart j i hj hi hne with q | q | q
          · exact e q
          · exact f q
          · exact q (by omega)
      · rw [World.size_alloc] at ha; omega
  refine ⟨fun j hj => ?_, fun j hj => ?_, fun j hj => ?_, fun j k hj hk hne => ?_⟩
  · by_cases e : j = i
    · subst e
      rw [upL_same, upH_same, rowG_snoc]
      exact hown
    · rw [upL_other _ _ e, upH_other _ _ e]
      refine ((h.row j hj).alloc tmp).kept hgrow ?_
      rcases own_of (h.shp j hj) with ⟨_, eb⟩ | ⟨f, eb⟩
      · exact .inl eb
      · refine .inr fun e2 => ?_
        rw [eb] at e2
        rcases own_of (h.shp i hi) with ⟨_, fb⟩ | ⟨f2, fb⟩
        · rw [fb] at e2; cases e2
        · rw [fb] at e2
          injection e2 with e2
          rcases h.apart j i hj hi e with q | q | q
          · exact f q
          · exact f2 q
          · exact q e2
  · by_cases e : j = i
    · subst e
      rw [upL_same, upH_same, List.length_append, h.n j hj]; rfl
    · rw [upL_other _ _ e, upH_other _ _ e]; exact h.n j hj
  · by_cases e : j = i
    · subst e
      rw [upH_same]; exact .inr ⟨rfl, rfl⟩
    · rw [upH_other _ _ e]; exact h.shp j hj
  · by_cases e : j = i
    · subst e
      rw [upH_same, upH_other _ _ (Ne.symm hne)]
      rcases hg k hk (Ne.symm hne) with q | q
      · exact .inr (.inl q)
      · exact .inr (.inr (Ne.symm q))
    · by_cases e2 : k = i
      · subst e2
        rw [upH_same, upH_other _ _ e]
        rcases hg j hj e with q | q
        · exact .inl q
        · exact .inr (.inr q)
      · rw [upH_other _ _ e, upH_other _ _ e2]; exact h.apart j k hj hk hne
/-- The array of the levels' heads. -/
theorem lvs_set {p : Nat} {K : Nat → Hd} {w : World} (h : w.heap[p]? = some (lvsO K)) {i : Nat} (hi : i < 4) (k : Hd) : (w.setCell ⟨p, i, none⟩ (.slice k.a k.n k.c)).heap[p]? = some (lvsO (upH K i k)) := by
  have := heap_setCell_same _ _ i _ _ (.slice k.a k.n k.c) h
  refine this.trans ?_
  rcases (show i = 0 ∨ i = 1 ∨ i = 2 ∨ i = 3 by omega) with rfl | rfl | rfl | rfl
  all_goals rfl
theorem lvs_cell {p : Nat} {K : Nat → Hd} {w : World} (h : w.heap[p]? = some (lvsO K)) {i : Nat} (hi : i < 4) : w.cell? ⟨p, i, none⟩ = some (.slice (K i).a (K i).n (K i).c) := by
  simp only [World.cell?, h]
  rcases (show i = 0 ∨ i = 1 ∨ i = 2 ∨ i = 3 by omega) with rfl | rfl | rfl | rfl
  all_goals rfl
theorem lvs_frozen {p : Nat} {K : Nat → Hd} {w : World} (h : w.heap[p]? = some (lvsO K)) : ∀ o, w.frozen? ⟨p, o, none⟩ = false := fun o => by simp [World.frozen?, h]
/-! ### The set of those that go -/
theorem kG_inj {x y : Gn} (hx : GnIn x) (hy : GnIn y) (h : kG x = kG y) : x = y := by
  have wf : ∀ {z : Gn}, GnIn z → ∀ a ∈ [Lit.int .i64 z.lev, Lit.int .u64 (z.num : Int)], a.keyWf := fun {z} hz a ha => by
    simp only [List.mem_cons, List.not_mem_nil, or_false] at ha
    rcases ha with rfl | rfl
    · exact hz.1
    · have := hz.2; simp [Lit.keyWf, Lit.wf, IntKind.min, IntKind.max, IntKind.signed, IntKind.bits]; omega
  unfold kG at h
  injection h with h
  have := keyBytes_inj (l := [.int .i64 x.lev, .int .u64 (x.num : Int)]) (l' := [.int .i64 y.lev, .int .u64 (y.num : Int)]) ⟨rfl, rfl, trivial⟩ (wf hx) (wf hy) h
  obtain ⟨a, b⟩ := x
  obtain ⟨c, d⟩ := y
  simp at this
  obtain ⟨h1, h2⟩ := this
  subst h1
  obtain rfl : b = d := by omega
  rfl
def GSetAt (b n : Nat) (S : List Gn) (w : World) : Prop := ∃ D : DataW Unit, w.ownsMap Try.prog 54 (unitElem (H := Unit)) b n D ∧ ∀ x : Gn, GnIn x → Maps.has D (kG x) = tf (x ∈ S)
theorem GSetAt.lt {b n : Nat} {S : List Gn} {w : World} (h : GSetAt b n S w) : b < w.heap.size := by obtain ⟨D, h1, _⟩ := h; exact h1.lt
theorem GSetAt.keep {b n : Nat} {S : List Gn} {w w' : World} (h : GSetAt b n S w) (hk : w'.heap[b]? = w.heap[b]?) : GSetAt b n S w' := by
  obtain ⟨D, ⟨es, c, h1, h2⟩, h3⟩ := h
  exact ⟨D, ⟨es, c, hk.trans h1, h2⟩, h3⟩
theorem GSetAt.below {b n : Nat} {S : List Gn} {w w' : World} (h : GSetAt b n S w) (hb : Below w.heap.size w w') : GSetAt b n S w' := h.keep (hb.block b h.lt)
theorem GSetAt.put {b n : Nat} {S : List Gn} {w' : World} {D : DataW Unit} {x : Gn} {v : DataW Unit} (hx : GnIn x) (h : w'.ownsMap Try.prog 54 (unitElem (H := Unit)) b n (D.put (kG x) v)) (hm : Maps.IsMap D) (hs : ∀ x : Gn, GnIn x → Maps.has D (kG x) = tf (x ∈ S)) : GSetAt b n (S ++ [x]) w' := by
  refine ⟨_, h, fun y hy => ?_⟩
  by_cases e : y = x
  · subst e
    rw [Maps.has_put_same hm (by trivial), tf_true (by simp)]
  · rw [Maps.has_put_other (fun h => e (kG_inj hy hx h)), hs y hy]
    exact tf_congr (by simp [e])
theorem GSetAt.new (w : World) : GSetAt w.heap.size 0 [] (w.alloc (.map #[] 0)) := ⟨_, World.ownsMap_made w Try.prog _ _, fun x _ => by rw [tf_false (by simp)]; rfl⟩
end Go.Proofs.Ytkkedofbnmjgeaa
