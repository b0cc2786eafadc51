/-
  The contract of the program's insert. Condition: at most 100 tables a level, 1000 that are added.
-/
import Derived.Test.YtnmjfdejgfmoiaaPack11
import Derived.Test.YtnmjfdejgfmoiaaShelf
import Derived.Lib.Builder
import Derived.Lib.UnsafeStr
import Derived.Lib.AppendIntMem
import Derived.Lib.AppendStr
import Derived.Handy
namespace Go.Proofs.Ytnmjfdejgfmoiaa
set_option maxRecDepth 100000
section
open Go
variable {P : Program} {md : Region.Mode} {ops : Array Oper} {Q : Exit → Act → World → Prop} {S : World → Prop} {z : Nat}
/-- Number z waits for number i, itself or by way of one that is not listed. -/
def waits2B (md : Region.Mode) (ops : Array Oper) (z i : Nat) (listed : Array Bool) : Bool := waitsB md ops z i || (List.range ops.size).any fun j => waitsB md ops z j && waitsB md ops j i && !listed.getD j true
theorem waits_un {i : Nat} {listed : Array Bool} (hw : waitsB md ops z i = true) (hun : listed.getD i true = false) : z ∉ Region.ready md ops listed := fun hz => by
  obtain ⟨_, o, ho, hall⟩ := mem_ready.1 hz
  unfold waitsB at hw
  rw [ho] at hw
  obtain ⟨q, hq, hb⟩ := Array.any_eq_true.1 hw
  rw [Bool.and_eq_true, beq_iff_eq] at hb
  have hl := hall _ (Array.getElem_mem hq) hb.1
  rw [hb.2] at hl
  rcases Nat.lt_or_ge i listed.size with h' | h'
  · simp [h'] at hun hl; rw [hun] at hl; cases hl
  · simp [Array.getElem?_eq_none h'] at hun
theorem waits2_not {i : Nat} {listed : Array Bool} (hw : waits2B md ops z i listed = true) (hr : i ∈ Region.ready md ops listed) : z ∉ Region.ready md ops listed := by
  unfold waits2B at hw
  rw [Bool.or_eq_true] at hw
  rcases hw with h | h
  · exact waits_not h hr
  · obtain ⟨j, _, hj⟩ := List.any_eq_true.1 h
    simp only [Bool.and_eq_true, Bool.not_eq_true'] at hj
    exact waits_un hj.1.1 hj.2
theorem waits2_set {i k : Nat} {listed : Array Bool} (hw : waits2B md ops z i listed = true) (hr : i ∈ Region.ready md ops listed) (hk : k ∈ Region.ready md ops listed) : waits2B md ops z i (listed.setIfInBounds k true) = true := by
  unfold waits2B at hw ⊢
  rw [Bool.or_eq_true] at hw ⊢
  rcases hw with h | h
  · exact .inl h
  · refine .inr ?_
    obtain ⟨j, hj0, hj⟩ := List.any_eq_true.1 h
    simp only [Bool.and_eq_true, Bool.not_eq_true'] at hj
    refine List.any_eq_true.2 ⟨j, hj0, ?_⟩
    simp only [Bool.and_eq_true, Bool.not_eq_true']
    refine ⟨hj.1, ?_⟩
    have hne : k ≠ j := fun e => waits_not (z := j) hj.1.2 hr (e ▸ hk)
    rw [getD_set_ne true hne]
    exact hj.2
theorem wpE2_first {i : Nat} {oi : Oper} {v : Value} (hi : ops[i]? = some oi) (hsel : ∀ (j : Nat) (o : Oper) cs b, ops[j]? = some o → o.op ≠ .select cs b) (hiz : i ≠ z)
    (hQ : ∀ c a w, Q (.panic c) (a.put oi.dst v) w → Q (.panic c) a w) :
    ∀ (n : Nat) (listed : Array Bool) (a : Act) (w : World), waits2B md ops z i listed = true → (∀ j oj, ops[j]? = some oj → j ≠ i → listed.getD j true = false → (∀ e ∈ oj.after, Region.binds md e = true → e.on ≠ i) → oi.apart ops oj = true) → i ∈ Region.ready md ops listed → YieldsIf P ops S oi v a → S w →
      wpE P md ops Q S z n (listed.setIfInBounds i true) (a.put oi.dst v) w → wpE P md ops Q S z (n + 1) listed a w := by
  intro n
  induction n with
  | zero =>
    intro listed a w _ _ hr hy hS H
    refine ⟨fun h => (by rw [h] at hr; cases hr), fun j hj => ?_⟩
    by_cases e : j = i
    · subst e; exact hy.wpOp hi hS ⟨fun _ => hS, H⟩
    · have h0 := ready_mono hj e
      rw [H.1] at h0
      cases h0
  | succ n ih =>
    intro listed a w hz hfree hr hy hS H
    refine ⟨fun h => (by rw [h] at hr; cases hr), fun j hj => ?_⟩
    by_cases e : j = i
    · subst e; exact hy.wpOp hi hS ⟨fun _ => hS, H⟩
    · have hjz : j ≠ z := fun g => waits2_not hz hr (g ▸ hj)
      have h1 := H.2 j (ready_mono hj e)
      obtain ⟨hjun, oj, hoj, hall⟩ := mem_ready.1 hj
      have hun := (mem_ready.1 hr).1
      have hnot : ∀ d ∈ oj.after, Region.binds md d = true → d.on ≠ i := fun d hd hb g => by
        have hl := hall d hd hb
        rw [g] at hl
        rcases Nat.lt_or_ge i listed.size with h' | h'
        · simp [h'] at hun hl; rw [hun] at hl; cases hl
        · simp [Array.getElem?_eq_none h'] at hl
      have h2 := wpOp_putIf hoj (hfree j oj hoj e hjun hnot) (fun cs b => hsel i oi cs b hi) (fun cs b => hsel j oj cs b hoj) hQ hy h1
      refine wpOp_mono (fun a' w' h3 => ⟨h3.2.1, ih (listed.setIfInBounds j true) a' w' (waits2_set hz hr hj) (fun k ok hk hki hu hno => ?_) (ready_mono hr (Ne.symm e)) h3.1 (h3.2.1 hjz) ?_⟩) h2
      · refine hfree k ok hk hki ?_ hno
        by_cases g : j = k
        · subst g; exact hjun
        · rw [getD_set_ne true g] at hu; exact hu
      · rw [Array.setIfInBounds_comm _ _ e]
        exact h3.2.2
variable {fuel : Nat} {listed : Array Bool} {a : Act} {w : World}
theorem heldE2_take {i : Nat} {dst : Option Tmp} {op : Op} {type : TypeId} {pos : String} {after} {guard} {v : Value} (hi : ops[i]? = some { dst := dst, op := op, type := type, pos := pos, after := after, guard := guard })
    (hs : Region.noSelect ops = true) (hf : (Region.free md ops listed i && waits2B md ops z i listed && (i != z)) = true) (hr : (Region.ready md ops listed).contains i = true)
    (hQ : ∀ c a w, Q (.panic c) (a.put dst v) w → Q (.panic c) a w) (hw : Region.wanted { dst := dst, op := op, type := type, pos := pos, after := after, guard := guard } (yielded ops a.tmps) = true)
    (hy : ∀ w, S w → (execOp a.eval { dst := dst, op := op, type := type, pos := pos, after := after, guard := guard }).run P w = .ok (.value v) w) (hS : S w)
    (h : wpE P md ops Q S z fuel (listed.setIfInBounds i true) (a.put dst v) w) : wpE P md ops Q S z (fuel + 1) listed a w := by
  rw [Bool.and_eq_true, Bool.and_eq_true, bne_iff_ne] at hf
  exact wpE2_first hi (Region.noSelect_spec hs) hf.2 hQ fuel listed a w hf.1.2 (Region.free_spec hi hf.1.1) (by simpa using hr) (.inl ⟨hw, hy⟩) hS h
end
open Go Go.RowKit Go.Sort
/-- Rows stand where all blocks of tables stand. -/
theorem OwnLv.keepR {B : Nat} {L : Nat → List Mt} {K : Nat → Hd} {w w' : World} (h : OwnLv B L K w) (hk : ∀ (k : Nat) (cs : Array Value), w.heap[k]? = some (Obj.cells cs 40 (0, 0)) → w'.heap[k]? = w.heap[k]?) : OwnLv B L K w' := by
  refine ⟨fun i hi => ?_, h.n, h.shp, h.apart⟩
  have k := h.row i hi
  refine ⟨k.1, ?_⟩
  rcases k.2 with h2 | ⟨g, cap, cur, h1, h2, h3, h4⟩
  · exact .inl h2
  · exact .inr ⟨g, cap, cur, h1, h2, (hk g cur h3).trans h3, h4⟩
/-- The numbers of the levels below i. -/
def nsTo (L : Nat → List Mt) : Nat → List Nat
  | 0 => []
  | i + 1 => (L i).map Mt.num ++ nsTo L i
/-- The levels with the first k tables that are added. -/
def addTo (ps : List Pl) (L : Nat → List Mt) (k : Nat) : Nat → List Mt := fun i => L i ++ ((ps.take k).filter (fun p => p.lev == (i : Int))).map Pl.tb
theorem addTo_zero (ps : List Pl) (L : Nat → List Mt) : addTo ps L 0 = L := by funext i; unfold addTo; simp
theorem addTo_succ {ps : List Pl} {L : Nat → List Mt} {k i : Nat} {x : Mt} (h : ps[k]? = some ⟨(i : Int), x⟩) : addTo ps L (k + 1) = upL (addTo ps L k) i (addTo ps L k i ++ [x]) := by
  funext j
  unfold upL addTo
  rw [List.take_add_one, h]
  by_cases e : j = i
  · subst e
    simp
  · rw [if_neg e]
    have : ¬ (i : Int) = (j : Int) := by omega
    simp [this]
theorem addTo_len {ps : List Pl} {L : Nat → List Mt} {k i : Nat} (h : (L i).length ≤ 100) (hk : k ≤ 1000) : (addTo ps L k i).length ≤ 1100 := by
  unfold addTo
  rw [List.length_append, List.length_map]
  have h1 := List.length_filter_le (fun p : Pl => p.lev == (i : Int)) (ps.take k)
  rw [List.length_take] at h1
  omega
def cfOf (i : Nat) : Mt → Mt → Int := if i = 0 then cfNum else cfKey
theorem swoOf (i : Nat) : SWO (ltOf (cfOf i)) := by
  unfold cfOf
  split
  · exact swoNum
  · exact swoKey
/-- What insert makes of the levels. -/
def insLv (L : Nat → List Mt) (ps : List Pl) : Nat → List Mt := fun i => srt (cfOf i) (addTo ps L ps.length i)
def srtTo (L : Nat → List Mt) (i : Nat) : Nat → List Mt := fun j => if j < i then srt (cfOf j) (L j) else L j
/-- insert under way. -/
structure InI (N B q n : Nat) (S : List Nat) (Lr : Nat → List Mt) (K : Nat → Hd) (w wr : World) : Prop where
  set : SetAt w.heap.size n S wr
  left : wr.heap[q]? = some (lvsO K)
  own : OwnLv B Lr K wr
  f : Below N w wr
  nb : N ≤ B
  nq : N ≤ q
  nw : N ≤ w.heap.size
  big : B ≤ wr.heap.size
theorem InI.below {N B q n : Nat} {S : List Nat} {Lr : Nat → List Mt} {K : Nat → Hd} {w wr u : World} (h : InI N B q n S Lr K w wr) (hb : Below wr.heap.size wr u) : InI N B q n S Lr K w u :=
  ⟨h.set.below hb, (hb.block _ (Array.getElem?_eq_some_iff.1 h.left).1).trans h.left, h.own.below hb, h.f.trans (hb.mono (by have := h.f.size; have := h.nw; omega)), h.nb, h.nq, h.nw, Nat.le_trans h.big hb.size⟩
theorem InI.put {N B q n m : Nat} {S S' : List Nat} {Lr : Nat → List Mt} {K : Nat → Hd} {w wr u : World} (h : InI N B q n S Lr K w wr) (hg : wr.grownBy u (some w.heap.size)) (hs : SetAt w.heap.size m S' u) : InI N B q m S' Lr K w u := by
  have hbut := But.of_grown hg
  have hq : q ≠ w.heap.size := h.set.ne (lvs_cell h.left (show 0 < 4 by decide))
  refine ⟨hs, (hbut.block q (Array.getElem?_eq_some_iff.1 h.left).1 hq).trans h.left, h.own.keepR (fun k cs hk => hbut.block k (Array.getElem?_eq_some_iff.1 hk).1 (fun e => ?_)), h.f.trans (hbut.below h.nw (by have := h.f.size; have := h.nw; omega)), h.nb, h.nq, h.nw, Nat.le_trans h.big hbut.size⟩
  subst e
  obtain ⟨D, ⟨es, c, h1, _⟩, _⟩ := h.set
  rw [h1] at hk; cases hk
theorem InI.add {N B q n : Nat} {S : List Nat} {Lr : Nat → List Mt} {K : Nat → Hd} {w C w1 : World} {tmp : Obj} (h : InI N B q n S Lr K w C) {i : Nat} (hi : i < 4) {x : Mt} {g cap : Nat} (hown : w1.ownsRow B 40 7 (.slice (some ⟨g, 0, none⟩) ((K i).n + 1) cap) ((K i).n + 1) ((Lr i).flatMap cellsM ++ cellsM x))
    (hgrow : (C.alloc tmp).grownBy w1 (Value.slice (K i).a (K i).n (K i).c).ownBlock) (hat : (Value.slice (K i).a (K i).n (K i).c).ownBlock = some g ∨ g = (C.alloc tmp).heap.size) :
    InI N B q n S (upL Lr i (Lr i ++ [x])) (upH K i ⟨some ⟨g, 0, none⟩, (K i).n + 1, cap, g, 0⟩) w (w1.setCell ⟨q, i, none⟩ (.slice (some ⟨g, 0, none⟩) ((K i).n + 1) cap)) ∧ w1.cell? ⟨q, i, none⟩ = some (.slice (K i).a (K i).n (K i).c) ∧ w1.frozen? ⟨q, i, none⟩ = false := by
  have hrow := fun r e => row_of (h.own.row i hi) r e
  have hF : Fr N q C w1 := Fr.grown (Nat.le_trans h.nb h.big) hgrow (fun r e => Nat.le_trans h.nb (hrow r e).1)
  have lq := (Array.getElem?_eq_some_iff.1 h.left).1
  have apart : ∀ k : Nat, k < C.heap.size → (∀ cs : Array Value, C.heap[k]? ≠ some (Obj.cells cs 40 (0, 0))) → w1.heap[k]? = C.heap[k]? := fun k hk hne =>
    (hgrow.block k (by rw [World.size_alloc]; omega) (fun e => by
      obtain ⟨_, _, cs, hc⟩ := hrow k e.symm
      exact hne cs hc)).trans (Below.heap_alloc C tmp _ hk)
  have hl : w1.heap[q]? = some (lvsO K) := (apart q lq (fun cs hc => by rw [h.left] at hc; injection hc with hc; injection hc with _ e; exact absurd e (by decide))).trans h.left
  have hs1 : w1.heap[w.heap.size]? = C.heap[w.heap.size]? := apart _ h.set.lt (fun cs hc => by
    obtain ⟨D, ⟨es, c, h1, _⟩, _⟩ := h.set
    rw [h1] at hc; cases hc)
  have hF2 := hF.set i (.slice (some ⟨g, 0, none⟩) ((K i).n + 1) cap)
  have hqm : w.heap.size ≠ q := fun e => h.set.ne (lvs_cell h.left (show 0 < 4 by decide)) e.symm
  refine ⟨⟨h.set.keep ((heap_setCell_other _ _ _ _ hqm).trans hs1), lvs_set hl hi ⟨some ⟨g, 0, none⟩, (K i).n + 1, cap, g, 0⟩, (h.own.add hi hown hgrow hat).keepR (fun k cs hk => heap_setCell_other _ _ _ _ (fun e => ?_)), h.f.trans (hF2.below (Nat.le_refl _) h.nq), h.nb, h.nq, h.nw, Nat.le_trans h.big hF2.size⟩, lvs_cell hl hi, lvs_frozen hl i⟩
  have e : k = q := e
  subst e
  rw [hl] at hk
  injection hk with hk
  injection hk with _ e
  exact absurd e (by decide)
/-- The sorting of the levels under way. -/
structure SrI (N B q i : Nat) (Lf : Nat → List Mt) (K : Nat → Hd) (w wr : World) : Prop where
  ms : ∀ j, j < 4 → Ms (K j) (srtTo Lf i j) wr
  row : ∀ j, i ≤ j → j < 4 → wr.ownsRow B 40 7 (.slice (K j).a (K j).n (K j).c) (K j).n ((Lf j).flatMap cellsM)
  left : wr.heap[q]? = some (lvsO K)
  f : Below N w wr
  fr : FrL N K wr
theorem OwnLv.fr {N B : Nat} {L : Nat → List Mt} {K : Nat → Hd} {w : World} (h : OwnLv B L K w) (hN : N ≤ B) : FrL N K w := fun i hi j hj => by
  have hr := h.row i hi
  rcases h.shp i hi with ⟨_, e, _⟩ | ⟨e, eo⟩
  · rw [e] at hj; omega
  · obtain ⟨r1, r2, _⟩ := row_of hr (K i).b (by rw [e]; rfl)
    rw [e] at hr
    exact ⟨by omega, r2, World.ownsRow.frozenAt hr _⟩
theorem SrI.next {N B q i : Nat} {Lf : Nat → List Mt} {K : Nat → Hd} {w wr u : World} (h : SrI N B q i Lf K w wr) (hi : i < 4) (hs : ∀ j, j < 4 → ((K j).a = none ∧ (K j).n = 0 ∧ (K j).c = 0) ∨ ((K j).a = some ⟨(K j).b, 0, none⟩ ∧ (K j).o = 0)) (ha : ∀ j k, j < 4 → k < 4 → j ≠ k → (K j).a = none ∨ (K k).a = none ∨ (K j).b ≠ (K k).b) (hN : N ≤ B) (hNw : N ≤ wr.heap.size)
    (hm : Ms (K i) (srt (cfOf i) (Lf i)) u) (hb : But (K i).b wr u) (hz : (K i).a = none → u = wr) (hfr : ∀ j, j < (K i).n * 7 → u.frozen? ⟨(K i).b, (K i).o + j, none⟩ = false) : SrI N B q (i + 1) Lf K w u := by
  by_cases hna : (K i).a = none
  · obtain rfl := hz hna
    refine ⟨fun j hj => ?_, fun j h1 hj => h.row j (by omega) hj, h.left, h.f, h.fr⟩
    by_cases e : j = i
    · subst e
      show Ms (K j) (if j < j + 1 then srt (cfOf j) (Lf j) else Lf j) u
      rw [if_pos (by omega)]; exact hm
    · have := h.ms j hj
      show Ms (K j) (if j < i + 1 then srt (cfOf j) (Lf j) else Lf j) u
      unfold srtTo at this
      by_cases h1 : j < i
      · rw [if_pos (by omega)]; rw [if_pos h1] at this; exact this
      · rw [if_neg (by omega)]; rw [if_neg h1] at this; exact this
  have eb : (Value.slice (K i).a (K i).n (K i).c).ownBlock = some (K i).b := by
    rcases own_of (hs i hi) with ⟨e, _⟩ | ⟨_, e⟩
    · exact absurd e hna
    · exact e
  obtain ⟨r1, r2, cs, r3⟩ := row_of (h.row i (Nat.le_refl i) hi) _ eb
  have oth : ∀ j, j < 4 → j ≠ i → 0 < (K j).n → (K j).b ≠ (K i).b := fun j hj hne h0 => by
    rcases ha j i hj hi hne with q | q | q
    · rcases hs j hj with ⟨_, e, _⟩ | ⟨e, _⟩
      · omega
      · rw [e] at q; cases q
    · exact absurd q hna
    · exact q
  refine ⟨fun j hj => ?_, fun j h1 hj => ?_, ?_, h.f.trans (hb.below (by omega) hNw), fun j hj k hk => ?_⟩
  · by_cases e : j = i
    · subst e
      show Ms (K j) (if j < j + 1 then srt (cfOf j) (Lf j) else Lf j) u
      rw [if_pos (by omega)]; exact hm
    · have := (h.ms j hj).but hb (oth j hj e)
      show Ms (K j) (if j < i + 1 then srt (cfOf j) (Lf j) else Lf j) u
      unfold srtTo at this
      by_cases h1 : j < i
      · rw [if_pos (by omega)]; rw [if_pos h1] at this; exact this
      · rw [if_neg (by omega)]; rw [if_neg h1] at this; exact this
  · have k := h.row j (by omega) hj
    refine ⟨k.1, ?_⟩
    rcases k.2 with h2 | ⟨g, cap, cur, h1', h2, h3, h4⟩
    · exact .inl h2
    · refine .inr ⟨g, cap, cur, h1', h2, (hb.block g (Array.getElem?_eq_some_iff.1 h3).1 (fun e => ?_)).trans h3, h4⟩
      subst e
      rcases ha j i hj hi (by omega) with q | q | q
      · rw [q] at h1'; cases h1'
      · exact hna q
      · rcases hs j hj with ⟨e, _, _⟩ | ⟨e, _⟩
        · rw [e] at h1'; cases h1'
        · rw [e] at h1'
          injection h1' with h1' _ _
          injection h1' with h1'
          injection h1' with h1' _ _
          exact q h1'
  · refine (hb.block q (Array.getElem?_eq_some_iff.1 h.left).1 (fun e => ?_)).trans h.left
    have := h.left
    rw [e, r3] at this
    injection this with this
    injection this with _ e
    exact absurd e (by decide)
  · obtain ⟨f1, f2, f3⟩ := h.fr j hj k hk
    by_cases e : j = i
    · subst e
      exact ⟨f1, Nat.lt_of_lt_of_le f2 hb.size, hfr k hk⟩
    · refine ⟨f1, Nat.lt_of_lt_of_le f2 hb.size, ?_⟩
      simp only [World.frozen?, hb.block _ f2 (oth j hj e (by omega))] at f3 ⊢
      exact f3
theorem SrI.below {N B q i : Nat} {Lf : Nat → List Mt} {K : Nat → Hd} {w wr u : World} (h : SrI N B q i Lf K w wr) (hN : N ≤ wr.heap.size) (hb : Below wr.heap.size wr u) : SrI N B q i Lf K w u := by
  refine ⟨fun j hj => (h.ms j hj).below hb, fun j h1 hj => ?_, (hb.block q (Array.getElem?_eq_some_iff.1 h.left).1).trans h.left, h.f.trans (hb.mono hN), h.fr.below hb⟩
  have k := h.row j h1 hj
  refine ⟨k.1, ?_⟩
  rcases k.2 with h2 | ⟨g, cap, cur, h1, h2, h3, h4⟩
  · exact .inl h2
  · exact .inr ⟨g, cap, cur, h1, h2, (hb.block g (Array.getElem?_eq_some_iff.1 h3).1).trans h3, h4⟩
theorem SrI.sort {N B q i : Nat} {Lf : Nat → List Mt} {K : Nat → Hd} {w wr : World} (h : SrI N B q i Lf K w wr) (hi : i < 4) (hs : ∀ j, j < 4 → ((K j).a = none ∧ (K j).n = 0 ∧ (K j).c = 0) ∨ ((K j).a = some ⟨(K j).b, 0, none⟩ ∧ (K j).o = 0)) (ha : ∀ j k, j < 4 → k < 4 → j ≠ k → (K j).a = none ∨ (K k).a = none ∨ (K j).b ≠ (K k).b) (hN : N ≤ B) (hNw : N ≤ wr.heap.size) (hn : ∀ j, j < 4 → (K j).n ≤ 1000000)
    (g : Nat) (eg : ∀ args w, (callFunc g args).run Try.prog w = .ok (.enter g args) w) (hc : ∀ x y W, Calls Try.prog g #[.agg (cellsM x).toArray, .agg (cellsM y).toArray] W fun e w' => e = .returned (.int .i64 (cfOf i x y)) ∧ ∃ q os', w' = grow (W.drewN q) os') :
    Calls Try.prog 39 #[.slice (K i).a (K i).n (K i).c, .func (.func g) #[] #[]] wr fun e u => e = .returned (.tuple #[]) ∧ SrI N B q (i + 1) Lf K w u ∧ wr.heap.size ≤ u.heap.size := by
  have hm := h.ms i hi
  have e : srtTo Lf i i = Lf i := if_neg (Nat.lt_irrefl i)
  rw [e] at hm
  refine (sort_any g (cfOf i) (swoOf i) eg hc hm (hs i hi) (fun hna => ?_) (hn i hi)).mono ?_
  · have hr := h.row i (Nat.le_refl i) hi
    rcases hs i hi with ⟨e, _⟩ | ⟨e, _⟩
    · exact absurd e hna
    · refine ⟨(row_of hr (K i).b (by rw [e]; rfl)).2.1, fun j => ?_⟩
      rw [e] at hr
      exact World.ownsRow.frozenAt hr j
  · rintro r u ⟨rfl, h1, h2, h3, h4⟩
    exact ⟨rfl, h.next hi hs ha hN hNw h1 h2 h3 h4, h2.size⟩
theorem newP_nil (S : List Nat) : NewP S [] := ⟨List.nodup_nil, fun x hx => by cases hx⟩
theorem map_take {ps : List Pl} {k : Nat} : (ps.take k).map Pl.tb = (ps.map Pl.tb).take k := by rw [List.map_take]
set_option maxRecDepth 100000 in
set_option maxHeartbeats 16000000 in
theorem insert_any {N B q : Nat} {L : Nat → List Mt} {K : Nat → Hd} {ha : Hd} {ps : List Pl} {w : World} (hq : w.heap[q]? = some (lvsO K)) (hO : OwnLv B L K w) (hNB : N ≤ B) (hNq : N ≤ q) (hNw : N ≤ w.heap.size) (hB : B ≤ w.heap.size) (hL : ∀ i, i < 4 → (L i).length ≤ 100) (hLI : ∀ i, i < 4 → ∀ x ∈ L i, x.num ≤ 18446744073709551615)
    (hA : Ps ha ps w) (hab : 0 < ha.n → ha.b < N) (hI : ∀ p ∈ ps, PlIn p) (hlev : ∀ p ∈ ps, LevP p.lev) (hn : ha.n ≤ 1000) :
    Calls Try.prog 18 #[.pointer (some ⟨q, 0, none⟩), .slice ha.a ha.n ha.c] w fun r w' => r = .returned (.bool (tf (NewP (nsTo L 4) (ps.map Pl.tb)))) ∧ Below N w w' ∧ (NewP (nsTo L 4) (ps.map Pl.tb) → ∃ K2, w'.heap[q]? = some (lvsO K2) ∧ LvAtG (insLv L ps) K2 w' ∧ FrL N K2 w') := by
  obtain ⟨aa, an, ac, ab, ao⟩ := ha
  have m1 : ac ≤ 9223372036854775807 := hA.sl.most
  have q1 : an ≤ ac := hA.sl.cap
  replace hn : an ≤ 1000 := hn
  have e1 : Hid (ps.length = an) := Lib.hid hA.len
  have hmm := @run_makeMap Try.prog
  have lq := (Array.getElem?_eq_some_iff.1 hq).1
  have I0 : Hid (InI N B q 0 (nsTo L 0) L K w (w.alloc (.map #[] 0))) := Lib.hid ⟨SetAt.new w, (Below.heap_alloc _ _ _ lq).trans hq, hO.below (below_alloc _ _), (below_alloc w _).mono hNw, hNB, hNq, hNw, by rw [World.size_alloc]; omega⟩
  have AT : Hid (∀ u, Below N w u → Ps ⟨aa, an, ac, ab, ao⟩ ps u) := Lib.hid (fun u hu => ⟨hA.sl.keep (fun h0 => hu.block _ (hab h0)) hu.size, hA.none'⟩)
  have MC : Hid (∀ p ∈ ps, ∀ u, Calls Try.prog 38 #[.agg #[.int .u64 (p.tb.num : Int), .int .i64 p.tb.size, .int .i64 p.tb.rows, .string p.tb.fst, .string p.tb.lst, .int .u64 (p.tb.least : Int), .int .u64 (p.tb.gr : Int)]] u fun e w' => e = .returned (.agg #[.int .u64 (p.tb.num : Int), .int .i64 p.tb.size, .int .i64 p.tb.rows, .string p.tb.fst, .string p.tb.lst, .int .u64 (p.tb.least : Int), .int .u64 (p.tb.gr : Int)]) ∧ Below u.heap.size u w') := Lib.hid (fun p hp u => mcopied_any p.tb (hI p hp).2.2.1 (hI p hp).2.2.2.1 u)
  have KP : Hid (∀ p ∈ ps, p.tb.num ≤ 18446744073709551615) := Lib.hid (fun p hp => (hI p hp).2.1)
  have HL := Lib.hid hL
  have HLI := Lib.hid hLI
  have HV := Lib.hid hlev
  clear hq hO hA hab hI hlev hL hLI lq
  obtain ⟨T, hT⟩ := named (tf (NewP (nsTo L 4) (ps.map Pl.tb)))
  rw [← hT.out]
  replace hT := Lib.hid hT.out
  obtain ⟨ti, hi, hy0, hy1, hy2⟩ := info_parts infoMt
  go_enter Try.func18, Try.ntmps18
  go_wp2_with fail
  go_loopw [19] (fun iv wr => ∃ i : Nat, i ≤ 4 ∧ iv = .int .i64 (i : Int) ∧ ∃ n, n ≤ 100 * i ∧ Hid (InI N B q n (nsTo L i) L K w wr)) (fun iv _ => 4 - (intOf iv).toNat)
  case atStart => exact ⟨0, Nat.zero_le _, rfl, 0, Nat.zero_le _, I0⟩
  case round =>
    clear I0
    obtain ⟨i, hi4, rfl, n, hnn, hW⟩ := hrel
    by_cases hlt2 : i < 4
    · have j0 : (i : Int) < 4 := by omega
      have j1 : ¬ (i : Int) < 0 := by omega
      have lev := lvs_cell hW.out.left hlt2
      have hlen := Lib.hid (hW.out.own.n i hlt2)
      have hl100 := HL.out i hlt2
      have HLi := Lib.hid (HLI.out i hlt2)
      have VMi := Lib.hid (fun u (hu : OwnLv B L K u) => (hu.ms i hlt2).1)
      obtain ⟨⟨ga, gn, gc, gb, go⟩, hh⟩ := named (K i)
      rw [← hh.out] at lev hlen VMi
      simp only at lev hlen VMi
      replace hh := Lib.hid trivial
      have hcm : gn ≤ gc ∧ gc ≤ 9223372036854775807 := by
        have := VMi.out wr hW.out.own
        exact ⟨this.sl.cap, this.sl.most⟩
      obtain ⟨hcm1, hcm2⟩ := hcm
      have hg100 : gn ≤ 100 := by rw [← hlen.out]; exact hl100
      go_wp2_with fail
      have W0 : Hid (InI N B q (n + 0) (((L i).take 0).map Mt.num ++ nsTo L i) L K w wr) := Lib.hid (by simpa using hW.out)
      clear hW lev
      go_loopw [26] (fun iv wr => ∃ k : Nat, k ≤ gn ∧ iv = .int .i64 (k : Int) ∧ Hid (InI N B q (n + k) (((L i).take k).map Mt.num ++ nsTo L i) L K w wr)) (fun iv _ => gn - (intOf iv).toNat)
      case atStart => exact ⟨0, Nat.zero_le _, rfl, W0⟩
      case round =>
        clear W0
        obtain ⟨k, hkn, rfl, hW⟩ := hrel
        by_cases hltk : k < gn
        · have k0 : (k : Int) < (gn : Int) := by omega
          obtain ⟨x, hx, rfl, hbl, x0, x1, x2, x3, x4, x5, x6⟩ := (VMi.out _ hW.out.own).at7x hltk
          have hkey := Lib.hid (keyU (HLi.out x (List.mem_of_getElem? hx)))
          have W1 := Lib.hid (hW.out.below (below_alloc wr (rmO x)))
          obtain ⟨D, hown, hhas⟩ := W1.out.set
          replace hown := Lib.hid hown
          replace hhas := Lib.hid hhas
          have hx := Lib.hid hx
          go_wp2_with (at_mapUpdate; refine wpList_mapUpdate_own _ rfl _ _ _ 74 rfl 22 81 lawU Try.underlying74 _ w.heap.size _ _ rfl hown.out (by unfold maxLen; omega) _ _ _ rfl rfl hkey.out _ [] unitElem_mk ?_; intro w4 hown4 hg4; have W4 : Hid (InI N B q (n + (k + 1)) (((L i).take (k + 1)).map Mt.num ++ nsTo L i) L K w w4) := Lib.hid (W1.out.put hg4 ((SetAt.put hown4 hown.out.isMap hhas.out).congr (fun y => by rw [List.take_add_one, hx.out]; simp [or_comm, or_left_comm, or_assoc]))); clear hg4 hown4)
          go_roundw
          case rel => exact ⟨k + 1, by omega, by go_num, W4⟩
          case measure => simp [intOf]; omega
        · obtain rfl : k = gn := by omega
          have k0 : ¬ (k : Int) < (k : Int) := by omega
          have W4 : Hid (InI N B q (n + k) (nsTo L (i + 1)) L K w wr) := Lib.hid (by have := hW.out; rw [List.take_of_length_le (by rw [hlen.out]; exact Nat.le_refl _)] at this; exact this)
          go_wp2_with fail
          go_roundw
          case rel => exact ⟨i + 1, by omega, by go_num, n + k, by omega, W4⟩
          case measure => simp [intOf]; omega
    · obtain rfl : i = 4 := by omega
      have j0 : ¬ ((4 : Nat) : Int) < 4 := by omega
      have W0 : Hid (InI N B q (n + 0) (((ps.map Pl.tb).take 0).map Mt.num ++ nsTo L 4) (addTo ps L 0) K w wr) := Lib.hid (by rw [addTo_zero]; simpa using hW.out)
      clear hW
      go_wp2_with fail
      go_loopw [38] (fun iv wr => ∃ k : Nat, k ≤ an ∧ iv = .int .i64 (k : Int) ∧ Hid (NewP (nsTo L 4) ((ps.map Pl.tb).take k)) ∧ ∃ K, Hid (InI N B q (n + k) (((ps.map Pl.tb).take k).map Mt.num ++ nsTo L 4) (addTo ps L k) K w wr)) (fun iv _ => an - (intOf iv).toNat)
      case atStart => exact ⟨0, Nat.zero_le _, rfl, Lib.hid (newP_nil _), K, W0⟩
      case round =>
        clear W0
        obtain ⟨k, hkn, rfl, hp, K, hW⟩ := hrel
        by_cases hltk : k < an
        · have k0 : (k : Int) < (an : Int) := by omega
          obtain ⟨x, hx, rfl, hbl, x0, x1, x2, x3, x4, x5, x6, x7⟩ := (AT.out _ hW.out.f).at8x hltk
          have hxm := List.mem_of_getElem? hx
          have hkey := Lib.hid (keyU (KP.out x hxm))
          have CP := Lib.hid (MC.out x hxm)
          obtain ⟨hv0, hv4⟩ := HV.out x hxm
          have hmx : Hid ((ps.map Pl.tb)[k]? = some x.tb) := Lib.hid (by rw [List.getElem?_map, hx]; rfl)
          have W1 := Lib.hid (hW.out.below (below_alloc wr (plO x)))
          have W2 := Lib.hid (W1.out.below (below_alloc (wr.alloc (plO x)) (.cells #[] 81)))
          obtain ⟨D, hown, hhas⟩ := W1.out.set
          have hT1 := hhas x.tb.num
          have hown2 := Lib.hid (hown.alloc (.cells #[] 81))
          have hmap := Lib.hid hown.isMap
          replace hown := Lib.hid hown
          replace hhas := Lib.hid hhas
          by_cases hv : x.tb.num ∈ ((ps.map Pl.tb).take k).map Mt.num ++ nsTo L 4
          · rw [tf_true hv] at hT1
            have hno : Hid (¬ NewP (nsTo L 4) (ps.map Pl.tb)) := Lib.hid (newP_no hmx.out hv)
            have hF : Hid (T = false) := Lib.hid (by rw [hT.out]; exact tf_false hno.out)
            clear hv
            go_wp2_with (at_lookup; refine wpList_lookup_own_unit _ rfl _ _ 74 rfl 22 81 lawU Try.underlying74 (zeroS _) w.heap.size _ D rfl hown.out _ _ rfl hkey.out ?_)
            go_returns
            exact ⟨by rw [hF.out]; rfl, W2.out.f, fun h => absurd h hno.out⟩
          · rw [tf_false hv] at hT1
            have P2 := Lib.hid (newP_step hp.out hmx.out hv)
            clear hv
            obtain ⟨i, hxi⟩ : ∃ i : Nat, x.lev = (i : Int) := ⟨x.lev.toNat, by omega⟩
            have hi4 : i < 4 := by omega
            have hnx := Lib.hid (addTo_succ (L := L) (show ps[k]? = some ⟨(i : Int), x.tb⟩ by rw [← hxi]; exact hx))
            have hSn : Hid (∀ y, y ∈ x.tb.num :: (((ps.map Pl.tb).take k).map Mt.num ++ nsTo L 4) ↔ y ∈ ((ps.map Pl.tb).take (k + 1)).map Mt.num ++ nsTo L 4) := Lib.hid (fun y => by rw [List.take_add_one, hmx.out]; simp [or_comm, or_left_comm, or_assoc])
            have hle : Hid ((addTo ps L k i).length ≤ 1100) := Lib.hid (addTo_len (HL.out i hi4) (by omega))
            have M1 := Lib.hid ((Below.heap_alloc (wr.alloc (plO x)) (.cells #[] 81) _ (by rw [World.size_alloc]; omega)).trans (heap_alloc_new wr (plO x)))
            have hne : Hid (wr.heap.size ≠ w.heap.size) := Lib.hid (by have := hW.out.set.lt; omega)
            obtain ⟨xlev, xn, xs, xr, xf, xl, xm, xg⟩ := x
            simp only at hxi x0 x1 x2 x3 x4 x5 x6 x7 CP hkey hnx hSn hT1
            subst hxi
            have j0 : (i : Int) < 4 := by omega
            have j1 : ¬ (i : Int) < 0 := by omega
            clear hx hxm hmx hv0 hv4
            go_upto_region 18 with (first
              | (at_lookup; refine wpList_lookup_own_unit _ rfl _ _ 74 rfl 22 81 lawU Try.underlying74 (zeroS _) w.heap.size _ D rfl hown.out _ _ rfl hkey.out ?_)
              | (at_mapUpdate; refine wpList_mapUpdate_own _ rfl _ _ _ 74 rfl 22 81 lawU Try.underlying74 _ w.heap.size _ _ rfl hown2.out (by unfold maxLen; omega) _ _ _ rfl rfl hkey.out _ [] unitElem_mk ?_; intro w4 hown4 hg4; have W40 := Lib.hid (W2.out.put hg4 ((SetAt.put hown4 hmap.out hhas.out).congr hSn.out)); have M40 := Lib.hid (((But.of_grown hg4).block wr.heap.size (Array.getElem?_eq_some_iff.1 M1.out).1 hne.out).trans M1.out); clear hg4 hown4))
            have W4 := Lib.hid (W40.out.below (Below.refl _ _).drew)
            have M4 : Hid (w4.drew.heap[wr.heap.size]? = some (plO ⟨(i : Int), ⟨xn, xs, xr, xf, xl, xm, xg⟩⟩)) := M40
            clear W40 M40 W1 W2 M1
            obtain ⟨b7, hb7⟩ := named wr.heap.size
            have HB := Lib.hid (fun r (hr : (Value.slice (K i).a (K i).n (K i).c).ownBlock = some r) => (row_of (hW.out.own.row i hi4) r hr).2.1)
            rw [← hb7.out] at M4 HB
            rw [← hb7.out]
            have hlen1 : Hid ((addTo ps L k i).length = (K i).n) := Lib.hid (hW.out.own.n i hi4)
            obtain ⟨Lr, hLr⟩ := named (addTo ps L k)
            rw [← hLr.out] at hnx hle W4 hlen1
            obtain ⟨Sn, hSnn⟩ := named (((ps.map Pl.tb).take (k + 1)).map Mt.num ++ nsTo L 4)
            rw [← hSnn.out] at W4
            replace hb7 := Lib.hid trivial
            replace hLr := Lib.hid trivial
            have hbd := Lib.hid (bound_m (show (K i).n ≤ 2000 by rw [← hlen1.out]; have := hle.out; omega))
            have AD := Lib.hid (fun (C w1 : World) (tmp : Obj) (hC : InI N B q (n + k + 1) Sn Lr K w C) (g cap : Nat) hown hgrow hat => hC.add (w1 := w1) (tmp := tmp) hi4 (x := ⟨xn, xs, xr, xf, xl, xm, xg⟩) (g := g) (cap := cap) hown hgrow hat)
            have RW := Lib.hid (fun (C : World) (hC : InI N B q (n + k + 1) Sn Lr K w C) => (⟨hC.own.row i hi4, lvs_cell hC.left hi4⟩ : _ ∧ _))
            obtain ⟨⟨q1', q2', q3', q4', q5'⟩, hq⟩ := named (K i)
            rw [← hq.out] at hbd AD RW HB
            simp only at hbd AD RW HB
            have SS : Hid (∀ u : World, u.cell? ⟨q, i, none⟩ = some (.slice q1' q2' q3') → u.heap[b7]? = some (plO ⟨(i : Int), ⟨xn, xs, xr, xf, xl, xm, xg⟩⟩) → (u.cell? ⟨q, i, none⟩ = some (.slice q1' q2' q3') ∧ u.cell? ⟨b7, 0, none⟩ = some (.int .i64 (i : Int)) ∧ u.cell? ⟨b7, 1, none⟩ = some (.int .u64 (xn : Int)) ∧ u.cell? ⟨b7, 2, none⟩ = some (.int .i64 xs) ∧ u.cell? ⟨b7, 3, none⟩ = some (.int .i64 xr) ∧ u.cell? ⟨b7, 4, none⟩ = some (.string xf) ∧ u.cell? ⟨b7, 5, none⟩ = some (.string xl) ∧ u.cell? ⟨b7, 6, none⟩ = some (.int .u64 (xm : Int)) ∧ u.cell? ⟨b7, 7, none⟩ = some (.int .u64 (xg : Int)))) := Lib.hid (fun u h1 h2 => ⟨h1, by simp only [World.cell?, h2]; exact ⟨rfl, rfl, rfl, rfl, rfl, rfl, rfl, rfl⟩⟩)
            have S0 := Lib.hid (SS.out _ (RW.out _ W4.out).2 M4.out)
            clear x0 x1 x2 x3 x4 x5 x6 x7 MC KP HL HLI HV hp hW hown hown2 hmap hhas hT1 hkey hle hlen1
            refine wp_region_E 16 (S := (fun u => u.cell? ⟨q, i, none⟩ = some (.slice q1' q2' q3') ∧ u.cell? ⟨b7, 0, none⟩ = some (.int .i64 (i : Int)) ∧ u.cell? ⟨b7, 1, none⟩ = some (.int .u64 (xn : Int)) ∧ u.cell? ⟨b7, 2, none⟩ = some (.int .i64 xs) ∧ u.cell? ⟨b7, 3, none⟩ = some (.int .i64 xr) ∧ u.cell? ⟨b7, 4, none⟩ = some (.string xf) ∧ u.cell? ⟨b7, 5, none⟩ = some (.string xl) ∧ u.cell? ⟨b7, 6, none⟩ = some (.int .u64 (xm : Int)) ∧ u.cell? ⟨b7, 7, none⟩ = some (.int .u64 (xg : Int)))) (by kernel_rfl) (S0.out) (fun hHeld => ?_)
            refine heldE2_take (i := 0) (v := ?_) rfl (by kernel_rfl) (by kernel_rfl) (by kernel_rfl) (fun _ _ _ h => h) (by rfl) (fun w hSw => ?_) (by assumption) ?_; rotate_left 1; focus (((try dsimp only at hSw); first | (go_simp; done) | (go_simp; with_reducible rfl)))
            try simp only [Act.put, List.setIfInBounds_toArray, List.set_cons_zero, List.set_cons_succ]
            refine heldE2_take (i := 1) (v := ?_) rfl (by kernel_rfl) (by kernel_rfl) (by kernel_rfl) (fun _ _ _ h => h) (by rfl) (fun w hSw => ?_) (by assumption) ?_; rotate_left 1; focus (((try dsimp only at hSw); first | (go_simp; done) | (go_simp; with_reducible rfl)))
            try simp only [Act.put, List.setIfInBounds_toArray, List.set_cons_zero, List.set_cons_succ]
            refine heldE2_take (i := 2) (v := ?_) rfl (by kernel_rfl) (by kernel_rfl) (by kernel_rfl) (fun _ _ _ h => h) (by rfl) (fun w hSw => ?_) (by assumption) ?_; rotate_left 1; focus (((try dsimp only at hSw); first | (go_simp; done) | (go_simp; with_reducible rfl)))
            try simp only [Act.put, List.setIfInBounds_toArray, List.set_cons_zero, List.set_cons_succ]
            refine heldE2_take (i := 3) (v := ?_) rfl (by kernel_rfl) (by kernel_rfl) (by kernel_rfl) (fun _ _ _ h => h) (by rfl) (fun w hSw => ?_) (by assumption) ?_; rotate_left 1; focus (((try dsimp only at hSw); first | (go_simp; done) | (go_simp; with_reducible rfl)))
            try simp only [Act.put, List.setIfInBounds_toArray, List.set_cons_zero, List.set_cons_succ]
            refine heldE2_take (i := 4) (v := ?_) rfl (by kernel_rfl) (by kernel_rfl) (by kernel_rfl) (fun _ _ _ h => h) (by rfl) (fun w hSw => ?_) (by assumption) ?_; rotate_left 1; focus (((try dsimp only at hSw); first | (go_simp; done) | (go_simp; with_reducible rfl)))
            try simp only [Act.put, List.setIfInBounds_toArray, List.set_cons_zero, List.set_cons_succ]
            refine heldE2_take (i := 5) (v := ?_) rfl (by kernel_rfl) (by kernel_rfl) (by kernel_rfl) (fun _ _ _ h => h) (by rfl) (fun w hSw => ?_) (by assumption) ?_; rotate_left 1; focus (((try dsimp only at hSw); first | (go_simp; done) | (go_simp; with_reducible rfl)))
            try simp only [Act.put, List.setIfInBounds_toArray, List.set_cons_zero, List.set_cons_succ]
            refine heldE2_take (i := 6) (v := ?_) rfl (by kernel_rfl) (by kernel_rfl) (by kernel_rfl) (fun _ _ _ h => h) (by rfl) (fun w hSw => ?_) (by assumption) ?_; rotate_left 1; focus (((try dsimp only at hSw); first | (go_simp; done) | (go_simp; with_reducible rfl)))
            try simp only [Act.put, List.setIfInBounds_toArray, List.set_cons_zero, List.set_cons_succ]
            refine heldE2_take (i := 7) (v := ?_) rfl (by kernel_rfl) (by kernel_rfl) (by kernel_rfl) (fun _ _ _ h => h) (by rfl) (fun w hSw => ?_) (by assumption) ?_; rotate_left 1; focus (((try dsimp only at hSw); first | (go_simp; done) | (go_simp; with_reducible rfl)))
            try simp only [Act.put, List.setIfInBounds_toArray, List.set_cons_zero, List.set_cons_succ]
            refine heldE2_take (i := 8) (v := ?_) rfl (by kernel_rfl) (by kernel_rfl) (by kernel_rfl) (fun _ _ _ h => h) (by rfl) (fun w hSw => ?_) (by assumption) ?_; rotate_left 1; focus (((try dsimp only at hSw); first | (go_simp; done) | (go_simp; with_reducible rfl)))
            try simp only [Act.put, List.setIfInBounds_toArray, List.set_cons_zero, List.set_cons_succ]
            refine heldE2_take (i := 9) (v := ?_) rfl (by kernel_rfl) (by kernel_rfl) (by kernel_rfl) (fun _ _ _ h => h) (by rfl) (fun w hSw => ?_) (by assumption) ?_; rotate_left 1; focus (((try dsimp only at hSw); first | (go_simp; done) | (go_simp; with_reducible rfl)))
            try simp only [Act.put, List.setIfInBounds_toArray, List.set_cons_zero, List.set_cons_succ]
            refine heldE2_take (i := 10) (v := ?_) rfl (by kernel_rfl) (by kernel_rfl) (by kernel_rfl) (fun _ _ _ h => h) (by rfl) (fun w hSw => ?_) (by assumption) ?_; rotate_left 1; focus (((try dsimp only at hSw); first | (go_simp; done) | (go_simp; with_reducible rfl)))
            try simp only [Act.put, List.setIfInBounds_toArray, List.set_cons_zero, List.set_cons_succ]
            refine heldE2_take (i := 14) (v := ?_) rfl (by kernel_rfl) (by kernel_rfl) (by kernel_rfl) (fun _ _ _ h => h) (by rfl) (fun w hSw => ?_) (by assumption) ?_; rotate_left 1; focus (((try dsimp only at hSw); first | (go_simp; done) | (go_simp; with_reducible rfl)))
            try simp only [Act.put, List.setIfInBounds_toArray, List.set_cons_zero, List.set_cons_succ]
            refine heldE_call (i := 11) (by kernel_rfl) rfl (by rfl) (fun K hK => ?_)
            go_simp
            refine (CP.out _).mono ?_
            rintro r w6 ⟨rfl, hb6⟩
            have W5 := Lib.hid (W4.out.below hb6)
            have M5 := Lib.hid ((hb6.block b7 (Array.getElem?_eq_some_iff.1 M4.out).1).trans M4.out)
            clear hb6
            refine hK.out _ _ (SS.out _ (RW.out _ W5.out).2 M5.out) (fun hHeld => ?_)
            try simp only [Act.put, List.setIfInBounds_toArray, List.set_cons_zero, List.set_cons_succ]
            refine heldE_call (i := 12) (by kernel_rfl) rfl (by rfl) (fun K hK => ?_)
            go_simp
            refine hK.out _ _ (SS.out _ (RW.out _ (W5.out.below (below_alloc _ _))).2 ((Below.heap_alloc _ _ _ (Array.getElem?_eq_some_iff.1 M5.out).1).trans M5.out)) (fun hHeld => ?_)
            try simp only [Act.put, List.setIfInBounds_toArray, List.set_cons_zero, List.set_cons_succ]
            refine heldE_call (i := 13) (by kernel_rfl) rfl (by rfl) (fun K hK => ?_)
            refine wp_append_lies _ (.tmp 64) (.tmp 68) 23 rfl B 40 ti (.agg #[.int .u64 0, .int .i64 0, .int .i64 0, .string .empty, .string .empty, .int .u64 0, .int .u64 0]) 7 72 Try.underlying23 hi hy0 hy1 hy2 rfl (by decide) (.slice q1' q2' q3') q2' ((Lr i).flatMap cellsM) (by rfl) ((RW.out _ W5.out).1.alloc _) ⟨w6.heap.size, 0, none⟩ 1 1 (cellsM ⟨xn, xs, xr, xf, xl, xm, xg⟩) (by rfl) rfl (World.news_of_block (heap_alloc_new _ _)) (by have := one_m [⟨xn, xs, xr, xf, xl, xm, xg⟩]; simpa using this) (by decide) hbd.out.1 hbd.out.2 (by rw [World.size_alloc]; have := W5.out.big; omega) _ rfl ?_
            intro g9 cap9 w8 hown8 hgrow8 hat8 _
            have M8 := Lib.hid ((hgrow8.block b7 (by rw [World.size_alloc]; have := (Array.getElem?_eq_some_iff.1 M5.out).1; omega) (fun e => Nat.lt_irrefl _ (HB.out b7 e.symm))).trans ((Below.heap_alloc _ _ _ (Array.getElem?_eq_some_iff.1 M5.out).1).trans M5.out))
            have F8 := AD.out _ _ _ W5.out g9 cap9 hown8 hgrow8 (by rw [World.size_alloc] at hat8 ⊢; exact hat8)
            have W8 := Lib.hid F8.1
            have K8 := Lib.hid F8.2
            clear F8 hown8 hgrow8 hat8
            refine hK.out _ _ (SS.out _ K8.out.1 M8.out) (fun hHeld => ?_)
            try simp only [Act.put, List.setIfInBounds_toArray, List.set_cons_zero, List.set_cons_succ]
            refine heldE2_take (i := 15) (v := ?_) rfl (by kernel_rfl) (by kernel_rfl) (by kernel_rfl) (fun _ _ _ h => h) (by rfl) (fun w hSw => ?_) (by assumption) ?_; rotate_left 1; focus (((try dsimp only at hSw); first | (go_simp; done) | (go_simp; with_reducible rfl)))
            try simp only [Act.put, List.setIfInBounds_toArray, List.set_cons_zero, List.set_cons_succ]
            refine heldE_last (by kernel_rfl) rfl (by rfl) (fun K hK => ?_)
            obtain ⟨k8, f8⟩ := K8.out
            go_simp
            refine hK.out _ _ ?_
            try simp only [Act.put, List.setIfInBounds_toArray, List.set_cons_zero, List.set_cons_succ]
            refine wpE_done (by kernel_rfl) ?_ _
            go_wp2_with fail
            go_roundw
            case rel => exact ⟨k + 1, by omega, by go_num, P2, _, by rw [hnx.out, ← hSnn.out]; exact W8⟩
            case measure => simp [intOf]; omega
        · obtain rfl : k = an := by omega
          have k0 : ¬ (k : Int) < (k : Int) := by omega
          have hyes : Hid (NewP (nsTo L 4) (ps.map Pl.tb)) := Lib.hid (by have := hp.out; rw [List.take_of_length_le (by rw [List.length_map, e1.out]; exact Nat.le_refl _)] at this; exact this)
          have hF : Hid (T = true) := Lib.hid (by rw [hT.out]; exact tf_true hyes.out)
          have hs := Lib.hid hW.out.own.shp
          have hap := Lib.hid hW.out.own.apart
          have hsz : Hid (∀ j, j < 4 → (K j).n ≤ 1000000) := Lib.hid (fun j hj => by rw [← hW.out.own.n j hj]; have := addTo_len (ps := ps) (k := k) (HL.out j hj) (by omega); omega)
          have R0 : Hid (SrI N B q 0 (addTo ps L k) K w wr) := Lib.hid ⟨fun j hj => (hW.out.own.ms j hj).1, fun j _ hj => hW.out.own.row j hj, hW.out.left, hW.out.f, hW.out.own.fr hW.out.nb⟩
          have Z0 : Hid (N ≤ wr.heap.size) := Lib.hid (by have := hW.out.f.size; have := hW.out.nw; omega)
          have SC : Hid (∀ i, i < 4 → ∀ g, (∀ args w, (callFunc g args).run Try.prog w = .ok (.enter g args) w) → (∀ x y W, Calls Try.prog g #[.agg (cellsM x).toArray, .agg (cellsM y).toArray] W fun e w' => e = .returned (.int .i64 (cfOf i x y)) ∧ ∃ q os', w' = grow (W.drewN q) os') → ∀ u, N ≤ u.heap.size → SrI N B q i (addTo ps L k) K w u → Calls Try.prog 39 #[.slice (K i).a (K i).n (K i).c, .func (.func g) #[] #[]] u fun e u' => e = .returned (.tuple #[]) ∧ SrI N B q (i + 1) (addTo ps L k) K w u' ∧ u.heap.size ≤ u'.heap.size) := Lib.hid (fun i hi g eg hc u hu h => h.sort hi hs.out hap.out (by have := hW.out.nb; exact this) hu hsz.out g eg hc)
          have hnq := Lib.hid hW.out.nq
          have hie : Hid (insLv L ps = srtTo (addTo ps L k) 4 ∨ True) := Lib.hid (.inr trivial)
          have hin : Hid (∀ j, j < 4 → insLv L ps j = srtTo (addTo ps L k) 4 j) := Lib.hid (fun j hj => by unfold insLv srtTo; rw [if_pos hj, e1.out])
          clear hW hp AT MC KP HL HLI HV
          go_wp2_with fail
          go_loopw [75] (fun iv wr => ∃ i : Nat, i ≤ 4 ∧ iv = .int .i64 (i : Int) ∧ Hid (SrI N B q i (addTo ps L k) K w wr) ∧ Hid (N ≤ wr.heap.size)) (fun iv _ => 4 - (intOf iv).toNat)
          case atStart => exact ⟨0, Nat.zero_le _, rfl, R0, Z0⟩
          case round =>
            clear R0 Z0
            obtain ⟨i, hi4, rfl, hR, hZ⟩ := hrel
            by_cases hlt : i < 4
            · have j0 : (i : Int) < 4 := by omega
              have j1 : ¬ (i : Int) < 0 := by omega
              have lev := lvs_cell hR.out.left hlt
              have RD : Hid (∀ n, SrI N B q i (addTo ps L k) K w (wr.drewN n)) := Lib.hid (fun n => hR.out.below hZ.out (below_drewN (n := n) (Below.refl wr.heap.size wr)))
              have ZD : Hid (∀ n, N ≤ (wr.drewN n).heap.size) := Lib.hid (fun n => hZ.out)
              by_cases hz : i = 0
              · subst hz
                have SC0 := Lib.hid (SC.out 0 (by omega) 40 (enters_of Try.func40 (by kernel_rfl) rfl) closNum)
                clear SC
                go_upto_region 22 with fail
                go_quiet (fail)
                go_wp2_with (go_at_call 39; ((with_reducible refine (SC0.out _ (ZD.out _) (RD.out _)).mono ?_); rintro r w9 ⟨rfl, hr9, hz9⟩; have R9 := Lib.hid hr9; have Z9 : Hid (N ≤ w9.heap.size) := Lib.hid (Nat.le_trans hZ.out hz9); clear hr9 hz9))
                go_roundw
                case rel => exact ⟨1, by omega, rfl, R9, Z9⟩
                case measure => simp [intOf]
              · have g5 : ((i : Int) == 0) = false := by rw [beq_eq_false_iff_ne]; omega
                have g6 : ¬ (i : Int) = 0 := by omega
                have SC0 := Lib.hid (SC.out i hlt 42 (enters_of Try.func42 (by kernel_rfl) rfl) (fun x y W => by rw [show cfOf i = cfKey from if_neg hz]; exact closKey x y W))
                clear SC
                go_upto_region 22 with fail
                go_quiet (fail)
                go_wp2_with (go_at_call 39; ((with_reducible refine (SC0.out _ (ZD.out _) (RD.out _)).mono ?_); rintro r w9 ⟨rfl, hr9, hz9⟩; have R9 := Lib.hid hr9; have Z9 : Hid (N ≤ w9.heap.size) := Lib.hid (Nat.le_trans hZ.out hz9); clear hr9 hz9))
                go_roundw
                case rel => exact ⟨i + 1, by omega, by go_num, R9, Z9⟩
                case measure => simp [intOf]; omega
            · obtain rfl : i = 4 := by omega
              have j0 : ¬ ((4 : Nat) : Int) < 4 := by omega
              go_wp2_with fail
              go_returns
              exact ⟨by rw [hF.out]; rfl, hR.out.f, fun _ => ⟨K, hR.out.left, fun j hj => by rw [hin.out j hj]; exact hR.out.ms j hj, hR.out.fr⟩⟩
end Go.Proofs.Ytnmjfdejgfmoiaa
/-
  A text that a call puts together in a builder of its own: what WriteByte, WriteString and String do. Condition: at most 2^47 bytes.
-/
namespace Go.Proofs.Ytnmjfdejgfmoiaa
set_option maxRecDepth 100000
open Go.RowKit
/-- A builder in block b that holds the bytes l. -/
abbrev Bld (B b : Nat) (l : List UInt8) (w : World) : Prop := Lib.IsBuilder 62 5 B b (Lib.byteCells l) w
/-- What a write leaves: of what is neither the builder's block nor bytes, all stands. -/
def Spares (b : Nat) (w w' : World) : Prop := w.heap.size ≤ w'.heap.size ∧ ∀ k, k < w.heap.size → k ≠ b → (∀ cs m, w.heap[k]? ≠ some (.cells cs 5 m)) → w'.heap[k]? = w.heap[k]?
theorem Spares.refl (b : Nat) (w : World) : Spares b w w := ⟨Nat.le_refl _, fun _ _ _ _ => rfl⟩
theorem Spares.trans {b : Nat} {x y z : World} (h : Spares b x y) (k : Spares b y z) : Spares b x z :=
  ⟨Nat.le_trans h.1 k.1, fun j hj hb hn => by
    have e := h.2 j hj hb hn
    exact (k.2 j (Nat.lt_of_lt_of_le hj h.1) hb (by rw [e]; exact hn)).trans e⟩
theorem Spares.set (b i : Nat) (w : World) (v : Value) : Spares b w (w.setCell ⟨b, i, none⟩ v) := ⟨by simp [World.setCell], fun _ _ hk _ => heap_setCell_other _ _ _ _ hk⟩
theorem Spares.below {b : Nat} {w w' : World} (h : Below w.heap.size w w') : Spares b w w' := ⟨h.size, fun k hk _ _ => h.block k hk⟩
theorem Spares.grown {b : Nat} {w w' : World} {B n : Nat} {v : Value} {xs : List Value} (h : w.ownsRow B 5 1 v n xs) (hg : w.grownBy w' v.ownBlock) : Spares b w w' := ⟨hg.size, fun k hk _ hn => hg.block k hk fun e => by
  rcases h.2 with ⟨rfl, _⟩ | ⟨g, cap, cur, rfl, _, hc, _⟩
  · cases e
  · have : g = k := by simpa [Value.ownBlock] using e.symm
    subst this
    exact hn _ _ hc⟩
theorem bld_info : ∃ j, Try.prog.info? 62 = some j ∧ j.size ≠ 0 := by
  obtain ⟨j, hj, hs⟩ := Option.map_eq_some_iff.1 (show (Try.prog.info? 62).map (fun i => i.size) = some 2 by kernel_rfl)
  exact ⟨j, hj, by rw [hs]; decide⟩
set_option maxHeartbeats 1000000 in
set_option maxRecDepth 100000 in
theorem bld_check {B b : Nat} {bs : List Value} {w : World} (h : Lib.IsBuilder 62 5 B b bs w) :
    Calls Try.prog 45 #[.pointer (some ⟨b, 0, none⟩)] w fun e w' => e = .returned (.tuple #[]) ∧ Lib.BuilderAt 62 5 B b (.pointer (some ⟨b, 0, none⟩)) bs w' ∧ Below B w w' ∧ Spares b w w' := by
  obtain ⟨j, hj, hjs⟩ := bld_info
  rcases h with h | h
  · have c0 := h.cell0
    have sh := h.shape
    have fz := h.frozen0
    have K : Hid (Lib.BuilderAt 62 5 B b (.pointer (some ⟨b, 0, none⟩)) bs (w.setCell ⟨b, 0, none⟩ (.pointer (some ⟨b, 0, none⟩))) ∧ Below B w (w.setCell ⟨b, 0, none⟩ (.pointer (some ⟨b, 0, none⟩))) ∧ Spares b w (w.setCell ⟨b, 0, none⟩ (.pointer (some ⟨b, 0, none⟩)))) := Lib.hid ⟨h.used _, (Below.refl B w).setCell (p := ⟨b, 0, none⟩) h.1 _, Spares.set _ _ _ _⟩
    have r1 := Lib.run_to_unsafe (P := Try.prog) w ⟨b, 0, none⟩ Try.underlying59 Try.underlying94 hj hjs sh (Nat.zero_lt_succ 1)
    have r3 := Lib.run_from_unsafe (P := Try.prog) w ⟨b, 0, none⟩ Try.underlying94 Try.underlying59 hj sh (by kernel_rfl)
    clear h
    go_enter Try.func45, Try.ntmps45
    go_wp2
    rw [run_callFunc_extern Try.func52 (by kernel_rfl) (by kernel_rfl) (by kernel_rfl) (e := Extern.AbiNoEscape.same) (by kernel_rfl)]
    rw [Lib.run_noEscape]
    simp only [Result.andThen]
    rw [Oper.upon_value]
    go_wp2
    go_end0
    exact ⟨rfl, K.out⟩
  · have c0 := h.cell0
    have K := Lib.hid h
    have r1 := Lib.run_neq_ptr_same (P := Try.prog) w ⟨b, 0, none⟩ Try.underlying59 hj
    clear h
    go_enter Try.func45, Try.ntmps45
    go_wp2
    go_end0
    exact ⟨rfl, K.out, Below.refl B _, Spares.refl _ _⟩
theorem bld_u8 : (Try.prog.info? 5).map (fun i => (i.zero, i.size, i.bytes)) = some (some (.int .u8 0), 1, 1) := by kernel_rfl
set_option maxHeartbeats 1000000 in
set_option maxRecDepth 100000 in
theorem bld_string {B b : Nat} {l : List UInt8} {w : World} (h : Bld B b l w) (hBw : B ≤ w.heap.size) (s : ByteArray) (hlen : l.length + s.size ≤ 140737488355328) :
    Calls Try.prog 26 #[.pointer (some ⟨b, 0, none⟩), .string s] w fun e w' => e = .returned (.tuple #[.int .i64 s.size, .nilIface]) ∧ Bld B b (l ++ s.data.toList) w' ∧ Below B w w' ∧ Spares b w w' := by
  obtain ⟨i0, hi, hz0, hz1, hz2⟩ := info_parts bld_u8
  have C := Lib.hid (bld_check h)
  clear h
  go_enter Try.func26, Try.ntmps26
  go_wp2_with fail
  refine C.out.mono ?_
  rintro e w1 ⟨rfl, h1, hb1, hs1⟩
  clear C
  obtain ⟨hB, v, hbk, hown, hne⟩ := h1
  have c1 : w1.cell? ⟨b, 1, none⟩ = some v := by rw [Lib.cell_of_heap hbk]; rfl
  have z1 := hb1.size
  have hbl := Lib.byteCells_length l
  go_wp2_with (at_builtin; refine Lib.wpList_append_own_string _ rfl _ _ 60 9 rfl B 5 i0 Try.underlying60 Try.underlying9 hi hz0 hz1 hz2 v _ _ (by rfl) hown s (by rfl) ?c3 ?c4 ?c5 ?_)
  case c3 => unfold maxLen; omega
  case c4 => omega
  case c5 => omega
  intro v' w2 hown' hgrow _
  have hlt : b < w1.heap.size := (Array.getElem?_eq_some_iff.1 hbk).1
  have hb2 : w2.heap[b]? = some (.cells #[.pointer (some ⟨b, 0, none⟩), v] 62 (0, 0)) := by
    rw [hgrow.block b hlt (fun e => hne e.symm)]
    exact hbk
  have f1 : w2.frozen? ⟨b, 1, none⟩ = false := Lib.frozen_of_heap hb2 1
  have d1 : w2.cell? ⟨b, 1, none⟩ = some v := by rw [Lib.cell_of_heap hb2]; rfl
  have hput : Hid (Lib.BuilderAt 62 5 B b (.pointer (some ⟨b, 0, none⟩)) (Lib.byteCells l ++ Lib.strCells s) (w2.setCell ⟨b, 1, none⟩ v')) := Lib.hid (Lib.BuilderAt.put (T := 62) (e := 5) hB hb2 (bs' := Lib.byteCells l ++ Lib.strCells s) (by rw [List.length_append, Lib.strCells_length]; first | exact hown' | (rw [hbl]; exact hown')) (by decide))
  have hbel : Hid (Below B w (w2.setCell ⟨b, 1, none⟩ v')) := Lib.hid ((hb1.grown hgrow (by omega) (fun k hk => (hown.lt k hk).1)).setCell (p := ⟨b, 1, none⟩) hB _)
  have hcells : Lib.byteCells l ++ Lib.strCells s = Lib.byteCells (l ++ s.data.toList) := by simp [Lib.byteCells, Lib.strCells]
  rw [hcells] at hput
  obtain ⟨pa, pn, pc, rfl⟩ : ∃ pa pn pc, v' = .slice pa pn pc := by
    rcases hown'.2 with ⟨e, _⟩ | ⟨g, cap, cur, e, _⟩
    · exact ⟨_, _, _, e⟩
    · exact ⟨_, _, _, e⟩
  have hsp : Hid (Spares b w (w2.setCell ⟨b, 1, none⟩ (.slice pa pn pc))) := Lib.hid (hs1.trans ((Spares.grown hown hgrow).trans (Spares.set _ _ _ _)))
  clear hown' hgrow hown hb1 hbk hb2 hcells hs1
  go_wp2
  go_returns
  exact ⟨rfl, .inr hput.out, hbel.out, hsp.out⟩
theorem bld_text {B b : Nat} {l : List UInt8} {w : World} (h : Bld B b l w) (hBw : B ≤ w.heap.size) :
    Calls Try.prog 29 #[.pointer (some ⟨b, 0, none⟩)] w fun e w' => e = .returned (.string ⟨l.toArray⟩) ∧ Below B w w' := Try.Builder_String_any B b l w h hBw
theorem Bld.below {B b : Nat} {l : List UInt8} {w w' : World} (h : Bld B b l w) (hb : Below w.heap.size w w') : Bld B b l w' := by
  have K : ∀ p, Lib.BuilderAt 62 5 B b p (Lib.byteCells l) w → Lib.BuilderAt 62 5 B b p (Lib.byteCells l) w' := fun p h => by
    obtain ⟨hB, v, hbk, hown, hne⟩ := h
    refine ⟨hB, v, (hb.block b (Array.getElem?_eq_some_iff.1 hbk).1).trans hbk, ⟨hown.1, ?_⟩, hne⟩
    rcases hown.2 with e | ⟨g, cap, cur, e, a1, a2, a3⟩
    · exact .inl e
    · exact .inr ⟨g, cap, cur, e, a1, (hb.block g (Array.getElem?_eq_some_iff.1 a2).1).trans a2, a3⟩
  rcases h with h | h
  · exact .inl (K _ h)
  · exact .inr (K _ h)
theorem bld_new (w : World) : Bld w.heap.size w.heap.size [] (w.alloc (.cells #[.pointer none, .slice none 0 0] 62)) := Lib.fresh_isBuilder _ _ w
end Go.Proofs.Ytnmjfdejgfmoiaa
/-
  The program's Encode. Condition: texts of fewer than 2^47 bytes (every edit that came in).
-/
namespace Go.Proofs.Ytnmjfdejgfmoiaa
set_option maxRecDepth 100000
open Go.RowKit
def cellsN (x : Nat) : List Value := [.int .u64 (x : Int)]
def fldB (s : ByteArray) : List UInt8 := Code.uvar s.size ++ s.data.toList
def encG (g : Gn) : List UInt8 := Code.uvar g.lev.toNat ++ Code.uvar g.num
def encP (p : Pl) : List UInt8 := Code.uvar p.lev.toNat ++ (Code.uvar p.tb.num ++ (Code.uvar p.tb.size.toNat ++ Code.uvar p.tb.rows.toNat)) ++ fldB p.tb.fst ++ fldB p.tb.lst ++ (Code.uvar p.tb.least ++ Code.uvar p.tb.gr)
def encE (e : Ed) : List UInt8 := Code.uvar e.log ++ (Code.uvar e.next ++ (Code.uvar e.seq ++ Code.uvar e.gone.length)) ++ e.gone.flatMap encG ++ Code.uvar e.added.length ++ e.added.flatMap encP
theorem uvar_le (n : Nat) (h : n ≤ 18446744073709551615) : (Code.uvar n).length ≤ 10 := Code.uvar_ten (n := n) (by omega)
theorem flat_le {α : Type} (f : α → List UInt8) : ∀ (l : List α), (∀ y ∈ l, (f y).length ≤ 10) → (l.flatMap f).length ≤ 10 * l.length
  | [], _ => by simp
  | y :: r, h => by
    have h1 := h y (List.mem_cons_self ..)
    have h2 := flat_le f r (fun z hz => h z (List.mem_cons_of_mem _ hz))
    rw [List.flatMap_cons, List.length_append, List.length_cons]
    omega
/-- What a write of numbers leaves. -/
structure Wrote (B b : Nat) (l : List UInt8) (w w' : World) : Prop where
  bld : Bld B b l w'
  bel : Below B w w'
  sp : Spares b w w'
theorem Wrote.trans {B b : Nat} {l k : List UInt8} {x y z : World} (h : Wrote B b l x y) (g : Wrote B b k y z) : Wrote B b k x z := ⟨g.bld, h.bel.trans g.bel, h.sp.trans g.sp⟩
theorem Wrote.pre {B b : Nat} {k : List UInt8} {x y z : World} (h : Below x.heap.size x y) (hB : B ≤ x.heap.size) (g : Wrote B b k y z) : Wrote B b k x z := ⟨g.bld, (h.mono hB).trans g.bel, (Spares.below h).trans g.sp⟩
theorem Wrote.post {B b : Nat} {k : List UInt8} {x y z : World} (g : Wrote B b k x y) (h : Below y.heap.size y z) (hB : B ≤ y.heap.size) : Wrote B b k x z := ⟨g.bld.below h, g.bel.trans (h.mono hB), g.sp.trans (Spares.below h)⟩
theorem bld_lt {B b : Nat} {l : List UInt8} {w : World} (h : Bld B b l w) : b < w.heap.size ∧ ∀ cs m, w.heap[b]? = some (.cells cs 22 m) → False := by
  rcases h with h | h
  · obtain ⟨hB, v, hbk, _⟩ := h
    exact ⟨(Array.getElem?_eq_some_iff.1 hbk).1, fun cs m e => by rw [hbk] at e; cases e⟩
  · obtain ⟨hB, v, hbk, _⟩ := h
    exact ⟨(Array.getElem?_eq_some_iff.1 hbk).1, fun cs m e => by rw [hbk] at e; cases e⟩
theorem spares_cells {b : Nat} {w w' : World} (h : Spares b w w') {g : Nat} {cs : Array Value} {t : TypeId} {m : Nat × Nat} (hg : w.heap[g]? = some (.cells cs t m)) (hb : g ≠ b) (ht : t ≠ 5) : w'.heap[g]? = some (.cells cs t m) :=
  (h.2 g (Array.getElem?_eq_some_iff.1 hg).1 hb (fun cs' m' e => by rw [hg] at e; cases e; exact ht rfl)).trans hg
set_option maxRecDepth 100000 in
set_option maxHeartbeats 4000000 in
/-- The closure that writes numbers. -/
theorem put_any {B b g : Nat} {l : List UInt8} {w : World} (ns : List Nat) (cs : Array Value) (hcs : cs.toList = ns.flatMap cellsN) (hk : ns.length ≤ 4) (hns : ∀ n ∈ ns, n ≤ 18446744073709551615) (hg : w.heap[g]? = some (.cells cs 22 (0, 0))) (hgb : g ≠ b) (hb : Bld B b l w) (hBw : B ≤ w.heap.size) (hl : l.length ≤ 70368744177664) :
    Calls Try.prog 25 #[.slice (some ⟨g, 0, none⟩) ns.length ns.length, .pointer (some ⟨b, 0, none⟩)] w fun e w' => e = .returned (.tuple #[]) ∧ Wrote B b (l ++ ns.flatMap Code.uvar) w w' := by
  have W0 : Hid (Wrote B b (l ++ (ns.take 0).flatMap Code.uvar) w w) := Lib.hid ⟨by simpa using hb, Below.refl _ _, Spares.refl _ _⟩
  obtain ⟨n, hn⟩ := named ns.length
  rw [← hn.out] at hk ⊢
  replace hn := Lib.hid hn.out.symm
  replace hcs := Lib.hid hcs
  replace hns := Lib.hid hns
  go_enter Try.func25, Try.ntmps25
  go_wp2_with fail
  go_loopw [7] (fun i wr => ∃ j : Nat, j ≤ n ∧ i = .int .i64 (j : Int) ∧ Hid (Wrote B b (l ++ (ns.take j).flatMap Code.uvar) w wr)) (fun i _ => n - (intOf i).toNat)
  case atStart => exact ⟨0, Nat.zero_le _, rfl, W0⟩
  case round =>
    obtain ⟨j, hj, rfl, hw⟩ := hrel
    by_cases hlt : j < n
    · obtain ⟨x, hx⟩ : ∃ x, ns[j]? = some x := ⟨_, List.getElem?_eq_getElem (by rw [hn.out]; exact hlt)⟩
      have hg2 := spares_cells hw.out.sp hg hgb (by decide)
      have c0 : wr.cell? ⟨g, j, none⟩ = some (.int .u64 (x : Int)) := by
        have h1 := rowG_at (cells := cellsN) (k := 1) (fun _ => rfl) ns j 0 hx (by omega)
        rw [← hcs.out, Nat.mul_one, Nat.add_zero] at h1
        rw [Lib.cell_of_heap hg2]
        rw [← Array.getElem?_toList]
        exact h1
      have i0 : (j : Int) < (n : Int) := by omega
      have hxm := hns.out x (List.mem_of_getElem? hx)
      have PC := Lib.hid (fun u => putuint_any x (by omega) u)
      obtain ⟨U, hU⟩ := named (Code.uvar x)
      rw [← hU.out] at PC
      have hlen : (l ++ (ns.take j).flatMap Code.uvar).length + (⟨U.toArray⟩ : ByteArray).size ≤ 140737488355328 := by
        have h1 : U.length ≤ 10 := by rw [hU.out]; exact uvar_le x hxm
        have h2 : ((ns.take j).flatMap Code.uvar).length ≤ 10 * (ns.take j).length := flat_le _ _ (fun y hy => uvar_le y (hns.out y (List.mem_of_mem_take hy)))
        have h3 : (ns.take j).length ≤ 4 := by rw [List.length_take]; omega
        have h4 : (⟨U.toArray⟩ : ByteArray).size = U.length := by simp [ByteArray.size]
        rw [List.length_append, h4]
        omega
      have SC := Lib.hid (fun u (hu : Below wr.heap.size wr u) => bld_string (hw.out.bld.below hu) (Nat.le_trans hBw (Nat.le_trans hw.out.bel.size hu.size)) ⟨U.toArray⟩ hlen)
      have hz : Hid (B ≤ wr.heap.size) := Lib.hid (Nat.le_trans hBw hw.out.bel.size)
      have hfin : Hid (l ++ (ns.take j).flatMap Code.uvar ++ U = l ++ (ns.take (j + 1)).flatMap Code.uvar) := Lib.hid (by rw [List.take_add_one, hx, hU.out]; simp)
      clear hx hlen hxm
      replace hU := Lib.hid hU.out
      go_wp2_with (first
        | (go_at_call 27; ((with_reducible refine (PC.out _).mono ?_); rintro e w1 ⟨rfl, hb1⟩; have B1 := Lib.hid hb1; clear hb1))
        | (go_at_call 26; ((with_reducible refine (SC.out _ B1.out).mono ?_); rintro e w2 ⟨rfl, h1, h2, h3⟩; have W2 : Hid (Wrote B b (l ++ (ns.take (j + 1)).flatMap Code.uvar) w w2) := Lib.hid (hw.out.trans ⟨by rw [← hfin.out]; exact h1, (B1.out.mono hz.out).trans h2, (Spares.below B1.out).trans h3⟩); clear h1 h2 h3)))
      go_roundw
      case rel => exact ⟨j + 1, by omega, by go_num, W2⟩
      case measure => simp [intOf]; omega
    · have i0 : ¬ (j : Int) < (n : Int) := by omega
      have e1 : Hid (ns.take j = ns) := Lib.hid (List.take_of_length_le (by rw [hn.out]; omega))
      rw [e1.out] at hw
      go_wp2_with fail
      go_returns
      exact ⟨rfl, hw.out⟩
end Go.Proofs.Ytnmjfdejgfmoiaa
