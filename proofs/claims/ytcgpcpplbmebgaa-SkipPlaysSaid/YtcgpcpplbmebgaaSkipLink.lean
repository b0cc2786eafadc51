/-
  A node linked into a skip list in memory, level by level. No condition.
-/
import Derived.Test.YtcgpcpplbmebgaaSkipSearch
import Derived.Test.YtcgpcpplbmebgaaSkipCopied
namespace Go.Proofs.Ytcgpcpplbmebgaa
open Go.RowKit
/-- What a call that turns a list leaves of all else. -/
structure Only (p : Nat) (ns : List Nd) (w w' : World) : Prop where
  os : w'.os = w.os
  tape : w'.tape = w.tape
  output : w'.output = w.output
  size : w.heap.size ≤ w'.heap.size
  block : ∀ k : Nat, k < w.heap.size → k ≠ p → (∀ x ∈ ns, k ≠ x.blk) → w'.heap[k]? = w.heap[k]?
theorem Only.of_below {p : Nat} {ns : List Nd} {B : Nat} {w w' : World} (h : Below B w w') (hB : w.heap.size ≤ B) : Only p ns w w' := ⟨h.os, h.tape, h.output, h.size, fun k hk _ _ => h.block k (by omega)⟩
theorem Only.below {p : Nat} {ns : List Nd} {w v w' : World} (h : Only p ns w v) (hb : Below v.heap.size v w') : Only p ns w w' := ⟨hb.os.trans h.os, hb.tape.trans h.tape, hb.output.trans h.output, Nat.le_trans h.size hb.size, fun k hk h1 h2 => (hb.block k (Nat.lt_of_lt_of_le hk h.size)).trans (h.block k hk h1 h2)⟩
theorem Only.drew {p : Nat} {ns : List Nd} {w v : World} (h : Only p ns w v) : Only p ns w v.drew := ⟨h.os, h.tape, h.output, h.size, h.block⟩
theorem Only.drewN {p n : Nat} {ns : List Nd} {w v : World} (h : Only p ns w v) : Only p ns w (v.drewN n) := ⟨h.os, h.tape, h.output, h.size, h.block⟩
theorem Only.setCell {p : Nat} {ns : List Nd} {w v : World} (h : Only p ns w v) {a : Addr} (ha : a.block = p ∨ (∃ x ∈ ns, a.block = x.blk) ∨ w.heap.size ≤ a.block) (u : Value) : Only p ns w (v.setCell a u) :=
  have g : Below 0 v (v.setCell a u) := (Below.refl 0 v).setCell (Nat.zero_le _) u
  ⟨g.os.trans h.os, g.tape.trans h.tape, g.output.trans h.output, Nat.le_trans h.size g.size, fun k hk h1 h2 => (Below.heap_setCell v a u k (by
    rcases ha with e | ⟨x, hx, e⟩ | e
    · rw [e]; exact h1
    · rw [e]; exact h2 x hx
    · omega)).trans (h.block k hk h1 h2)⟩
theorem lnk_block (p : Nat) (pre : List Nd) (h : Nat) : (lnk p pre h).block = p ∨ ∃ x ∈ pre, (lnk p pre h).block = x.blk := by
  unfold lnk
  cases e : pre.getLast? with
  | none => exact .inl rfl
  | some x => exact .inr ⟨x, List.mem_of_getLast? e, rfl⟩
theorem nxt_in {h : Nat} {A : List Nd} (hx : ∃ x ∈ A, h < x.hgt) (r r' : List Nd) : nxt h (A ++ r) = nxt h (A ++ r') := by
  rcases nd_split h A with hl | ⟨a, x, c, rfl, hl, hlt⟩
  · obtain ⟨x, hm, hlt⟩ := hx
    exact absurd (hl x hm) (by omega)
  · rw [List.append_assoc, List.append_assoc, nxt_low hl, nxt_low hl, List.cons_append, List.cons_append, nxt_hit hlt, nxt_hit hlt]
theorem nxt_skip {h : Nat} {d : Nd} (hd : d.hgt ≤ h) (r : List Nd) : ∀ a : List Nd, nxt h (a ++ d :: r) = nxt h (a ++ r)
  | [] => by
    show (if h < d.hgt then _ else nxt h r) = nxt h r
    rw [if_neg (by omega)]
  | x :: a => by
    show (if h < x.hgt then _ else nxt h (a ++ d :: r)) = (if h < x.hgt then _ else nxt h (a ++ r))
    rw [nxt_skip hd r a]
/-- The nodes of level h while the levels below i have the new node. -/
def lvl (A D : List Nd) (d : Nd) (i h : Nat) : List Nd := if h < i then A ++ d :: D else A ++ D
structure SkM (p : Nat) (A D : List Nd) (d : Nd) (i : Nat) (w : World) : Prop where
  nodup : ((A ++ d :: D).map (·.blk)).Nodup
  apart : ∀ x ∈ A ++ d :: D, x.blk ≠ p
  first : ∀ h, h < 12 → w.cell? ⟨p, h, none⟩ = some (.pointer (nxt h (lvl A D d i h)))
  many : w.cell? ⟨p, 12, none⟩ = some (.int .i64 ((A ++ D).length : Int))
  top : w.cell? ⟨p, 13, none⟩ = some (.int .i64 (topH (hgtsN (A ++ D)) : Int))
  frz : ∀ o, w.frozen? ⟨p, o, none⟩ = false
  node : ∀ x ∈ A ++ d :: D, w.cell? ⟨x.blk, 0, none⟩ = some (.string x.row.key) ∧ w.cell? ⟨x.blk, 1, none⟩ = some (.int .u64 (x.row.seq : Int)) ∧ w.cell? ⟨x.blk, 2, none⟩ = some (.int .i64 x.row.kind) ∧ w.cell? ⟨x.blk, 3, none⟩ = some (.string x.row.val)
  link : ∀ h a x r, lvl A D d i h = a ++ x :: r → h < x.hgt → w.cell? ⟨x.blk, 4 + h, none⟩ = some (.pointer (nxt h r))
  nfrz : ∀ x ∈ A ++ d :: D, ∀ o, w.frozen? ⟨x.blk, o, none⟩ = false
  own : ∀ o, o < 16 → (w.cell? ⟨d.blk, o, none⟩).isSome = true
  typ : Typed w p 29
  ntyp : ∀ x ∈ A ++ d :: D, Typed w x.blk 93
theorem blk_ne {l : List Nd} (h : (l.map (·.blk)).Nodup) {a b c : List Nd} {x y : Nd} (e : l = a ++ x :: b ++ y :: c) : x.blk ≠ y.blk := by
  rw [e] at h
  rw [List.map_append, List.map_append, List.map_cons, List.map_cons] at h
  have h1 := (List.nodup_append.1 h).2.2
  exact h1 x.blk (by simp) y.blk (by simp)
theorem SkM.step {p : Nat} {A D : List Nd} {d : Nd} {i : Nat} {w : World} (h : SkM p A D d i w) (hi : i < d.hgt) (hd : d.hgt ≤ 12) {pre mid : List Nd} (hA : A = pre ++ mid) (hh : High i pre) (hm : ∀ x ∈ mid, x.hgt ≤ i) :
    SkM p A D d (i + 1) ((w.setCell ⟨d.blk, 4 + i, none⟩ (.pointer (nxt i D))).setCell (lnk p pre i) (.pointer (some ⟨d.blk, 0, none⟩))) := by
  have hdp : d.blk ≠ p := h.apart d (by simp)
  have hlb : (lnk p pre i).block ≠ d.blk := by
    rcases lnk_block p pre i with e | ⟨x, hx, e⟩
    · rw [e]; exact fun e' => hdp e'.symm
    · rw [e]
      obtain ⟨a, b, e2⟩ := List.append_of_mem hx
      exact blk_ne h.nodup (a := a) (b := b ++ mid) (c := D) (x := x) (y := d) (by rw [hA, e2]; simp)
  have oth : ∀ a : Addr, a ≠ ⟨d.blk, 4 + i, none⟩ → a ≠ lnk p pre i → ((w.setCell ⟨d.blk, 4 + i, none⟩ (.pointer (nxt i D))).setCell (lnk p pre i) (.pointer (some ⟨d.blk, 0, none⟩))).cell? a = w.cell? a := fun a h1 h2 => by
    rw [World.cell?_setCell_other _ _ _ _ h2.symm, World.cell?_setCell_other _ _ _ _ h1.symm]
  have ne1 : ∀ (b o : Nat), (b = d.blk → o ≠ 4 + i) → (⟨b, o, none⟩ : Addr) ≠ ⟨d.blk, 4 + i, none⟩ := fun b o hb e => by
    cases e; exact hb rfl rfl
  -- an address that no link of level i has
  have ne2 : ∀ (b o : Nat), (b = p → o ≠ i) → (b ≠ p → o ≠ 4 + i) → (⟨b, o, none⟩ : Addr) ≠ lnk p pre i := fun b o h1 h2 => by
    rcases hh with rfl | ⟨a, x, rfl, hx⟩
    · rw [lnk_nil]; intro e; cases e; exact h1 rfl rfl
    · rw [lnk_snoc]
      intro e; cases e
      exact h2 (h.apart x (by rw [hA]; simp)) rfl
  have hso : ((w.setCell ⟨d.blk, 4 + i, none⟩ (.pointer (nxt i D))).cell? (lnk p pre i)).isSome = (w.cell? (lnk p pre i)).isSome := by
    rw [World.cell?_setCell_other _ _ _ _ (fun e => hlb (by rw [← e]))]
  have hls : (w.cell? (lnk p pre i)).isSome = true := by
    rcases hh with rfl | ⟨a, x, rfl, hx⟩
    · rw [lnk_nil, h.first i (by omega)]; rfl
    · rw [lnk_snoc, h.link i a x (mid ++ D) (by unfold lvl; rw [if_neg (by omega), hA]; simp) hx]; rfl
  have new2 : ((w.setCell ⟨d.blk, 4 + i, none⟩ (.pointer (nxt i D))).setCell (lnk p pre i) (.pointer (some ⟨d.blk, 0, none⟩))).cell? (lnk p pre i) = some (.pointer (some ⟨d.blk, 0, none⟩)) :=
    World.cell?_setCell_same' _ _ _ (by rw [hso]; exact hls)
  have new1 : ((w.setCell ⟨d.blk, 4 + i, none⟩ (.pointer (nxt i D))).setCell (lnk p pre i) (.pointer (some ⟨d.blk, 0, none⟩))).cell? ⟨d.blk, 4 + i, none⟩ = some (.pointer (nxt i D)) := by
    rw [World.cell?_setCell_other _ _ _ _ (fun e => hlb (by rw [e]))]
    exact World.cell?_setCell_same' _ _ _ (h.own _ (by omega))
  have hnd : nxt i (mid ++ d :: D) = some ⟨d.blk, 0, none⟩ := by rw [nxt_low hm, nxt_hit hi]
  have tset : ∀ b T, Typed w b T → Typed ((w.setCell ⟨d.blk, 4 + i, none⟩ (.pointer (nxt i D))).setCell (lnk p pre i) (.pointer (some ⟨d.blk, 0, none⟩))) b T := fun b T ht => by
    obtain ⟨b', o', hf, _⟩ := lnk_form p pre
    rw [hf]
    exact (ht.set _ _ _).set _ _ _
  refine ⟨h.nodup, h.apart, fun l hl => ?_, ?_, ?_, fun o => ?_, fun x hx => ?_, fun l a x r e hx => ?_, fun x hx o => ?_, fun o ho => ?_, tset _ _ h.typ, fun x hx => tset _ _ (h.ntyp x hx)⟩
  · by_cases e : l = i
    · subst e
      unfold lvl
      rw [if_pos (by omega)]
      rcases hh with rfl | ⟨a, x, rfl, hx⟩
      · rw [lnk_nil] at new2
        rw [lnk_nil, new2, hA, List.nil_append, hnd]
      · rw [oth _ (ne1 _ _ fun e => absurd e.symm hdp) (by rw [lnk_snoc]; intro e; exact h.apart x (by rw [hA]; simp) (congrArg Addr.block e).symm), h.first l hl]
        unfold lvl
        rw [if_neg (by omega)]
        rw [nxt_in (r' := d :: D) ⟨x, by rw [hA]; simp, hx⟩]
    · rw [oth _ (ne1 _ _ fun e => absurd e.symm hdp) (ne2 _ _ (fun _ => e) (fun h => absurd rfl h)), h.first l hl]
      unfold lvl
      by_cases h1 : l < i
      · rw [if_pos h1, if_pos (by omega)]
      · rw [if_neg h1, if_neg (by omega)]
  · rw [oth _ (ne1 _ _ fun e => absurd e.symm hdp) (ne2 _ _ (fun _ => by omega) (fun h => absurd rfl h))]; exact h.many
  · rw [oth _ (ne1 _ _ fun e => absurd e.symm hdp) (ne2 _ _ (fun _ => by omega) (fun h => absurd rfl h))]; exact h.top
  · rw [World.frozen?_setCell, World.frozen?_setCell]; exact h.frz o
  · have hxp := h.apart x hx
    have f : ∀ o, o < 4 → ((w.setCell ⟨d.blk, 4 + i, none⟩ (.pointer (nxt i D))).setCell (lnk p pre i) (.pointer (some ⟨d.blk, 0, none⟩))).cell? ⟨x.blk, o, none⟩ = w.cell? ⟨x.blk, o, none⟩ := fun o ho =>
      oth _ (ne1 _ _ fun _ => by omega) (ne2 _ _ (fun e => absurd e hxp) (fun _ => by omega))
    rw [f 0 (by omega), f 1 (by omega), f 2 (by omega), f 3 (by omega)]
    exact h.node x hx
  · by_cases el : l = i
    · subst el
      unfold lvl at e
      rw [if_pos (by omega)] at e
      have old : ∀ a' r', A ++ D = a' ++ x :: r' → w.cell? ⟨x.blk, 4 + l, none⟩ = some (.pointer (nxt l r')) := fun a' r' e' => h.link l a' x r' (by unfold lvl; rw [if_neg (by omega)]; exact e') hx
      rcases List.append_eq_append_iff.1 e with ⟨a', e1, e2⟩ | ⟨c', e1, e2⟩
      · cases a' with
        | nil =>
          obtain ⟨rfl, rfl⟩ : d = x ∧ D = r := by simpa using e2
          exact new1
        | cons z a' =>
          obtain ⟨rfl, e3⟩ : d = z ∧ D = a' ++ x :: r := by simpa using e2
          have hxd : x.blk ≠ d.blk := (blk_ne h.nodup (a := A) (b := a') (c := r) (x := d) (y := x) (by rw [e3]; simp)).symm
          have hxl : (⟨x.blk, 4 + l, none⟩ : Addr) ≠ lnk p pre l := fun e => by
            rcases lnk_block p pre l with e4 | ⟨y, hy, e4⟩
            · rw [← e] at e4; exact h.apart x (by rw [e3]; simp) e4
            · rw [← e] at e4
              obtain ⟨u, v, e5⟩ := List.append_of_mem hy
              exact blk_ne h.nodup (a := u) (b := v ++ mid ++ d :: a') (c := r) (x := y) (y := x) (by rw [hA, e5, e3]; simp) e4.symm
          rw [oth _ (ne1 _ _ fun e => absurd e hxd) hxl]
          exact old (A ++ a') r (by rw [e3]; simp)
      · cases c' with
        | nil =>
          obtain ⟨rfl, rfl⟩ : x = d ∧ r = D := by simpa using e2
          exact new1
        | cons z c' =>
          obtain ⟨rfl, rfl⟩ : x = z ∧ r = c' ++ d :: D := by simpa using e2
          have hxd : x.blk ≠ d.blk := blk_ne h.nodup (a := a) (b := c') (c := D) (x := x) (y := d) (by rw [e1])
          rw [hA] at e1
          rcases List.append_eq_append_iff.1 e1 with ⟨u, _, e4⟩ | ⟨u, e3, e4⟩
          · exact absurd (hm x (by rw [e4]; simp)) (by omega)
          · cases u with
            | nil =>
              have : x ∈ mid := by
                rw [List.nil_append] at e4
                exact e4 ▸ List.mem_cons_self
              exact absurd (hm x this) (by omega)
            | cons z u =>
              obtain ⟨rfl, rfl⟩ : x = z ∧ c' = u ++ mid := by simpa using e4
              rcases hh with rfl | ⟨b, y, e5, hy⟩
              · simp at e3
              · rcases List.eq_nil_or_concat u with rfl | ⟨u', z, rfl⟩
                · rw [e3, lnk_snoc] at new2
                  rw [e3, lnk_snoc, new2, List.nil_append, hnd]
                · have hz : z = y ∧ a ++ x :: u' = b := by
                    rw [e5] at e3
                    have := List.append_inj' (s₁ := b) (t₁ := [y]) (s₂ := a ++ x :: u') (t₂ := [z]) (by rw [e3]; simp) rfl
                    exact ⟨by simpa using this.2.symm, this.1.symm⟩
                  obtain ⟨rfl, hb⟩ := hz
                  have hxl : (⟨x.blk, 4 + l, none⟩ : Addr) ≠ lnk p pre l := by
                    rw [e5, lnk_snoc]
                    intro e
                    have e6 : x.blk = z.blk := congrArg Addr.block e
                    exact blk_ne h.nodup (a := a) (b := u') (c := mid ++ d :: D) (x := x) (y := z) (by rw [hA, e5, ← hb]; simp) e6
                  rw [oth _ (ne1 _ _ fun e => absurd e hxd) hxl, old a (u' ++ [z] ++ mid ++ D) (by rw [hA, e5, ← hb]; simp)]
                  have := nxt_in (h := l) (A := u' ++ [z] ++ mid) ⟨z, by simp, hy⟩ D (d :: D)
                  rw [this]
                  simp
    · have hxm : x ∈ A ++ d :: D := by
        have : x ∈ lvl A D d (i + 1) l := by rw [e]; simp
        unfold lvl at this
        split at this
        · exact this
        · simp only [List.mem_append, List.mem_cons] at this ⊢
          rcases this with h1 | h1
          · exact .inl h1
          · exact .inr (.inr h1)
      rw [oth _ (ne1 _ _ fun _ => by omega) (ne2 _ _ (fun e => absurd e (h.apart x hxm)) (fun _ => by omega))]
      refine h.link l a x r ?_ hx
      rw [← e]
      unfold lvl
      by_cases h1 : l < i
      · rw [if_pos h1, if_pos (by omega)]
      · rw [if_neg h1, if_neg (by omega)]
  · rw [World.frozen?_setCell, World.frozen?_setCell]; exact h.nfrz x hx o
  · by_cases e : (⟨d.blk, o, none⟩ : Addr) = ⟨d.blk, 4 + i, none⟩
    · rw [e, new1]; rfl
    · rw [oth _ e (fun e2 => hlb (by rw [← e2]))]; exact h.own o ho
theorem SkM.at {p : Nat} {A D : List Nd} {d : Nd} {i : Nat} {w : World} (h : SkM p A D d i w) (hi : i < 12) {pre mid : List Nd} (hA : A = pre ++ mid) (hh : High i pre) (hm : ∀ x ∈ mid, x.hgt ≤ i) :
    w.cell? (lnk p pre i) = some (.pointer (nxt i D)) ∧ w.frozen? (lnk p pre i) = false := by
  have hl : lvl A D d i i = pre ++ (mid ++ D) := by unfold lvl; rw [if_neg (by omega), hA, List.append_assoc]
  rcases hh with rfl | ⟨a, x, rfl, hx⟩
  · rw [lnk_nil]
    refine ⟨?_, h.frz i⟩
    rw [h.first i hi, hl, List.nil_append, nxt_low hm]
  · rw [lnk_snoc]
    refine ⟨?_, h.nfrz x (by rw [hA]; simp) _⟩
    rw [h.link i a x (mid ++ D) (by rw [hl]; simp) hx, nxt_low hm]
theorem SkM.drewN {p : Nat} {A D : List Nd} {d : Nd} {i n : Nat} {w : World} (h : SkM p A D d i w) : SkM p A D d i (w.drewN n) := ⟨h.nodup, h.apart, h.first, h.many, h.top, h.frz, h.node, h.link, h.nfrz, h.own, h.typ, h.ntyp⟩
theorem SkM.drew {p : Nat} {A D : List Nd} {d : Nd} {i : Nat} {w : World} (h : SkM p A D d i w) : SkM p A D d i w.drew := ⟨h.nodup, h.apart, h.first, h.many, h.top, h.frz, h.node, h.link, h.nfrz, h.own, h.typ, h.ntyp⟩
theorem SkM.start {p : Nat} {A D : List Nd} {d : Nd} {w W : World} (h : SkA p (A ++ D) w) (hW : Below w.heap.size w W) (hn : w.heap.size ≤ d.blk) {cs : Array Value} (hc : W.heap[d.blk]? = some (.cells cs 93 (0, 0))) (hz : cs.size = 16)
    (hr : W.cell? ⟨d.blk, 0, none⟩ = some (.string d.row.key) ∧ W.cell? ⟨d.blk, 1, none⟩ = some (.int .u64 (d.row.seq : Int)) ∧ W.cell? ⟨d.blk, 2, none⟩ = some (.int .i64 d.row.kind) ∧ W.cell? ⟨d.blk, 3, none⟩ = some (.string d.row.val)) : SkM p A D d 0 W := by
  have h' := h.grow hW
  have hlt : ∀ x ∈ A ++ D, x.blk ≠ d.blk := fun x hx e => by have := h.nlt hx; omega
  have hmem : ∀ x, x ∈ A ++ d :: D → x = d ∨ x ∈ A ++ D := fun x hx => by
    simp only [List.mem_append, List.mem_cons] at hx ⊢
    rcases hx with h1 | h1 | h1
    · exact .inr (.inl h1)
    · exact .inl h1
    · exact .inr (.inr h1)
  refine ⟨?_, fun x hx => ?_, h'.first, h'.many, h'.top, h'.frz, fun x hx => ?_, fun l a x r e hl => h'.link a x r e l hl, fun x hx o => ?_, fun o ho => ?_, h'.typ, fun x hx => ?_⟩
  · have hp : (A ++ d :: D).Perm (d :: (A ++ D)) := List.perm_middle
    rw [(hp.map (·.blk)).nodup_iff, List.map_cons, List.nodup_cons]
    refine ⟨fun hm => ?_, h.nodup⟩
    obtain ⟨x, hx, e⟩ := List.mem_map.1 hm
    exact hlt x hx e
  · rcases hmem x hx with rfl | hx
    · intro e; have := h.lt; omega
    · exact h.apart x hx
  · rcases hmem x hx with rfl | hx
    · exact hr
    · exact h'.node x hx
  · rcases hmem x hx with rfl | hx
    · simp [World.frozen?, hc]
    · exact h'.nfrz x hx o
  · simp only [World.cell?, hc]
    rw [Array.getElem?_eq_getElem (by omega)]
    rfl
  · rcases hmem x hx with rfl | hx
    · exact ⟨cs, hc⟩
    · exact h'.ntyp x hx
theorem SkM.done {p : Nat} {A D : List Nd} {d : Nd} {i : Nat} {w : World} (h : SkM p A D d i w) (hi : i = d.hgt) (hs : SortedR (rowsN (A ++ d :: D))) (hh : ∀ x ∈ A ++ d :: D, 1 ≤ x.hgt ∧ x.hgt ≤ 12) (hb : ∀ x ∈ A ++ d :: D, x.row.key.size ≤ 281474976710656 ∧ x.row.val.size ≤ 281474976710656 ∧ x.row.seq ≤ 18446744073709551615) :
    SkA p (A ++ d :: D) ((w.setCell ⟨p, 12, none⟩ (.int .i64 (((A ++ d :: D).length : Nat) : Int))).setCell ⟨p, 13, none⟩ (.int .i64 ((topH (hgtsN (A ++ d :: D)) : Nat) : Int))) := by
  have oth : ∀ a : Addr, a ≠ ⟨p, 12, none⟩ → a ≠ ⟨p, 13, none⟩ → ((w.setCell ⟨p, 12, none⟩ (.int .i64 (((A ++ d :: D).length : Nat) : Int))).setCell ⟨p, 13, none⟩ (.int .i64 ((topH (hgtsN (A ++ d :: D)) : Nat) : Int))).cell? a = w.cell? a := fun a h1 h2 => by
    rw [World.cell?_setCell_other _ _ _ _ h2.symm, World.cell?_setCell_other _ _ _ _ h1.symm]
  have nd : ∀ x ∈ A ++ d :: D, ∀ o, ((w.setCell ⟨p, 12, none⟩ (.int .i64 (((A ++ d :: D).length : Nat) : Int))).setCell ⟨p, 13, none⟩ (.int .i64 ((topH (hgtsN (A ++ d :: D)) : Nat) : Int))).cell? ⟨x.blk, o, none⟩ = w.cell? ⟨x.blk, o, none⟩ := fun x hx o =>
    oth _ (fun e => h.apart x hx (congrArg Addr.block e)) (fun e => h.apart x hx (congrArg Addr.block e))
  have hl : ∀ l, nxt l (lvl A D d i l) = nxt l (A ++ d :: D) := fun l => by
    unfold lvl
    split
    · rfl
    · exact (nxt_skip (by omega) D A).symm
  refine ⟨hs, hh, hb, h.nodup, h.apart, fun l hl' => ?_, ?_, ?_, fun o => ?_, fun x hx => ?_, fun a x r e l hx => ?_, fun x hx o => ?_, (h.typ.set _ _ _).set _ _ _, fun x hx => ((h.ntyp x hx).set _ _ _).set _ _ _⟩
  · rw [oth _ (fun e => by have := congrArg Addr.off e; simp only at this; omega) (fun e => by have := congrArg Addr.off e; simp only at this; omega), h.first l hl', hl]
  · rw [World.cell?_setCell_other _ _ _ _ (fun e => by have := congrArg Addr.off e; simp at this)]
    exact World.cell?_setCell_same' _ _ _ (by rw [h.many]; rfl)
  · exact World.cell?_setCell_same' _ _ _ (by rw [World.cell?_setCell_other _ _ _ _ (fun e => by have := congrArg Addr.off e; simp at this), h.top]; rfl)
  · rw [World.frozen?_setCell, World.frozen?_setCell]; exact h.frz o
  · rw [nd x hx, nd x hx, nd x hx, nd x hx]; exact h.node x hx
  · have hxm : x ∈ A ++ d :: D := by rw [e]; simp
    rw [nd x hxm]
    by_cases hli : l < i
    · exact h.link l a x r (by unfold lvl; rw [if_pos hli]; exact e) hx
    · have hlv : lvl A D d i l = A ++ D := by unfold lvl; rw [if_neg hli]
      rcases List.append_eq_append_iff.1 e with ⟨a', e1, e2⟩ | ⟨c', e1, e2⟩
      · cases a' with
        | nil =>
          obtain ⟨rfl, rfl⟩ : d = x ∧ D = r := by simpa using e2
          exact absurd hx (by omega)
        | cons z a' =>
          obtain ⟨rfl, e3⟩ : d = z ∧ D = a' ++ x :: r := by simpa using e2
          exact h.link l (A ++ a') x r (by rw [hlv, e3]; simp) hx
      · cases c' with
        | nil =>
          obtain ⟨rfl, rfl⟩ : x = d ∧ r = D := by simpa using e2
          exact absurd hx (by omega)
        | cons z c' =>
          obtain ⟨rfl, rfl⟩ : x = z ∧ r = c' ++ d :: D := by simpa using e2
          rw [h.link l a x (c' ++ D) (by rw [hlv, e1]; simp) hx, nxt_skip (by omega)]
  · rw [World.frozen?_setCell, World.frozen?_setCell]; exact h.nfrz x hx o
end Go.Proofs.Ytcgpcpplbmebgaa
