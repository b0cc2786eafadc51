/-
  Any number of skip lists in memory that share no block, each as rows with heights; the calls on them. Condition: texts of less than 2^48 bytes, at most 1048575 rows.
-/
import Derived.Test.YtcgpcpplbmebgaaSkipWhole
namespace Go.Proofs.Ytcgpcpplbmebgaa
open Go.RowKit
def toP (n : Nd) : Rw × Nat := (n.row, n.hgt)
theorem rowsN_P {ns : List Nd} {l : SL} (h : ns.map toP = l) : rowsN ns = rowsL l := by rw [← h]; simp [rowsN, rowsL, toP]
theorem hgtsN_P {ns : List Nd} {l : SL} (h : ns.map toP = l) : hgtsN ns = hgtsL l := by rw [← h]; simp [hgtsN, hgtsL, toP]
theorem plN_P {ns : List Nd} {l : SL} (h : ns.map toP = l) (k : ByteArray) (q : Nat) : plN ns k q = plL l k q := by unfold plN plL; rw [rowsN_P h]
theorem len_P {ns : List Nd} {l : SL} (h : ns.map toP = l) : ns.length = l.length := by rw [← h]; simp
theorem drop_P {ns : List Nd} {l : SL} (h : ns.map toP = l) (j : Nat) : rowsN (ns.drop j) = (rowsL l).drop j := by rw [← rowsN_P h]; unfold rowsN; rw [List.map_drop]
/-- A list, or none, as rows with heights. -/
def Ls (q : Option Addr) (l : SL) (w : World) : Prop := ∃ ns, LsA q ns w ∧ ns.map toP = l
theorem Ls.grow {q : Option Addr} {l : SL} {w w' : World} (h : Ls q l w) (hb : Below w.heap.size w w') : Ls q l w' := by
  obtain ⟨ns, h1, h2⟩ := h
  exact ⟨ns, h1.grow hb, h2⟩
theorem Ls.sort {q : Option Addr} {l : SL} {w : World} (h : Ls q l w) : SortedR (rowsL l) := by
  obtain ⟨ns, h1, h2⟩ := h
  rw [← rowsN_P h2]
  rcases h1 with ⟨_, rfl⟩ | ⟨p, _, h⟩
  · exact List.Pairwise.nil
  · exact h.sort
theorem ls_none (w : World) : Ls none [] w := ⟨[], .inl ⟨rfl, rfl⟩, rfl⟩
theorem len_l {q : Option Addr} {l : SL} {w : World} (h : Ls q l w) : Calls Try.prog 18 #[.pointer q] w fun e w' => e = .returned (.int .i64 (l.length : Int)) ∧ w' = w := by
  obtain ⟨ns, h1, h2⟩ := h
  rw [← len_P h2]; exact len_any h1
theorem height_l {q : Option Addr} {l : SL} {w : World} (h : Ls q l w) : Calls Try.prog 19 #[.pointer q] w fun e w' => e = .returned (.int .i64 (topH (hgtsL l) : Int)) ∧ w' = w := by
  obtain ⟨ns, h1, h2⟩ := h
  rw [← hgtsN_P h2]; exact height_any h1
theorem steps_l {q : Option Addr} {l : SL} {w : World} (h : Ls q l w) (hn : l.length ≤ 1048575) (k : ByteArray) (s : Nat) : Calls Try.prog 16 #[.pointer q, .string k, .int .u64 (s : Int)] w fun e w' => e = .returned (.int .i64 (stepsL l k s : Int)) ∧ Below w.heap.size w w' := by
  obtain ⟨ns, h1, h2⟩ := h
  unfold stepsL
  rw [← hgtsN_P h2, ← plN_P h2]; exact steps_any h1 (by rw [len_P h2]; omega) k s
theorem seek_l {q : Option Addr} {l : SL} {w : World} (h : Ls q l w) (hn : l.length ≤ 1048575) (k : ByteArray) (s : Nat) : Calls Try.prog 13 #[.pointer q, .string k, .int .u64 (s : Int)] w fun e w' => e = .returned (seekR ((rowsL l).drop (plL l k s))) ∧ Below w.heap.size w w' := by
  obtain ⟨ns, h1, h2⟩ := h
  rw [← drop_P h2, ← plN_P h2]; exact seek_any h1 (by rw [len_P h2]; omega) k s
theorem whole_l {q : Option Addr} {l : SL} {w : World} (h : Ls q l w) (hn : l.length ≤ 1048575) : Calls Try.prog 21 #[.pointer q] w (GaveR (rowsL l) w) := by
  obtain ⟨ns, h1, h2⟩ := h
  rw [← rowsN_P h2]; exact whole_any h1 (by rw [len_P h2]; omega)
theorem all_l {q : Option Addr} {l : SL} {w : World} (h : Ls q l w) (hn : l.length ≤ 1048575) (k : ByteArray) (hk : k.size ≤ 281474976710656) (s : Nat) (most : Int) :
    Calls Try.prog 15 #[.pointer q, .string k, .int .u64 (s : Int), .int .i64 most] w (GaveR (upTo most ((rowsL l).drop (plL l k s))) w) := by
  obtain ⟨ns, h1, h2⟩ := h
  rw [← drop_P h2, ← plN_P h2]; exact all_any h1 (by rw [len_P h2]; omega) k hk s most
/-- The blocks of a list. -/
def Blk (p : Nat) (ns : List Nd) (b : Nat) : Prop := b = p ∨ ∃ x ∈ ns, b = x.blk
/-- Lists that share no block: where each lies, and its rows. -/
def Zoo (base : Nat) (zs : List (Nat × SL)) (w : World) : Prop :=
  ∃ f : Nat → List Nd, (∀ i p l, zs[i]? = some (p, l) → SkA p (f i) w ∧ (f i).map toP = l ∧ ∀ b, Blk p (f i) b → base ≤ b) ∧
    ∀ i j p l p' l', i ≠ j → zs[i]? = some (p, l) → zs[j]? = some (p', l') → ∀ b, Blk p (f i) b → ¬ Blk p' (f j) b
theorem Zoo.grow {base : Nat} {zs : List (Nat × SL)} {w w' : World} (h : Zoo base zs w) (hb : Below w.heap.size w w') : Zoo base zs w' := by
  obtain ⟨f, h1, h2⟩ := h
  exact ⟨f, fun i p l e => ⟨(h1 i p l e).1.grow hb, (h1 i p l e).2⟩, h2⟩
theorem Zoo.ls {base : Nat} {zs : List (Nat × SL)} {w : World} (h : Zoo base zs w) {i p : Nat} {l : SL} (e : zs[i]? = some (p, l)) : Ls (some ⟨p, 0, none⟩) l w := by
  obtain ⟨f, h1, _⟩ := h
  exact ⟨f i, .inr ⟨p, rfl, (h1 i p l e).1⟩, (h1 i p l e).2.1⟩
theorem Zoo.nil (base : Nat) (w : World) : Zoo base [] w := ⟨fun _ => [], fun i p l e => by simp at e, fun i j p l p' l' _ e => by simp at e⟩
theorem ska_new (w : World) : SkA w.heap.size [] (w.alloc (.cells #[.pointer none, .pointer none, .pointer none, .pointer none, .pointer none, .pointer none, .pointer none, .pointer none, .pointer none, .pointer none, .pointer none, .pointer none, .int .i64 0, .int .i64 0] 29)) := by
  have hc := heap_alloc_new w (.cells #[.pointer none, .pointer none, .pointer none, .pointer none, .pointer none, .pointer none, .pointer none, .pointer none, .pointer none, .pointer none, .pointer none, .pointer none, .int .i64 0, .int .i64 0] 29)
  generalize w.alloc (.cells #[.pointer none, .pointer none, .pointer none, .pointer none, .pointer none, .pointer none, .pointer none, .pointer none, .pointer none, .pointer none, .pointer none, .pointer none, .int .i64 0, .int .i64 0] 29) = W at hc
  have hx : ∀ x : Nd, ¬ x ∈ ([] : List Nd) := fun x h => by cases h
  refine ⟨List.Pairwise.nil, fun x h => absurd h (hx x), fun x h => absurd h (hx x), List.nodup_nil, fun x h => absurd h (hx x), fun l hl => ?_, by simp [World.cell?, hc], by simp [World.cell?, hc, hgtsN, topH], fun o => by simp [World.frozen?, hc], fun x h => absurd h (hx x), fun a x r e => absurd e (by simp), fun x h => absurd h (hx x), ⟨_, hc⟩, fun x h => absurd h (hx x)⟩
  have : nxt l [] = none := rfl
  rw [this]
  simp only [World.cell?, hc]
  match l, hl with
  | 0, _ => rfl
  | 1, _ => rfl
  | 2, _ => rfl
  | 3, _ => rfl
  | 4, _ => rfl
  | 5, _ => rfl
  | 6, _ => rfl
  | 7, _ => rfl
  | 8, _ => rfl
  | 9, _ => rfl
  | 10, _ => rfl
  | 11, _ => rfl
/-- A new list beside them. -/
theorem Zoo.new {base : Nat} {zs : List (Nat × SL)} {w : World} (h : Zoo base zs w) (hb : base ≤ w.heap.size) : Zoo base (zs ++ [(w.heap.size, [])]) (w.alloc (.cells #[.pointer none, .pointer none, .pointer none, .pointer none, .pointer none, .pointer none, .pointer none, .pointer none, .pointer none, .pointer none, .pointer none, .pointer none, .int .i64 0, .int .i64 0] 29)) := by
  obtain ⟨f, h1, h2⟩ := h
  have lt : ∀ i p l, zs[i]? = some (p, l) → ∀ b, Blk p (f i) b → b < w.heap.size := fun i p l e b hb => by
    rcases hb with rfl | ⟨x, hx, rfl⟩
    · exact (h1 i _ l e).1.lt
    · exact (h1 i p l e).1.nlt hx
  have get : ∀ i p l, (zs ++ [(w.heap.size, ([] : SL))])[i]? = some (p, l) → (i < zs.length ∧ zs[i]? = some (p, l)) ∨ (i = zs.length ∧ p = w.heap.size ∧ l = []) := fun i p l e => by
    by_cases hi : i < zs.length
    · exact .inl ⟨hi, by rwa [List.getElem?_append_left hi] at e⟩
    · rw [List.getElem?_append_right (by omega)] at e
      have hi2 : i = zs.length := by
        have := (List.getElem?_eq_some_iff.1 e).1
        simp at this; omega
      subst hi2
      simp at e
      exact .inr ⟨rfl, e.1.symm, e.2⟩
  refine ⟨fun i => if i = zs.length then [] else f i, fun i p l e => ?_, fun i j p l p' l' hij e e' b => ?_⟩
  · rcases get i p l e with ⟨hi, e⟩ | ⟨rfl, rfl, rfl⟩
    · simp only [if_neg (show i ≠ zs.length by omega)]
      exact ⟨(h1 i p l e).1.grow (below_alloc _ _), (h1 i p l e).2⟩
    · simp only [if_true]
      refine ⟨ska_new w, rfl, fun b hb' => ?_⟩
      rcases hb' with rfl | ⟨x, hx, _⟩
      · exact hb
      · cases hx
  · rcases get i p l e with ⟨hi, e⟩ | ⟨rfl, rfl, rfl⟩
    · simp only [if_neg (show i ≠ zs.length by omega)]
      rcases get j p' l' e' with ⟨hj, e'⟩ | ⟨rfl, rfl, rfl⟩
      · simp only [if_neg (show j ≠ zs.length by omega)]
        exact h2 i j p l p' l' hij e e' b
      · simp only [if_true]
        rintro hb1 (hb2 | ⟨x, hx, _⟩)
        · have := lt i p l e b hb1; omega
        · cases hx
    · rcases get j p' l' e' with ⟨hj, e'⟩ | ⟨rfl, rfl, rfl⟩
      · simp only [if_true, if_neg (show j ≠ zs.length by omega)]
        rintro (hb1 | ⟨x, hx, _⟩) hb2
        · have := lt j p' l' e' b hb2; omega
        · cases hx
      · exact absurd rfl hij
theorem Only.base {p : Nat} {ns : List Nd} {w w' : World} {base : Nat} (h : Only p ns w w') (hb : base ≤ w.heap.size) (hl : ∀ b, Blk p ns b → base ≤ b) : Below base w w' :=
  ⟨h.os, h.tape, h.output, h.size, fun k hk => h.block k (by omega) (fun e => by have := hl p (.inl rfl); omega) (fun x hx e => by have := hl x.blk (.inr ⟨x, hx, rfl⟩); omega)⟩
/-- What Put leaves: whatever is neither a list nor a node. -/
def Else (w w' : World) : Prop := ∀ k, k < w.heap.size → ¬ Typed w k 29 → ¬ Typed w k 93 → w'.heap[k]? = w.heap[k]?
/-- Put on one of them. -/
theorem Zoo.putF {base : Nat} {zs : List (Nat × SL)} {w : World} (h : Zoo base zs w) (hb : base ≤ w.heap.size) {i p : Nat} {l : SL} (hi : zs[i]? = some (p, l)) (hn : l.length ≤ 1048575) (x : Rw) (hk : x.key.size ≤ 281474976710656) (hv : x.val.size ≤ 281474976710656) (hq : x.seq ≤ 18446744073709551615) (hgt : Int) :
    Calls Try.prog 11 #[.pointer (some ⟨p, 0, none⟩), rowV x, .int .i64 hgt] w fun e w' => e = .returned (.bool (!thrL l x.key x.seq)) ∧ Zoo base (zs.set i (p, putL l x (hgtOf hgt))) w' ∧ Below base w w' ∧ Else w w' := by
  obtain ⟨f, h1, h2⟩ := h
  obtain ⟨s1, s2, s3⟩ := h1 i p l hi
  have hil := (List.getElem?_eq_some_iff.1 hi).1
  refine (put_any s1 (by rw [len_P s2]; omega) x hk hv hq hgt).mono fun e w' hd => ?_
  obtain ⟨he, ho, hr⟩ := hd
  rw [rowsN_P s2] at he hr
  obtain ⟨ns', hs', hm', hbl⟩ : ∃ ns', SkA p ns' w' ∧ ns'.map toP = putL l x (hgtOf hgt) ∧ ∀ b, Blk p ns' b → Blk p (f i) b ∨ w.heap.size ≤ b := by
    rcases hr with ⟨ht, hs⟩ | ⟨ht, nb, hnb, _, hs⟩
    · exact ⟨f i, hs, by unfold putL thrL; rw [if_pos ht]; exact s2, fun b hb' => .inl hb'⟩
    · refine ⟨_, hs, ?_, fun b hb' => ?_⟩
      · unfold putL thrL
        rw [if_neg (by rw [ht]; simp), plN_P s2]
        unfold insL
        rw [← s2, List.map_append, List.map_cons, List.map_take, List.map_drop]
        rfl
      · rcases hb' with rfl | ⟨y, hy, rfl⟩
        · exact .inl (.inl rfl)
        · simp only [List.mem_append, List.mem_cons] at hy
          rcases hy with h3 | rfl | h3
          · exact .inl (.inr ⟨y, List.mem_of_mem_take h3, rfl⟩)
          · exact .inr hnb
          · exact .inl (.inr ⟨y, List.mem_of_mem_drop h3, rfl⟩)
  have ot : ∀ j p' l', j ≠ i → zs[j]? = some (p', l') → SkA p' (f j) w' := fun j p' l' hj e' => by
    have s := (h1 j p' l' e').1
    have d : ∀ b, Blk p' (f j) b → w'.heap[b]? = w.heap[b]? := fun b hb' => by
      have hlt : b < w.heap.size := by
        rcases hb' with rfl | ⟨y, hy, rfl⟩
        · exact s.lt
        · exact s.nlt hy
      refine ho.block b hlt (fun e2 => ?_) (fun y hy e2 => ?_)
      · exact h2 j i p' l' p l hj e' hi b hb' (.inl e2)
      · exact h2 j i p' l' p l hj e' hi b hb' (.inr ⟨y, hy, e2⟩)
    exact s.keep (d p' (.inl rfl)) fun y hy => d y.blk (.inr ⟨y, hy, rfl⟩)
  have hels : Else w w' := fun k hk n1 n2 => ho.block k hk (fun e => n1 (e ▸ s1.typ)) (fun x hx e => n2 (e ▸ s1.ntyp x hx))
  refine ⟨he, ⟨fun j => if j = i then ns' else f j, fun j p' l' e' => ?_, fun j m p1 l1 p2 l2 hjm e1 e2 b => ?_⟩, ho.base hb s3, hels⟩
  · by_cases hj : j = i
    · subst hj
      rw [List.getElem?_set_self hil] at e'
      cases e'
      simp only [if_true]
      refine ⟨hs', hm', fun b hb' => ?_⟩
      rcases hbl b hb' with h3 | h3
      · exact s3 b h3
      · omega
    · rw [List.getElem?_set_ne (Ne.symm hj)] at e'
      simp only [if_neg hj]
      exact ⟨ot j p' l' hj e', (h1 j p' l' e').2⟩
  · have lt : ∀ j p' l', zs[j]? = some (p', l') → ∀ b, Blk p' (f j) b → b < w.heap.size := fun j p' l' e b hb => by
      rcases hb with rfl | ⟨x, hx, rfl⟩
      · exact (h1 j _ l' e).1.lt
      · exact (h1 j p' l' e).1.nlt hx
    by_cases hj : j = i
    · subst hj
      rw [List.getElem?_set_self hil] at e1
      cases e1
      rw [List.getElem?_set_ne hjm] at e2
      simp only [if_true, if_neg (Ne.symm hjm)]
      intro hb1 hb2
      rcases hbl b hb1 with h3 | h3
      · exact h2 j m p l p2 l2 hjm hi e2 b h3 hb2
      · have := lt m p2 l2 e2 b hb2; omega
    · rw [List.getElem?_set_ne (Ne.symm hj)] at e1
      by_cases hm : m = i
      · subst hm
        rw [List.getElem?_set_self hil] at e2
        cases e2
        simp only [if_true, if_neg hj]
        intro hb1 hb2
        rcases hbl b hb2 with h3 | h3
        · exact h2 j m p1 l1 p l hjm e1 hi b hb1 h3
        · have := lt j p1 l1 e1 b hb1; omega
      · rw [List.getElem?_set_ne (Ne.symm hm)] at e2
        simp only [if_neg hj, if_neg hm]
        exact h2 j m p1 l1 p2 l2 hjm e1 e2 b
theorem Zoo.put {base : Nat} {zs : List (Nat × SL)} {w : World} (h : Zoo base zs w) (hb : base ≤ w.heap.size) {i p : Nat} {l : SL} (hi : zs[i]? = some (p, l)) (hn : l.length ≤ 1048575) (x : Rw) (hk : x.key.size ≤ 281474976710656) (hv : x.val.size ≤ 281474976710656) (hq : x.seq ≤ 18446744073709551615) (hgt : Int) :
    Calls Try.prog 11 #[.pointer (some ⟨p, 0, none⟩), rowV x, .int .i64 hgt] w fun e w' => e = .returned (.bool (!thrL l x.key x.seq)) ∧ Zoo base (zs.set i (p, putL l x (hgtOf hgt))) w' ∧ Below base w w' :=
  (h.putF hb hi hn x hk hv hq hgt).mono fun _ _ hp => ⟨hp.1, hp.2.1, hp.2.2.1⟩
/-- A row of another type, under a call that leaves all else; under an append to it. -/
theorem row_else {w w' : World} {B : Nat} {e : TypeId} {size n : Nat} {v : Value} {xs : List Value} (h : w.ownsRow B e size v n xs) (h1 : e ≠ 29) (h2 : e ≠ 93) (he : Else w w') : w'.ownsRow B e size v n xs := by
  refine ⟨h.1, ?_⟩
  rcases h.2 with e' | ⟨g, cap, cur, e', a, b, c⟩
  · exact .inl e'
  · refine .inr ⟨g, cap, cur, e', a, (he g (Array.getElem?_eq_some_iff.1 b).1 (fun ht => ?_) (fun ht => ?_)).trans b, c⟩
    · obtain ⟨cs, hc⟩ := ht
      rw [b] at hc
      simp only [Option.some.injEq, Obj.cells.injEq] at hc
      exact h1 hc.2.1
    · obtain ⟨cs, hc⟩ := ht
      rw [b] at hc
      simp only [Option.some.injEq, Obj.cells.injEq] at hc
      exact h2 hc.2.1
theorem Zoo.grown {base : Nat} {zs : List (Nat × SL)} {w w' : World} {o : Obj} {B : Nat} {e : TypeId} {size n : Nat} {v : Value} {xs : List Value} (h : Zoo base zs w) (hr : w.ownsRow B e size v n xs) (h1 : e ≠ 29) (h2 : e ≠ 93) (hg : (w.alloc o).grownBy w' v.ownBlock) : Zoo base zs w' := by
  obtain ⟨f, k1, k2⟩ := h
  have ne : ∀ b T, Typed w b T → T ≠ e → v.ownBlock ≠ some b := fun b T ht hT hv => by
    obtain ⟨cs, hc⟩ := ht
    rcases hr.2 with ⟨rfl, _⟩ | ⟨g, cap, cur, rfl, _, hgb, _⟩
    · simp [Value.ownBlock] at hv
    · obtain rfl : g = b := by simpa [Value.ownBlock] using hv
      rw [hgb] at hc
      simp only [Option.some.injEq, Obj.cells.injEq] at hc
      exact hT hc.2.1.symm
  have bl : ∀ b T, Typed w b T → T ≠ e → b < w.heap.size → w'.heap[b]? = w.heap[b]? := fun b T ht hT hlt =>
    (hg.block b (by rw [World.size_alloc]; omega) (fun e2 => ne b T ht hT e2.symm)).trans (Lib.alloc_old w o b hlt)
  exact ⟨f, fun i p l e' => ⟨(k1 i p l e').1.keep (bl p _ (k1 i p l e').1.typ (Ne.symm h1) (k1 i p l e').1.lt) (fun x hx => bl x.blk _ ((k1 i p l e').1.ntyp x hx) (Ne.symm h2) ((k1 i p l e').1.nlt hx)), (k1 i p l e').2⟩, k2⟩
end Go.Proofs.Ytcgpcpplbmebgaa
