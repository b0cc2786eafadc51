/-
  The contracts of the law's own whole and all: the rows that an iterator hands over. Condition: at most 1048576 rows.
-/
import Derived.Test.YtdgbafpnfkedeaaPack2
import Derived.Deep.AppendLies
import Derived.Handy
import Derived.WalkMore
import Derived.ScopeJumps
import Derived.Test.YtdgbafpnfkedeaaRows
import Derived.Shelf.Abstract
import Derived.WalkKit
import Derived.IntWalk
import Derived.RegionTactic
import Derived.BigQuiet
import Derived.ChangeAlike
import Derived.Deep.QuietTactic
import Derived.Laws.IdiomStrings
import Derived.Outline
import Derived.Test.YtdgbafpnfkedeaaShelf
import Derived.Deep.RegionWith
import Derived.Laws.AppendOwn
import Derived.OwnWalk
import Derived.Laws.DeepStrings4
import Derived.Deep.RegionHeld3
import Derived.Deep.Cut
import Derived.Deep.DeepCutAuto
import Derived.Laws.OwnMore
namespace Go.Proofs.Ytdgbafpnfkedeaa
set_option maxRecDepth 100000
open Go.RowKit
attribute [local go_sem] eq_node ne_node eq_list Oper.semAt_some
theorem first_place {ns : List Nd} (h : ∀ x ∈ ns, x.row.seq ≤ 18446744073709551615) : plN ns ⟨#[]⟩ 18446744073709551615 = 0 := by
  unfold plN plc rowsN
  cases ns with
  | nil => rfl
  | cons x r =>
    have hx : ahd x.row ⟨#[]⟩ 18446744073709551615 = false := by
      unfold ahd
      have := h x (by simp)
      split
      · rw [decide_eq_false_iff_not]; omega
      · rename_i hne
        have e : (⟨#[]⟩ : ByteArray).toList = [] := by rw [ByteArray.toList_eq]
        rw [e]
        cases h2 : x.row.key.toList with
        | nil => rw [h2, e] at hne; exact absurd rfl hne
        | cons a b => rfl
    rw [List.map_cons, List.takeWhile_cons, hx]
    rfl
set_option maxRecDepth 100000 in
theorem iter_nil (b : Nat) (u : World) : (binOp .eql 78 (IterV b) .nilFunc).run Try.prog u = .ok (.bool false) u := rfl
attribute [local go_sem] iter_nil
theorem info_row : (Try.prog.info? 43).map (fun i => (i.zero, i.size, i.bytes)) = some (some (.agg #[.string .empty, .int .u64 0, .int .i64 0, .string .empty]), 4, 48) := by kernel_rfl
theorem row_one (x : Rw) : ∀ u ∈ [Value.string x.key, .int .u64 (x.seq : Int), .int .i64 x.kind, .string x.val], u.oneCell' = true := by
  intro u hu
  simp only [List.mem_cons, List.not_mem_nil, or_false] at hu
  rcases hu with rfl | rfl | rfl | rfl <;> rfl
theorem LsA.seqs {q : Option Addr} {ns : List Nd} {w : World} (h : LsA q ns w) : ∀ x ∈ ns, x.row.seq ≤ 18446744073709551615 := by
  rcases h with ⟨_, rfl⟩ | ⟨p, _, h⟩
  · intro x hx; cases hx
  · exact fun x hx => (h.small x hx).2.2
/-- A slice of just these rows is handed back. -/
def GaveR (l : List Rw) (w : World) (e : Ending) (w' : World) : Prop := ∃ v, e = .returned v ∧ w'.ownsRow w.heap.size 43 4 v l.length (rowR l) ∧ Below w.heap.size w w'
theorem ownsRow_slice {W : World} {base size k : Nat} {e : TypeId} {v : Value} {xs : List Value} (h : W.ownsRow base e size v k xs) : ∃ p c, v = .slice p k c := by
  rcases h.2 with ⟨rfl, rfl⟩ | ⟨g, cap, cur, rfl, _⟩
  · exact ⟨_, _, rfl⟩
  · exact ⟨_, _, rfl⟩
/-- What all hands back: not more than so many. -/
def upTo (most : Int) (l : List Rw) : List Rw := if 0 ≤ most ∧ most < l.length then l.take most.toNat else l
end Go.Proofs.Ytdgbafpnfkedeaa
/-
  Any number of skip lists in memory that share no block, each as rows with heights; the calls on them. Condition: texts of less than 2^48 bytes, at most 1048575 rows.
-/
namespace Go.Proofs.Ytdgbafpnfkedeaa
set_option maxRecDepth 100000
open Go.RowKit
def toP (n : Nd) : Rw × Nat := (n.row, n.hgt)
theorem rowsN_P {ns : List Nd} {l : SL} (h : ns.map toP = l) : rowsN ns = rowsL l := by rw [← h]; simp [rowsN, rowsL, toP]
theorem hgtsN_P {ns : List Nd} {l : SL} (h : ns.map toP = l) : hgtsN ns = hgtsL l := by rw [← h]; simp [hgtsN, hgtsL, toP]
theorem plN_P {ns : List Nd} {l : SL} (h : ns.map toP = l) (k : ByteArray) (q : Nat) : plN ns k q = plL l k q := by unfold plN plL; rw [rowsN_P h]
theorem len_P {ns : List Nd} {l : SL} (h : ns.map toP = l) : ns.length = l.length := by rw [← h]; simp
theorem drop_P {ns : List Nd} {l : SL} (h : ns.map toP = l) (j : Nat) : rowsN (ns.drop j) = (rowsL l).drop j := by rw [← rowsN_P h]; unfold rowsN; rw [List.map_drop]
/-- A list, or none, as rows with heights. -/
def Ls (q : Option Addr) (l : SL) (w : World) : Prop := ∃ ns, LsA q ns w ∧ ns.map toP = l
theorem Ls.grow {q : Option Addr} {l : SL} {w w' : World} (h : Ls q l w) (hb : Below w.heap.size w w') : Ls q l w' := by
  obtain ⟨ns, h1, h2⟩ := h
  exact ⟨ns, h1.grow hb, h2⟩
theorem Ls.sort {q : Option Addr} {l : SL} {w : World} (h : Ls q l w) : SortedR (rowsL l) := by
  obtain ⟨ns, h1, h2⟩ := h
  rw [← rowsN_P h2]
  rcases h1 with ⟨_, rfl⟩ | ⟨p, _, h⟩
  · exact List.Pairwise.nil
  · exact h.sort
theorem ls_none (w : World) : Ls none [] w := ⟨[], .inl ⟨rfl, rfl⟩, rfl⟩
theorem len_l {q : Option Addr} {l : SL} {w : World} (h : Ls q l w) : Calls Try.prog 41 #[.pointer q] w fun e w' => e = .returned (.int .i64 (l.length : Int)) ∧ w' = w := by
  obtain ⟨ns, h1, h2⟩ := h
  rw [← len_P h2]; exact len_any h1
theorem seek_l {q : Option Addr} {l : SL} {w : World} (h : Ls q l w) (hn : l.length ≤ 1048575) (k : ByteArray) (s : Nat) : Calls Try.prog 34 #[.pointer q, .string k, .int .u64 (s : Int)] w fun e w' => e = .returned (seekR ((rowsL l).drop (plL l k s))) ∧ Below w.heap.size w w' := by
  obtain ⟨ns, h1, h2⟩ := h
  rw [← drop_P h2, ← plN_P h2]; exact seek_any h1 (by rw [len_P h2]; omega) k s
/-- The blocks of a list. -/
def Blk (p : Nat) (ns : List Nd) (b : Nat) : Prop := b = p ∨ ∃ x ∈ ns, b = x.blk
/-- Lists that share no block: where each lies, and its rows. -/
def Zoo (base : Nat) (zs : List (Nat × SL)) (w : World) : Prop :=
  ∃ f : Nat → List Nd, (∀ i p l, zs[i]? = some (p, l) → SkA p (f i) w ∧ (f i).map toP = l ∧ ∀ b, Blk p (f i) b → base ≤ b) ∧
    ∀ i j p l p' l', i ≠ j → zs[i]? = some (p, l) → zs[j]? = some (p', l') → ∀ b, Blk p (f i) b → ¬ Blk p' (f j) b
theorem Zoo.grow {base : Nat} {zs : List (Nat × SL)} {w w' : World} (h : Zoo base zs w) (hb : Below w.heap.size w w') : Zoo base zs w' := by
  obtain ⟨f, h1, h2⟩ := h
  exact ⟨f, fun i p l e => ⟨(h1 i p l e).1.grow hb, (h1 i p l e).2⟩, h2⟩
theorem Zoo.ls {base : Nat} {zs : List (Nat × SL)} {w : World} (h : Zoo base zs w) {i p : Nat} {l : SL} (e : zs[i]? = some (p, l)) : Ls (some ⟨p, 0, none⟩) l w := by
  obtain ⟨f, h1, _⟩ := h
  exact ⟨f i, .inr ⟨p, rfl, (h1 i p l e).1⟩, (h1 i p l e).2.1⟩
theorem Zoo.nil (base : Nat) (w : World) : Zoo base [] w := ⟨fun _ => [], fun i p l e => by simp at e, fun i j p l p' l' _ e => by simp at e⟩
theorem ska_new (w : World) : SkA w.heap.size [] (w.alloc (.cells #[.pointer none, .pointer none, .pointer none, .pointer none, .pointer none, .pointer none, .pointer none, .pointer none, .pointer none, .pointer none, .pointer none, .pointer none, .int .i64 0, .int .i64 0] 71)) := by
  have hc := heap_alloc_new w (.cells #[.pointer none, .pointer none, .pointer none, .pointer none, .pointer none, .pointer none, .pointer none, .pointer none, .pointer none, .pointer none, .pointer none, .pointer none, .int .i64 0, .int .i64 0] 71)
  generalize w.alloc (.cells #[.pointer none, .pointer none, .pointer none, .pointer none, .pointer none, .pointer none, .pointer none, .pointer none, .pointer none, .pointer none, .pointer none, .pointer none, .int .i64 0, .int .i64 0] 71) = W at hc
  have hx : ∀ x : Nd, ¬ x ∈ ([] : List Nd) := fun x h => by cases h
  refine ⟨List.Pairwise.nil, fun x h => absurd h (hx x), fun x h => absurd h (hx x), List.nodup_nil, fun x h => absurd h (hx x), fun l hl => ?_, by simp [World.cell?, hc], by simp [World.cell?, hc, hgtsN, topH], fun o => by simp [World.frozen?, hc], fun x h => absurd h (hx x), fun a x r e => absurd e (by simp), fun x h => absurd h (hx x), ⟨_, hc⟩, fun x h => absurd h (hx x)⟩
  have : nxt l [] = none := rfl
  rw [this]
  simp only [World.cell?, hc]
  match l, hl with
  | 0, _ => rfl
  | 1, _ => rfl
  | 2, _ => rfl
  | 3, _ => rfl
  | 4, _ => rfl
  | 5, _ => rfl
  | 6, _ => rfl
  | 7, _ => rfl
  | 8, _ => rfl
  | 9, _ => rfl
  | 10, _ => rfl
  | 11, _ => rfl
/-- A new list beside them. -/
theorem Zoo.new {base : Nat} {zs : List (Nat × SL)} {w : World} (h : Zoo base zs w) (hb : base ≤ w.heap.size) : Zoo base (zs ++ [(w.heap.size, [])]) (w.alloc (.cells #[.pointer none, .pointer none, .pointer none, .pointer none, .pointer none, .pointer none, .pointer none, .pointer none, .pointer none, .pointer none, .pointer none, .pointer none, .int .i64 0, .int .i64 0] 71)) := by
  obtain ⟨f, h1, h2⟩ := h
  have lt : ∀ i p l, zs[i]? = some (p, l) → ∀ b, Blk p (f i) b → b < w.heap.size := fun i p l e b hb => by
    rcases hb with rfl | ⟨x, hx, rfl⟩
    · exact (h1 i _ l e).1.lt
    · exact (h1 i p l e).1.nlt hx
  have get : ∀ i p l, (zs ++ [(w.heap.size, ([] : SL))])[i]? = some (p, l) → (i < zs.length ∧ zs[i]? = some (p, l)) ∨ (i = zs.length ∧ p = w.heap.size ∧ l = []) := fun i p l e => by
    by_cases hi : i < zs.length
    · exact .inl ⟨hi, by rwa [List.getElem?_append_left hi] at e⟩
    · rw [List.getElem?_append_right (by omega)] at e
      have hi2 : i = zs.length := by
        have := (List.getElem?_eq_some_iff.1 e).1
        simp at this; omega
      subst hi2
      simp at e
      exact .inr ⟨rfl, e.1.symm, e.2⟩
  refine ⟨fun i => if i = zs.length then [] else f i, fun i p l e => ?_, fun i j p l p' l' hij e e' b => ?_⟩
  · rcases get i p l e with ⟨hi, e⟩ | ⟨rfl, rfl, rfl⟩
    · simp only [if_neg (show i ≠ zs.length by omega)]
      exact ⟨(h1 i p l e).1.grow (below_alloc _ _), (h1 i p l e).2⟩
    · simp only [if_true]
      refine ⟨ska_new w, rfl, fun b hb' => ?_⟩
      rcases hb' with rfl | ⟨x, hx, _⟩
      · exact hb
      · cases hx
  · rcases get i p l e with ⟨hi, e⟩ | ⟨rfl, rfl, rfl⟩
    · simp only [if_neg (show i ≠ zs.length by omega)]
      rcases get j p' l' e' with ⟨hj, e'⟩ | ⟨rfl, rfl, rfl⟩
      · simp only [if_neg (show j ≠ zs.length by omega)]
        exact h2 i j p l p' l' hij e e' b
      · simp only [if_true]
        rintro hb1 (hb2 | ⟨x, hx, _⟩)
        · have := lt i p l e b hb1; omega
        · cases hx
    · rcases get j p' l' e' with ⟨hj, e'⟩ | ⟨rfl, rfl, rfl⟩
      · simp only [if_true, if_neg (show j ≠ zs.length by omega)]
        rintro (hb1 | ⟨x, hx, _⟩) hb2
        · have := lt j p' l' e' b hb2; omega
        · cases hx
      · exact absurd rfl hij
theorem Only.base {p : Nat} {ns : List Nd} {w w' : World} {base : Nat} (h : Only p ns w w') (hb : base ≤ w.heap.size) (hl : ∀ b, Blk p ns b → base ≤ b) : Below base w w' :=
  ⟨h.os, h.tape, h.output, h.size, fun k hk => h.block k (by omega) (fun e => by have := hl p (.inl rfl); omega) (fun x hx e => by have := hl x.blk (.inr ⟨x, hx, rfl⟩); omega)⟩
/-- What Put leaves: whatever is neither a list nor a node. -/
def Else (w w' : World) : Prop := ∀ k, k < w.heap.size → ¬ Typed w k 71 → ¬ Typed w k 97 → w'.heap[k]? = w.heap[k]?
/-- Put on one of them. -/
theorem Zoo.putF {base : Nat} {zs : List (Nat × SL)} {w : World} (h : Zoo base zs w) (hb : base ≤ w.heap.size) {i p : Nat} {l : SL} (hi : zs[i]? = some (p, l)) (hn : l.length ≤ 1048575) (x : Rw) (hk : x.key.size ≤ 281474976710656) (hv : x.val.size ≤ 281474976710656) (hq : x.seq ≤ 18446744073709551615) (hgt : Int) :
    Calls Try.prog 46 #[.pointer (some ⟨p, 0, none⟩), rowV x, .int .i64 hgt] w fun e w' => e = .returned (.bool (!thrL l x.key x.seq)) ∧ Zoo base (zs.set i (p, putL l x (hgtOf hgt))) w' ∧ Below base w w' ∧ Else w w' := by
  obtain ⟨f, h1, h2⟩ := h
  obtain ⟨s1, s2, s3⟩ := h1 i p l hi
  have hil := (List.getElem?_eq_some_iff.1 hi).1
  refine (put_any s1 (by rw [len_P s2]; omega) x hk hv hq hgt).mono fun e w' hd => ?_
  obtain ⟨he, ho, hr⟩ := hd
  rw [rowsN_P s2] at he hr
  obtain ⟨ns', hs', hm', hbl⟩ : ∃ ns', SkA p ns' w' ∧ ns'.map toP = putL l x (hgtOf hgt) ∧ ∀ b, Blk p ns' b → Blk p (f i) b ∨ w.heap.size ≤ b := by
    rcases hr with ⟨ht, hs⟩ | ⟨ht, nb, hnb, _, hs⟩
    · exact ⟨f i, hs, by unfold putL thrL; rw [if_pos ht]; exact s2, fun b hb' => .inl hb'⟩
    · refine ⟨_, hs, ?_, fun b hb' => ?_⟩
      · unfold putL thrL
        rw [if_neg (by rw [ht]; simp), plN_P s2]
        unfold insL
        rw [← s2, List.map_append, List.map_cons, List.map_take, List.map_drop]
        rfl
      · rcases hb' with rfl | ⟨y, hy, rfl⟩
        · exact .inl (.inl rfl)
        · simp only [List.mem_append, List.mem_cons] at hy
          rcases hy with h3 | rfl | h3
          · exact .inl (.inr ⟨y, List.mem_of_mem_take h3, rfl⟩)
          · exact .inr hnb
          · exact .inl (.inr ⟨y, List.mem_of_mem_drop h3, rfl⟩)
  have ot : ∀ j p' l', j ≠ i → zs[j]? = some (p', l') → SkA p' (f j) w' := fun j p' l' hj e' => by
    have s := (h1 j p' l' e').1
    have d : ∀ b, Blk p' (f j) b → w'.heap[b]? = w.heap[b]? := fun b hb' => by
      have hlt : b < w.heap.size := by
        rcases hb' with rfl | ⟨y, hy, rfl⟩
        · exact s.lt
        · exact s.nlt hy
      refine ho.block b hlt (fun e2 => ?_) (fun y hy e2 => ?_)
      · exact h2 j i p' l' p l hj e' hi b hb' (.inl e2)
      · exact h2 j i p' l' p l hj e' hi b hb' (.inr ⟨y, hy, e2⟩)
    exact s.keep (d p' (.inl rfl)) fun y hy => d y.blk (.inr ⟨y, hy, rfl⟩)
  have hels : Else w w' := fun k hk n1 n2 => ho.block k hk (fun e => n1 (e ▸ s1.typ)) (fun x hx e => n2 (e ▸ s1.ntyp x hx))
  refine ⟨he, ⟨fun j => if j = i then ns' else f j, fun j p' l' e' => ?_, fun j m p1 l1 p2 l2 hjm e1 e2 b => ?_⟩, ho.base hb s3, hels⟩
  · by_cases hj : j = i
    · subst hj
      rw [List.getElem?_set_self hil] at e'
      cases e'
      simp only [if_true]
      refine ⟨hs', hm', fun b hb' => ?_⟩
      rcases hbl b hb' with h3 | h3
      · exact s3 b h3
      · omega
    · rw [List.getElem?_set_ne (Ne.symm hj)] at e'
      simp only [if_neg hj]
      exact ⟨ot j p' l' hj e', (h1 j p' l' e').2⟩
  · have lt : ∀ j p' l', zs[j]? = some (p', l') → ∀ b, Blk p' (f j) b → b < w.heap.size := fun j p' l' e b hb => by
      rcases hb with rfl | ⟨x, hx, rfl⟩
      · exact (h1 j _ l' e).1.lt
      · exact (h1 j p' l' e).1.nlt hx
    by_cases hj : j = i
    · subst hj
      rw [List.getElem?_set_self hil] at e1
      cases e1
      rw [List.getElem?_set_ne hjm] at e2
      simp only [if_true, if_neg (Ne.symm hjm)]
      intro hb1 hb2
      rcases hbl b hb1 with h3 | h3
      · exact h2 j m p l p2 l2 hjm hi e2 b h3 hb2
      · have := lt m p2 l2 e2 b hb2; omega
    · rw [List.getElem?_set_ne (Ne.symm hj)] at e1
      by_cases hm : m = i
      · subst hm
        rw [List.getElem?_set_self hil] at e2
        cases e2
        simp only [if_true, if_neg hj]
        intro hb1 hb2
        rcases hbl b hb2 with h3 | h3
        · exact h2 j m p1 l1 p l hjm e1 hi b hb1 h3
        · have := lt j p1 l1 e1 b hb1; omega
      · rw [List.getElem?_set_ne (Ne.symm hm)] at e2
        simp only [if_neg hj, if_neg hm]
        exact h2 j m p1 l1 p2 l2 hjm e1 e2 b
theorem Zoo.put {base : Nat} {zs : List (Nat × SL)} {w : World} (h : Zoo base zs w) (hb : base ≤ w.heap.size) {i p : Nat} {l : SL} (hi : zs[i]? = some (p, l)) (hn : l.length ≤ 1048575) (x : Rw) (hk : x.key.size ≤ 281474976710656) (hv : x.val.size ≤ 281474976710656) (hq : x.seq ≤ 18446744073709551615) (hgt : Int) :
    Calls Try.prog 46 #[.pointer (some ⟨p, 0, none⟩), rowV x, .int .i64 hgt] w fun e w' => e = .returned (.bool (!thrL l x.key x.seq)) ∧ Zoo base (zs.set i (p, putL l x (hgtOf hgt))) w' ∧ Below base w w' :=
  (h.putF hb hi hn x hk hv hq hgt).mono fun _ _ hp => ⟨hp.1, hp.2.1, hp.2.2.1⟩
/-- A row of another type, under a call that leaves all else; under an append to it. -/
theorem row_else {w w' : World} {B : Nat} {e : TypeId} {size n : Nat} {v : Value} {xs : List Value} (h : w.ownsRow B e size v n xs) (h1 : e ≠ 71) (h2 : e ≠ 97) (he : Else w w') : w'.ownsRow B e size v n xs := by
  refine ⟨h.1, ?_⟩
  rcases h.2 with e' | ⟨g, cap, cur, e', a, b, c⟩
  · exact .inl e'
  · refine .inr ⟨g, cap, cur, e', a, (he g (Array.getElem?_eq_some_iff.1 b).1 (fun ht => ?_) (fun ht => ?_)).trans b, c⟩
    · obtain ⟨cs, hc⟩ := ht
      rw [b] at hc
      simp only [Option.some.injEq, Obj.cells.injEq] at hc
      exact h1 hc.2.1
    · obtain ⟨cs, hc⟩ := ht
      rw [b] at hc
      simp only [Option.some.injEq, Obj.cells.injEq] at hc
      exact h2 hc.2.1
theorem Zoo.grown {base : Nat} {zs : List (Nat × SL)} {w w' : World} {o : Obj} {B : Nat} {e : TypeId} {size n : Nat} {v : Value} {xs : List Value} (h : Zoo base zs w) (hr : w.ownsRow B e size v n xs) (h1 : e ≠ 71) (h2 : e ≠ 97) (hg : (w.alloc o).grownBy w' v.ownBlock) : Zoo base zs w' := by
  obtain ⟨f, k1, k2⟩ := h
  have ne : ∀ b T, Typed w b T → T ≠ e → v.ownBlock ≠ some b := fun b T ht hT hv => by
    obtain ⟨cs, hc⟩ := ht
    rcases hr.2 with ⟨rfl, _⟩ | ⟨g, cap, cur, rfl, _, hgb, _⟩
    · simp [Value.ownBlock] at hv
    · obtain rfl : g = b := by simpa [Value.ownBlock] using hv
      rw [hgb] at hc
      simp only [Option.some.injEq, Obj.cells.injEq] at hc
      exact hT hc.2.1.symm
  have bl : ∀ b T, Typed w b T → T ≠ e → b < w.heap.size → w'.heap[b]? = w.heap[b]? := fun b T ht hT hlt =>
    (hg.block b (by rw [World.size_alloc]; omega) (fun e2 => ne b T ht hT e2.symm)).trans (Lib.alloc_old w o b hlt)
  exact ⟨f, fun i p l e' => ⟨(k1 i p l e').1.keep (bl p _ (k1 i p l e').1.typ (Ne.symm h1) (k1 i p l e').1.lt) (fun x hx => bl x.blk _ ((k1 i p l e').1.ntyp x hx) (Ne.symm h2) ((k1 i p l e').1.nlt hx)), (k1 i p l e').2⟩, k2⟩
end Go.Proofs.Ytdgbafpnfkedeaa
/-
  Rows put into lists one behind the other: what heights and what order change nothing of. Mathematics alone; no condition.
-/
namespace Go.Proofs.Ytdgbafpnfkedeaa
set_option maxRecDepth 100000
open Go.RowKit
theorem rows_putL (l : SL) (x : Rw) (h : Nat) : rowsL (putL l x h) = if thr (rowsL l) x.key x.seq = true then rowsL l else insR (rowsL l) x := by
  unfold putL thrL
  split
  · rfl
  · exact rows_insL l x h
theorem putL_sorted {l : SL} (hs : SortedR (rowsL l)) (x : Rw) (h : Nat) : SortedR (rowsL (putL l x h)) := by
  rw [rows_putL]
  split
  · exact hs
  · rename_i ht
    exact insR_sorted hs (by simpa using ht)
theorem insL_len (l : SL) (x : Rw) (h : Nat) : (insL l x h).length = l.length + 1 := by
  rw [← rows_len, rows_insL, insR_len, rows_len]
theorem putL_len (l : SL) (x : Rw) (h : Nat) : l.length ≤ (putL l x h).length ∧ (putL l x h).length ≤ l.length + 1 := by
  unfold putL
  split
  · omega
  · rw [insL_len]; omega
/-- What height the law takes for the i-th row. -/
def hAt (hl : List Int) (i : Nat) : Int := if i < hl.length then hl.getD i 0 else 1
/-- The rows put one behind the other, each as high as f says. -/
def fp (rs : List Rw) (f : Nat → Int) : Nat → SL
  | 0 => []
  | j + 1 => match rs[j]? with | some x => putL (fp rs f j) x (hgtOf (f j)) | none => fp rs f j
theorem fp_step {rs : List Rw} {f : Nat → Int} {j : Nat} {x : Rw} (h : rs[j]? = some x) : fp rs f (j + 1) = putL (fp rs f j) x (hgtOf (f j)) := by
  show (match rs[j]? with | some x => putL (fp rs f j) x (hgtOf (f j)) | none => fp rs f j) = _
  rw [h]
theorem fp_len (rs : List Rw) (f : Nat → Int) : ∀ j, (fp rs f j).length ≤ j
  | 0 => Nat.le_refl _
  | j + 1 => by
    have := fp_len rs f j
    show (match rs[j]? with | some x => putL (fp rs f j) x (hgtOf (f j)) | none => fp rs f j).length ≤ _
    split
    · have := (putL_len (fp rs f j) ‹Rw› (hgtOf (f j))).2; omega
    · omega
theorem fp_sorted (rs : List Rw) (f : Nat → Int) : ∀ j, SortedR (rowsL (fp rs f j))
  | 0 => List.Pairwise.nil
  | j + 1 => by
    show SortedR (rowsL (match rs[j]? with | some x => putL (fp rs f j) x (hgtOf (f j)) | none => fp rs f j))
    split
    · exact putL_sorted (fp_sorted rs f j) _ _
    · exact fp_sorted rs f j
/-- Heights change nothing of which rows stand. -/
theorem fp_rows (rs : List Rw) (f g : Nat → Int) : ∀ j, rowsL (fp rs f j) = rowsL (fp rs g j)
  | 0 => rfl
  | j + 1 => by
    cases h : rs[j]? with
    | some x => rw [fp_step h, fp_step h, rows_putL, rows_putL, fp_rows rs f g j]
    | none =>
      show rowsL (match rs[j]? with | some x => putL (fp rs f j) x (hgtOf (f j)) | none => fp rs f j) = rowsL (match rs[j]? with | some x => putL (fp rs g j) x (hgtOf (g j)) | none => fp rs g j)
      rw [h]
      exact fp_rows rs f g j
theorem hgts_putL {l : SL} {x : Rw} {h n : Nat} (hl : ∀ y ∈ hgtsL l, y = n) (hh : h = n) : ∀ y ∈ hgtsL (putL l x h), y = n := by
  unfold putL
  split
  · exact hl
  · rw [hgts_insL]
    intro y hy
    simp only [List.mem_append, List.mem_cons] at hy
    rcases hy with h1 | h1 | h1
    · exact hl y (List.mem_of_mem_take h1)
    · rw [h1]; exact hh
    · exact hl y (List.mem_of_mem_drop h1)
theorem fp_ones (rs : List Rw) : ∀ j, ∀ y ∈ hgtsL (fp rs (fun _ => 1) j), y = 1
  | 0 => by intro y hy; cases hy
  | j + 1 => by
    cases h : rs[j]? with
    | some x => rw [fp_step h]; exact hgts_putL (fp_ones rs j) rfl
    | none =>
      show ∀ y ∈ hgtsL (match rs[j]? with | some x => putL (fp rs (fun _ => 1) j) x (hgtOf 1) | none => fp rs (fun _ => 1) j), y = 1
      rw [h]
      exact fp_ones rs j
theorem plL_le (l : SL) (k : ByteArray) (q : Nat) : plL l k q ≤ l.length := by
  have := plc_le (rowsL l) k q
  rw [rows_len] at this
  exact this
/-- What the statement on steps asks. -/
theorem steps_le {l : SL} (k : ByteArray) (q : Nat) : stepsL l k q ≤ plL l k q ∧ stepsL l k q ≤ l.length := by
  have h1 := stp_le ((hgtsL l).take (plL l k q))
  rw [List.length_take] at h1
  have := plL_le l k q
  unfold stepsL
  omega
theorem steps_one {l : SL} (h : ∀ y ∈ hgtsL l, y = 1) (k : ByteArray) (q : Nat) : stepsL l k q = plL l k q := by
  unfold stepsL
  rw [stp_one fun x hx => h x (List.mem_of_mem_take hx), List.length_take, hgts_len]
  have := plL_le l k q
  omega
end Go.Proofs.Ytdgbafpnfkedeaa
/-
  Rows that are put in whatever order stand the same. Mathematics alone; no condition.
-/
namespace Go.Proofs.Ytdgbafpnfkedeaa
set_option maxRecDepth 100000
open Go.RowKit
/-- Two lists in order that have the same rows are the same. -/
theorem sorted_unique : ∀ {a b : List Rw}, SortedR a → SortedR b → a.Perm b → a = b
  | [], b, _, _, h => (List.nil_perm.1 h).symm
  | x :: r, [], _, _, h => by have := h.length_eq; simp at this
  | x :: r, y :: t, ha, hb, h => by
    have ha' := List.pairwise_cons.1 ha
    have hb' := List.pairwise_cons.1 hb
    have hxy : x = y := by
      rcases List.mem_cons.1 (h.mem_iff.1 (List.mem_cons_self (a := x) (l := r))) with e | e
      · exact e
      · rcases List.mem_cons.1 (h.mem_iff.2 (List.mem_cons_self (a := y) (l := t))) with e2 | e2
        · exact e2.symm
        · have h1 := hb'.1 x e
          have h2 := ha'.1 y e2
          have h3 := ahd_trans h1 h2
          rw [ahd_irrefl ⟨rfl, rfl⟩] at h3
          cases h3
    subst hxy
    rw [sorted_unique ha'.2 hb'.2 (List.perm_cons x |>.1 h)]
/-- No two of them have the same place. -/
def Apart (l : List Rw) : Prop := l.Pairwise fun x y => ¬ sameP x y.key y.seq
theorem sameP_symm {x y : Rw} (h : sameP x y.key y.seq) : sameP y x.key x.seq := ⟨h.1.symm, h.2.symm⟩
theorem apart_perm {a b : List Rw} (h : a.Perm b) (ha : Apart a) : Apart b :=
  (h.pairwise_iff (fun {x y} (hxy : ¬ sameP x y.key y.seq) (e : sameP y x.key x.seq) => hxy (sameP_symm e))).1 ha
/-- Put one behind the other, all of rows that stand apart are taken. -/
theorem fp_apart {xs : List Rw} (hx : Apart xs) (f : Nat → Int) : ∀ j, j ≤ xs.length → (rowsL (fp xs f j)).Perm (xs.take j) ∧ ∀ x, xs[j]? = some x → thrL (fp xs f j) x.key x.seq = false
  | 0, _ => ⟨by simp [fp, rowsL], fun x _ => rfl⟩
  | j + 1, hj => by
    obtain ⟨h1, h2⟩ := fp_apart hx f j (by omega)
    obtain ⟨y, hy⟩ : ∃ y, xs[j]? = some y := ⟨_, List.getElem?_eq_getElem (by omega)⟩
    have e : (rowsL (fp xs f (j + 1))).Perm (xs.take (j + 1)) := by
      have ht : thr (rowsL (fp xs f j)) y.key y.seq = false := h2 y hy
      rw [fp_step hy, rows_putL, if_neg (by rw [ht]; simp), List.take_add_one, hy]
      refine (insR_perm _ _).trans ?_
      refine (List.Perm.cons y h1).trans ?_
      exact (List.perm_append_singleton y _).symm
    refine ⟨e, fun x hx' => ?_⟩
    cases hb : thrL (fp xs f (j + 1)) x.key x.seq with
    | false => rfl
    | true =>
      exfalso
      obtain ⟨z, hz, hs⟩ := (thr_iff (fp_sorted xs f (j + 1))).1 hb
      have hz' : z ∈ xs.take (j + 1) := e.mem_iff.1 hz
      obtain ⟨i, hi⟩ := List.mem_iff_getElem?.1 hz'
      have hil : i < j + 1 := by have := (List.getElem?_eq_some_iff.1 hi).1; rw [List.length_take] at this; omega
      rw [List.getElem?_take, if_pos hil] at hi
      have := List.pairwise_iff_getElem.1 hx i (j + 1) (List.getElem?_eq_some_iff.1 hi).1 (List.getElem?_eq_some_iff.1 hx').1 hil
      rw [(List.getElem?_eq_some_iff.1 hi).2, (List.getElem?_eq_some_iff.1 hx').2] at this
      exact this hs
/-- The rows that were taken, in the order in which they came. -/
def pt (rs : List Rw) (f : Nat → Int) : Nat → List Rw
  | 0 => []
  | j + 1 => match rs[j]? with | some x => if thrL (fp rs f j) x.key x.seq = true then pt rs f j else pt rs f j ++ [x] | none => pt rs f j
theorem pt_step {rs : List Rw} {f : Nat → Int} {j : Nat} {x : Rw} (h : rs[j]? = some x) : pt rs f (j + 1) = if thrL (fp rs f j) x.key x.seq = true then pt rs f j else pt rs f j ++ [x] := by
  show (match rs[j]? with | some x => if thrL (fp rs f j) x.key x.seq = true then pt rs f j else pt rs f j ++ [x] | none => pt rs f j) = _
  rw [h]
theorem pt_perm (rs : List Rw) (f : Nat → Int) : ∀ j, (rowsL (fp rs f j)).Perm (pt rs f j) ∧ Apart (pt rs f j) ∧ ∀ x ∈ pt rs f j, x ∈ rs
  | 0 => ⟨by simp [fp, pt, rowsL], List.Pairwise.nil, fun x hx => by cases hx⟩
  | j + 1 => by
    obtain ⟨h1, h2, h3⟩ := pt_perm rs f j
    cases hx : rs[j]? with
    | none =>
      have e1 : fp rs f (j + 1) = fp rs f j := by
        show (match rs[j]? with | some x => putL (fp rs f j) x (hgtOf (f j)) | none => fp rs f j) = _
        rw [hx]
      have e2 : pt rs f (j + 1) = pt rs f j := by
        show (match rs[j]? with | some x => if thrL (fp rs f j) x.key x.seq = true then pt rs f j else pt rs f j ++ [x] | none => pt rs f j) = _
        rw [hx]
      rw [e1, e2]; exact ⟨h1, h2, h3⟩
    | some x =>
      rw [fp_step hx, pt_step hx]
      by_cases ht : thrL (fp rs f j) x.key x.seq = true
      · rw [if_pos ht]
        have : putL (fp rs f j) x (hgtOf (f j)) = fp rs f j := by unfold putL; rw [if_pos ht]
        rw [this]; exact ⟨h1, h2, h3⟩
      · rw [if_neg ht, rows_putL, if_neg (show ¬ thr (rowsL (fp rs f j)) x.key x.seq = true from ht)]
        refine ⟨(insR_perm _ _).trans ((List.Perm.cons x h1).trans (List.perm_append_singleton x _).symm), ?_, fun y hy => ?_⟩
        · unfold Apart
          rw [List.pairwise_append]
          refine ⟨h2, List.pairwise_singleton _ _, fun a ha b hb => ?_⟩
          rw [List.mem_singleton.1 hb]
          intro hs
          exact ht ((thr_iff (fp_sorted rs f j)).2 ⟨a, h1.mem_iff.2 ha, hs⟩)
        · rcases List.mem_append.1 hy with h | h
          · exact h3 y h
          · rw [List.mem_singleton.1 h]; exact List.mem_of_getElem? hx
theorem pt_len (rs : List Rw) (f : Nat → Int) (j : Nat) : (pt rs f j).length = (fp rs f j).length := by
  rw [← rows_len]; exact ((pt_perm rs f j).1.length_eq).symm
/-- Turned by k. -/
def turned (l : List Rw) (k : Nat) : List Rw := l.drop k ++ l.take k
theorem turned_perm (l : List Rw) (k : Nat) : (turned l k).Perm l := by
  unfold turned
  exact List.perm_append_comm.trans (by rw [List.take_append_drop])
theorem turned_at {l : List Rw} {k i : Nat} (hk : k < l.length) (hi : i < l.length) : (turned l k)[i]? = l[(i + k) % l.length]? := by
  unfold turned
  by_cases h : i + k < l.length
  · rw [List.getElem?_append_left (by rw [List.length_drop]; omega), List.getElem?_drop, Nat.mod_eq_of_lt h, Nat.add_comm]
  · rw [List.getElem?_append_right (by rw [List.length_drop]; omega), List.length_drop, List.getElem?_take, if_pos (by omega)]
    congr 1
    rw [Nat.mod_eq_sub_mod (by omega), Nat.mod_eq_of_lt (by omega)]
    omega
theorem reverse_at {l : List Rw} {i : Nat} (hi : i < l.length) : l.reverse[i]? = l[l.length - 1 - i]? := by
  rw [List.getElem?_reverse hi]
/-- What the statement on order asks. -/
theorem any_order {p xs : List Rw} (hp : Apart p) (h : xs.Perm p) (f : Nat → Int) {l : SL} (hl : (rowsL l).Perm p) (hs : SortedR (rowsL l)) : rowsL (fp xs f xs.length) = rowsL l := by
  have h1 := (fp_apart (apart_perm h.symm hp) f xs.length (Nat.le_refl _)).1
  rw [List.take_length] at h1
  exact sorted_unique (fp_sorted xs f _) hs (h1.trans (h.trans hl.symm))
end Go.Proofs.Ytdgbafpnfkedeaa
/-
  The contracts of checkWrite and Check. No condition.
-/
namespace Go.Proofs.Ytdgbafpnfkedeaa
set_option maxRecDepth 100000
open Go.RowKit
theorem toList_size (s : ByteArray) : s.toList = [] ↔ s.size = 0 := by
  have e : s.toList.length = s.size := by rw [ByteArray.toList_eq, Array.length_toList]; rfl
  rw [← List.length_eq_zero_iff, e]
theorem isEmpty_size (s : ByteArray) : s.toList.isEmpty = (s.size == 0) := by
  rw [Bool.eq_iff_iff, List.isEmpty_iff, toList_size]; simp
set_option maxRecDepth 100000 in
set_option maxHeartbeats 2000000 in
theorem checkWrite_any (x : Wr) (w : World) :
    Calls Try.prog 43 #[.agg #[.int .i64 x.kind, .string x.key, .string x.val]] w fun e w' => e = .returned (.int .i64 x.chk) ∧ Below w.heap.size w w' := by
  obtain ⟨k, key, val⟩ := x
  obtain ⟨R, hR⟩ := named (Wr.chk ⟨k, key, val⟩)
  simp only
  rw [← hR.out]
  go_enter Try.func43, Try.ntmps43
  go_wp2
  all_goals
    go_returns
    refine ⟨congrArg (fun z => Ending.returned (Value.int .i64 z)) ?_, below_alloc _ _⟩
    rw [hR.out]
    clear hR
    try simp only [toList_size, isEmpty_size, beq_iff_eq, beq_eq_false_iff_ne, bne_eq_false_iff_eq, bne_iff_ne, Bool.not_eq_eq_eq_not, Bool.not_true, Bool.not_false, ne_eq] at *
    unfold Wr.chk Wr.bad Wr.long
    simp only [Bool.and_eq_true, Bool.or_eq_true, bne_iff_ne, beq_iff_eq, decide_eq_true_eq, ne_eq]
    first
      | (rw [if_pos (by omega)]; done)
      | (rw [if_neg (by omega), if_pos (by omega)]; done)
      | (rw [if_neg (by omega), if_neg (by omega)]; done)
theorem addr_at (b o k : Nat) : (⟨b, o, none⟩ : Addr).add k = ⟨b, o + k, none⟩ := by
  unfold Addr.add
  split
  · rename_i h; rw [h]; rfl
  · rfl
set_option maxRecDepth 100000 in
set_option maxHeartbeats 2000000 in
theorem check_arg {seq : Nat} {a : Option Addr} {n c : Nat} (w : World) (hE : n = 0 ∨ seq < 1 ∨ 72057594037927872 < seq) :
    Calls Try.prog 31 #[batchV seq a n c] w fun e w' => e = .returned (.int .i64 2) ∧ Below w.heap.size w w' := by
  obtain ⟨c0, c1⟩ := box_batch w seq (.slice a n c)
  go_enter Try.func31, Try.ntmps31
  go_wp2
  all_goals first
    | (exfalso; omega)
    | (go_returns; exact ⟨rfl, below_alloc _ _⟩)
theorem Ws.at3 {a : Option Addr} {n c b o : Nat} {l : List Wr} {w : World} (h : Ws a n c b o l w) {j : Nat} (hj : j < n) : ∃ x, l[j]? = some x ∧ a = some ⟨b, o, none⟩ ∧ w.cell? ⟨b, o + j * 3, none⟩ = some (.int .i64 x.kind) ∧ w.cell? ⟨b, o + j * 3 + 1, none⟩ = some (.string x.key) ∧ w.cell? ⟨b, o + j * 3 + 2, none⟩ = some (.string x.val) := by
  obtain ⟨x, hx⟩ : ∃ x, l[j]? = some x := ⟨_, List.getElem?_eq_getElem (by rw [h.len]; exact hj)⟩
  exact ⟨x, hx, (h.addr (by omega)).1, h.at' j x hx⟩
set_option maxRecDepth 100000 in
set_option maxHeartbeats 2000000 in
theorem check_main {seq : Nat} {a : Option Addr} {n c b o : Nat} {l : List Wr} {w : World} (h : Ws a n c b o l w) (h0 : n ≠ 0) (h1 : 1 ≤ seq) (h2 : seq ≤ 72057594037927872) :
    Calls Try.prog 31 #[batchV seq a n c] w fun e w' => e = .returned (.int .i64 (chkB seq l)) ∧ Below w.heap.size w w' := by
  obtain ⟨c0, c1⟩ := box_batch w seq (.slice a n c)
  have K := Lib.hid (below_alloc w (.cells #[.int .u64 (seq : Int), .slice a n c] 31))
  have hcap := h.cap
  have hmost := h.most
  have hE := Lib.hid (chkB_end (seq := seq) (l := l) (by rw [h.len]; omega))
  have hbad := Lib.hid (fun hb : l.any Wr.bad = true => chkB_bad (seq := seq) hb)
  have hlen := Lib.hid h.len
  obtain ⟨R, hR⟩ := named (chkB seq l)
  rw [← hR.out] at hE hbad ⊢
  rw [hlen.out] at hE
  have h := Lib.hid h
  clear hR
  have q0 : ((n : Int) == 0) = false := by simp; omega
  have q1 : decide ((seq : Int) < 1) = false := by rw [decide_eq_false_iff_not]; omega
  have q2 : decide ((72057594037927872 : Int) < (seq : Int)) = false := by rw [decide_eq_false_iff_not]; omega
  obtain ⟨B64, q3⟩ : ∃ B, decide ((64 : Int) < (n : Int)) = B := ⟨_, rfl⟩
  have h64 : Hid (decide (64 < n) = B64) := Lib.hid (by rw [← q3]; congr 1; apply propext; omega)
  cases B64
  all_goals (
    go_enter Try.func31, Try.ntmps31
    go_wp2_with fail
    have hst := Lib.hid (h.out.below K.out (Nat.le_refl _))
    have st0 : Hid (sofar (decide (64 < n)) [] = if 64 < n then 3 else 0) := Lib.hid (by rw [sofar_nil]; simp)
    generalize w.alloc (.cells #[.int .u64 (seq : Int), .slice a n c] 31) = W at K hst c0 c1
    go_loopw [27, 3] (fun i e wr => ∃ j : Nat, j ≤ n ∧ i = .int .i64 (j : Int) ∧ e = .int .i64 (sofar (decide (64 < n)) (l.take j)) ∧ (l.take j).any Wr.bad = false ∧ Below w.heap.size w wr) (fun i _ _ => n - (intOf i).toNat)
    case atStart => exact ⟨0, Nat.zero_le _, rfl, (by rw [List.take_zero, st0.out]; have := h64.out; simp only [decide_eq_true_eq, decide_eq_false_iff_not] at this; first | rw [if_pos (by omega)] | rw [if_neg (by omega)]), by simp, K.out⟩
    case round =>
      obtain ⟨j, hj, rfl, rfl, hany, hb⟩ := hrel
      have hb := Lib.hid hb
      have hany := Lib.hid hany
      obtain ⟨S, hS⟩ := named (sofar (decide (64 < n)) (l.take j))
      rw [← hS.out]
      by_cases hlt : j < n
      · obtain ⟨x, hx, rfl, e0, e1, e2⟩ := (h.out.keep (w' := wr) (fun h0 => hb.out.block b (h.out.addr h0).2) hb.out.size).at3 hlt
        have hx := Lib.hid hx
        obtain ⟨xk, xs, xv⟩ := x
        obtain ⟨r, hr⟩ := named (Wr.chk ⟨xk, xs, xv⟩)
        have C : Hid (∀ u, Calls Try.prog 43 #[.agg #[.int .i64 xk, .string xs, .string xv]] u fun e w' => e = .returned (.int .i64 r) ∧ Below u.heap.size u w') := Lib.hid fun u => by rw [hr.out]; exact checkWrite_any ⟨xk, xs, xv⟩ u
        simp only at e0 e1 e2
        have take1 : Hid (l.take (j + 1) = l.take j ++ [⟨xk, xs, xv⟩]) := Lib.hid (by rw [List.take_add_one, hx.out]; rfl)
        by_cases hxb : Wr.bad ⟨xk, xs, xv⟩ = true
        · have r2 : r = 2 := by rw [hr.out]; exact chk_bad.2 hxb
          have hR2 := Lib.hid (hbad.out (List.any_eq_true.2 ⟨_, List.mem_of_getElem? hx.out, hxb⟩))
          subst r2
          clear hxb hr
          go_wp2_with fail
          refine (C.out _).mono ?_
          rintro e w1 ⟨rfl, hb1⟩
          go_wp2_with fail
          go_returns
          exact ⟨by rw [hR2.out]; rfl, (hb.out.trans ((below_alloc _ _).mono hb.out.size)).trans (hb1.mono (by have := hb.out.size; simp; omega))⟩
        · have hxf : Wr.bad ⟨xk, xs, xv⟩ = false := by simpa using hxb
          have any1 : Hid ((l.take (j + 1)).any Wr.bad = false) := Lib.hid (by rw [take1.out, List.any_append, hany.out]; simp [hxf])
          have so1 : Hid (sofar (decide (64 < n)) (l.take (j + 1)) = if r = 3 then 3 else S) := Lib.hid (by rw [take1.out, sofar_snoc hxf, ← hr.out, ← hS.out])
          have r30 : r = 3 ∨ r = 0 := by rw [hr.out]; exact chk_zero _ hxf
          clear hxb hr hxf hS hany take1
          rcases r30 with rfl | rfl
          all_goals (
            go_wp2_with fail
            refine (C.out _).mono ?_
            rintro e w1 ⟨rfl, hb1⟩
            have hb2 := Lib.hid ((hb.out.trans ((below_alloc _ _).mono hb.out.size)).trans (hb1.mono (by have := hb.out.size; simp; omega)))
            clear hb1
            go_wp2_with fail
            go_roundw
            case rel => exact ⟨j + 1, by omega, by go_num, by rw [so1.out]; rfl, any1.out, hb2.out⟩
            case measure => simp [intOf]; omega)
      · have hjn : j = n := by omega
        subst hjn
        have hR0 : R = S := by
          have ht : l.take j = l := by rw [← hlen.out, List.take_length]
          have := hany.out
          rw [ht] at this
          rw [hE.out this, hS.out, ht]
        go_wp2_with fail
        go_returns
        exact ⟨by rw [hR0]; rfl, hb.out⟩)
theorem check_any {seq : Nat} {a : Option Addr} {n c b o : Nat} {l : List Wr} {w : World} (h : Ws a n c b o l w) :
    Calls Try.prog 31 #[batchV seq a n c] w fun e w' => e = .returned (.int .i64 (chkB seq l)) ∧ Below w.heap.size w w' := by
  by_cases hE : n = 0 ∨ seq < 1 ∨ 72057594037927872 < seq
  · rw [chkB_arg (by rw [h.len]; exact hE)]
    exact check_arg w hE
  · exact check_main h (by omega) (by omega) (by omega)
end Go.Proofs.Ytdgbafpnfkedeaa
/-
  How the translated operations on bytes and on 64 bits read as plain numbers. No condition.
-/
namespace Go.Proofs.Ytdgbafpnfkedeaa
set_option maxRecDepth 100000
open Go.RowKit
theorem wrap_u64_nat {n : Nat} (h : n < 2 ^ 64) : IntKind.u64.wrap (n : Int) = n := by
  rw [IntKind.wrap_u64]; omega
theorem or64_nat {a b : Nat} (ha : a < 2 ^ 64) (hb : b < 2 ^ 64) : bits .or .u64 (a : Int) (b : Int) = ((a ||| b : Nat) : Int) := by
  show IntKind.u64.wrap (((BitVec.ofInt 64 (a : Int) ||| BitVec.ofInt 64 (b : Int)).toNat : Nat) : Int) = _
  rw [BitVec.ofInt_natCast, BitVec.ofInt_natCast, BitVec.toNat_or, BitVec.toNat_ofNat, BitVec.toNat_ofNat, Nat.mod_eq_of_lt ha, Nat.mod_eq_of_lt hb]
  exact wrap_u64_nat (Nat.or_lt_two_pow ha hb)
theorem andNot128_all : ∀ n : Fin 256, bits .andNot .u8 (n.val : Int) 128 = ((n.val % 128 : Nat) : Int) := by decide +kernel
theorem andNot128 (c : UInt8) : bits .andNot .u8 (c.toNat : Int) 128 = ((c.toNat % 128 : Nat) : Int) := andNot128_all ⟨c.toNat, UInt8.toNat_lt c⟩
theorem or128_all : ∀ n : Fin 256, bits .or .u8 (n.val : Int) 128 = ((n.val % 128 + 128 : Nat) : Int) := by decide +kernel
theorem or128 (c : Nat) (h : c < 256) : bits .or .u8 (c : Int) 128 = ((c % 128 + 128 : Nat) : Int) := or128_all ⟨c, h⟩
theorem part_code (acc i : Nat) (c : UInt8) (hi : i ≤ 9) (ha : acc < 128 ^ i) (h9 : i = 9 → c.toNat ≤ 1) :
    bits .or .u64 (acc : Int) (IntKind.u64.wrap (IntKind.u64.wrap (bits .andNot .u8 (c.toNat : Int) 128) * 2 ^ (7 * i))) = ((acc + 128 ^ i * (c.toNat % 128) : Nat) : Int) := by
  have hp : (128 : Nat) ^ i = 2 ^ (7 * i) := by rw [Nat.pow_mul]
  have hb : 128 ^ i * (c.toNat % 128) < 2 ^ 64 := by
    by_cases h : i = 9
    · subst h; have := h9 rfl
      have : c.toNat % 128 ≤ 1 := by omega
      have := Nat.mul_le_mul_left (128 ^ 9) this
      omega
    · have h8 := Code.pow_le (i := i) (j := 8) (by omega)
      have := Nat.mul_le_mul h8 (show c.toNat % 128 ≤ 127 by omega)
      omega
  have hacc : acc < 2 ^ 64 := by
    have := Code.pow_le (i := i) (j := 9) hi
    omega
  rw [andNot128, wrap_u64_nat (by omega)]
  have e : ((c.toNat % 128 : Nat) : Int) * 2 ^ (7 * i) = ((128 ^ i * (c.toNat % 128) : Nat) : Int) := by
    rw [hp]; simp [Int.mul_comm]
  rw [e, wrap_u64_nat hb, or64_nat hacc hb]
  rw [hp] at ha ⊢
  rw [Nat.add_comm, Nat.two_pow_add_eq_or_of_lt ha, Nat.or_comm]
end Go.Proofs.Ytdgbafpnfkedeaa
/-
  The contract of Next. No condition.
-/
namespace Go.Proofs.Ytdgbafpnfkedeaa
set_option maxRecDepth 100000
open Go.RowKit
def nextB (seq : Nat) (l : List Wr) : Nat := if chkB seq l = 0 then seq + l.length else 0
end Go.Proofs.Ytdgbafpnfkedeaa
/-
  Batches as bytes. No condition.
-/
namespace Go.Proofs.Ytdgbafpnfkedeaa
set_option maxRecDepth 100000
def fldB (s : ByteArray) : List UInt8 := Code.uvar s.size ++ s.data.toList
def encW (x : Wr) : List UInt8 := UInt8.ofNat x.kind.toNat :: (fldB x.key ++ if x.kind = 1 then fldB x.val else [])
def encL (l : List Wr) : List UInt8 := l.flatMap encW
def encB (seq : Nat) (l : List Wr) : List UInt8 := Code.uvar seq ++ Code.uvar l.length ++ encL l
theorem encL_snoc (l : List Wr) (x : Wr) : encL (l ++ [x]) = encL l ++ encW x := by simp [encL]
theorem size_list (s : ByteArray) : s.data.toList.length = s.size := by rw [Array.length_toList]; rfl
theorem uvar_short {n : Nat} (h : n ≤ 72057594037927872) : (Code.uvar n).length ≤ 10 := Code.uvar_ten (by omega)
theorem fldB_len {s : ByteArray} {n : Nat} (h : s.size ≤ n) (hn : n ≤ 4096) : (fldB s).length ≤ n + 10 := by
  unfold fldB
  rw [List.length_append, size_list]
  have := uvar_short (n := s.size) (by omega)
  omega
theorem Wr.long_false {x : Wr} (h : x.long = false) : x.key.size ≤ 520 ∧ x.val.size ≤ 2048 := by
  unfold Wr.long at h
  simp only [Bool.or_eq_false_iff, decide_eq_false_iff_not] at h
  omega
theorem encW_len {x : Wr} (h : x.long = false) : (encW x).length ≤ 2600 := by
  obtain ⟨h1, h2⟩ := Wr.long_false h
  unfold encW
  rw [List.length_cons, List.length_append]
  have := fldB_len h1 (by omega)
  split
  · have := fldB_len h2 (by omega)
    omega
  · simp; omega
theorem encL_len : ∀ {l : List Wr}, (∀ x ∈ l, x.long = false) → (encL l).length ≤ 2600 * l.length
  | [], _ => by simp [encL]
  | x :: r, h => by
    have h1 := encW_len (h x (by simp))
    have h2 := encL_len (l := r) fun y hy => h y (by simp [hy])
    unfold encL at h2 ⊢
    rw [List.flatMap_cons, List.length_append, List.length_cons]
    omega
/-- A write at the head of bytes, and how many it has. -/
def decW : List UInt8 → Option (Wr × Nat)
  | [] => none
  | k :: r =>
    if k = 1 then
      if (Code.rdField r 520).2.2 ≠ 0 then none
      else if (Code.rdField (r.drop (Code.rdField r 520).2.1) 2048).2.2 ≠ 0 then none
      else some (⟨1, ⟨(Code.rdField r 520).1.toArray⟩, ⟨(Code.rdField (r.drop (Code.rdField r 520).2.1) 2048).1.toArray⟩⟩, 1 + ((Code.rdField r 520).2.1 + (Code.rdField (r.drop (Code.rdField r 520).2.1) 2048).2.1))
    else if k = 2 then
      if (Code.rdField r 520).2.2 ≠ 0 then none else some (⟨2, ⟨(Code.rdField r 520).1.toArray⟩, ⟨#[]⟩⟩, 1 + (Code.rdField r 520).2.1)
    else none
def decL : Nat → List UInt8 → Option (List Wr × List UInt8)
  | 0, l => some ([], l)
  | m + 1, l => match decW l with
    | none => none
    | some (x, k) => (decL m (l.drop k)).map fun y => (x :: y.1, y.2)
theorem decL_snoc : ∀ (j : Nat) (l : List UInt8) {xs : List Wr} {r : List UInt8}, decL j l = some (xs, r) → decL (j + 1) l = (decW r).map fun y => (xs ++ [y.1], r.drop y.2)
  | 0, l, xs, r, h => by
    simp only [decL, Option.some.injEq, Prod.mk.injEq] at h
    obtain ⟨rfl, rfl⟩ := h
    simp only [decL]
    cases decW l with
    | none => rfl
    | some y => rfl
  | j + 1, l, xs, r, h => by
    rw [decL] at h ⊢
    cases e : decW l with
    | none => rw [e] at h; cases h
    | some y =>
      rw [e] at h
      simp only at h ⊢
      obtain ⟨z, hz, hy⟩ := Option.map_eq_some_iff.1 h
      simp only [Prod.mk.injEq] at hy
      obtain ⟨rfl, rfl⟩ := hy
      rw [decL_snoc j _ hz]
      cases decW z.2 with
      | none => rfl
      | some y' => rfl
theorem decL_none (m : Nat) : ∀ (j : Nat) (l : List UInt8) {xs : List Wr} {r : List UInt8}, decL j l = some (xs, r) → decW r = none → j < m → decL m l = none := by
  induction m with
  | zero => intro j l xs r _ _ h; omega
  | succ m ih =>
    intro j l xs r h hn hj
    by_cases e : j = m
    · subst e
      rw [decL_snoc j l h, hn]; rfl
    · have h0 := ih j l h hn (by omega)
      have step : ∀ (m : Nat) (l : List UInt8), decL m l = none → decL (m + 1) l = none := by
        intro m
        induction m with
        | zero => intro l h; cases h
        | succ m ih2 =>
          intro l h
          rw [decL] at h ⊢
          cases e : decW l with
          | none => rfl
          | some y =>
            rw [e] at h
            simp only [Option.map_eq_none_iff] at h ⊢
            exact ih2 _ h
      exact step m l h0
theorem decL_len : ∀ (j : Nat) (l : List UInt8) {xs : List Wr} {r : List UInt8}, decL j l = some (xs, r) → xs.length = j
  | 0, l, xs, r, h => by
    simp only [decL, Option.some.injEq, Prod.mk.injEq] at h
    rw [← h.1]; rfl
  | j + 1, l, xs, r, h => by
    rw [decL] at h
    cases e : decW l with
    | none => rw [e] at h; cases h
    | some y =>
      rw [e] at h
      obtain ⟨z, hz, hy⟩ := Option.map_eq_some_iff.1 h
      simp only [Prod.mk.injEq] at hy
      rw [← hy.1, List.length_cons, decL_len j _ hz]
theorem rdField_len (l : List UInt8) (n : Nat) : (Code.rdField l (n : Int)).1.length ≤ n := by
  unfold Code.rdField
  split
  · simp
  · split
    · simp
    · split
      · simp
      · rename_i h _
        simp only [List.length_take]
        omega
theorem decW_fit {l : List UInt8} {x : Wr} {k : Nat} (h : decW l = some (x, k)) : x.key.size ≤ 2048 ∧ x.val.size ≤ 2048 := by
  cases l with
  | nil => cases h
  | cons b r =>
    have e1 := rdField_len r 520
    simp only [decW] at h
    split at h
    · split at h
      · cases h
      · split at h
        · cases h
        · have e2 := rdField_len (r.drop (Code.rdField r 520).2.1) 2048
          simp only [Option.some.injEq, Prod.mk.injEq] at h
          rw [← h.1]
          refine ⟨?_, ?_⟩
          · show ((Code.rdField r 520).1.toArray).size ≤ _; rw [List.size_toArray]; exact Nat.le_trans e1 (by omega)
          · show ((Code.rdField (r.drop (Code.rdField r 520).2.1) 2048).1.toArray).size ≤ _; rw [List.size_toArray]; exact e2
    · split at h
      · split at h
        · cases h
        · simp only [Option.some.injEq, Prod.mk.injEq] at h
          rw [← h.1]
          refine ⟨?_, Nat.zero_le _⟩
          show ((Code.rdField r 520).1.toArray).size ≤ _; rw [List.size_toArray]; exact Nat.le_trans e1 (by omega)
      · cases h
theorem decL_fit : ∀ (j : Nat) (l : List UInt8) {xs : List Wr} {r : List UInt8}, decL j l = some (xs, r) → ∀ x ∈ xs, x.key.size ≤ 2048 ∧ x.val.size ≤ 2048
  | 0, l, xs, r, h, x, hx => by
    simp only [decL, Option.some.injEq, Prod.mk.injEq] at h
    rw [← h.1] at hx; cases hx
  | j + 1, l, xs, r, h, x, hx => by
    rw [decL] at h
    cases e : decW l with
    | none => rw [e] at h; cases h
    | some y =>
      rw [e] at h
      obtain ⟨z, hz, hy⟩ := Option.map_eq_some_iff.1 h
      simp only [Prod.mk.injEq] at hy
      rw [← hy.1] at hx
      rcases List.mem_cons.1 hx with rfl | hx
      · exact decW_fit (k := y.2) e
      · exact decL_fit j _ hz x hx
def restB (l : List UInt8) : List UInt8 := (l.drop (Code.rd 0 l).2.1).drop (Code.rd 0 (l.drop (Code.rd 0 l).2.1)).2.1
/-- What bytes tell: a number, writes, an error. -/
def decB (l : List UInt8) : Nat × List Wr × Int :=
  if (Code.rd 0 l).2.2 ≠ 0 ∨ (Code.rd 0 (l.drop (Code.rd 0 l).2.1)).2.2 ≠ 0 ∨ 64 < (Code.rd 0 (l.drop (Code.rd 0 l).2.1)).1 then (0, [], 7)
  else match decL (Code.rd 0 (l.drop (Code.rd 0 l).2.1)).1 (restB l) with
    | none => (0, [], 7)
    | some (xs, r) => if r = [] ∧ chkB (Code.rd 0 l).1 xs = 0 then ((Code.rd 0 l).1, xs, 0) else (0, [], 7)
end Go.Proofs.Ytdgbafpnfkedeaa
/-
  A scope in which the run jumps forward to one label: behind the jump the label's rest is walked. No condition.
-/
namespace Go.Proofs.Ytdgbafpnfkedeaa
set_option maxRecDepth 100000
variable {P : Program} {a : Act} {w : World} {Q : Exit → Act → World → Prop}
theorem wp_scope_fwd {c rest : Code} (l : Nat) (hf : findLabel c l = some rest) (h : c.wp P (Exit.jump l (fun a w => rest.wp P (Exit.noGoto Q) a w) Q) a w) : (Code.scope c).wp P Q a w := by
  refine wp_scope_jumps l (fun a w => rest.wp P (Exit.noGoto Q) a w) (fun _ _ => 0) hf h ?_
  intro a₀ w₀ hJ b k cs
  obtain ⟨e, a₁, w₁, hq, harr⟩ := hJ b k cs
  refine ⟨e, a₁, w₁, ?_, harr⟩
  cases e with
  | goto l => exact hq.elim
  | normal => exact hq
  | exit id => exact hq
  | ret => exact hq
  | panic ch => exact hq
  | outgrown => exact hq
theorem jump_goto {l : Nat} {J : Act → World → Prop} (h : J a w) : Exit.jump l J Q (.goto l) a w := ⟨rfl, h⟩
theorem jump_ret {l : Nat} {J : Act → World → Prop} : Exit.jump l J Q .ret a w = Q .ret a w := rfl
theorem jump_normal {l : Nat} {J : Act → World → Prop} : Exit.jump l J Q .normal a w = Q .normal a w := rfl
theorem jump_exit {l id : Nat} {J : Act → World → Prop} : Exit.jump l J Q (.exit id) a w = Q (.exit id) a w := rfl
end Go.Proofs.Ytdgbafpnfkedeaa
/-
  The contracts of the cursor's steps, whatever the world. Condition: the cursor's two cells hold a text and a place in it.
-/
namespace Go.Proofs.Ytdgbafpnfkedeaa
set_option maxRecDepth 100000
open Go.RowKit
/-- Block b is a cursor over s at place k. -/
structure CurAt (w : World) (b : Nat) (s : ByteArray) (k : Nat) : Prop where
  c0 : w.cell? ⟨b, 0, none⟩ = some (.string s)
  c1 : w.cell? ⟨b, 1, none⟩ = some (.int .i64 (k : Int))
  f1 : w.frozen? ⟨b, 1, none⟩ = false
theorem CurAt.lt {w : World} {b : Nat} {s : ByteArray} {k : Nat} (h : CurAt w b s k) : b < w.heap.size := World.block_lt_of_cell? _ _ h.c0
theorem CurAt.drewN {w : World} {b n : Nat} {s : ByteArray} {k : Nat} (h : CurAt w b s k) : CurAt (w.drewN n) b s k := ⟨h.c0, h.c1, h.f1⟩
theorem CurAt.set {w : World} {b : Nat} {s : ByteArray} {k : Nat} (h : CurAt w b s k) (j : Nat) : CurAt (w.setCell ⟨b, 1, none⟩ (.int .i64 (j : Int))) b s j :=
  ⟨by rw [World.cell?_setCell_other _ _ _ _ (by simp)]; exact h.c0, World.cell?_setCell_same _ _ _ h.c1, (World.frozen?_setCell _ _ _ _).trans h.f1⟩
theorem CurAt.below {B b k : Nat} {w w' : World} {s : ByteArray} (h : CurAt w b s k) (hb : Below B w w') (hB : b < B) : CurAt w' b s k :=
  ⟨(hb.cell (p := ⟨b, 0, none⟩) hB).trans h.c0, (hb.cell (p := ⟨b, 1, none⟩) hB).trans h.c1, (hb.frozen (p := ⟨b, 1, none⟩) hB).trans h.f1⟩
end Go.Proofs.Ytdgbafpnfkedeaa
/-
  A block of bytes that a call made: what it holds, what a store into it leaves, what text it is. No condition.
-/
namespace Go.Proofs.Ytdgbafpnfkedeaa
set_option maxRecDepth 100000
open Go.RowKit
/-- Block g holds just these bytes at its head, and they may be written. -/
def Holds8 (w : World) (g : Nat) (l : List UInt8) : Prop := ∀ q (h : q < l.length), w.cell? ⟨g, q, none⟩ = some (.int .u8 (l[q].toNat : Int)) ∧ w.frozen? ⟨g, q, none⟩ = false
theorem holds8_set {w : World} {g : Nat} {l : List UInt8} (h : Holds8 w g l) (q : Nat) (hq : q < l.length) (y : UInt8) : Holds8 (w.setCell ⟨g, q, none⟩ (.int .u8 (y.toNat : Int))).drew g (l.set q y) := by
  intro r hr
  rw [List.length_set] at hr
  rw [World.cell?_drew]
  refine ⟨?_, (World.frozen?_setCell _ _ _ _).trans (h r hr).2⟩
  by_cases e : q = r
  · subst e
    rw [World.cell?_setCell_same _ _ _ (h q hq).1, List.getElem_set_self]
  · rw [World.cell?_setCell_other _ _ _ _ (by simp), (h r hr).1, List.getElem_set_ne e]
theorem holds8_turn {w : World} {g : Nat} {l : List UInt8} (h : Holds8 w g l) (q : Nat) (hq : q < l.length) (c : UInt8) : Holds8 (w.setCell ⟨g, q, none⟩ (.int .u8 ((l[q] ^^^ c).toNat : Int))).drew g (l.modify q (· ^^^ c)) := by
  have e : l.modify q (· ^^^ c) = l.set q (l[q] ^^^ c) := by
    apply List.ext_getElem?
    intro j
    rw [List.getElem?_modify, List.getElem?_set]
    by_cases hj : q = j
    · subst hj; simp [hq]
    · simp [hj]
  rw [e]
  exact holds8_set h q hq _
theorem holds8_made (w : World) (b : ByteArray) (c : Nat) : Holds8 (w.alloc (.cells (bytesRow b c) 5 ((bytesRow b c).size, (bytesRow b c).size + 1))).drew w.heap.size b.data.toList := by
  intro q hq
  have hz : q < b.data.size := by simpa using hq
  have hs : q < (bytesRow b c).size := by unfold bytesRow; rw [Array.size_append, Array.size_map]; omega
  have e1 : (bytesRow b c)[q]? = some (.int .u8 (b.data.toList[q].toNat : Int)) := by
    unfold bytesRow
    rw [Array.getElem?_append_left (by rw [Array.size_map]; exact hz), Array.getElem?_map, Array.getElem?_eq_getElem hz]
    simp
  refine ⟨?_, ?_⟩
  · rw [World.cell?_drew, World.cell?_alloc_mark, e1]
  · show (w.alloc _).frozen? _ = false
    rw [World.frozen?_alloc_mark]
    simp; omega
theorem holds8_text {w : World} {g : Nat} {l : List UInt8} (h : Holds8 w g l) (n c : Nat) (hn : l.length = n) : (convert 99 9 (.slice (some ⟨g, 0, none⟩) n c)).run Try.prog w = .ok (.string ⟨l.toArray⟩) w := by
  subst hn
  refine run_convert_bytes_back w _ _ 5 ⟨g, 0, none⟩ c l Try.underlying99 Try.underlying5 Try.underlying9 ?_
  intro j hj
  have : (⟨g, 0, none⟩ : Addr).add j = ⟨g, j, none⟩ := by
    unfold Addr.add
    split
    · rename_i h0; rw [h0]
    · simp
  rw [this]
  exact (h j hj).1
theorem xor8_byte (x y : UInt8) : bits .xor .u8 (x.toNat : Int) (y.toNat : Int) = ((x ^^^ y).toNat : Int) := by
  have e : ∀ z : UInt8, BitVec.ofInt 8 (z.toNat : Int) = z.toBitVec := fun z => by
    rw [BitVec.ofInt_natCast]; apply BitVec.eq_of_toNat_eq; rw [BitVec.toNat_ofNat]; have := UInt8.toNat_lt z; show z.toNat % 256 = z.toNat; omega
  show IntKind.u8.wrap (((BitVec.ofInt 8 (x.toNat : Int) ^^^ BitVec.ofInt 8 (y.toNat : Int)).toNat : Nat) : Int) = _
  rw [e, e, IntKind.wrap_u8]
  have h2 : (x.toBitVec ^^^ y.toBitVec).toNat = (x ^^^ y).toNat := rfl
  rw [h2]
  have := UInt8.toNat_lt (x ^^^ y)
  omega
theorem holds8_alloc {w : World} {g : Nat} {l : List UInt8} (h : Holds8 w g l) (hg : g < w.heap.size) (o : Obj) : Holds8 (w.alloc o) g l := fun q hq =>
  ⟨(World.cell?_alloc_lt _ _ _ hg).trans (h q hq).1, (World.frozen?_alloc_old _ _ _ (Nat.ne_of_lt hg)).trans (h q hq).2⟩
theorem holds8_drew {w : World} {g : Nat} {l : List UInt8} (h : Holds8 w g l) : Holds8 w.drew g l := h
theorem holds8_below {u w : World} {g : Nat} {l : List UInt8} (hb : Below u.heap.size u w) (hg : g < u.heap.size) (h : Holds8 u g l) : Holds8 w g l := fun q hq =>
  ⟨(hb.cell (p := ⟨g, q, none⟩) hg).trans (h q hq).1, (hb.frozen (p := ⟨g, q, none⟩) hg).trans (h q hq).2⟩
theorem holds8_zeros (w : World) (n : Nat) : Holds8 (w.alloc (.cells (madeCells #[.int .u8 0] n) 5)) w.heap.size (List.replicate n 0) := by
  intro q hq
  rw [List.length_replicate] at hq
  refine ⟨?_, World.frozen?_alloc_at _ _ _ _ rfl⟩
  rw [World.cell?_alloc_new, ← Array.getElem?_toList, toList_madeCells_one]
  simp [hq]
end Go.Proofs.Ytdgbafpnfkedeaa
/-
  The contracts of code.Uint, code.PutUint and of the document's own: each answers the plain mathematics' short number. Condition: a text of a length that there is; a number of 64 bits.
-/
namespace Go.Proofs.Ytdgbafpnfkedeaa
set_option maxRecDepth 100000
open Go.RowKit
theorem makes_func : ∀ (fn : Fn) (first cap : Array Value) (w : World), (Instr.makeFunc fn first cap).run Try.prog w = .ok (.func fn first cap) w := fun _ _ _ _ => rfl
theorem cur_new (w : World) (s : ByteArray) (t : TypeId) : CurAt (w.alloc (.cells #[.string s, .int .i64 0] t)) w.heap.size s 0 :=
  ⟨by rw [World.cell?_alloc_new]; rfl, by rw [World.cell?_alloc_new]; rfl, World.frozen?_alloc_new _ _ _ _⟩
theorem below_but {w w' : World} {o : Obj} (h : But w.heap.size (w.alloc o) w') : Below w.heap.size w w' := (below_alloc w o).trans (h.below (Nat.le_refl _) (by simp))
theorem holds8_take {w : World} {g : Nat} {l : List UInt8} (h : Holds8 w g l) (n : Nat) : Holds8 w g (l.take n) := by
  intro q hq
  have : q < l.length := by rw [List.length_take] at hq; omega
  rw [List.getElem_take]
  exact h q this
theorem holds8_put {w : World} {g : Nat} {l : List UInt8} (h : Holds8 w g l) (q : Nat) (hq : q < l.length) (x : Int) (y : UInt8) (hx : x = (y.toNat : Int)) : Holds8 (w.setCell ⟨g, q, none⟩ (.int .u8 x)) g (l.set q y) := by
  subst hx; exact holds8_set h q hq y
theorem text_one (v : World) (y : UInt8) (x : Int) (hx : x = (y.toNat : Int)) (t : TypeId) : (convert 99 9 (.slice (some ⟨v.heap.size, 0, none⟩) 1 1)).run Try.prog (v.alloc (.cells #[.int .u8 x] t)) = .ok (.string ⟨#[y]⟩) (v.alloc (.cells #[.int .u8 x] t)) := by
  subst hx
  refine holds8_text (l := [y]) ?_ 1 1 rfl
  intro q hq
  have : q = 0 := by simpa using hq
  subst this
  exact ⟨by rw [World.cell?_alloc_new]; rfl, World.frozen?_alloc_new _ _ _ _⟩
theorem getD_byte (s : ByteArray) (k : Nat) (h : k < s.size) : s.data.toList.getD k 0 = s[k] := by
  rw [List.getD_eq_getElem?_getD, Lib.data_getElem? s k h]; rfl
theorem drop_byte (s : ByteArray) (k : Nat) (h : k < s.size) : s.data.toList.drop k = s[k] :: s.data.toList.drop (k + 1) := List.drop_eq_getElem_cons (by simpa using h)
end Go.Proofs.Ytdgbafpnfkedeaa
/-
  The contracts of code.Ord, code.PutOrd and of the document's own: each answers the plain mathematics' ordered number. Condition: a text of a length that there is; a number of 64 bits.
-/
namespace Go.Proofs.Ytdgbafpnfkedeaa
set_option maxRecDepth 100000
open Go.RowKit
theorem ord_up {n : Int} (h : -9223372036854775808 ≤ n ∧ n ≤ 9223372036854775807) : ∃ U : Nat, U < 2 ^ 64 ∧ n = (U : Int) - 9223372036854775808 := ⟨(n + 9223372036854775808).toNat, by omega, by omega⟩
theorem byte_div (U i : Nat) : ((U / 256 ^ i : Nat) : Int) % 256 = ((UInt8.ofNat (U / 256 ^ i)).toNat : Int) := by rw [UInt8.toNat_ofNat']; omega
theorem ord_in (U : Nat) (hU : U < 2 ^ 64) : IntKind.u64.wrap (IntKind.u64.wrap ((U : Int) - 9223372036854775808) + 9223372036854775808) = (U : Int) := by
  rw [IntKind.wrap_u64, IntKind.wrap_u64]; omega
theorem or_byte (u : Nat) (c : UInt8) (h : u * 256 + c.toNat < 2 ^ 64) : bits .or .u64 ((u : Int) * 256) (c.toNat : Int) = ((u * 256 + c.toNat : Nat) : Int) := by
  have hc := UInt8.toNat_lt c
  have h1 : u * 256 < 2 ^ 64 := Nat.lt_of_le_of_lt (Nat.le_add_right _ _) h
  have h2 : c.toNat < 2 ^ 64 := Nat.lt_of_le_of_lt (Nat.le_add_left _ _) h
  have e0 : ((u * 256 : Nat) : Int) = (u : Int) * 256 := Int.natCast_mul u 256
  have h3 := or64_nat h1 h2
  rw [e0] at h3
  rw [h3]
  have := Nat.two_pow_add_eq_or_of_lt (i := 8) (b := c.toNat) hc u
  rw [Nat.mul_comm] at this
  rw [← this]
theorem ord_out (U : Nat) (hU : U < 2 ^ 64) : IntKind.i64.wrap (IntKind.u64.wrap ((U : Int) - 9223372036854775808)) = (U : Int) - 9223372036854775808 := by
  rw [IntKind.wrap_u64, IntKind.wrap_i64]; omega
end Go.Proofs.Ytdgbafpnfkedeaa
/-
  The contracts of code.PutText, of the document's own, and of code.PutField. Condition: a text of at most 2^31 bytes; the library's one variable holds some number.
-/
namespace Go.Proofs.Ytdgbafpnfkedeaa
set_option maxRecDepth 100000
open Go.RowKit
theorem below_after1 {w w' : World} {o : Obj} (h : Below (w.alloc o).drew.heap.size (w.alloc o).drew w') : Below w.heap.size w w' :=
  (below_alloc w o).drew.trans (h.mono (by show w.heap.size ≤ (w.alloc o).heap.size; simp))
theorem below_after2 {w w' : World} {o o' : Obj} (h : Below ((w.alloc o).alloc o').drew.heap.size ((w.alloc o).alloc o').drew w') : Below w.heap.size w w' :=
  ((below_alloc w o).alloc (by simp) o').drew.trans (h.mono (by show w.heap.size ≤ ((w.alloc o).alloc o').heap.size; simp; omega))
theorem two_text (x y : UInt8) (u : World) (g : Nat) (h0 : u.cell? ⟨g, 0, none⟩ = some (.int .u8 (x.toNat : Int))) (h1 : u.cell? ⟨g, 1, none⟩ = some (.int .u8 (y.toNat : Int))) :
    (convert 99 9 (.slice (some ⟨g, 0, none⟩) 2 2)).run Try.prog u = .ok (.string ⟨#[x, y]⟩) u := by
  have := run_convert_bytes_arg (P := Try.prog) u 99 5 Try.underlying99 Try.underlying5 g 0 2 2 [(x.toNat : Int), (y.toNat : Int)] rfl (by
    intro i hi
    rcases (show i = 0 ∨ i = 1 by omega) with rfl | rfl
    · exact h0
    · exact h1) 9 Try.underlying9
  rw [this]
  congr 2
  simp [strOfNums]
end Go.Proofs.Ytdgbafpnfkedeaa
/-
  The contracts of code.Text and of the document's own, and of the document's PutText: each answers the plain mathematics' ordered text. Condition: a text of a length that there is (the document's PutText: at most 2^31 bytes).
-/
namespace Go.Proofs.Ytdgbafpnfkedeaa
set_option maxRecDepth 100000
open Go.RowKit
theorem ownsRow_but {w w' : World} {base : Nat} {e : TypeId} {size : Nat} {v : Value} {n b : Nat} {xs : List Value} (h : w.ownsRow base e size v n xs) (hb : But b w w') (hlt : b < base) : w'.ownsRow base e size v n xs := by
  refine ⟨h.1, ?_⟩
  rcases h.2 with h2 | ⟨g, cap, cur, h1, h2, h3, h4⟩
  · exact Or.inl h2
  · refine Or.inr ⟨g, cap, cur, h1, h2, ?_, h4⟩
    have hg : g < w.heap.size := (Array.getElem?_eq_some_iff.1 h3).1
    rw [hb.block g hg (by omega)]; exact h3
theorem cur_grown {w w' : World} {b k : Nat} {s : ByteArray} {row : Option Nat} (h : CurAt w b s k) (hg : w.grownBy w' row) (hr : ∀ r, row = some r → b < r) : CurAt w' b s k := by
  have hb := hg.block b h.lt (fun e => by have := hr b e.symm; omega)
  refine ⟨?_, ?_, ?_⟩
  · have := h.c0; unfold World.cell? at this ⊢; rw [hb]; exact this
  · have := h.c1; unfold World.cell? at this ⊢; rw [hb]; exact this
  · have := h.f1; unfold World.frozen? at this ⊢; rw [hb]; exact this
theorem World.alloc_cur {w : World} {b k : Nat} {s : ByteArray} {o : Obj} (h : CurAt w b s k) : CurAt (w.alloc o) b s k := h.below (below_alloc w o) h.lt
def bytesRowOf (l : List UInt8) : List Value := l.map fun c => .int .u8 (c.toNat : Int)
theorem own_text {w : World} {base : Nat} {v : Value} {n : Nat} {l : List UInt8} (h : w.ownsRow base 5 1 v n (bytesRowOf l)) (x : World) (hx : ∀ a, x.cell? a = w.cell? a) : (convert 99 9 v).run Try.prog x = .ok (.string ⟨l.toArray⟩) x := by
  have hl : l.length = n := by have := h.1; simpa [bytesRowOf] using this
  rcases h.2 with ⟨rfl, rfl⟩ | ⟨g, cap, cur, rfl, h2, h3, h4, h5, h6, h7⟩
  · obtain rfl := List.length_eq_zero_iff.1 hl
    rw [run_convert_bytes_string x 99 9 5 none 0 0 Try.underlying99 Try.underlying5 Try.underlying9]
    rfl
  · subst hl
    refine run_convert_bytes_back x _ _ 5 ⟨g, 0, none⟩ cap l Try.underlying99 Try.underlying5 Try.underlying9 ?_
    intro j hj
    have ha : (⟨g, 0, none⟩ : Addr).add j = ⟨g, j, none⟩ := by
      unfold Addr.add
      split
      · rename_i h0; rw [h0]
      · simp
    rw [ha, hx]
    have e1 : (bytesRowOf l)[j]? = some (.int .u8 (l[j].toNat : Int)) := by unfold bytesRowOf; simp [hj]
    rw [← h7, List.getElem?_take] at e1
    split at e1
    · unfold World.cell?
      rw [h3]
      simpa using e1
    · cases e1
/-- How much a cursor has ahead. -/
def curLeft (w : World) (b n : Nat) : Nat := n - (intOf ((w.cell? ⟨b, 1, none⟩).getD undef)).toNat
theorem CurAt.left {w : World} {b k : Nat} {s : ByteArray} (h : CurAt w b s k) (n : Nat) : curLeft w b n = n - k := by
  unfold curLeft; rw [h.c1]; simp [intOf]
theorem info8 : (Try.prog.info? 5).map (fun i => (i.zero, i.size, i.bytes)) = some (some (.int .u8 0), 1, 1) := by kernel_rfl
theorem new_cell (w : World) (x : Int) (t : TypeId) (j : Nat) (u : Value) (hj : ([Value.int .u8 x])[j]? = some u) : (w.alloc (.cells #[.int .u8 x] t)).cell? ((⟨w.heap.size, 0, none⟩ : Addr).add j) = some u := by
  cases j with
  | zero => simp at hj; subst hj; simp [Addr.add]
  | succ j => simp at hj
theorem extract_one (s : ByteArray) (k : Nat) (h : k < s.size) : s.extract k (k + 1) = ⟨#[s[k]]⟩ := by
  apply ByteArray.ext
  apply Array.toList_inj.1
  rw [ByteArray.data_extract, Array.toList_extract]
  have hl : k < s.data.toList.length := by simpa using h
  rw [List.extract_eq_take_drop, Nat.add_sub_cancel_left, List.drop_eq_getElem_cons hl]
  rfl
theorem slice_one (s : ByteArray) (k : Nat) (h : k < s.size) (w : World) : (Instr.slice 9 (.string s) (some (.int .i64 (k : Int))) (some (.int .i64 ((k : Int) + 1))) none).run Try.prog w = .ok (.string ⟨#[s[k]]⟩) w := by
  rw [run_slice_string_if w 9 s .i64 .i64 _ _ Try.underlying9, if_pos ⟨by omega, by omega⟩, if_pos ⟨by omega, by omega⟩]
  have e1 : (k : Int).toNat = k := by omega
  have e2 : ((k : Int) + 1).toNat = k + 1 := by omega
  rw [e1, e2, extract_one s k h]
end Go.Proofs.Ytdgbafpnfkedeaa
/-
  The contracts of code.Field and of the document's own: each answers the plain mathematics' field. Condition: a text of a length that there is.
-/
namespace Go.Proofs.Ytdgbafpnfkedeaa
set_option maxRecDepth 100000
open Go.RowKit
theorem CurAt.put {w : World} {b : Nat} {s : ByteArray} {k : Nat} (h : CurAt w b s k) (j : Nat) (x : Int) (hx : x = (j : Int)) : CurAt (w.setCell ⟨b, 1, none⟩ (.int .i64 x)).drew b s j := by
  subst hx; exact ⟨(h.set j).c0, (h.set j).c1, (h.set j).f1⟩
theorem clone_any (s : ByteArray) (hs : s.size ≤ 281474976710656) (w : World) : Calls Try.prog 44 #[.string s] w fun e w' => e = .returned (.string s) ∧ Below w.heap.size w w' := by
  go_enter Try.func44, Try.ntmps44
  go_wp2_with (go_at_call 49; refine (Any.stringslite_Clone Try.laysM316 s _ hs).mono ?_; rintro e w' ⟨rfl, hb⟩)
  go_ret
  exact ⟨rfl, hb⟩
theorem field_list (s : ByteArray) (k n : Nat) : (s.extract k (k + n)) = ⟨((s.data.toList.drop k).take n).toArray⟩ := by
  apply ByteArray.ext
  apply Array.toList_inj.1
  rw [ByteArray.data_extract, Array.toList_extract, List.extract_eq_take_drop, Nat.add_sub_cancel_left]
end Go.Proofs.Ytdgbafpnfkedeaa
/-
  The contract of Rows. No condition.
-/
namespace Go.Proofs.Ytdgbafpnfkedeaa
set_option maxRecDepth 100000
open Go.RowKit
/-- The first j rows lie in block g, which has room for n. -/
def RState (g n seq j : Nat) (l : List Wr) (w : World) : Prop :=
  ∃ cur : Array Value, w.heap[g]? = some (.cells cur 43 (0, 0)) ∧ cur.size = n * 4 ∧ ∀ i x, i < j → l[i]? = some x → cur[i * 4]? = some (.string x.key) ∧ cur[i * 4 + 1]? = some (.int .u64 ((seq + i : Nat) : Int)) ∧ cur[i * 4 + 2]? = some (.int .i64 x.kind) ∧ cur[i * 4 + 3]? = some (.string x.val)
theorem RState.below {g n seq j : Nat} {l : List Wr} {w w' : World} (h : RState g n seq j l w) (hb : Below w.heap.size w w') : RState g n seq j l w' := by
  obtain ⟨cur, h1, h2, h3⟩ := h
  exact ⟨cur, (hb.block g (Array.getElem?_eq_some_iff.1 h1).1).trans h1, h2, h3⟩
theorem RState.cells {g n seq j : Nat} {l : List Wr} {w : World} (h : RState g n seq j l w) (hj : j < n) : (∃ v, w.cell? ⟨g, j * 4, none⟩ = some v) ∧ (∃ v, w.cell? ⟨g, j * 4 + 1, none⟩ = some v) ∧ (∃ v, w.cell? ⟨g, j * 4 + 2, none⟩ = some v) ∧ (∃ v, w.cell? ⟨g, j * 4 + 3, none⟩ = some v) ∧ ∀ k, w.frozen? ⟨g, k, none⟩ = false := by
  obtain ⟨cur, h1, h2, _⟩ := h
  have e : ∀ k, k < n * 4 → ∃ v, w.cell? ⟨g, k, none⟩ = some v := fun k hk => ⟨cur[k]'(by omega), by simp [World.cell?, h1]⟩
  exact ⟨e _ (by omega), e _ (by omega), e _ (by omega), e _ (by omega), fun k => by simp [World.frozen?, h1]⟩
theorem RState.put {g n seq j : Nat} {l : List Wr} {w : World} {x : Wr} (h : RState g n seq j l w) (hj : j < n) (hx : l[j]? = some x) :
    RState g n seq (j + 1) l ((((w.setCell ⟨g, j * 4, none⟩ (.string x.key)).setCell ⟨g, j * 4 + 1, none⟩ (.int .u64 ((seq + j : Nat) : Int))).setCell ⟨g, j * 4 + 2, none⟩ (.int .i64 x.kind)).setCell ⟨g, j * 4 + 3, none⟩ (.string x.val)) := by
  obtain ⟨cur, h1, h2, h3⟩ := h
  have k1 := heap_setCell_same w g (j * 4) _ _ (.string x.key) h1
  have k2 := heap_setCell_same _ g (j * 4 + 1) _ _ (.int .u64 ((seq + j : Nat) : Int)) k1
  have k3 := heap_setCell_same _ g (j * 4 + 2) _ _ (.int .i64 x.kind) k2
  have k4 := heap_setCell_same _ g (j * 4 + 3) _ _ (.string x.val) k3
  refine ⟨_, k4, by simpa using h2, fun i y hi hy => ?_⟩
  by_cases e : i = j
  · subst e
    rw [hx] at hy
    cases hy
    refine ⟨?_, ?_, ?_, ?_⟩
    all_goals
      simp only [Array.getElem?_setIfInBounds, Array.size_setIfInBounds]
      simp
      try omega
  · have hij : i < j := by omega
    obtain ⟨a1, a2, a3, a4⟩ := h3 i y hij hy
    refine ⟨?_, ?_, ?_, ?_⟩
    · rw [Array.getElem?_setIfInBounds_ne (by omega), Array.getElem?_setIfInBounds_ne (by omega), Array.getElem?_setIfInBounds_ne (by omega), Array.getElem?_setIfInBounds_ne (by omega)]; exact a1
    · rw [Array.getElem?_setIfInBounds_ne (by omega), Array.getElem?_setIfInBounds_ne (by omega), Array.getElem?_setIfInBounds_ne (by omega), Array.getElem?_setIfInBounds_ne (by omega)]; exact a2
    · rw [Array.getElem?_setIfInBounds_ne (by omega), Array.getElem?_setIfInBounds_ne (by omega), Array.getElem?_setIfInBounds_ne (by omega), Array.getElem?_setIfInBounds_ne (by omega)]; exact a3
    · rw [Array.getElem?_setIfInBounds_ne (by omega), Array.getElem?_setIfInBounds_ne (by omega), Array.getElem?_setIfInBounds_ne (by omega), Array.getElem?_setIfInBounds_ne (by omega)]; exact a4
/-- A round of Rows: the write in a block of its own, the rows so far. -/
structure REnc (wb g n seq j : Nat) (l : List Wr) (row : Array Value) (w1 V : World) : Prop where
  blk : V.heap[wb]? = some (.cells row 41 (0, 0))
  rs : RState g n seq j l V
  bel : Below w1.heap.size w1 V
theorem REnc.below {wb g n seq j : Nat} {l : List Wr} {row : Array Value} {w1 V V' : World} (h : REnc wb g n seq j l row w1 V) (hb : Below V.heap.size V V') : REnc wb g n seq j l row w1 V' :=
  ⟨(hb.block wb (Array.getElem?_eq_some_iff.1 h.blk).1).trans h.blk, h.rs.below hb, h.bel.trans (hb.mono h.bel.size)⟩
theorem REnc.cell {wb g n seq j : Nat} {l : List Wr} {row : Array Value} {w1 V : World} (h : REnc wb g n seq j l row w1 V) (k : Nat) : V.cell? ⟨wb, k, none⟩ = row[k]? := by simp [World.cell?, h.blk]
/-- What Rows returns. -/
def RowsB (seq : Nat) (l : List Wr) (w : World) (e : Ending) (w' : World) : Prop :=
  (if chkB seq l = 0 then ∃ g, e = .returned (.slice (some ⟨g, 0, none⟩) l.length l.length) ∧ w.heap.size ≤ g ∧ RState g l.length seq l.length l w' else e = .returned (.slice none 0 0)) ∧ Below w.heap.size w w'
set_option maxRecDepth 100000 in
set_option maxHeartbeats 4000000 in
theorem rows_good {seq : Nat} {a : Option Addr} {n c b o : Nat} {l : List Wr} {w : World} (h : Ws a n c b o l w) (hc : chkB seq l = 0) :
    Calls Try.prog 32 #[batchV seq a n c] w fun e w' => (∃ g, e = .returned (.slice (some ⟨g, 0, none⟩) n n) ∧ w.heap.size ≤ g ∧ RState g n seq n l w') ∧ Below w.heap.size w w' := by
  obtain ⟨k0, k1, k2, k3, k4⟩ := chkB_ok hc
  rw [h.len] at k0 k3
  obtain ⟨c0, c1⟩ := box_batch w seq (.slice a n c)
  have K := Lib.hid (below_alloc w (.cells #[.int .u64 (seq : Int), .slice a n c] 31))
  have C := Lib.hid (check_any (seq := seq) (h.below K.out (Nat.le_refl _)))
  rw [hc] at C
  have k4 := Lib.hid k4
  have h := Lib.hid h
  have hW : (w.alloc (.cells #[.int .u64 (seq : Int), .slice a n c] 31)).heap.size = w.heap.size + 1 := by simp
  go_enter Try.func32, Try.ntmps32
  go_wp2_with fail
  refine C.out.mono ?_
  rintro e w1 ⟨rfl, hb1⟩
  generalize w.alloc (.cells #[.int .u64 (seq : Int), .slice a n c] 31) = W at *
  have hw1 : w.heap.size < w1.heap.size := by have := hb1.size; omega
  have hb2 := Lib.hid (K.out.trans (hb1.mono K.out.size))
  have cs : Hid (∀ V, Below w1.heap.size w1 V → V.cell? ⟨w.heap.size, 0, none⟩ = some (.int .u64 (seq : Int)) ∧ V.cell? ⟨w.heap.size, 1, none⟩ = some (.slice a n c) ∧ Ws a n c b o l V ∧ w1.heap.size ≤ V.heap.size) := Lib.hid fun V hV =>
    ⟨(hV.cell (p := ⟨w.heap.size, 0, none⟩) hw1).trans ((hb1.cell (p := ⟨w.heap.size, 0, none⟩) (by simp only; omega)).trans c0), (hV.cell (p := ⟨w.heap.size, 1, none⟩) hw1).trans ((hb1.cell (p := ⟨w.heap.size, 1, none⟩) (by simp only; omega)).trans c1), (h.out.below hb2.out (Nat.le_refl _)).below hV (Nat.le_refl _), hV.size⟩
  clear C c0 c1 hb1 K hW
  obtain ⟨y0, y1, _, _⟩ := cs.out _ (Below.refl _ w1)
  obtain ⟨i0, hi, hz0, hz1, hz2⟩ := info_parts (show (Try.prog.info? 43).map (fun i => (i.zero, i.size, i.bytes)) = some (some (.agg #[.string .empty, .int .u64 0, .int .i64 0, .string .empty]), 4, 48) by kernel_rfl)
  have hmk : (Instr.makeSlice 27 (.int .i64 (n : Int)) (.int .i64 (n : Int))).run Try.prog w1 = .ok (.slice (some ⟨w1.heap.size, 0, none⟩) n n) (w1.alloc (.cells (madeCells #[.string .empty, .int .u64 0, .int .i64 0, .string .empty] (n * 4)) 43)) := by
    have := run_makeSlice w1 27 43 i0 _ Try.underlying27 hi hz0 .i64 .i64 (n : Int) (n : Int) (by omega) (by omega) (by rw [hz1]; omega) (by rw [hz2]; omega) (by omega)
    rw [hz1, Int.toNat_natCast] at this
    exact this
  have hg0 := heap_alloc_new w1 (.cells (madeCells #[.string .empty, .int .u64 0, .int .i64 0, .string .empty] (n * 4)) 43)
  have start : Hid (RState w1.heap.size n seq 0 l (w1.alloc (.cells (madeCells #[.string .empty, .int .u64 0, .int .i64 0, .string .empty] (n * 4)) 43)) ∧ Below w1.heap.size w1 (w1.alloc (.cells (madeCells #[.string .empty, .int .u64 0, .int .i64 0, .string .empty] (n * 4)) 43))) :=
    Lib.hid ⟨⟨_, hg0, size_madeCells _ _, fun i x h => absurd h (by omega)⟩, below_alloc _ _⟩
  clear hi hz0 hz1 hz2 hg0
  generalize hM : w1.alloc (.cells (madeCells #[.string .empty, .int .u64 0, .int .i64 0, .string .empty] (n * 4)) 43) = M at *
  clear hM
  obtain ⟨x0, x1, _, _⟩ := cs.out _ start.out.2
  go_wp2_with fail
  go_loopw [16] (fun i wr => ∃ j : Nat, j ≤ n ∧ i = .int .i64 (j : Int) ∧ RState w1.heap.size n seq j l wr ∧ Below w1.heap.size w1 wr) (fun i _ => n - (intOf i).toNat)
  case atStart => exact ⟨0, Nat.zero_le _, rfl, start.out.1, start.out.2⟩
  case round =>
    clear start x0 x1 y0 y1 hmk
    obtain ⟨j, hj, rfl, hR, hb⟩ := hrel
    by_cases hlt : j < n
    · obtain ⟨x0, x1, hws, _⟩ := cs.out _ hb
      obtain ⟨x, hx, rfl, e0, e1, e2⟩ := hws.at3 hlt
      obtain ⟨xk, xs, xv⟩ := x
      obtain ⟨h520, h2048⟩ := Wr.long_false (k4.out _ (List.mem_of_getElem? hx)).2
      simp only at e0 e1 e2 h520 h2048
      have hR := Lib.hid hR
      have hb := Lib.hid hb
      have hx := Lib.hid hx
      clear hws
      have CL := Lib.hid fun t (ht : t.size ≤ 281474976710656) u => clone_any t ht u
      have E0 : Hid (REnc wr.heap.size w1.heap.size n seq j l #[.int .i64 xk, .string xs, .string xv] w1 (wr.alloc (.cells #[.int .i64 xk, .string xs, .string xv] 41))) := Lib.hid ⟨heap_alloc_new _ _, hR.out.below (below_alloc _ _), hb.out.trans ((below_alloc _ _).mono hb.out.size)⟩
      have sw : IntKind.u64.wrap ((seq : Int) + (j : Int)) = ((seq + j : Nat) : Int) := by have := wrap_u64_nat (n := seq + j) (by omega); rw [← this]; congr 1
      have jw : IntKind.u64.wrap (j : Int) = (j : Int) := wrap_u64_nat (by omega)
      have hxl : xs.size ≤ 281474976710656 := by omega
      have hvl : xv.size ≤ 281474976710656 := by omega
      go_upto_region 7 with fail
      generalize wr.alloc (.cells #[.int .i64 xk, .string xs, .string xv] 41) = V0 at *
      have hRb : Hid (w1.heap.size < wr.heap.size) := Lib.hid (by obtain ⟨cur, h1, _⟩ := hR.out; exact (Array.getElem?_eq_some_iff.1 h1).1)
      generalize wr.heap.size = wb at *
      clear e0 e1 e2 x0 x1
      have f0 : V0.cell? ⟨wb, 0, none⟩ = some (.int .i64 xk) := E0.out.cell 0
      have f1 : V0.cell? ⟨wb, 1, none⟩ = some (.string xs) := E0.out.cell 1
      have f2 : V0.cell? ⟨wb, 2, none⟩ = some (.string xv) := E0.out.cell 2
      obtain ⟨p0, p1, _, _⟩ := cs.out _ E0.out.bel
      have hwb : w1.heap.size < wb := hRb.out
      have s0 : Hid (V0.cell? ⟨wb, 0, none⟩ = some (.int .i64 xk) ∧ V0.cell? ⟨wb, 1, none⟩ = some (.string xs) ∧ V0.cell? ⟨wb, 2, none⟩ = some (.string xv) ∧ V0.cell? ⟨w.heap.size, 0, none⟩ = some (.int .u64 (seq : Int))) := Lib.hid ⟨f0, f1, f2, p0⟩
      have keepS : Hid (∀ (u : World) (k : Nat) (y : Value), (u.cell? ⟨wb, 0, none⟩ = some (.int .i64 xk) ∧ u.cell? ⟨wb, 1, none⟩ = some (.string xs) ∧ u.cell? ⟨wb, 2, none⟩ = some (.string xv) ∧ u.cell? ⟨w.heap.size, 0, none⟩ = some (.int .u64 (seq : Int))) →
          ((u.setCell ⟨w1.heap.size, k, none⟩ y).cell? ⟨wb, 0, none⟩ = some (.int .i64 xk) ∧ (u.setCell ⟨w1.heap.size, k, none⟩ y).cell? ⟨wb, 1, none⟩ = some (.string xs) ∧ (u.setCell ⟨w1.heap.size, k, none⟩ y).cell? ⟨wb, 2, none⟩ = some (.string xv) ∧ (u.setCell ⟨w1.heap.size, k, none⟩ y).cell? ⟨w.heap.size, 0, none⟩ = some (.int .u64 (seq : Int)))) := Lib.hid fun u k y ⟨h0, h1, h2, h3⟩ =>
        ⟨(World.cell?_setCell_other _ _ _ _ (by first | (simp; done) | (simp; omega))).trans h0, (World.cell?_setCell_other _ _ _ _ (by first | (simp; done) | (simp; omega))).trans h1, (World.cell?_setCell_other _ _ _ _ (by first | (simp; done) | (simp; omega))).trans h2, (World.cell?_setCell_other _ _ _ _ (by first | (simp; done) | (simp; omega))).trans h3⟩
      go_region_held (fun v => v.cell? ⟨wb, 0, none⟩ = some (.int .i64 xk) ∧ v.cell? ⟨wb, 1, none⟩ = some (.string xs) ∧ v.cell? ⟨wb, 2, none⟩ = some (.string xv) ∧ v.cell? ⟨w.heap.size, 0, none⟩ = some (.int .u64 (seq : Int)))
        (first
          | with_reducible exact s2.out
          | with_reducible exact s1.out
          | exact s0.out
          | exact keepS.out _ _ _ (keepS.out _ _ _ (keepS.out _ _ _ (keepS.out _ _ _ s2.out))))
        (first
          | (go_at_call 44
             ((with_reducible refine (CL.out xs hxl _).mono ?_); rintro e u1 ⟨rfl, q1⟩)
             have E1 : Hid (REnc wb w1.heap.size n seq j l #[.int .i64 xk, .string xs, .string xv] w1 u1) := Lib.hid (E0.out.below ⟨q1.os, q1.tape, q1.output, q1.size, q1.block⟩)
             have s1 : Hid (u1.cell? ⟨wb, 0, none⟩ = some (.int .i64 xk) ∧ u1.cell? ⟨wb, 1, none⟩ = some (.string xs) ∧ u1.cell? ⟨wb, 2, none⟩ = some (.string xv) ∧ u1.cell? ⟨w.heap.size, 0, none⟩ = some (.int .u64 (seq : Int))) := Lib.hid ⟨E1.out.cell 0, E1.out.cell 1, E1.out.cell 2, (cs.out _ E1.out.bel).1⟩
             have q1 := Lib.hid q1)
          | (go_at_call 44
             ((with_reducible refine (CL.out xv hvl _).mono ?_); rintro e u2 ⟨rfl, q2⟩)
             have E2 : Hid (REnc wb w1.heap.size n seq j l #[.int .i64 xk, .string xs, .string xv] w1 u2) := Lib.hid (E1.out.below q2)
             have s2 : Hid (u2.cell? ⟨wb, 0, none⟩ = some (.int .i64 xk) ∧ u2.cell? ⟨wb, 1, none⟩ = some (.string xs) ∧ u2.cell? ⟨wb, 2, none⟩ = some (.string xv) ∧ u2.cell? ⟨w.heap.size, 0, none⟩ = some (.int .u64 (seq : Int))) := Lib.hid ⟨E2.out.cell 0, E2.out.cell 1, E2.out.cell 2, (cs.out _ E2.out.bel).1⟩
             have q2 := Lib.hid q2
             obtain ⟨⟨g0, hg0⟩, ⟨g1, hg1⟩, ⟨g2, hg2⟩, ⟨g3, hg3⟩, gf⟩ := E2.out.rs.cells hlt
             have gf0 := gf (j * 4)
             have gf1 := gf (j * 4 + 1)
             have gf2 := gf (j * 4 + 2)
             have gf3 := gf (j * 4 + 3)
             clear gf))
      all_goals (
        have R9 := Lib.hid (E2.out.rs.put (x := ⟨xk, xs, xv⟩) hlt hx.out)
        have B9 := Lib.hid ((((E2.out.bel.setCell (p := ⟨w1.heap.size, j * 4, none⟩) (Nat.le_refl _) (.string xs)).setCell (p := ⟨w1.heap.size, j * 4 + 1, none⟩) (Nat.le_refl _) (.int .u64 ((seq + j : Nat) : Int))).setCell (p := ⟨w1.heap.size, j * 4 + 2, none⟩) (Nat.le_refl _) (.int .i64 xk)).setCell (p := ⟨w1.heap.size, j * 4 + 3, none⟩) (Nat.le_refl _) (.string xv))
        clear E0 E1 E2 s0 s1 s2 keepS f0 f1 f2 p0 p1 hg0 hg1 hg2 hg3 gf0 gf1 gf2 gf3 hR hb hx q1 q2 CL
        go_wp2_with fail
        go_roundw
        case rel => exact ⟨j + 1, by omega, by go_num, R9.out, B9.out⟩
        case measure => simp [intOf]; omega)
    · have hjn : j = n := by omega
      subst hjn
      go_wp2_with fail
      go_returns
      exact ⟨⟨w1.heap.size, rfl, by omega, hR⟩, hb2.out.trans (hb.mono hb2.out.size)⟩
set_option maxRecDepth 100000 in
set_option maxHeartbeats 1000000 in
theorem rows_bad {seq : Nat} {a : Option Addr} {n c b o : Nat} {l : List Wr} {w : World} (h : Ws a n c b o l w) (hc : chkB seq l ≠ 0) :
    Calls Try.prog 32 #[batchV seq a n c] w fun e w' => e = .returned (.slice none 0 0) ∧ Below w.heap.size w w' := by
  obtain ⟨c0, c1⟩ := box_batch w seq (.slice a n c)
  have K := Lib.hid (below_alloc w (.cells #[.int .u64 (seq : Int), .slice a n c] 31))
  have C := Lib.hid (check_any (seq := seq) (h.below K.out (Nat.le_refl _)))
  obtain ⟨R, hR⟩ := named (chkB seq l)
  rw [← hR.out] at C hc
  have hcb : (R != 0) = true := by simpa using hc
  clear h hR
  go_enter Try.func32, Try.ntmps32
  go_wp2_with fail
  refine C.out.mono ?_
  rintro e w1 ⟨rfl, hb1⟩
  have hb := Lib.hid (K.out.trans (hb1.mono K.out.size))
  clear C hb1 K
  go_wp2_with fail
  go_returns
  exact ⟨rfl, hb.out⟩
theorem rows_any {seq : Nat} {a : Option Addr} {n c b o : Nat} {l : List Wr} {w : World} (h : Ws a n c b o l w) : Calls Try.prog 32 #[batchV seq a n c] w (RowsB seq l w) := by
  by_cases hc : chkB seq l = 0
  · refine (rows_good h hc).mono fun e w' hP => ?_
    unfold RowsB
    rw [if_pos hc, h.len]
    exact hP
  · refine (rows_bad h hc).mono fun e w' hP => ?_
    unfold RowsB
    rw [if_neg hc]
    exact hP
end Go.Proofs.Ytdgbafpnfkedeaa
/-
  The contracts of slices.Equal over writes, and of Same. No condition.
-/
namespace Go.Proofs.Ytdgbafpnfkedeaa
set_option maxRecDepth 100000
open Go.RowKit
theorem wr_eq {k1 k2 : Int} {a1 a2 v1 v2 : ByteArray} : (⟨k1, a1, v1⟩ : Wr) = ⟨k2, a2, v2⟩ ↔ k1 = k2 ∧ a1.toList = a2.toList ∧ v1.toList = v2.toList := by
  simp only [Wr.mk.injEq]
  exact ⟨fun ⟨h1, h2, h3⟩ => ⟨h1, by rw [h2], by rw [h3]⟩, fun ⟨h1, h2, h3⟩ => ⟨h1, bytes_inj h2, bytes_inj h3⟩⟩
theorem neq_wr (xk yk : Int) (xs ys xv yv : ByteArray) (B : Bool) (hB : B = true ↔ ¬ (⟨xk, xs, xv⟩ : Wr) = ⟨yk, ys, yv⟩) (u : World) : (binOp .neq 41 (.agg #[.int .i64 xk, .string xs, .string xv]) (.agg #[.int .i64 yk, .string ys, .string yv])).run Try.prog u = .ok (.bool B) u := by
  rw [wr_eq] at hB
  go_simp
  by_cases h1 : xk = yk
  · by_cases h2 : xs.toList = ys.toList
    · by_cases h3 : xv.toList = yv.toList
      · have : B = false := by cases B <;> simp_all
        simp [h1, h2, h3, this]
      · have : B = true := hB.2 (fun h => h3 h.2.2)
        simp [h1, h2, h3, this]
    · have : B = true := hB.2 (fun h => h2 h.2.1)
      simp [h1, h2, this]
  · have : B = true := hB.2 (fun h => h1 h.1)
    simp [h1, this]
end Go.Proofs.Ytdgbafpnfkedeaa
/-
  How rows lie in memory; the rows of a batch. No condition.
-/
namespace Go.Proofs.Ytdgbafpnfkedeaa
set_option maxRecDepth 100000
open Go.RowKit
/-- The rows of a batch's writes. -/
def rowsFrom : Nat → List Wr → List Rw
  | _, [] => []
  | seq, x :: r => ⟨x.key, seq, x.kind, x.val⟩ :: rowsFrom (seq + 1) r
theorem rowsFrom_len : ∀ (seq : Nat) (l : List Wr), (rowsFrom seq l).length = l.length
  | _, [] => rfl
  | seq, x :: r => by simp [rowsFrom, rowsFrom_len (seq + 1) r]
theorem rowsFrom_at : ∀ (seq : Nat) (l : List Wr) (i : Nat), (rowsFrom seq l)[i]? = l[i]?.map fun x => ⟨x.key, seq + i, x.kind, x.val⟩
  | _, [], i => by simp [rowsFrom]
  | seq, x :: r, 0 => by simp [rowsFrom]
  | seq, x :: r, i + 1 => by
    simp only [rowsFrom, List.getElem?_cons_succ]
    rw [rowsFrom_at (seq + 1) r i]
    have : seq + 1 + i = seq + (i + 1) := by omega
    rw [this]
theorem rowsFrom_take : ∀ (seq : Nat) (l : List Wr) (k : Nat), rowsFrom seq (l.take k) = (rowsFrom seq l).take k
  | _, [], k => by simp [rowsFrom]
  | seq, x :: r, 0 => by simp [rowsFrom]
  | seq, x :: r, k + 1 => by simp only [List.take_succ_cons, rowsFrom]; rw [rowsFrom_take (seq + 1) r k]
theorem rowsFrom_cut : ∀ (seq : Nat) (l k : List Wr), rowsFrom seq (l ++ k) = rowsFrom seq l ++ rowsFrom (seq + l.length) k
  | seq, [], k => by simp [rowsFrom]
  | seq, x :: r, k => by
    simp only [List.cons_append, rowsFrom, List.length_cons]
    rw [rowsFrom_cut (seq + 1) r k]
    have : seq + 1 + r.length = seq + (r.length + 1) := by omega
    rw [this]
/-- The rows of a batch: none, if it is not valid. -/
def rowsB (seq : Nat) (l : List Wr) : List Rw := if chkB seq l = 0 then rowsFrom seq l else []
/-- What the program's Rows returns, as rows. -/
theorem rs_of_rows {seq : Nat} {l : List Wr} {w w' : World} {e : Ending} (h : RowsB seq l w e w') : ∃ a n c b, e = .returned (.slice a n c) ∧ Rs a n c b 0 (rowsB seq l) w' ∧ (0 < n → w.heap.size ≤ b ∧ ∃ cur, w'.heap[b]? = some (.cells cur 43 (0, 0)) ∧ cur.size = n * 4) ∧ Below w.heap.size w w' := by
  obtain ⟨h1, hb⟩ := h
  unfold rowsB
  by_cases hc : chkB seq l = 0
  · rw [if_pos hc] at h1 ⊢
    obtain ⟨g, he, hg, cur, c1, c2, c3⟩ := h1
    obtain ⟨_, _, _, k3, _⟩ := chkB_ok hc
    refine ⟨_, _, _, g, he, ⟨rowsFrom_len _ _, Nat.le_refl _, by omega, fun _ => ⟨rfl, (Array.getElem?_eq_some_iff.1 c1).1⟩, fun j x hx => ?_⟩, fun _ => ⟨hg, cur, c1, c2⟩, hb⟩
    rw [rowsFrom_at] at hx
    obtain ⟨y, hy, rfl⟩ := Option.map_eq_some_iff.1 hx
    have hj : j < l.length := (List.getElem?_eq_some_iff.1 hy).1
    obtain ⟨a1, a2, a3, a4⟩ := c3 j y hj hy
    have e : ∀ k, w'.cell? ⟨g, k, none⟩ = cur[k]? := fun k => by simp [World.cell?, c1]
    rw [Nat.zero_add, e, e, e, e]
    exact ⟨a1, a2, a3, a4⟩
  · rw [if_neg hc] at h1 ⊢
    exact ⟨none, 0, 0, 0, h1, ⟨rfl, Nat.le_refl _, by omega, fun h => absurd h (by omega), RwsAt.nil _ _ _⟩, fun h => absurd h (by omega), hb⟩
end Go.Proofs.Ytdgbafpnfkedeaa
/-
  A table in memory as plain rows: its room, its least and greatest number, what a batch makes of it, what a key has at a number. No condition.
-/
namespace Go.Proofs.Ytdgbafpnfkedeaa
set_option maxRecDepth 100000
/-- A row of a batch that may be. -/
def shortR (x : Rw) : Prop := x.key.size ≤ 520 ∧ x.val.size ≤ 2048 ∧ 1 ≤ x.seq ∧ x.seq ≤ 72057594037928000
def sizeR (x : Rw) : Nat := x.key.size + x.val.size + 16
def roomR (l : List Rw) : Nat := l.foldl (fun a x => a + sizeR x) 0
def grR (l : List Rw) : Nat := l.foldl (fun a x => max a x.seq) 0
def lsR (l : List Rw) : Nat := if l.isEmpty then 0 else l.foldl (fun a x => min a x.seq) 18446744073709551616
theorem fold_in {f : Nat → Rw → Nat} (hf : ∀ a x y, f (f a x) y = f (f a y) x) (x : Rw) : ∀ (l : List Rw) (a : Nat), l.foldl f (f a x) = f (l.foldl f a) x
  | [], _ => rfl
  | y :: r, a => by rw [List.foldl_cons, List.foldl_cons, hf, fold_in hf x r]
theorem fold_ins {f : Nat → Rw → Nat} (hf : ∀ a x y, f (f a x) y = f (f a y) x) (l : List Rw) (x : Rw) (a : Nat) : (insR l x).foldl f a = f (l.foldl f a) x := by
  rw [List.Perm.foldl_eq' (insR_perm l x) (fun y _ z _ b => hf b y z) a, List.foldl_cons, fold_in hf]
theorem room_ins (l : List Rw) (x : Rw) : roomR (insR l x) = roomR l + sizeR x := fold_ins (fun a x y => by omega) l x 0
theorem gr_ins (l : List Rw) (x : Rw) : grR (insR l x) = max (grR l) x.seq := fold_ins (fun a x y => by omega) l x 0
theorem ls_ins (l : List Rw) (x : Rw) (hx : x.seq ≤ 18446744073709551615) : lsR (insR l x) = if l.length = 0 then x.seq else min (lsR l) x.seq := by
  have hn : (insR l x).isEmpty = false := by
    have := insR_len l x
    cases h : insR l x with
    | nil => rw [h] at this; simp at this
    | cons a b => rfl
  unfold lsR
  rw [hn, fold_ins (f := fun a x => min a x.seq) (fun a x y => by omega) l x]
  cases l with
  | nil => simp; omega
  | cons a b => simp
theorem room_le : ∀ {l : List Rw}, (∀ x ∈ l, shortR x) → roomR l ≤ 2584 * l.length := by
  intro l h
  unfold roomR
  suffices ∀ (l : List Rw) (a : Nat), (∀ x ∈ l, shortR x) → l.foldl (fun a x => a + sizeR x) a ≤ a + 2584 * l.length by have := this l 0 h; omega
  intro l
  induction l with
  | nil => intro a _; simp
  | cons y r ih =>
    intro a h
    have h1 := h y (List.mem_cons_self ..)
    have h2 := ih (a + sizeR y) (fun x hx => h x (List.mem_cons_of_mem _ hx))
    unfold shortR at h1
    rw [List.foldl_cons, List.length_cons]
    have : sizeR y ≤ 2584 := by unfold sizeR; omega
    omega
theorem gr_le {l : List Rw} (h : ∀ x ∈ l, shortR x) : grR l ≤ 72057594037928000 := by
  unfold grR
  suffices ∀ (l : List Rw) (a : Nat), a ≤ 72057594037928000 → (∀ x ∈ l, shortR x) → l.foldl (fun a x => max a x.seq) a ≤ 72057594037928000 from this l 0 (by omega) h
  intro l
  induction l with
  | nil => intro a ha _; exact ha
  | cons y r ih =>
    intro a ha h
    have h1 := (h y (List.mem_cons_self ..)).2.2.2
    exact ih _ (by dsimp only; omega) (fun x hx => h x (List.mem_cons_of_mem _ hx))
theorem ls_le {l : List Rw} (h : ∀ x ∈ l, shortR x) : lsR l ≤ 72057594037928000 := by
  unfold lsR
  cases l with
  | nil => simp
  | cons y r =>
    have h1 := (h y (List.mem_cons_self ..)).2.2.2
    simp only [List.isEmpty_cons, Bool.false_eq_true, if_false, List.foldl_cons]
    suffices ∀ (l : List Rw) (a : Nat), a ≤ 72057594037928000 → l.foldl (fun a x => min a x.seq) a ≤ 72057594037928000 from this r _ (by omega)
    intro l
    induction l with
    | nil => intro a ha; exact ha
    | cons y r ih => intro a ha; exact ih _ (by dsimp only; omega)
theorem short_in {x : Rw} (h : shortR x) : x.key.size ≤ 281474976710656 ∧ x.val.size ≤ 281474976710656 ∧ x.seq ≤ 18446744073709551615 := by unfold shortR at h; omega
/-- Rows put one behind the other. -/
def insAll (R xs : List Rw) : List Rw := xs.foldl insR R
theorem insAll_perm : ∀ (xs R : List Rw), (insAll R xs).Perm (xs ++ R)
  | [], _ => List.Perm.refl _
  | x :: r, R => by
    have h := insAll_perm r (insR R x)
    refine h.trans (((List.Perm.append_left r (insR_perm R x))).trans ?_)
    exact List.perm_middle
theorem insAll_len (xs R : List Rw) : (insAll R xs).length = xs.length + R.length := by rw [(insAll_perm xs R).length_eq, List.length_append]
theorem insAll_snoc (xs R : List Rw) (x : Rw) : insAll R (xs ++ [x]) = insR (insAll R xs) x := by unfold insAll; rw [List.foldl_append]; rfl
theorem apart_of_sorted {R : List Rw} (h : SortedR R) : Apart R := h.imp (fun {a b} hab hs => by rw [ahd_irrefl hs] at hab; cases hab)
theorem thr_free {R : List Rw} (hs : SortedR R) {x : Rw} (h : ∀ y ∈ R, ¬ sameP y x.key x.seq) : thr R x.key x.seq = false := by
  cases e : thr R x.key x.seq with
  | false => rfl
  | true =>
    obtain ⟨y, hy, hp⟩ := (thr_iff hs).1 e
    exact absurd hp (h y hy)
theorem insAll_sorted : ∀ {xs R : List Rw}, SortedR R → Apart (xs ++ R) → SortedR (insAll R xs)
  | [], _, hs, _ => hs
  | x :: r, R, hs, ha => by
    have ha' : Apart (r ++ x :: R) := apart_perm List.perm_middle.symm ha
    have hx : thr R x.key x.seq = false := thr_free hs fun y hy hp => (List.pairwise_cons.1 ha).1 y (List.mem_append_right _ hy) ⟨hp.1.symm, hp.2.symm⟩
    exact insAll_sorted (xs := r) (R := insR R x) (insR_sorted hs hx) (apart_perm (List.Perm.append_left r (insR_perm R x).symm) ha')
theorem insAll_free {xs R : List Rw} (hs : SortedR R) (ha : Apart (xs ++ R)) {j : Nat} {x : Rw} (hx : xs[j]? = some x) : SortedR (insAll R (xs.take j)) ∧ thr (insAll R (xs.take j)) x.key x.seq = false := by
  have h1 : Apart (xs.take j ++ R) := by
    have : (xs.take j ++ R).Sublist (xs ++ R) := List.Sublist.append (List.take_sublist _ _) (List.Sublist.refl _)
    exact List.Pairwise.sublist this ha
  have h2 := insAll_sorted hs h1
  refine ⟨h2, thr_free h2 fun y hy hp => ?_⟩
  have hy := (insAll_perm _ _).mem_iff.1 hy
  obtain ⟨hj, rfl⟩ := List.getElem?_eq_some_iff.1 hx
  have hsplit : xs = xs.take j ++ xs[j] :: xs.drop (j + 1) := by rw [List.getElem_cons_drop, List.take_append_drop]
  unfold Apart at ha
  rw [hsplit, List.append_assoc, List.cons_append, List.pairwise_append] at ha
  rcases List.mem_append.1 hy with h3 | h3
  · exact ha.2.2 y h3 _ (List.mem_cons_self ..) hp
  · exact (List.pairwise_cons.1 ha.2.1).1 y (List.mem_append_right _ h3) ⟨hp.1.symm, hp.2.symm⟩
theorem rowsFrom_seq {seq : Nat} {l : List Wr} {j : Nat} {x : Rw} (h : (rowsFrom seq l)[j]? = some x) : x.seq = seq + j := by
  rw [rowsFrom_at] at h
  obtain ⟨y, _, rfl⟩ := Option.map_eq_some_iff.1 h
  rfl
theorem rowsFrom_apart (seq : Nat) (l : List Wr) : Apart (rowsFrom seq l) := by
  unfold Apart
  rw [List.pairwise_iff_getElem]
  intro i j hi hj hij hp
  have h1 := rowsFrom_seq (List.getElem?_eq_getElem hi)
  have h2 := rowsFrom_seq (List.getElem?_eq_getElem hj)
  have := hp.2
  omega
theorem rowsFrom_short {seq : Nat} {l : List Wr} (h : chkB seq l = 0) : ∀ x ∈ rowsFrom seq l, shortR x := by
  intro x hx
  obtain ⟨h0, h1, h2, h3, h4⟩ := chkB_ok h
  obtain ⟨j, hj⟩ := List.getElem?_of_mem hx
  rw [rowsFrom_at] at hj
  obtain ⟨y, hy, rfl⟩ := Option.map_eq_some_iff.1 hj
  have hl := (h4 y (List.mem_of_getElem? hy)).2
  have hjl := (List.getElem?_eq_some_iff.1 hy).1
  unfold Wr.long at hl
  simp only [Bool.or_eq_false_iff, decide_eq_false_iff_not] at hl
  unfold shortR
  dsimp only
  omega
/-- What a batch makes of rows, and what is told. -/
def addR (R : List Rw) (seq : Nat) (ws : List Wr) : List Rw × Int :=
  if chkB seq ws ≠ 0 then (R, chkB seq ws) else if (rowsFrom seq ws).any (fun x => thr R x.key x.seq) = true then (R, 2) else (insAll R (rowsFrom seq ws), 0)
theorem addR_bad {R : List Rw} {seq : Nat} {ws : List Wr} (h : chkB seq ws ≠ 0) : addR R seq ws = (R, chkB seq ws) := by unfold addR; rw [if_pos h]
theorem addR_taken {R : List Rw} {seq : Nat} {ws : List Wr} (h : chkB seq ws = 0) {x : Rw} (hx : x ∈ rowsFrom seq ws) (ht : thr R x.key x.seq = true) : addR R seq ws = (R, 2) := by
  unfold addR
  rw [if_neg (by rw [h]; simp), if_pos (List.any_eq_true.2 ⟨x, hx, ht⟩)]
theorem addR_good {R : List Rw} {seq : Nat} {ws : List Wr} (h : chkB seq ws = 0) (hf : ∀ x ∈ rowsFrom seq ws, thr R x.key x.seq = false) : addR R seq ws = (insAll R (rowsFrom seq ws), 0) := by
  unfold addR
  rw [if_neg (by rw [h]; simp), if_neg]
  rw [List.any_eq_true]
  rintro ⟨x, hx, ht⟩
  rw [hf x hx] at ht
  cases ht
theorem free_apart {R : List Rw} (hs : SortedR R) {seq : Nat} {ws : List Wr} (hf : ∀ x ∈ rowsFrom seq ws, thr R x.key x.seq = false) : Apart (rowsFrom seq ws ++ R) := by
  unfold Apart
  rw [List.pairwise_append]
  refine ⟨rowsFrom_apart seq ws, apart_of_sorted hs, fun x hx y hy hp => ?_⟩
  have := (thr_iff hs (k := x.key) (q := x.seq)).2 ⟨y, hy, ⟨hp.1.symm, hp.2.symm⟩⟩
  rw [hf x hx] at this
  cases this
/-- The batch's rows are all put, or none. -/
theorem addR_cases (R : List Rw) (seq : Nat) (ws : List Wr) : ((addR R seq ws).1 = R ∧ (addR R seq ws).2 ≠ 0) ∨ (chkB seq ws = 0 ∧ (∀ x ∈ rowsFrom seq ws, thr R x.key x.seq = false) ∧ addR R seq ws = (insAll R (rowsFrom seq ws), 0)) := by
  by_cases h : chkB seq ws = 0
  · by_cases h2 : ∃ x ∈ rowsFrom seq ws, thr R x.key x.seq = true
    · obtain ⟨x, hx, ht⟩ := h2
      rw [addR_taken h hx ht]
      exact .inl ⟨rfl, by simp⟩
    · have hf : ∀ x ∈ rowsFrom seq ws, thr R x.key x.seq = false := fun x hx => by
        cases e : thr R x.key x.seq with
        | false => rfl
        | true => exact absurd ⟨x, hx, e⟩ h2
      exact .inr ⟨h, hf, addR_good h hf⟩
  · rw [addR_bad h]
    exact .inl ⟨rfl, h⟩
theorem addR_sorted {R : List Rw} (hs : SortedR R) (seq : Nat) (ws : List Wr) : SortedR (addR R seq ws).1 := by
  rcases addR_cases R seq ws with ⟨h, _⟩ | ⟨_, h2, h3⟩
  · rw [h]; exact hs
  · rw [h3]; exact insAll_sorted hs (free_apart hs h2)
theorem addR_short {R : List Rw} (hs : ∀ x ∈ R, shortR x) (seq : Nat) (ws : List Wr) : ∀ x ∈ (addR R seq ws).1, shortR x := by
  rcases addR_cases R seq ws with ⟨h, _⟩ | ⟨h1, _, h3⟩
  · rw [h]; exact hs
  · rw [h3]
    intro x hx
    rcases List.mem_append.1 ((insAll_perm _ _).mem_iff.1 hx) with h | h
    · exact rowsFrom_short h1 x h
    · exact hs x h
theorem addR_len (R : List Rw) (seq : Nat) (ws : List Wr) : (addR R seq ws).1.length ≤ R.length + 64 := by
  rcases addR_cases R seq ws with ⟨h, _⟩ | ⟨h1, _, h3⟩
  · rw [h]; omega
  · rw [h3]
    show (insAll R (rowsFrom seq ws)).length ≤ _
    rw [insAll_len, rowsFrom_len]
    have := (chkB_ok h1).2.2.2.1
    omega
/-- What a key has at a number. -/
def getR (R : List Rw) (key : ByteArray) (at' : Nat) : Option Rw := match R.drop (plc R key at') with
  | [] => none
  | x :: _ => if x.key.toList = key.toList then some x else none
end Go.Proofs.Ytdgbafpnfkedeaa
/-
  A table in memory, or none: what it reads as; Room, Len, Least, Greatest, version, Get. Condition: at most 1048575 rows.
-/
namespace Go.Proofs.Ytdgbafpnfkedeaa
set_option maxRecDepth 100000
open Go.RowKit
attribute [local go_sem] eq_node ne_node eq_list
theorem eq_table (q : Option Addr) (w : World) : (binOp .eql 25 (.pointer q) (.pointer none)).run Try.prog w = .ok (.bool q.isNone) w := run_eql_pointer_nil _ _ _ (by kernel_rfl)
attribute [local go_sem] eq_table
/-- A table's own block. -/
def TabAt (p : Nat) (L : Option Addr) (R : List Rw) (w : World) : Prop := w.heap[p]? = some (.cells #[.pointer L, .int .i64 (roomR R : Int), .int .u64 (lsR R : Int), .int .u64 (grR R : Int)] 54 (0, 0))
theorem TabAt.cells {p : Nat} {L : Option Addr} {R : List Rw} {w : World} (h : TabAt p L R w) : w.cell? ⟨p, 0, none⟩ = some (.pointer L) ∧ w.cell? ⟨p, 1, none⟩ = some (.int .i64 (roomR R : Int)) ∧ w.cell? ⟨p, 2, none⟩ = some (.int .u64 (lsR R : Int)) ∧ w.cell? ⟨p, 3, none⟩ = some (.int .u64 (grR R : Int)) := by
  unfold TabAt at h
  refine ⟨?_, ?_, ?_, ?_⟩ <;> (unfold World.cell?; rw [h]; rfl)
theorem TabAt.grow {p : Nat} {L : Option Addr} {R : List Rw} {w w' : World} (h : TabAt p L R w) (hb : Below w.heap.size w w') : TabAt p L R w' := (hb.block p (Array.getElem?_eq_some_iff.1 h).1).trans h
/-- A table that may be none, or made by nobody. -/
def TabQ (q : Option Addr) (R : List Rw) (w : World) : Prop := (q = none ∧ R = []) ∨ ∃ p L l, q = some ⟨p, 0, none⟩ ∧ TabAt p L R w ∧ Ls L l w ∧ rowsL l = R ∧ R.length ≤ 1048575
theorem TabQ.grow {q : Option Addr} {R : List Rw} {w w' : World} (h : TabQ q R w) (hb : Below w.heap.size w w') : TabQ q R w' := by
  rcases h with h | ⟨p, L, l, h1, h2, h3, h4, h5⟩
  · exact .inl h
  · exact .inr ⟨p, L, l, h1, h2.grow hb, h3.grow hb, h4, h5⟩
set_option maxHeartbeats 2000000 in
theorem room_any {q : Option Addr} {R : List Rw} {w : World} (h : TabQ q R w) : Calls Try.prog 24 #[.pointer q] w fun e w' => e = .returned (.int .i64 (roomR R : Int)) ∧ w' = w := by
  rcases h with ⟨rfl, rfl⟩ | ⟨p, L, l, rfl, h, _, _, _⟩
  · rw [show roomR [] = 0 from rfl]
    go_enter Try.func24, Try.ntmps24
    go_wp2_with fail
    go_returns
    exact ⟨rfl, rfl⟩
  · obtain ⟨c0, c1, c2, c3⟩ := h.cells
    clear h
    generalize roomR R = M at *
    go_enter Try.func24, Try.ntmps24
    go_wp2_with fail
    go_returns
    exact ⟨rfl, rfl⟩
set_option maxHeartbeats 2000000 in
theorem least_any {q : Option Addr} {R : List Rw} {w : World} (h : TabQ q R w) : Calls Try.prog 26 #[.pointer q] w fun e w' => e = .returned (.int .u64 (lsR R : Int)) ∧ w' = w := by
  rcases h with ⟨rfl, rfl⟩ | ⟨p, L, l, rfl, h, _, _, _⟩
  · rw [show lsR [] = 0 from rfl]
    go_enter Try.func26, Try.ntmps26
    go_wp2_with fail
    go_returns
    exact ⟨rfl, rfl⟩
  · obtain ⟨c0, c1, c2, c3⟩ := h.cells
    clear h
    generalize lsR R = M at *
    go_enter Try.func26, Try.ntmps26
    go_wp2_with fail
    go_returns
    exact ⟨rfl, rfl⟩
set_option maxHeartbeats 2000000 in
theorem greatest_any {q : Option Addr} {R : List Rw} {w : World} (h : TabQ q R w) : Calls Try.prog 27 #[.pointer q] w fun e w' => e = .returned (.int .u64 (grR R : Int)) ∧ w' = w := by
  rcases h with ⟨rfl, rfl⟩ | ⟨p, L, l, rfl, h, _, _, _⟩
  · rw [show grR [] = 0 from rfl]
    go_enter Try.func27, Try.ntmps27
    go_wp2_with fail
    go_returns
    exact ⟨rfl, rfl⟩
  · obtain ⟨c0, c1, c2, c3⟩ := h.cells
    clear h
    generalize grR R = M at *
    go_enter Try.func27, Try.ntmps27
    go_wp2_with fail
    go_returns
    exact ⟨rfl, rfl⟩
set_option maxHeartbeats 2000000 in
theorem tlen_any {q : Option Addr} {R : List Rw} {w : World} (h : TabQ q R w) : Calls Try.prog 25 #[.pointer q] w fun e w' => e = .returned (.int .i64 (R.length : Int)) ∧ w' = w := by
  rcases h with ⟨rfl, rfl⟩ | ⟨p, L, l, rfl, h, hL, hR, _⟩
  · rw [show ([] : List Rw).length = 0 from rfl]
    go_enter Try.func25, Try.ntmps25
    go_wp2_with fail
    go_returns
    exact ⟨rfl, rfl⟩
  · obtain ⟨c0, c1, c2, c3⟩ := h.cells
    have LN := len_l hL
    rw [show l.length = R.length by rw [← hR, rows_len]] at LN
    have LN := Lib.hid LN
    clear h hL hR
    generalize R.length = M at *
    go_enter Try.func25, Try.ntmps25
    go_wp2_with (go_at_call 41; ((with_reducible refine LN.out.mono ?_); rintro e w2 ⟨rfl, rfl⟩))
    go_returns
    exact ⟨rfl, rfl⟩
/-- A version, as it is told. -/
def verV : Option Rw → Value
  | none => .tuple #[rowV zeroR, .bool false]
  | some x => .tuple #[rowV x, .bool true]
theorem seekR_head (l : List Rw) : seekR l = verV l.head? := by cases l <;> rfl
end Go.Proofs.Ytdgbafpnfkedeaa
