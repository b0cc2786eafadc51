/-
  How a disk lies in memory: which block is what to it, and what stands while other blocks turn. No condition.
-/
import Derived.Test.YtheealfappjabaaDiskMath
import Derived.Test.YtheealfappjabaaRows
import Derived.Test.YtheealfappjabaaBut
import Derived.Maps.Own
import Derived.Maps.OwnOps
import Derived.Maps.OwnSet
import Derived.Maps.AppendAt
namespace Go.Proofs.Ytheealfappjabaa
open Go.RowKit Go.Maps
inductive Role
  | disk | names | kept | wait
  | file (i : Nat)
  | data (i : Nat)
deriving DecidableEq
abbrev Own := Nat → Option Role
def idOf (own : Own) : Value → Option (DataW Unit × List MemPlace)
  | .pointer none => some (.nil, [])
  | .pointer (some ⟨b, 0, none⟩) => match own b with
    | some (.file i) => some (.lit (.int .u64 (i : Int)), [])
    | _ => none
  | _ => none
theorem idOf_file {own : Own} {b i : Nat} (h : own b = some (.file i)) : idOf own (.pointer (some ⟨b, 0, none⟩)) = some (.lit (.int .u64 (i : Int)), []) := by simp [idOf, h]
theorem idOf_lit {own : Own} {v : Value} {i : Nat} {ps : List MemPlace} (h : idOf own v = some (.lit (.int .u64 (i : Int)), ps)) : ∃ b, v = .pointer (some ⟨b, 0, none⟩) ∧ own b = some (.file i) := by
  unfold idOf at h
  split at h
  · cases h
  · rename_i b
    split at h
    · rename_i j hj
      simp only [Option.some.injEq, Prod.mk.injEq, DataW.lit.injEq, Lit.int.injEq, true_and] at h
      have : j = i := by omega
      subst this
      exact ⟨b, rfl, hj⟩
    · cases h
  · cases h
theorem idOf_nil {own : Own} {v : Value} {ps : List MemPlace} (h : idOf own v = some (.nil, ps)) : v = .pointer none := by
  unfold idOf at h
  split at h
  · rfl
  · split at h <;> cases h
  · cases h
/-- own' has all that own has, of files. -/
def More (own own' : Own) : Prop := ∀ b i, own b = some (.file i) → own' b = some (.file i)
theorem idOf_more {own own' : Own} (h : More own own') {v : Value} {z : DataW Unit × List MemPlace} (hv : idOf own v = some z) : idOf own' v = some z := by
  unfold idOf at hv ⊢
  split at hv
  · exact hv
  · split at hv
    · rename_i b i hi
      rw [h _ _ hi]; exact hv
    · cases hv
  · cases hv
def PtrH (own : Own) (v : Value) (f : Option Nat) : Prop :=
  match f with
  | none => v = .pointer none
  | some i => ∃ b, v = .pointer (some ⟨b, 0, none⟩) ∧ own b = some (.file i)
theorem PtrH.more {own own' : Own} (h : More own own') {v : Value} {f : Option Nat} (hp : PtrH own v f) : PtrH own' v f := by
  cases f
  · exact hp
  · obtain ⟨b, rfl, hb⟩ := hp
    exact ⟨b, rfl, h _ _ hb⟩
def RowsAre (own : Own) : List Chg → List Value → Prop
  | [], xs => xs = []
  | c :: r, xs => ∃ v ys, xs = encStr c.frm :: encStr c.to :: v :: ys ∧ PtrH own v c.file ∧ RowsAre own r ys
theorem RowsAre.more {own own' : Own} (h : More own own') : ∀ {l : List Chg} {xs : List Value}, RowsAre own l xs → RowsAre own' l xs
  | [], _, hx => hx
  | _ :: _, _, ⟨v, ys, e, hp, hr⟩ => ⟨v, ys, e, hp.more h, RowsAre.more h hr⟩
theorem RowsAre.snoc {own : Own} {c : Chg} {v : Value} (hv : PtrH own v c.file) : ∀ {l : List Chg} {xs : List Value}, RowsAre own l xs → RowsAre own (l ++ [c]) (xs ++ [encStr c.frm, encStr c.to, v])
  | [], _, hx => by cases hx; exact ⟨v, [], rfl, hv, rfl⟩
  | _ :: _, _, ⟨u, ys, e, hp, hr⟩ => ⟨u, _, by rw [e]; rfl, hp, hr.snoc hv⟩
theorem RowsAre.at {own : Own} : ∀ {l : List Chg} {xs : List Value}, RowsAre own l xs → ∀ {k : Nat} {c : Chg}, l[k]? = some c → ∃ v, xs[3 * k]? = some (encStr c.frm) ∧ xs[3 * k + 1]? = some (encStr c.to) ∧ xs[3 * k + 2]? = some v ∧ PtrH own v c.file
  | [], _, _, _, _, h => by cases h
  | _ :: _, _, ⟨u, ys, e, hp, _⟩, 0, c, h => by
    simp only [List.length_cons, Nat.zero_lt_succ, List.getElem?_eq_getElem, List.getElem_cons_zero, Option.some.injEq] at h
    subst h
    exact ⟨u, by simp [e], by simp [e], by simp [e], hp⟩
  | _ :: _, _, ⟨u, ys, e, _, hr⟩, k + 1, c, h => by
    obtain ⟨v, h1, h2, h3, h4⟩ := hr.at (k := k) (c := c) (by simpa using h)
    refine ⟨v, ?_, ?_, ?_, h4⟩
    · rw [e, show 3 * (k + 1) = 3 * k + 1 + 1 + 1 by omega]; simpa using h1
    · rw [e, show 3 * (k + 1) + 1 = 3 * k + 1 + 1 + 1 + 1 by omega]; simpa using h2
    · rw [e, show 3 * (k + 1) + 2 = 3 * k + 2 + 1 + 1 + 1 by omega]; simpa using h3
/-- Bytes as cells. -/
def rowB (l : List UInt8) : List Value := l.map fun b => Value.int .u8 (b.toNat : Int)
def MapAt (own : Own) (b : Nat) (d : Dir) (w : World) : Prop := w.ownsMap Try.prog 9 (idOf own) b d.length (toD d)
def FileAt (own : Own) (b i : Nat) (f : FileS) (w : World) : Prop :=
  ∃ v, w.heap[b]? = some (.cells #[v, .int .i64 (f.sure : Int)] 59 (0, 0)) ∧ w.ownsRow 0 5 1 v f.data.length (rowB f.data) ∧ ∀ g, v.ownBlock = some g → own g = some (.data i)
def WaitAt (own : Own) (v : Value) (l : List Chg) (w : World) : Prop :=
  ∃ xs, w.ownsRow 0 72 3 v l.length xs ∧ RowsAre own l xs ∧ ∀ g, v.ownBlock = some g → own g = some .wait
def diskCells (st : St) (nb kb : Nat) (pv : Value) : Array Value := #[.int .i64 st.room, .int .i64 st.steps, .map (some nb), .int .i64 st.used, .map (some kb), pv, .int .i64 st.fuse, .bool st.down]
structure DiskAt (base : Nat) (own : Own) (p : Nat) (st : St) (w : World) : Prop where
  lo : ∀ b, own b ≠ none → base ≤ b ∧ b < w.heap.size
  inj : ∀ a b r, own a = some r → own b = some r → a = b
  few : ∀ b i, own b = some (.file i) → i < st.files.length
  disk : ∃ nb kb pv, own p = some .disk ∧ own nb = some .names ∧ own kb = some .kept ∧ w.heap[p]? = some (.cells (diskCells st nb kb pv) 52 (0, 0)) ∧ MapAt own nb st.dir w ∧ MapAt own kb st.kept w ∧ WaitAt own pv st.wait w
  files : ∀ b i, own b = some (.file i) → FileAt own b i (fileOf st.files i) w
theorem row_keep {w w' : World} {e : TypeId} {size n : Nat} {v : Value} {xs : List Value} (h : w.ownsRow 0 e size v n xs) (hk : ∀ g, v.ownBlock = some g → w'.heap[g]? = w.heap[g]?) : w'.ownsRow 0 e size v n xs := by
  obtain ⟨h1, h2⟩ := h
  refine ⟨h1, ?_⟩
  rcases h2 with hn | ⟨g, cap, cur, rfl, a, b, c⟩
  · exact .inl hn
  · exact .inr ⟨g, cap, cur, rfl, a, by rw [hk g rfl]; exact b, c⟩
theorem map_keep {w w' : World} {own own' : Own} {b : Nat} {d : Dir} (h : MapAt own b d w) (hm : More own own') (hk : w'.heap[b]? = w.heap[b]?) : MapAt own' b d w' := by
  obtain ⟨es, clock, hb, F, hs, hD⟩ := h
  have hs' : ∀ x ∈ es.toList, ∀ z, idOf own x.val = some z → idOf own' x.val = some z := fun x _ z hz => idOf_more hm hz
  have F' := (F.stay hs').1
  have e := (F.stay hs').2.1
  exact ⟨es, clock, hk.trans hb, F', hs, by rw [hD, ← e]⟩
theorem file_keep {w w' : World} {own own' : Own} {b i : Nat} {f : FileS} (h : FileAt own b i f w) (hb : w'.heap[b]? = w.heap[b]?) (hk : ∀ g, own g = some (.data i) → w'.heap[g]? = w.heap[g]? ∧ own' g = some (.data i)) : FileAt own' b i f w' := by
  obtain ⟨v, h1, h2, h3⟩ := h
  exact ⟨v, hb.trans h1, row_keep h2 (fun g hg => (hk g (h3 g hg)).1), fun g hg => (hk g (h3 g hg)).2⟩
theorem wait_keep {w w' : World} {own own' : Own} {v : Value} {l : List Chg} (h : WaitAt own v l w) (hm : More own own') (hk : ∀ g, own g = some .wait → w'.heap[g]? = w.heap[g]? ∧ own' g = some .wait) : WaitAt own' v l w' := by
  obtain ⟨xs, h2, hr, h3⟩ := h
  exact ⟨xs, row_keep h2 (fun g hg => (hk g (h3 g hg)).1), hr.more hm, fun g hg => (hk g (h3 g hg)).2⟩
theorem More.refl (own : Own) : More own own := fun _ _ h => h
theorem DiskAt.keep {base : Nat} {own : Own} {p : Nat} {st : St} {w w' : World} (h : DiskAt base own p st w) (hk : ∀ k, own k ≠ none → w'.heap[k]? = w.heap[k]?) (hs : w.heap.size ≤ w'.heap.size) : DiskAt base own p st w' := by
  obtain ⟨nb, kb, pv, o1, o2, o3, hp, hn, hq, hw⟩ := h.disk
  refine ⟨fun b hb => ⟨(h.lo b hb).1, Nat.lt_of_lt_of_le (h.lo b hb).2 hs⟩, h.inj, h.few, ⟨nb, kb, pv, o1, o2, o3, (hk p (by simp [o1])).trans hp, map_keep hn (.refl _) (hk nb (by simp [o2])), map_keep hq (.refl _) (hk kb (by simp [o3])), wait_keep hw (.refl _) fun g hg => ⟨hk g (by simp [hg]), hg⟩⟩, ?_⟩
  intro b i hb
  exact file_keep (h.files b i hb) (hk b (by simp [hb])) fun g hg => ⟨hk g (by simp [hg]), hg⟩
theorem DiskAt.same {base : Nat} {own : Own} {p : Nat} {st : St} {w w' : World} (h : DiskAt base own p st w) (e : w'.heap = w.heap) : DiskAt base own p st w' := h.keep (fun k _ => by rw [e]) (by rw [e]; exact Nat.le_refl _)
theorem DiskAt.lt {base : Nat} {own : Own} {p : Nat} {st : St} {w : World} (h : DiskAt base own p st w) {b : Nat} (hb : own b ≠ none) : b < w.heap.size := (h.lo b hb).2
theorem DiskAt.below {base : Nat} {own : Own} {p : Nat} {st : St} {w w' : World} (h : DiskAt base own p st w) (hb : Below w.heap.size w w') : DiskAt base own p st w' := h.keep (fun k hk => hb.block k (h.lt hk)) hb.size
/-- What a call that turns a disk leaves: of what was not the disk's, all stands, and is not the disk's. -/
structure Grow (own own' : Own) (w w' : World) : Prop where
  os : w'.os = w.os
  tape : w'.tape = w.tape
  output : w'.output = w.output
  size : w.heap.size ≤ w'.heap.size
  block : ∀ k, k < w.heap.size → own k = none → w'.heap[k]? = w.heap[k]?
  free : ∀ k, k < w.heap.size → own k = none → own' k = none
theorem Grow.refl (own : Own) (w : World) : Grow own own w w := ⟨rfl, rfl, rfl, Nat.le_refl _, fun _ _ _ => rfl, fun _ _ h => h⟩
theorem Grow.trans {o1 o2 o3 : Own} {x y z : World} (h : Grow o1 o2 x y) (k : Grow o2 o3 y z) : Grow o1 o3 x z :=
  ⟨k.os.trans h.os, k.tape.trans h.tape, k.output.trans h.output, Nat.le_trans h.size k.size, fun j hj hb => (k.block j (Nat.lt_of_lt_of_le hj h.size) (h.free j hj hb)).trans (h.block j hj hb),
   fun j hj hb => k.free j (Nat.lt_of_lt_of_le hj h.size) (h.free j hj hb)⟩
theorem Grow.of_below {own : Own} {B : Nat} {w w' : World} (h : Below B w w') (hB : w.heap.size ≤ B) : Grow own own w w' := ⟨h.os, h.tape, h.output, h.size, fun k hk _ => h.block k (Nat.lt_of_lt_of_le hk hB), fun _ _ h => h⟩
theorem Grow.of_but {own : Own} {b : Nat} {w w' : World} (h : But b w w') (hb : own b ≠ none) : Grow own own w w' := ⟨h.os, h.tape, h.output, h.size, fun k hk hn => h.block k hk (fun e => hb (e ▸ hn)), fun _ _ h => h⟩
theorem Grow.below {base : Nat} {own own' : Own} {p : Nat} {st : St} {w w' : World} (h : Grow own own' w w') (hd : DiskAt base own p st w) (hs : base ≤ w.heap.size) : Below base w w' :=
  ⟨h.os, h.tape, h.output, h.size, fun k hk => h.block k (Nat.lt_of_lt_of_le hk hs) (by
    cases e : own k
    · rfl
    · exact absurd (hd.lo k (by simp [e])).1 (by omega))⟩
/-- Two disks that share no block: what is done to one leaves the other. -/
def Apart (o1 o2 : Own) : Prop := ∀ k, o1 k = none ∨ o2 k = none
theorem Apart.symm {o1 o2 : Own} (h : Apart o1 o2) : Apart o2 o1 := fun k => (h k).symm
theorem DiskAt.other {base p : Nat} {o1 o1' o2 : Own} {st : St} {w w' : World} (h : DiskAt base o2 p st w) (ha : Apart o1 o2) (hg : Grow o1 o1' w w') : DiskAt base o2 p st w' :=
  h.keep (fun k hk => hg.block k (h.lt hk) ((ha k).resolve_right hk)) hg.size
theorem Apart.grow {base p : Nat} {o1 o1' o2 : Own} {st : St} {w w' : World} (ha : Apart o1 o2) (h : DiskAt base o2 p st w) (hg : Grow o1 o1' w w') : Apart o1' o2 := fun k => by
  by_cases e : o2 k = none
  · exact .inr e
  · exact .inl (hg.free k (h.lt e) ((ha k).resolve_right e))
end Go.Proofs.Ytheealfappjabaa
