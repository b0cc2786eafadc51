/-
  A slice of texts that came in, or that a call made: where it lies and what it holds. No condition.
-/
import Derived.Test.YtccdbodemoefkaaDoorSliceArg
namespace Go.Proofs.YtccdbodemoefkaaDoor
set_option maxRecDepth 100000
open Go Go.RowKit Go.ChangeShapes Go.WideShapes Go.Deep
def cellsT (x : ByteArray) : List Value := [.string x]
structure TextsAt (a : Option Addr) (n c b o : Nat) (l : List ByteArray) (w : World) : Prop where
  sl : SlOf 1 cellsT a n c b o l w
  nil : a = none → n = 0 ∧ c = 0
theorem TextsAt.len {a : Option Addr} {n c b o : Nat} {l : List ByteArray} {w : World} (h : TextsAt a n c b o l w) : l.length = n := h.sl.len
theorem TextsAt.addr {a : Option Addr} {n c b o : Nat} {l : List ByteArray} {w : World} (h : TextsAt a n c b o l w) (h0 : 0 < n) : a = some ⟨b, o, none⟩ ∧ b < w.heap.size := h.sl.addr h0
theorem open_texts {H : Type} {enc : TypeId × Value → H} {W : World} {a0 : Option Addr} {len cap fuel : Nat} {x : DataW H × List MemPlace} {ts : List TypeId} {ds : List (DataW H)}
    (hf : DataW.trod enc Tryd.prog W 0 (fun _ => true) true fuel 27 [.slice a0 len cap] = some x) (hsz : (DataW.weightsEach Tryd.prog ts ds).all (· ≤ reachBytes) = true) {j : Nat} (ht : ts[j]? = some 27) (hd : ds[j]? = some x.1) :
    ∃ b o l, TextsAt a0 len cap b o l W ∧ ∀ v ∈ l, v.size ≤ reachBytes := by
  have i1 : Tryd.prog.cellsOf 9 = 1 := by kernel_rfl
  obtain ⟨b, o, l, hs, hg⟩ := open_slice_of (α := ByteArray) 1 Tryd.underlying27 i1 (by omega) cellsT (fun _ => rfl) (fun _ => True) (fun v => [v.size]) (fun {fuel cs y} h => by
      obtain ⟨s, e0, f0, w0⟩ := DataW.trod_string Tryd.underlying9 h
      refine ⟨s, e0, trivial, fun n hn => ?_⟩
      simp only [List.mem_cons, List.not_mem_nil, or_false] at hn
      subst hn
      rw [f0]
      simp [DataW.weights]) hf
    (fun m hm => by have := List.all_eq_true.1 hsz _ (DataW.weights_mem_each ht hd m hm); simpa using this)
  refine ⟨b, o, l, ⟨hs, fun hn => ?_⟩, fun v hv => (hg v hv).2 _ (List.mem_cons_self ..)⟩
  rcases DataW.trod_slice Tryd.underlying27 hf with ⟨hcs, _⟩ | ⟨a, len', cap', elems, rest, n, _, hcs, _⟩
  · simp at hcs
    exact hcs.2
  · simp at hcs
    rw [hcs.1] at hn; cases hn
theorem TextsAt.cell {a : Option Addr} {n c b o : Nat} {l : List ByteArray} {w : World} (h : TextsAt a n c b o l w) {j : Nat} (hj : j < l.length) : w.cell? ⟨b, o + j, none⟩ = some (.string l[j]) := by
  have := h.sl.at' j l[j] (List.getElem?_eq_getElem hj) 0 _ rfl
  simpa using this
theorem TextsAt.below {a : Option Addr} {n c b o : Nat} {l : List ByteArray} {w w' : World} {B : Nat} (h : TextsAt a n c b o l w) (hb : Below B w w') (hB : w.heap.size ≤ B) : TextsAt a n c b o l w' := ⟨h.sl.below hb hB, h.nil⟩
theorem textsAt_none (w : World) : TextsAt none 0 0 0 0 [] w := ⟨⟨rfl, Nat.le_refl _, by omega, fun h => absurd h (by omega), fun j x h => by simp at h⟩, fun _ => ⟨rfl, rfl⟩⟩
theorem textsAt_row {w : World} {B : Nat} {v : Value} {l : List ByteArray} (h : w.ownsRow B 9 1 v l.length (l.map fun s => .string s)) : ∃ a c b, v = .slice a l.length c ∧ TextsAt a l.length c b 0 l w ∧ (0 < l.length → B ≤ b) := by
  rcases h.2 with ⟨rfl, hz⟩ | ⟨g, cap, cur, rfl, hg, hb, hn, hm, hs, ht⟩
  · have : l = [] := List.length_eq_zero_iff.1 hz
    subst this
    exact ⟨none, 0, 0, rfl, textsAt_none w, fun h => absurd h (by simp)⟩
  · refine ⟨_, _, g, rfl, ⟨⟨rfl, hn, hm, fun _ => ⟨rfl, (Array.getElem?_eq_some_iff.1 hb).1⟩, fun j x hx m u hu => ?_⟩, fun e => by cases e⟩, fun _ => hg⟩
    have hj : j < l.length := (List.getElem?_eq_some_iff.1 hx).1
    have hm0 : m = 0 := by
      have := (List.getElem?_eq_some_iff.1 hu).1
      simp [cellsT] at this; exact this
    subst hm0
    have hu' : u = .string x := by simpa [cellsT] using hu.symm
    subst hu'
    refine (World.ownsRow.cellAt h _ (by omega)).trans ?_
    simp [hx]
theorem TextsAt.row {p : Addr} {n c b o : Nat} {l : List ByteArray} {w : World} (h : TextsAt (some p) n c b o l w) (j : Nat) (u : Value) (hu : (l.map fun s => Value.string s)[j]? = some u) : w.cell? (p.add j) = some u := by
  rw [List.getElem?_map] at hu
  obtain ⟨x, hx, rfl⟩ := Option.map_eq_some_iff.1 hu
  have hj : j < l.length := (List.getElem?_eq_some_iff.1 hx).1
  have hn : 0 < n := by have := h.len; omega
  have e := (h.addr hn).1
  simp only [Option.some.injEq] at e
  subst e
  have e1 : (⟨b, o, none⟩ : Addr).add j = ⟨b, o + j, none⟩ := by
    unfold Addr.add
    split
    · rename_i h0; rw [h0]; rfl
    · rfl
  rw [e1, h.cell hj]
  have := (List.getElem?_eq_some_iff.1 hx).2
  rw [this]
end Go.Proofs.YtccdbodemoefkaaDoor
