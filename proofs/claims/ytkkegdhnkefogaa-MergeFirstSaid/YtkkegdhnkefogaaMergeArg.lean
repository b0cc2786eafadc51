/-
  An argument of the type [][]api.Row: opened. No condition.
-/
import Derived.Test.YtkkegdhnkefogaaSliceIn
import Derived.Test.YtkkegdhnkefogaaSliceArg
import Derived.Test.YtkkegdhnkefogaaMergeHeadsOf
namespace Go.Proofs.Ytkkegdhnkefogaa
open Go Go.RowKit Go.ChangeShapes Go.WideShapes Go.Deep
set_option maxRecDepth 100000
theorem open_rowsW {H : Type} {enc : TypeId × Value → H} {W : World} {a0 : Option Addr} {len cap fuel : Nat} {x : DataW H × List MemPlace}
    (hf : DataW.trod enc Try.prog W 0 (fun _ => true) true fuel 25 [.slice a0 len cap] = some x) (hsz : ∀ n ∈ x.1.weights Try.prog 25, n ≤ reachBytes) :
    ∃ b o l, Rs a0 len cap b o l W ∧ ∀ v ∈ l, RwIn v := by
  have oc : Try.prog.cellsOf 42 = 4 := by kernel_rfl
  obtain ⟨b, o, l, hs, hg⟩ := open_slice_of (α := Rw) 4 Try.underlying25 oc (by omega) cellsR (fun _ => rfl) (fun v => v.seq ≤ 18446744073709551615) (fun v => [v.key.size, v.val.size]) rw_read hf hsz
  refine ⟨b, o, l, ⟨hs.len, hs.cap, hs.most, hs.addr, fun j v hj => ?_⟩, fun v hv => rwIn_of (hg v hv).1 (hg v hv).2⟩
  exact ⟨hs.at' j v hj 0 _ rfl, hs.at' j v hj 1 _ rfl, hs.at' j v hj 2 _ rfl, hs.at' j v hj 3 _ rfl⟩
/-- A list of rows, and where it lies. -/
structure Lr where
  a : Option Addr
  n : Nat
  c : Nat
  b : Nat
  o : Nat
  l : List Rw
  deriving Inhabited
def cellsLr (v : Lr) : List Value := [.slice v.a v.n v.c]
def LrAt (v : Lr) (W : World) : Prop := Rs v.a v.n v.c v.b v.o v.l W ∧ ∀ x ∈ v.l, RwIn x
theorem lr_read {H : Type} {enc : TypeId × Value → H} {W : World} {fuel : Nat} {cs : List Value} {y : DataW H × List MemPlace} (h : DataW.trod enc Try.prog W 0 (fun _ => true) true fuel 25 cs = some y)
    (hsz : ∀ n ∈ y.1.weights Try.prog 25, n ≤ reachBytes) : ∃ v : Lr, cs = cellsLr v ∧ LrAt v W := by
  have e4 : ∃ sa sn sc, cs = [.slice sa sn sc] := by
    rcases DataW.trod_slice Try.underlying25 h with ⟨hc, _⟩ | ⟨a, len, cap, _, _, _, _, hc, _⟩
    · exact ⟨none, 0, 0, hc⟩
    · exact ⟨some a, len, cap, hc⟩
  obtain ⟨sa, sn, sc, rfl⟩ := e4
  obtain ⟨b, o, l, hw⟩ := open_rowsW h hsz
  exact ⟨⟨sa, sn, sc, b, o, l⟩, rfl, hw⟩
theorem open_rls {H : Type} {enc : TypeId × Value → H} {W : World} {a0 : Option Addr} {len cap fuel : Nat} {x : DataW H × List MemPlace} {ts : List TypeId} {ds : List (DataW H)}
    (hf : DataW.trod enc Try.prog W 0 (fun _ => true) true fuel 22 [.slice a0 len cap] = some x) (hsz : (DataW.weightsEach Try.prog ts ds).all (· ≤ reachBytes) = true) {j : Nat} (ht : ts[j]? = some 22) (hd : ds[j]? = some x.1) :
    ∃ b o l, SlOf 1 cellsLr a0 len cap b o l W ∧ ∀ v ∈ l, LrAt v W := by
  have oc : Try.prog.cellsOf 25 = 1 := by kernel_rfl
  exact open_slice_in (α := Lr) 1 Try.underlying22 oc (by omega) cellsLr (fun _ => rfl) (fun v => LrAt v W) lr_read hf
    (fun m hm => by have := List.all_eq_true.1 hsz _ (DataW.weights_mem_each ht hd m hm); simpa using this)
theorem rl_of {a0 : Option Addr} {len cap b o : Nat} {l : List Lr} {W : World} (h : SlOf 1 cellsLr a0 len cap b o l W) (hg : ∀ v ∈ l, LrAt v W) : RL W.heap.size a0 len cap (l.map (·.l)) W := by
  refine ⟨by rw [List.length_map, h.len], h.cap, h.most, b, o, h.addr, fun j x hx => ?_⟩
  rw [List.getElem?_map] at hx
  cases hv : l[j]? with
  | none => rw [hv] at hx; cases hx
  | some v =>
    rw [hv] at hx
    obtain rfl : v.l = x := by simpa using hx
    have hR := (hg v (List.mem_of_getElem? hv)).1
    refine ⟨v.a, v.n, v.c, v.b, v.o, ?_, hR, fun h0 => (hR.addr h0).2⟩
    have := h.at' j v hv 0 _ rfl
    rwa [Nat.mul_one, Nat.add_zero] at this
theorem rl_in {l : List Lr} {W : World} (hg : ∀ v ∈ l, LrAt v W) : ∀ x ∈ l.map (·.l), ∀ y ∈ x, RwIn y := fun x hx y hy => by
  obtain ⟨v, hv, rfl⟩ := List.mem_map.1 hx
  exact (hg v hv).2 y hy
end Go.Proofs.Ytkkegdhnkefogaa
