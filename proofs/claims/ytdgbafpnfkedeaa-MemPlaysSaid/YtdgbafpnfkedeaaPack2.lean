/-
  The contracts of a node's isBefore and of the list's search. No condition.
-/
import Derived.Test.YtdgbafpnfkedeaaPack1
import Derived.Handy
import Derived.Deep.DrawnRows
import Derived.Deep.RegionHeld
import Derived.Test.YtdgbafpnfkedeaaShelf
import Derived.Deep.RegionWith
import Derived.Deep.QuietTactic
import Derived.BigQuiet
import Derived.Deep.Cut
import Derived.Deep.DeepCutAuto
import Derived.StillTailTactics
import Derived.RangeFuncNested
import Derived.RangeFuncBound
import Derived.RangeFuncCalls
import Derived.RangeFuncLeaves
import Derived.RangeFuncBox
import Derived.Shelf.Abstract
import Derived.Shelf.RegionOpen
import Derived.WalkKit
import Derived.OwnWalkIn
import Derived.TacticsInMore
import Derived.LoopNIn
import Derived.LoopIn
import Derived.Maps.AppendAt
import Derived.RangeFuncFrom
namespace Go.Proofs.Ytdgbafpnfkedeaa
set_option maxRecDepth 100000
open Go.RowKit
attribute [local go_sem] eq_node ne_node eq_list
set_option maxRecDepth 100000 in
set_option maxHeartbeats 2000000 in
theorem before_any {b : Nat} {x : Rw} {w : World} (h0 : w.cell? ⟨b, 0, none⟩ = some (.string x.key)) (h1 : w.cell? ⟨b, 1, none⟩ = some (.int .u64 (x.seq : Int))) (k : ByteArray) (q : Nat) :
    Calls Try.prog 53 #[.pointer (some ⟨b, 0, none⟩), .string k, .int .u64 (q : Int)] w fun e w' => e = .returned (.bool (ahd x k q)) ∧ w' = w := by
  obtain ⟨xk, xs, xi, xv⟩ := x
  simp only at h0 h1
  unfold ahd
  simp only
  by_cases e : xk.toList = k.toList
  · have e1 : (xk.toList == k.toList) = true := by simpa using e
    rw [if_pos e]
    have e2 : (decide (q < xs) : Bool) = decide ((q : Int) < (xs : Int)) := by congr 1; simp
    rw [e2]
    clear e
    go_enter Try.func53, Try.ntmps53
    go_wp2_with fail
    go_returns
    exact ⟨rfl, rfl⟩
  · have e1 : (xk.toList == k.toList) = false := by simpa using e
    rw [if_neg e, ← less_before]
    clear e
    go_enter Try.func53, Try.ntmps53
    go_wp2_with fail
    go_returns
    exact ⟨rfl, rfl⟩
/-- What the search says of level l: where its link lies behind the last node of that level that stands ahead. -/
def bfA (p : Nat) (ns : List Nd) (e l : Nat) : Addr := lnk p (ns.take (dn ((hgtsN ns).take e) (12 - l)).1) 0
/-- The array of what was found, k levels being done. -/
def bfc (p : Nat) (ns : List Nd) (e k : Nat) : Array Value := ((List.range 12).map fun l => if 12 - k ≤ l then Value.pointer (some (bfA p ns e l)) else .pointer none).toArray
theorem bfc_size (p : Nat) (ns : List Nd) (e k : Nat) : (bfc p ns e k).size = 12 := by simp [bfc]
theorem bfc_at (p : Nat) (ns : List Nd) (e k l : Nat) (hl : l < 12) : (bfc p ns e k)[l]? = some (if 12 - k ≤ l then Value.pointer (some (bfA p ns e l)) else .pointer none) := by
  unfold bfc; simp [hl]
theorem bfc_zero (p : Nat) (ns : List Nd) (e : Nat) : bfc p ns e 0 = #[.pointer none, .pointer none, .pointer none, .pointer none, .pointer none, .pointer none, .pointer none, .pointer none, .pointer none, .pointer none, .pointer none, .pointer none] := by
  unfold bfc; rfl
theorem bfc_step (p : Nat) (ns : List Nd) (e k : Nat) (hk : k < 12) : (bfc p ns e k).setIfInBounds (11 - k) (.pointer (some (bfA p ns e (11 - k)))) = bfc p ns e (k + 1) := by
  apply Array.ext
  · simp [bfc]
  · intro i h1 h2
    have hi : i < 12 := by rw [bfc_size] at h2; exact h2
    rw [Array.getElem_setIfInBounds (by simpa using h1)]
    have e1 := bfc_at p ns e k i hi
    have e2 := bfc_at p ns e (k + 1) i hi
    rw [Array.getElem?_eq_getElem (by rw [bfc_size]; exact hi)] at e1 e2
    rw [Option.some.inj e1, Option.some.inj e2]
    by_cases h : 11 - k = i
    · subst h; rw [if_pos rfl, if_pos (by omega)]
    · rw [if_neg h]
      by_cases h' : 12 - k ≤ i
      · rw [if_pos h', if_pos (by omega)]
      · rw [if_neg h', if_neg (by omega)]
theorem bfc_full (p : Nat) (ns : List Nd) (e : Nat) : bfc p ns e 12 = #[.pointer (some (bfA p ns e 0)), .pointer (some (bfA p ns e 1)), .pointer (some (bfA p ns e 2)), .pointer (some (bfA p ns e 3)), .pointer (some (bfA p ns e 4)), .pointer (some (bfA p ns e 5)), .pointer (some (bfA p ns e 6)), .pointer (some (bfA p ns e 7)), .pointer (some (bfA p ns e 8)), .pointer (some (bfA p ns e 9)), .pointer (some (bfA p ns e 10)), .pointer (some (bfA p ns e 11))] := by
  unfold bfc; rfl
theorem hgtsN_take (ns : List Nd) (j : Nat) : (hgtsN ns).take j = hgtsN (ns.take j) := by unfold hgtsN; rw [List.map_take]
theorem hgtsN_drop (ns : List Nd) (j : Nat) : (hgtsN ns).drop j = hgtsN (ns.drop j) := by unfold hgtsN; rw [List.map_drop]
theorem hgts_low {l : Nat} {ns : List Nd} (h : ∀ x ∈ ns, x.hgt ≤ l) : ∀ x ∈ hgtsN ns, x ≤ l := by
  intro x hx
  obtain ⟨y, hy, rfl⟩ := List.mem_map.1 hx
  exact h y hy
/-- Behind k levels one is as high as the next level asks. -/
theorem dn_high {A : List Nd} (hh : ∀ x ∈ A, x.hgt ≤ 12) {k : Nat} (hk : k ≤ 12) : High (12 - k) (A.take (dn (hgtsN A) k).1) ∧ ∀ x ∈ A.drop (dn (hgtsN A) k).1, x.hgt ≤ 12 - k := by
  obtain ⟨h1, h2⟩ := dn_last (hs := hgtsN A) (hgts_low hh) k hk
  refine ⟨?_, fun x hx => h2 _ (by rw [hgtsN_drop]; exact List.mem_map.2 ⟨x, hx, rfl⟩)⟩
  rcases h1 with h | ⟨y, hy, hlt⟩
  · exact .inl (by rw [h]; rfl)
  · by_cases h0 : (dn (hgtsN A) k).1 = 0
    · exact .inl (by rw [h0]; rfl)
    · obtain ⟨m, hm⟩ : ∃ m, (dn (hgtsN A) k).1 = m + 1 := ⟨_, (Nat.succ_pred h0).symm⟩
      rw [hm] at hy ⊢
      rw [Nat.add_sub_cancel] at hy
      unfold hgtsN at hy
      rw [List.getElem?_map] at hy
      obtain ⟨x, hx, rfl⟩ := Option.map_eq_some_iff.1 hy
      exact .inr ⟨A.take m, x, by rw [List.take_add_one, hx]; rfl, hlt⟩
theorem High.mono {h k : Nat} {pre : List Nd} (hh : High h pre) (hk : k ≤ h) : High k pre := by
  rcases hh with h' | ⟨a, x, e, hx⟩
  · exact .inl h'
  · exact .inr ⟨a, x, e, by omega⟩
theorem take_of_app {α : Type} {A a b : List α} (h : A = a ++ b) : A.take a.length = a := by rw [h]; simp
theorem cells12 {w : World} {b : Nat} {T : TypeId} {v0 v1 v2 v3 v4 v5 v6 v7 v8 v9 v10 v11 : Value} (h : w.heap[b]? = some (.cells #[v0, v1, v2, v3, v4, v5, v6, v7, v8, v9, v10, v11] T (0, 0))) :
    (w.cell? ⟨b, 0, none⟩ = some v0 ∧ w.cell? ⟨b, 1, none⟩ = some v1 ∧ w.cell? ⟨b, 2, none⟩ = some v2 ∧ w.cell? ⟨b, 3, none⟩ = some v3 ∧ w.cell? ⟨b, 4, none⟩ = some v4 ∧ w.cell? ⟨b, 5, none⟩ = some v5 ∧ w.cell? ⟨b, 6, none⟩ = some v6 ∧ w.cell? ⟨b, 7, none⟩ = some v7 ∧ w.cell? ⟨b, 8, none⟩ = some v8 ∧ w.cell? ⟨b, 9, none⟩ = some v9 ∧ w.cell? ⟨b, 10, none⟩ = some v10 ∧ w.cell? ⟨b, 11, none⟩ = some v11) ∧ ∀ o, w.frozen? ⟨b, o, none⟩ = false := by
  refine ⟨by simp [World.cell?, h], fun o => by simp [World.frozen?, h]⟩
/-- Twelve stores, one behind the other. -/
abbrev set12 (w : World) (b : Nat) (v0 v1 v2 v3 v4 v5 v6 v7 v8 v9 v10 v11 : Value) : World := ((((((((((((w.setCell ⟨b, 0, none⟩ v0).setCell ⟨b, 1, none⟩ v1).setCell ⟨b, 2, none⟩ v2).setCell ⟨b, 3, none⟩ v3).setCell ⟨b, 4, none⟩ v4).setCell ⟨b, 5, none⟩ v5).setCell ⟨b, 6, none⟩ v6).setCell ⟨b, 7, none⟩ v7).setCell ⟨b, 8, none⟩ v8).setCell ⟨b, 9, none⟩ v9).setCell ⟨b, 10, none⟩ v10).setCell ⟨b, 11, none⟩ v11)
theorem set12_heap {w : World} {b : Nat} {T : TypeId} {u0 u1 u2 u3 u4 u5 u6 u7 u8 u9 u10 u11 : Value} (h : w.heap[b]? = some (.cells #[u0, u1, u2, u3, u4, u5, u6, u7, u8, u9, u10, u11] T (0, 0))) (v0 v1 v2 v3 v4 v5 v6 v7 v8 v9 v10 v11 : Value) :
    (set12 w b v0 v1 v2 v3 v4 v5 v6 v7 v8 v9 v10 v11).heap[b]? = some (.cells #[v0, v1, v2, v3, v4, v5, v6, v7, v8, v9, v10, v11] T (0, 0)) := by
  have h0 : (w.setCell ⟨b, 0, none⟩ v0).heap[b]? = some (.cells #[v0, u1, u2, u3, u4, u5, u6, u7, u8, u9, u10, u11] T (0, 0)) := heap_setCell_same _ b 0 _ _ v0 h
  have h1 : ((w.setCell ⟨b, 0, none⟩ v0).setCell ⟨b, 1, none⟩ v1).heap[b]? = some (.cells #[v0, v1, u2, u3, u4, u5, u6, u7, u8, u9, u10, u11] T (0, 0)) := heap_setCell_same _ b 1 _ _ v1 h0
  have h2 : (((w.setCell ⟨b, 0, none⟩ v0).setCell ⟨b, 1, none⟩ v1).setCell ⟨b, 2, none⟩ v2).heap[b]? = some (.cells #[v0, v1, v2, u3, u4, u5, u6, u7, u8, u9, u10, u11] T (0, 0)) := heap_setCell_same _ b 2 _ _ v2 h1
  have h3 : ((((w.setCell ⟨b, 0, none⟩ v0).setCell ⟨b, 1, none⟩ v1).setCell ⟨b, 2, none⟩ v2).setCell ⟨b, 3, none⟩ v3).heap[b]? = some (.cells #[v0, v1, v2, v3, u4, u5, u6, u7, u8, u9, u10, u11] T (0, 0)) := heap_setCell_same _ b 3 _ _ v3 h2
  have h4 : (((((w.setCell ⟨b, 0, none⟩ v0).setCell ⟨b, 1, none⟩ v1).setCell ⟨b, 2, none⟩ v2).setCell ⟨b, 3, none⟩ v3).setCell ⟨b, 4, none⟩ v4).heap[b]? = some (.cells #[v0, v1, v2, v3, v4, u5, u6, u7, u8, u9, u10, u11] T (0, 0)) := heap_setCell_same _ b 4 _ _ v4 h3
  have h5 : ((((((w.setCell ⟨b, 0, none⟩ v0).setCell ⟨b, 1, none⟩ v1).setCell ⟨b, 2, none⟩ v2).setCell ⟨b, 3, none⟩ v3).setCell ⟨b, 4, none⟩ v4).setCell ⟨b, 5, none⟩ v5).heap[b]? = some (.cells #[v0, v1, v2, v3, v4, v5, u6, u7, u8, u9, u10, u11] T (0, 0)) := heap_setCell_same _ b 5 _ _ v5 h4
  have h6 : (((((((w.setCell ⟨b, 0, none⟩ v0).setCell ⟨b, 1, none⟩ v1).setCell ⟨b, 2, none⟩ v2).setCell ⟨b, 3, none⟩ v3).setCell ⟨b, 4, none⟩ v4).setCell ⟨b, 5, none⟩ v5).setCell ⟨b, 6, none⟩ v6).heap[b]? = some (.cells #[v0, v1, v2, v3, v4, v5, v6, u7, u8, u9, u10, u11] T (0, 0)) := heap_setCell_same _ b 6 _ _ v6 h5
  have h7 : ((((((((w.setCell ⟨b, 0, none⟩ v0).setCell ⟨b, 1, none⟩ v1).setCell ⟨b, 2, none⟩ v2).setCell ⟨b, 3, none⟩ v3).setCell ⟨b, 4, none⟩ v4).setCell ⟨b, 5, none⟩ v5).setCell ⟨b, 6, none⟩ v6).setCell ⟨b, 7, none⟩ v7).heap[b]? = some (.cells #[v0, v1, v2, v3, v4, v5, v6, v7, u8, u9, u10, u11] T (0, 0)) := heap_setCell_same _ b 7 _ _ v7 h6
  have h8 : (((((((((w.setCell ⟨b, 0, none⟩ v0).setCell ⟨b, 1, none⟩ v1).setCell ⟨b, 2, none⟩ v2).setCell ⟨b, 3, none⟩ v3).setCell ⟨b, 4, none⟩ v4).setCell ⟨b, 5, none⟩ v5).setCell ⟨b, 6, none⟩ v6).setCell ⟨b, 7, none⟩ v7).setCell ⟨b, 8, none⟩ v8).heap[b]? = some (.cells #[v0, v1, v2, v3, v4, v5, v6, v7, v8, u9, u10, u11] T (0, 0)) := heap_setCell_same _ b 8 _ _ v8 h7
  have h9 : ((((((((((w.setCell ⟨b, 0, none⟩ v0).setCell ⟨b, 1, none⟩ v1).setCell ⟨b, 2, none⟩ v2).setCell ⟨b, 3, none⟩ v3).setCell ⟨b, 4, none⟩ v4).setCell ⟨b, 5, none⟩ v5).setCell ⟨b, 6, none⟩ v6).setCell ⟨b, 7, none⟩ v7).setCell ⟨b, 8, none⟩ v8).setCell ⟨b, 9, none⟩ v9).heap[b]? = some (.cells #[v0, v1, v2, v3, v4, v5, v6, v7, v8, v9, u10, u11] T (0, 0)) := heap_setCell_same _ b 9 _ _ v9 h8
  have h10 : (((((((((((w.setCell ⟨b, 0, none⟩ v0).setCell ⟨b, 1, none⟩ v1).setCell ⟨b, 2, none⟩ v2).setCell ⟨b, 3, none⟩ v3).setCell ⟨b, 4, none⟩ v4).setCell ⟨b, 5, none⟩ v5).setCell ⟨b, 6, none⟩ v6).setCell ⟨b, 7, none⟩ v7).setCell ⟨b, 8, none⟩ v8).setCell ⟨b, 9, none⟩ v9).setCell ⟨b, 10, none⟩ v10).heap[b]? = some (.cells #[v0, v1, v2, v3, v4, v5, v6, v7, v8, v9, v10, u11] T (0, 0)) := heap_setCell_same _ b 10 _ _ v10 h9
  have h11 : ((((((((((((w.setCell ⟨b, 0, none⟩ v0).setCell ⟨b, 1, none⟩ v1).setCell ⟨b, 2, none⟩ v2).setCell ⟨b, 3, none⟩ v3).setCell ⟨b, 4, none⟩ v4).setCell ⟨b, 5, none⟩ v5).setCell ⟨b, 6, none⟩ v6).setCell ⟨b, 7, none⟩ v7).setCell ⟨b, 8, none⟩ v8).setCell ⟨b, 9, none⟩ v9).setCell ⟨b, 10, none⟩ v10).setCell ⟨b, 11, none⟩ v11).heap[b]? = some (.cells #[v0, v1, v2, v3, v4, v5, v6, v7, v8, v9, v10, v11] T (0, 0)) := heap_setCell_same _ b 11 _ _ v11 h10
  exact h11
theorem set12_below {w w0 : World} {b B : Nat} (h : Below B w0 w) (hb : B ≤ b) (v0 v1 v2 v3 v4 v5 v6 v7 v8 v9 v10 v11 : Value) : Below B w0 (set12 w b v0 v1 v2 v3 v4 v5 v6 v7 v8 v9 v10 v11) :=
  (((((((((((h.setCell (p := ⟨b, 0, none⟩) hb _).setCell (p := ⟨b, 1, none⟩) hb _).setCell (p := ⟨b, 2, none⟩) hb _).setCell (p := ⟨b, 3, none⟩) hb _).setCell (p := ⟨b, 4, none⟩) hb _).setCell (p := ⟨b, 5, none⟩) hb _).setCell (p := ⟨b, 6, none⟩) hb _).setCell (p := ⟨b, 7, none⟩) hb _).setCell (p := ⟨b, 8, none⟩) hb _).setCell (p := ⟨b, 9, none⟩) hb _).setCell (p := ⟨b, 10, none⟩) hb _).setCell (p := ⟨b, 11, none⟩) hb _
set_option maxRecDepth 100000 in
set_option maxHeartbeats 4000000 in
theorem search_any {p : Nat} {ns : List Nd} {w : World} (h : SkA p ns w) (hn : ns.length ≤ 4611686018427387904) (key : ByteArray) (q : Nat) :
    Calls Try.prog 51 #[.pointer (some ⟨p, 0, none⟩), .string key, .int .u64 (q : Int)] w fun e w' =>
      e = .returned (.tuple #[.agg (bfc p ns (plN ns key q) 12), .int .i64 (stp ((hgtsN ns).take (plN ns key q)) : Int)]) ∧ Below w.heap.size w w' := by
  obtain ⟨e, he⟩ := named (plN ns key q)
  rw [← he.out]
  have hel : e ≤ ns.length := by rw [he.out]; exact plN_le _ _ _
  obtain ⟨A, hA⟩ := named (ns.take e)
  obtain ⟨D, hD⟩ := named (ns.drop e)
  have hAD : Hid (ns = A ++ D) := Lib.hid (by rw [hA.out, hD.out, List.take_append_drop])
  have hAl : Hid (A.length = e) := Lib.hid (by rw [hA.out, List.length_take]; omega)
  have fA : Hid (∀ x ∈ A, ahd x.row key q = true) := Lib.hid fun x hx => front_ahd (by rw [← he.out, ← hA.out]; exact hx)
  have fD : Hid (∀ x ∈ D, ahd x.row key q = false) := Lib.hid fun x hx => back_ahd h.sort (by rw [← he.out, ← hD.out]; exact hx)
  have hh : Hid (∀ x ∈ A, x.hgt ≤ 12) := Lib.hid fun x hx => (h.hgt x (by rw [hAD.out]; simp [hx])).2
  have hHS : Hid ((hgtsN ns).take e = hgtsN A) := Lib.hid (by rw [hA.out, hgtsN_take])
  have hT : Hid (∀ j, j ≤ e → ns.take j = A.take j) := Lib.hid fun j hj => by rw [hA.out, List.take_take, Nat.min_eq_left hj]
  have hdl : Hid (∀ k, (dn (hgtsN A) k).1 ≤ e ∧ (dn (hgtsN A) k).2 ≤ e) := Lib.hid fun k => by
    obtain ⟨h1, h2⟩ := dn_le (hgtsN A) k
    have : (hgtsN A).length = e := by rw [← hAl.out]; unfold hgtsN; simp
    omega
  have hg0 := Lib.hid (heap_alloc_new w (.cells #[.pointer none, .pointer none, .pointer none, .pointer none, .pointer none, .pointer none, .pointer none, .pointer none, .pointer none, .pointer none, .pointer none, .pointer none] 93))
  have hB0 := Lib.hid (below_alloc w (.cells #[.pointer none, .pointer none, .pointer none, .pointer none, .pointer none, .pointer none, .pointer none, .pointer none, .pointer none, .pointer none, .pointer none, .pointer none] 93))
  have H := Lib.hid h
  clear h hA hD he
  rw [← bfc_zero p ns e] at hg0
  rw [hHS.out, show stp (hgtsN A) = (dn (hgtsN A) 12).2 from rfl, bfc_full]
  go_enter Try.func51, Try.ntmps51
  go_wp2_with fail
  go_loopw [7, 8, 9] (fun s a hv wr => ∃ k : Nat, k ≤ 12 ∧ hv = .int .i64 (11 - (k : Int)) ∧ s = .int .i64 ((dn (hgtsN A) k).2 : Int) ∧ a = .pointer (some (lnk p (A.take (dn (hgtsN A) k).1) 0)) ∧ Below w.heap.size w wr ∧ wr.heap[w.heap.size]? = some (.cells (bfc p ns e k) 93 (0, 0))) (fun _ _ hv _ => (intOf hv + 1).toNat)
  case atStart => exact ⟨0, by omega, rfl, rfl, rfl, hB0.out, hg0.out⟩
  case round =>
    clear hB0 hg0
    obtain ⟨k, hk, rfl, rfl, rfl, hb, hg⟩ := hrel
    by_cases hk12 : k < 12
    · obtain ⟨l, hl, hkl⟩ : ∃ l : Nat, l < 12 ∧ k = 11 - l := ⟨11 - k, by omega, by omega⟩
      have hki : (11 - (k : Int)) = (l : Int) := by omega
      obtain ⟨pre0, hpre0⟩ := named (A.take (dn (hgtsN A) k).1)
      obtain ⟨mid0, hmid0⟩ := named (A.drop (dn (hgtsN A) k).1)
      have hA0 : Hid (A = pre0 ++ mid0) := Lib.hid (by rw [hpre0.out, hmid0.out, List.take_append_drop])
      have hhi := (dn_high hh.out hk).1
      have hhi : Hid (High l pre0) := Lib.hid (by rw [hpre0.out]; exact hhi.mono (by omega))
      obtain ⟨S0, hS0⟩ := named (dn (hgtsN A) k).2
      rw [← hpre0.out, ← hS0.out, hki]
      obtain ⟨b, o, hform, hf0⟩ := lnk_form p pre0
      have c0 : wr.cell? ⟨b, o + l, none⟩ = some (.pointer (nxt l (mid0 ++ D))) := by
        rw [← hform]
        exact (H.out.grow hb).at (by rw [hAD.out, hA0.out, List.append_assoc]) hl hhi.out
      rw [hf0]
      have l0 : (0 : Int) ≤ (l : Int) := by omega
      have l1 : (l : Int) < 12 := by omega
      replace hform := Lib.hid hform
      replace hf0 := Lib.hid hf0
      replace hb := Lib.hid hb
      replace hg := Lib.hid hg
      clear hki hk hk12
      replace hkl := Lib.hid hkl
      obtain ⟨S1, hS1⟩ := named (dn (hgtsN A) (k + 1)).2
      obtain ⟨a1, ha1⟩ := named (dn (hgtsN A) (k + 1)).1
      have e1 : Hid (S0 + hopC l (hgtsN mid0) = S1) := Lib.hid (by
        rw [hS1.out, hS0.out, hmid0.out]
        have : 11 - k = l := by have := hkl.out; omega
        simp only [dn, this]
        rw [hgtsN_drop])
      have e2 : Hid (pre0.length + hopI l (hgtsN mid0) = a1) := Lib.hid (by
        rw [ha1.out, hpre0.out, hmid0.out, List.length_take]
        have : 11 - k = l := by have := hkl.out; omega
        simp only [dn, this]
        rw [hgtsN_drop]
        have := (hdl.out k).1
        have := hAl.out
        omega)
      have hSe : S1 ≤ e := by rw [hS1.out]; exact (hdl.out _).2
      have fin : Hid (∀ pre mid : List Nd, A = pre ++ mid → pre.length + hopI l (hgtsN mid) = a1 → hopI l (hgtsN mid) = 0 → pre = A.take (dn (hgtsN A) (k + 1)).1) := Lib.hid fun pre mid ea eb ec => by
        rw [← ha1.out, ← eb, ec, Nat.add_zero]
        exact (take_of_app ea).symm
      have hbf : Hid (bfA p ns e l = lnk p (A.take (dn (hgtsN A) (k + 1)).1) 0) := Lib.hid (by
        unfold bfA
        rw [hHS.out, show 12 - l = k + 1 by have := hkl.out; omega, hT.out _ (hdl.out _).1])
      have hst : Hid ((bfc p ns e k).setIfInBounds l (.pointer (some (bfA p ns e l))) = bfc p ns e (k + 1)) := Lib.hid (by
        have := bfc_step p ns e k (by have := hkl.out; omega)
        rw [show 11 - k = l by have := hkl.out; omega] at this
        exact this)
      have cg : wr.cell? ⟨w.heap.size, l, none⟩ = some (.pointer none) := by
        have := bfc_at p ns e k l hl
        rw [if_neg (by have := hkl.out; omega)] at this
        simp [World.cell?, hg.out, this]
      have fg : wr.frozen? ⟨w.heap.size, l, none⟩ = false := by simp [World.frozen?, hg.out]
      go_wp2_with fail
      clear c0
      go_loopw [7, 8, 10] (fun s a n wq => wq = wr ∧ ∃ (pre mid : List Nd) (S : Nat), A = pre ++ mid ∧ High l pre ∧ s = .int .i64 (S : Int) ∧ a = .pointer (some (lnk p pre 0)) ∧ n = .pointer (nxt l (mid ++ D)) ∧ S + hopC l (hgtsN mid) = S1 ∧ pre.length + hopI l (hgtsN mid) = a1) (fun s _ _ _ => S1 - (intOf s).toNat)
      case atStart => exact ⟨rfl, pre0, mid0, S0, hA0.out, hhi.out, rfl, by rw [hf0.out], rfl, e1.out, e2.out⟩
      case round =>
        clear hS0 e1 e2 hA0 hhi hf0 hform
        obtain ⟨rfl, pre, mid, S, hA1, hhi1, rfl, rfl, rfl, hS, ha⟩ := hrel
        replace hA1 := Lib.hid hA1
        replace hhi1 := Lib.hid hhi1
        rcases nd_split l mid with hlow | ⟨a, x, r, hmid, hlow, hx⟩
        · obtain ⟨z1, z2⟩ := hop_low l (hgtsN mid) (hgts_low hlow)
          have hpre := Lib.hid (fin.out pre mid hA1.out ha z1)
          have hS2 : S = (dn (hgtsN A) (k + 1)).2 := by rw [← hS1.out]; omega
          rw [nxt_low hlow, hpre.out, hS2]
          replace hlow := Lib.hid hlow
          rw [← hbf.out]
          have Q : Hid (Below w.heap.size w (wr.setCell ⟨w.heap.size, l, none⟩ (.pointer (some (bfA p ns e l)))) ∧ (wr.setCell ⟨w.heap.size, l, none⟩ (.pointer (some (bfA p ns e l)))).heap[w.heap.size]? = some (.cells (bfc p ns e (k + 1)) 93 (0, 0))) := Lib.hid (by
            refine ⟨hb.out.setCell (p := ⟨w.heap.size, l, none⟩) (Nat.le_refl _) _, ?_⟩
            rw [heap_setCell_same _ _ _ _ _ _ hg.out, ← hst.out])
          clear z1 z2 hS2 hpre hS ha
          rcases nd_split l D with hlowD | ⟨a, x, r, hmidD, hlowD, hx⟩
          · rw [nxt_none hlowD]
            replace hlowD := Lib.hid hlowD
            go_wp2_with fail
            go_roundw
            case rel => exact ⟨k + 1, by have := hkl.out; omega, (by have := hkl.out; go_num), rfl, by rw [hbf.out], Q.out⟩
            case measure => simp [intOf]
          · have hxD : x ∈ D := by rw [hmidD]; simp
            have hxn : x ∈ ns := by rw [hAD.out]; simp [hxD]
            obtain ⟨x0, x1, _, _⟩ := (H.out.grow hb.out).node x hxn
            have C := Lib.hid (before_any x0 x1 key q)
            rw [fD.out x hxD] at C
            rw [hmidD, nxt_low hlowD, nxt_hit hx]
            clear hmidD hlowD hxD hxn x0 x1
            go_wp2_with (go_at_call 53; ((with_reducible refine C.out.mono ?_); rintro e w' ⟨rfl, rfl⟩))
            go_roundw
            case rel => exact ⟨k + 1, by have := hkl.out; omega, (by have := hkl.out; go_num), rfl, by rw [hbf.out], Q.out⟩
            case measure => simp [intOf]
        · have hxA : x ∈ A := by rw [hA1.out, hmid]; simp
          have hxn : x ∈ ns := by rw [hAD.out]; simp [hxA]
          obtain ⟨x0, x1, _, _⟩ := (H.out.grow hb.out).node x hxn
          have C := Lib.hid (before_any x0 x1 key q)
          rw [fA.out x hxA] at C
          obtain ⟨f1, f2⟩ := hop_hit l x.hgt (hgtsN r) hx (hgtsN a) (hgts_low hlow)
          have em : hgtsN mid = hgtsN a ++ x.hgt :: hgtsN r := by rw [hmid]; simp [hgtsN]
          rw [em, f1] at ha
          rw [em, f2] at hS
          have hla : (hgtsN a).length = a.length := by simp [hgtsN]
          rw [hmid, List.append_assoc, nxt_low hlow, List.cons_append, nxt_hit hx]
          have hA2 : Hid (A = (pre ++ a ++ [x]) ++ r) := Lib.hid (by rw [hA1.out, hmid]; simp)
          have hhi2 : Hid (High l (pre ++ a ++ [x])) := Lib.hid (.inr ⟨pre ++ a, x, rfl, hx⟩)
          have cx : wr.cell? ⟨x.blk, 4 + l, none⟩ = some (.pointer (nxt l (r ++ D))) := by
            have := (H.out.grow hb.out).at (pre := pre ++ a ++ [x]) (rest := r ++ D) (by rw [hAD.out, hA2.out, List.append_assoc]) hl hhi2.out
            rwa [lnk_snoc] at this
          have eS : Hid (S + 1 + hopC l (hgtsN r) = S1) := Lib.hid (by omega)
          have ea : Hid ((pre ++ a ++ [x]).length + hopI l (hgtsN r) = a1) := Lib.hid (by simp only [List.length_append, List.length_cons, List.length_nil]; omega)
          have hS3 : S < S1 := by omega
          obtain ⟨bo, oo, hform, hf0⟩ := lnk_form p pre
          rw [hf0]
          clear hform hf0 hxA hxn x0 x1 f1 f2 em ha hS hla hmid hlow cg fg
          go_wp2_with (go_at_call 53; ((with_reducible refine C.out.mono ?_); rintro e w' ⟨rfl, rfl⟩))
          go_roundw
          case rel => exact ⟨trivial, pre ++ a ++ [x], r, S + 1, hA2.out, hhi2.out, by go_num, by rw [lnk_snoc], rfl, eS.out, ea.out⟩
          case measure => simp [intOf]; omega
    · have hk2 : k = 12 := by omega
      subst hk2
      replace hb := Lib.hid hb
      rw [bfc_full] at hg
      obtain ⟨⟨y0, y1, y2, y3, y4, y5, y6, y7, y8, y9, y10, y11⟩, yf⟩ := cells12 hg
      have z0 := yf 0
      replace hg := Lib.hid hg
      go_wp2_with fail
      have K := set12_heap hg.out (.pointer (some (bfA p ns e 0))) (.pointer (some (bfA p ns e 1))) (.pointer (some (bfA p ns e 2))) (.pointer (some (bfA p ns e 3))) (.pointer (some (bfA p ns e 4))) (.pointer (some (bfA p ns e 5))) (.pointer (some (bfA p ns e 6))) (.pointer (some (bfA p ns e 7))) (.pointer (some (bfA p ns e 8))) (.pointer (some (bfA p ns e 9))) (.pointer (some (bfA p ns e 10))) (.pointer (some (bfA p ns e 11)))
      have Q := set12_below hb.out (Nat.le_refl _) (.pointer (some (bfA p ns e 0))) (.pointer (some (bfA p ns e 1))) (.pointer (some (bfA p ns e 2))) (.pointer (some (bfA p ns e 3))) (.pointer (some (bfA p ns e 4))) (.pointer (some (bfA p ns e 5))) (.pointer (some (bfA p ns e 6))) (.pointer (some (bfA p ns e 7))) (.pointer (some (bfA p ns e 8))) (.pointer (some (bfA p ns e 9))) (.pointer (some (bfA p ns e 10))) (.pointer (some (bfA p ns e 11)))
      obtain ⟨⟨r0, r1, r2, r3, r4, r5, r6, r7, r8, r9, r10, r11⟩, _⟩ := cells12 K
      refine bodyPost_ret (v := .tuple #[.agg #[.pointer (some (bfA p ns e 0)), .pointer (some (bfA p ns e 1)), .pointer (some (bfA p ns e 2)), .pointer (some (bfA p ns e 3)), .pointer (some (bfA p ns e 4)), .pointer (some (bfA p ns e 5)), .pointer (some (bfA p ns e 6)), .pointer (some (bfA p ns e 7)), .pointer (some (bfA p ns e 8)), .pointer (some (bfA p ns e 9)), .pointer (some (bfA p ns e 10)), .pointer (some (bfA p ns e 11))], .int .i64 ((dn (hgtsN A) 12).2 : Int)]) (by simp [results, Try.results51, go_sem, r0, r1, r2, r3, r4, r5, r6, r7, r8, r9, r10, r11]) rfl ⟨rfl, Q⟩
end Go.Proofs.Ytdgbafpnfkedeaa
/-
  The contract of the program's copied. Condition: texts of less than 2^48 bytes.
-/
namespace Go.Proofs.Ytdgbafpnfkedeaa
set_option maxRecDepth 100000
open Go.RowKit
/-- A row as a value. -/
abbrev rowV (x : Rw) : Value := .agg #[.string x.key, .int .u64 (x.seq : Int), .int .i64 x.kind, .string x.val]
/-- A row in a block of its own. -/
def RowAt (b : Nat) (x : Rw) (w : World) : Prop := w.heap[b]? = some (.cells #[.string x.key, .int .u64 (x.seq : Int), .int .i64 x.kind, .string x.val] 43 (0, 0))
theorem RowAt.below {b : Nat} {x : Rw} {w w' : World} (h : RowAt b x w) (hb : Below w.heap.size w w') : RowAt b x w' := (hb.block b (Array.getElem?_eq_some_iff.1 h).1).trans h
theorem RowAt.cells {b : Nat} {x : Rw} {w : World} (h : RowAt b x w) : (w.cell? ⟨b, 0, none⟩ = some (.string x.key) ∧ w.cell? ⟨b, 1, none⟩ = some (.int .u64 (x.seq : Int)) ∧ w.cell? ⟨b, 2, none⟩ = some (.int .i64 x.kind) ∧ w.cell? ⟨b, 3, none⟩ = some (.string x.val)) ∧ ∀ o, w.frozen? ⟨b, o, none⟩ = false := by
  unfold RowAt at h
  exact ⟨by simp [World.cell?, h], fun o => by simp [World.frozen?, h]⟩
theorem RowAt.new (x : Rw) (w : World) : RowAt w.heap.size x (w.alloc (.cells #[.string x.key, .int .u64 (x.seq : Int), .int .i64 x.kind, .string x.val] 43)) := heap_alloc_new _ _
theorem clone_str (s : ByteArray) (hs : s.size ≤ 281474976710656) (w : World) : Calls Try.prog 44 #[.string s] w fun e w' => e = .returned (.string s) ∧ Below w.heap.size w w' := by
  have C := fun u => Lib.hid (Try.stringslite_Clone s u hs)
  clear hs
  go_enter Try.func44, Try.ntmps44
  go_wp2_with fail
  refine (C _).out.mono ?_
  rintro e w' ⟨rfl, hb⟩
  go_wp2_with fail
  go_returns
  exact ⟨rfl, hb⟩
/-- The two boxes of copied: the argument's and the result's. -/
structure Cpy (w : World) (xk xv : ByteArray) (xs : Nat) (xi : Int) (v : World) : Prop where
  arg : RowAt w.heap.size ⟨xk, xs, xi, xv⟩ v
  res : RowAt (w.heap.size + 1) ⟨⟨#[]⟩, 0, 0, ⟨#[]⟩⟩ v
  blw : Below w.heap.size w v
theorem Cpy.below {w : World} {xk xv : ByteArray} {xs : Nat} {xi : Int} {v v' : World} (h : Cpy w xk xv xs xi v) (hb : Below v.heap.size v v') : Cpy w xk xv xs xi v' := ⟨h.arg.below hb, h.res.below hb, below_of h.blw hb⟩
theorem Cpy.new (w : World) (xk xv : ByteArray) (xs : Nat) (xi : Int) : Cpy w xk xv xs xi ((w.alloc (.cells #[.string xk, .int .u64 (xs : Int), .int .i64 xi, .string xv] 43)).alloc (.cells #[.string ⟨#[]⟩, .int .u64 0, .int .i64 0, .string ⟨#[]⟩] 43)) := by
  refine ⟨(RowAt.new ⟨xk, xs, xi, xv⟩ w).below (below_alloc _ _), ?_, (below_alloc _ _).alloc (by simp) _⟩
  have := RowAt.new ⟨⟨#[]⟩, 0, 0, ⟨#[]⟩⟩ (w.alloc (.cells #[.string xk, .int .u64 (xs : Int), .int .i64 xi, .string xv] 43))
  rw [World.size_alloc] at this
  exact this
theorem Cpy.cells {w : World} {xk xv : ByteArray} {xs : Nat} {xi : Int} {v : World} (h : Cpy w xk xv xs xi v) : (v.cell? ⟨w.heap.size, 0, none⟩ = some (.string xk) ∧ v.cell? ⟨w.heap.size, 1, none⟩ = some (.int .u64 (xs : Int)) ∧ v.cell? ⟨w.heap.size, 2, none⟩ = some (.int .i64 xi) ∧ v.cell? ⟨w.heap.size, 3, none⟩ = some (.string xv)) ∧ (∀ o, v.frozen? ⟨w.heap.size, o, none⟩ = false) ∧
    v.cell? ⟨w.heap.size + 1, 0, none⟩ = some (.string ⟨#[]⟩) ∧ v.cell? ⟨w.heap.size + 1, 1, none⟩ = some (.int .u64 0) ∧ v.cell? ⟨w.heap.size + 1, 2, none⟩ = some (.int .i64 0) ∧ v.cell? ⟨w.heap.size + 1, 3, none⟩ = some (.string ⟨#[]⟩) ∧ ∀ o, v.frozen? ⟨w.heap.size + 1, o, none⟩ = false := by
  obtain ⟨h1, h2⟩ := h.arg.cells
  obtain ⟨⟨k0, k1, k2, k3⟩, k4⟩ := h.res.cells
  exact ⟨h1, h2, k0, k1, k2, k3, k4⟩
set_option maxRecDepth 100000 in
set_option maxHeartbeats 8000000 in
theorem copied_any (x : Rw) (hk : x.key.size ≤ 281474976710656) (hv : x.val.size ≤ 281474976710656) (w : World) :
    Calls Try.prog 52 #[rowV x] w fun e w' => e = .returned (rowV x) ∧ Below w.heap.size w w' := by
  have C1 := Lib.hid (clone_str x.key hk)
  have C2 := Lib.hid (clone_str x.val hv)
  obtain ⟨xk, xs, xi, xv⟩ := x
  simp only at C1 C2
  have D := Cpy.new w xk xv xs xi
  clear hk hv
  go_enter Try.func52, Try.ntmps52
  go_wp2_with fail
  generalize (w.alloc (.cells #[.string xk, .int .u64 (xs : Int), .int .i64 xi, .string xv] 43)).alloc (.cells #[.string ⟨#[]⟩, .int .u64 0, .int .i64 0, .string ⟨#[]⟩] 43) = W0 at *
  obtain ⟨⟨a0, a1, a2, a3⟩, a4, b0, b1, b2, b3, b4⟩ := D.cells
  have D1 : Cpy w xk xv xs xi W0.drew := ⟨D.arg, D.res, D.blw.drew⟩
  go_region_with (go_at_call 44; (first | ((with_reducible refine (C1.out _).mono ?_); rintro e w1 ⟨rfl, hb⟩; have d := Cpy.below (by assumption) hb; obtain ⟨⟨c0, c1, c2, c3⟩, c4, d0, d1, d2, d3, d4⟩ := d.cells) | ((with_reducible refine (C2.out _).mono ?_); rintro e w1 ⟨rfl, hb⟩; have d := Cpy.below (by assumption) hb; obtain ⟨⟨c0, c1, c2, c3⟩, c4, d0, d1, d2, d3, d4⟩ := d.cells) | fail "no arm"))
  all_goals (
    go_wp2_with fail
    refine bodyPost_ret (v := rowV ⟨xk, xs, xi, xv⟩) (by simp [results, Try.results52, go_sem, c0, c1, c2, c3, d0, d1, d2, d3]) rfl ⟨rfl, ?_⟩
    exact ((((((d.blw.setCell (p := ⟨w.heap.size, 0, none⟩) (Nat.le_refl _) _).setCell (p := ⟨w.heap.size, 3, none⟩) (Nat.le_refl _) _).setCell (p := ⟨w.heap.size + 1, 0, none⟩) (Nat.le_succ _) _).setCell (p := ⟨w.heap.size + 1, 1, none⟩) (Nat.le_succ _) _).setCell (p := ⟨w.heap.size + 1, 2, none⟩) (Nat.le_succ _) _).setCell (p := ⟨w.heap.size + 1, 3, none⟩) (Nat.le_succ _) _))
end Go.Proofs.Ytdgbafpnfkedeaa
/-
  A node linked into a skip list in memory, level by level. No condition.
-/
namespace Go.Proofs.Ytdgbafpnfkedeaa
set_option maxRecDepth 100000
open Go.RowKit
/-- What a call that turns a list leaves of all else. -/
structure Only (p : Nat) (ns : List Nd) (w w' : World) : Prop where
  os : w'.os = w.os
  tape : w'.tape = w.tape
  output : w'.output = w.output
  size : w.heap.size ≤ w'.heap.size
  block : ∀ k : Nat, k < w.heap.size → k ≠ p → (∀ x ∈ ns, k ≠ x.blk) → w'.heap[k]? = w.heap[k]?
theorem Only.of_below {p : Nat} {ns : List Nd} {B : Nat} {w w' : World} (h : Below B w w') (hB : w.heap.size ≤ B) : Only p ns w w' := ⟨h.os, h.tape, h.output, h.size, fun k hk _ _ => h.block k (by omega)⟩
theorem Only.below {p : Nat} {ns : List Nd} {w v w' : World} (h : Only p ns w v) (hb : Below v.heap.size v w') : Only p ns w w' := ⟨hb.os.trans h.os, hb.tape.trans h.tape, hb.output.trans h.output, Nat.le_trans h.size hb.size, fun k hk h1 h2 => (hb.block k (Nat.lt_of_lt_of_le hk h.size)).trans (h.block k hk h1 h2)⟩
theorem Only.drew {p : Nat} {ns : List Nd} {w v : World} (h : Only p ns w v) : Only p ns w v.drew := ⟨h.os, h.tape, h.output, h.size, h.block⟩
theorem Only.drewN {p n : Nat} {ns : List Nd} {w v : World} (h : Only p ns w v) : Only p ns w (v.drewN n) := ⟨h.os, h.tape, h.output, h.size, h.block⟩
theorem Only.setCell {p : Nat} {ns : List Nd} {w v : World} (h : Only p ns w v) {a : Addr} (ha : a.block = p ∨ (∃ x ∈ ns, a.block = x.blk) ∨ w.heap.size ≤ a.block) (u : Value) : Only p ns w (v.setCell a u) :=
  have g : Below 0 v (v.setCell a u) := (Below.refl 0 v).setCell (Nat.zero_le _) u
  ⟨g.os.trans h.os, g.tape.trans h.tape, g.output.trans h.output, Nat.le_trans h.size g.size, fun k hk h1 h2 => (Below.heap_setCell v a u k (by
    rcases ha with e | ⟨x, hx, e⟩ | e
    · rw [e]; exact h1
    · rw [e]; exact h2 x hx
    · omega)).trans (h.block k hk h1 h2)⟩
theorem lnk_block (p : Nat) (pre : List Nd) (h : Nat) : (lnk p pre h).block = p ∨ ∃ x ∈ pre, (lnk p pre h).block = x.blk := by
  unfold lnk
  cases e : pre.getLast? with
  | none => exact .inl rfl
  | some x => exact .inr ⟨x, List.mem_of_getLast? e, rfl⟩
theorem nxt_in {h : Nat} {A : List Nd} (hx : ∃ x ∈ A, h < x.hgt) (r r' : List Nd) : nxt h (A ++ r) = nxt h (A ++ r') := by
  rcases nd_split h A with hl | ⟨a, x, c, rfl, hl, hlt⟩
  · obtain ⟨x, hm, hlt⟩ := hx
    exact absurd (hl x hm) (by omega)
  · rw [List.append_assoc, List.append_assoc, nxt_low hl, nxt_low hl, List.cons_append, List.cons_append, nxt_hit hlt, nxt_hit hlt]
theorem nxt_skip {h : Nat} {d : Nd} (hd : d.hgt ≤ h) (r : List Nd) : ∀ a : List Nd, nxt h (a ++ d :: r) = nxt h (a ++ r)
  | [] => by
    show (if h < d.hgt then _ else nxt h r) = nxt h r
    rw [if_neg (by omega)]
  | x :: a => by
    show (if h < x.hgt then _ else nxt h (a ++ d :: r)) = (if h < x.hgt then _ else nxt h (a ++ r))
    rw [nxt_skip hd r a]
/-- The nodes of level h while the levels below i have the new node. -/
def lvl (A D : List Nd) (d : Nd) (i h : Nat) : List Nd := if h < i then A ++ d :: D else A ++ D
structure SkM (p : Nat) (A D : List Nd) (d : Nd) (i : Nat) (w : World) : Prop where
  nodup : ((A ++ d :: D).map (·.blk)).Nodup
  apart : ∀ x ∈ A ++ d :: D, x.blk ≠ p
  first : ∀ h, h < 12 → w.cell? ⟨p, h, none⟩ = some (.pointer (nxt h (lvl A D d i h)))
  many : w.cell? ⟨p, 12, none⟩ = some (.int .i64 ((A ++ D).length : Int))
  top : w.cell? ⟨p, 13, none⟩ = some (.int .i64 (topH (hgtsN (A ++ D)) : Int))
  frz : ∀ o, w.frozen? ⟨p, o, none⟩ = false
  node : ∀ x ∈ A ++ d :: D, w.cell? ⟨x.blk, 0, none⟩ = some (.string x.row.key) ∧ w.cell? ⟨x.blk, 1, none⟩ = some (.int .u64 (x.row.seq : Int)) ∧ w.cell? ⟨x.blk, 2, none⟩ = some (.int .i64 x.row.kind) ∧ w.cell? ⟨x.blk, 3, none⟩ = some (.string x.row.val)
  link : ∀ h a x r, lvl A D d i h = a ++ x :: r → h < x.hgt → w.cell? ⟨x.blk, 4 + h, none⟩ = some (.pointer (nxt h r))
  nfrz : ∀ x ∈ A ++ d :: D, ∀ o, w.frozen? ⟨x.blk, o, none⟩ = false
  own : ∀ o, o < 16 → (w.cell? ⟨d.blk, o, none⟩).isSome = true
  typ : Typed w p 71
  ntyp : ∀ x ∈ A ++ d :: D, Typed w x.blk 97
theorem blk_ne {l : List Nd} (h : (l.map (·.blk)).Nodup) {a b c : List Nd} {x y : Nd} (e : l = a ++ x :: b ++ y :: c) : x.blk ≠ y.blk := by
  rw [e] at h
  rw [List.map_append, List.map_append, List.map_cons, List.map_cons] at h
  have h1 := (List.nodup_append.1 h).2.2
  exact h1 x.blk (by simp) y.blk (by simp)
theorem SkM.step {p : Nat} {A D : List Nd} {d : Nd} {i : Nat} {w : World} (h : SkM p A D d i w) (hi : i < d.hgt) (hd : d.hgt ≤ 12) {pre mid : List Nd} (hA : A = pre ++ mid) (hh : High i pre) (hm : ∀ x ∈ mid, x.hgt ≤ i) :
    SkM p A D d (i + 1) ((w.setCell ⟨d.blk, 4 + i, none⟩ (.pointer (nxt i D))).setCell (lnk p pre i) (.pointer (some ⟨d.blk, 0, none⟩))) := by
  have hdp : d.blk ≠ p := h.apart d (by simp)
  have hlb : (lnk p pre i).block ≠ d.blk := by
    rcases lnk_block p pre i with e | ⟨x, hx, e⟩
    · rw [e]; exact fun e' => hdp e'.symm
    · rw [e]
      obtain ⟨a, b, e2⟩ := List.append_of_mem hx
      exact blk_ne h.nodup (a := a) (b := b ++ mid) (c := D) (x := x) (y := d) (by rw [hA, e2]; simp)
  have oth : ∀ a : Addr, a ≠ ⟨d.blk, 4 + i, none⟩ → a ≠ lnk p pre i → ((w.setCell ⟨d.blk, 4 + i, none⟩ (.pointer (nxt i D))).setCell (lnk p pre i) (.pointer (some ⟨d.blk, 0, none⟩))).cell? a = w.cell? a := fun a h1 h2 => by
    rw [World.cell?_setCell_other _ _ _ _ h2.symm, World.cell?_setCell_other _ _ _ _ h1.symm]
  have ne1 : ∀ (b o : Nat), (b = d.blk → o ≠ 4 + i) → (⟨b, o, none⟩ : Addr) ≠ ⟨d.blk, 4 + i, none⟩ := fun b o hb e => by
    cases e; exact hb rfl rfl
  -- an address that no link of level i has
  have ne2 : ∀ (b o : Nat), (b = p → o ≠ i) → (b ≠ p → o ≠ 4 + i) → (⟨b, o, none⟩ : Addr) ≠ lnk p pre i := fun b o h1 h2 => by
    rcases hh with rfl | ⟨a, x, rfl, hx⟩
    · rw [lnk_nil]; intro e; cases e; exact h1 rfl rfl
    · rw [lnk_snoc]
      intro e; cases e
      exact h2 (h.apart x (by rw [hA]; simp)) rfl
  have hso : ((w.setCell ⟨d.blk, 4 + i, none⟩ (.pointer (nxt i D))).cell? (lnk p pre i)).isSome = (w.cell? (lnk p pre i)).isSome := by
    rw [World.cell?_setCell_other _ _ _ _ (fun e => hlb (by rw [← e]))]
  have hls : (w.cell? (lnk p pre i)).isSome = true := by
    rcases hh with rfl | ⟨a, x, rfl, hx⟩
    · rw [lnk_nil, h.first i (by omega)]; rfl
    · rw [lnk_snoc, h.link i a x (mid ++ D) (by unfold lvl; rw [if_neg (by omega), hA]; simp) hx]; rfl
  have new2 : ((w.setCell ⟨d.blk, 4 + i, none⟩ (.pointer (nxt i D))).setCell (lnk p pre i) (.pointer (some ⟨d.blk, 0, none⟩))).cell? (lnk p pre i) = some (.pointer (some ⟨d.blk, 0, none⟩)) :=
    World.cell?_setCell_same' _ _ _ (by rw [hso]; exact hls)
  have new1 : ((w.setCell ⟨d.blk, 4 + i, none⟩ (.pointer (nxt i D))).setCell (lnk p pre i) (.pointer (some ⟨d.blk, 0, none⟩))).cell? ⟨d.blk, 4 + i, none⟩ = some (.pointer (nxt i D)) := by
    rw [World.cell?_setCell_other _ _ _ _ (fun e => hlb (by rw [e]))]
    exact World.cell?_setCell_same' _ _ _ (h.own _ (by omega))
  have hnd : nxt i (mid ++ d :: D) = some ⟨d.blk, 0, none⟩ := by rw [nxt_low hm, nxt_hit hi]
  have tset : ∀ b T, Typed w b T → Typed ((w.setCell ⟨d.blk, 4 + i, none⟩ (.pointer (nxt i D))).setCell (lnk p pre i) (.pointer (some ⟨d.blk, 0, none⟩))) b T := fun b T ht => by
    obtain ⟨b', o', hf, _⟩ := lnk_form p pre
    rw [hf]
    exact (ht.set _ _ _).set _ _ _
  refine ⟨h.nodup, h.apart, fun l hl => ?_, ?_, ?_, fun o => ?_, fun x hx => ?_, fun l a x r e hx => ?_, fun x hx o => ?_, fun o ho => ?_, tset _ _ h.typ, fun x hx => tset _ _ (h.ntyp x hx)⟩
  · by_cases e : l = i
    · subst e
      unfold lvl
      rw [if_pos (by omega)]
      rcases hh with rfl | ⟨a, x, rfl, hx⟩
      · rw [lnk_nil] at new2
        rw [lnk_nil, new2, hA, List.nil_append, hnd]
      · rw [oth _ (ne1 _ _ fun e => absurd e.symm hdp) (by rw [lnk_snoc]; intro e; exact h.apart x (by rw [hA]; simp) (congrArg Addr.block e).symm), h.first l hl]
        unfold lvl
        rw [if_neg (by omega)]
        rw [nxt_in (r' := d :: D) ⟨x, by rw [hA]; simp, hx⟩]
    · rw [oth _ (ne1 _ _ fun e => absurd e.symm hdp) (ne2 _ _ (fun _ => e) (fun h => absurd rfl h)), h.first l hl]
      unfold lvl
      by_cases h1 : l < i
      · rw [if_pos h1, if_pos (by omega)]
      · rw [if_neg h1, if_neg (by omega)]
  · rw [oth _ (ne1 _ _ fun e => absurd e.symm hdp) (ne2 _ _ (fun _ => by omega) (fun h => absurd rfl h))]; exact h.many
  · rw [oth _ (ne1 _ _ fun e => absurd e.symm hdp) (ne2 _ _ (fun _ => by omega) (fun h => absurd rfl h))]; exact h.top
  · rw [World.frozen?_setCell, World.frozen?_setCell]; exact h.frz o
  · have hxp := h.apart x hx
    have f : ∀ o, o < 4 → ((w.setCell ⟨d.blk, 4 + i, none⟩ (.pointer (nxt i D))).setCell (lnk p pre i) (.pointer (some ⟨d.blk, 0, none⟩))).cell? ⟨x.blk, o, none⟩ = w.cell? ⟨x.blk, o, none⟩ := fun o ho =>
      oth _ (ne1 _ _ fun _ => by omega) (ne2 _ _ (fun e => absurd e hxp) (fun _ => by omega))
    rw [f 0 (by omega), f 1 (by omega), f 2 (by omega), f 3 (by omega)]
    exact h.node x hx
  · by_cases el : l = i
    · subst el
      unfold lvl at e
      rw [if_pos (by omega)] at e
      have old : ∀ a' r', A ++ D = a' ++ x :: r' → w.cell? ⟨x.blk, 4 + l, none⟩ = some (.pointer (nxt l r')) := fun a' r' e' => h.link l a' x r' (by unfold lvl; rw [if_neg (by omega)]; exact e') hx
      rcases List.append_eq_append_iff.1 e with ⟨a', e1, e2⟩ | ⟨c', e1, e2⟩
      · cases a' with
        | nil =>
          obtain ⟨rfl, rfl⟩ : d = x ∧ D = r := by simpa using e2
          exact new1
        | cons z a' =>
          obtain ⟨rfl, e3⟩ : d = z ∧ D = a' ++ x :: r := by simpa using e2
          have hxd : x.blk ≠ d.blk := (blk_ne h.nodup (a := A) (b := a') (c := r) (x := d) (y := x) (by rw [e3]; simp)).symm
          have hxl : (⟨x.blk, 4 + l, none⟩ : Addr) ≠ lnk p pre l := fun e => by
            rcases lnk_block p pre l with e4 | ⟨y, hy, e4⟩
            · rw [← e] at e4; exact h.apart x (by rw [e3]; simp) e4
            · rw [← e] at e4
              obtain ⟨u, v, e5⟩ := List.append_of_mem hy
              exact blk_ne h.nodup (a := u) (b := v ++ mid ++ d :: a') (c := r) (x := y) (y := x) (by rw [hA, e5, e3]; simp) e4.symm
          rw [oth _ (ne1 _ _ fun e => absurd e hxd) hxl]
          exact old (A ++ a') r (by rw [e3]; simp)
      · cases c' with
        | nil =>
          obtain ⟨rfl, rfl⟩ : x = d ∧ r = D := by simpa using e2
          exact new1
        | cons z c' =>
          obtain ⟨rfl, rfl⟩ : x = z ∧ r = c' ++ d :: D := by simpa using e2
          have hxd : x.blk ≠ d.blk := blk_ne h.nodup (a := a) (b := c') (c := D) (x := x) (y := d) (by rw [e1])
          rw [hA] at e1
          rcases List.append_eq_append_iff.1 e1 with ⟨u, _, e4⟩ | ⟨u, e3, e4⟩
          · exact absurd (hm x (by rw [e4]; simp)) (by omega)
          · cases u with
            | nil =>
              have : x ∈ mid := by
                rw [List.nil_append] at e4
                exact e4 ▸ List.mem_cons_self
              exact absurd (hm x this) (by omega)
            | cons z u =>
              obtain ⟨rfl, rfl⟩ : x = z ∧ c' = u ++ mid := by simpa using e4
              rcases hh with rfl | ⟨b, y, e5, hy⟩
              · simp at e3
              · rcases List.eq_nil_or_concat u with rfl | ⟨u', z, rfl⟩
                · rw [e3, lnk_snoc] at new2
                  rw [e3, lnk_snoc, new2, List.nil_append, hnd]
                · have hz : z = y ∧ a ++ x :: u' = b := by
                    rw [e5] at e3
                    have := List.append_inj' (s₁ := b) (t₁ := [y]) (s₂ := a ++ x :: u') (t₂ := [z]) (by rw [e3]; simp) rfl
                    exact ⟨by simpa using this.2.symm, this.1.symm⟩
                  obtain ⟨rfl, hb⟩ := hz
                  have hxl : (⟨x.blk, 4 + l, none⟩ : Addr) ≠ lnk p pre l := by
                    rw [e5, lnk_snoc]
                    intro e
                    have e6 : x.blk = z.blk := congrArg Addr.block e
                    exact blk_ne h.nodup (a := a) (b := u') (c := mid ++ d :: D) (x := x) (y := z) (by rw [hA, e5, ← hb]; simp) e6
                  rw [oth _ (ne1 _ _ fun e => absurd e hxd) hxl, old a (u' ++ [z] ++ mid ++ D) (by rw [hA, e5, ← hb]; simp)]
                  have := nxt_in (h := l) (A := u' ++ [z] ++ mid) ⟨z, by simp, hy⟩ D (d :: D)
                  rw [this]
                  simp
    · have hxm : x ∈ A ++ d :: D := by
        have : x ∈ lvl A D d (i + 1) l := by rw [e]; simp
        unfold lvl at this
        split at this
        · exact this
        · simp only [List.mem_append, List.mem_cons] at this ⊢
          rcases this with h1 | h1
          · exact .inl h1
          · exact .inr (.inr h1)
      rw [oth _ (ne1 _ _ fun _ => by omega) (ne2 _ _ (fun e => absurd e (h.apart x hxm)) (fun _ => by omega))]
      refine h.link l a x r ?_ hx
      rw [← e]
      unfold lvl
      by_cases h1 : l < i
      · rw [if_pos h1, if_pos (by omega)]
      · rw [if_neg h1, if_neg (by omega)]
  · rw [World.frozen?_setCell, World.frozen?_setCell]; exact h.nfrz x hx o
  · by_cases e : (⟨d.blk, o, none⟩ : Addr) = ⟨d.blk, 4 + i, none⟩
    · rw [e, new1]; rfl
    · rw [oth _ e (fun e2 => hlb (by rw [← e2]))]; exact h.own o ho
theorem SkM.at {p : Nat} {A D : List Nd} {d : Nd} {i : Nat} {w : World} (h : SkM p A D d i w) (hi : i < 12) {pre mid : List Nd} (hA : A = pre ++ mid) (hh : High i pre) (hm : ∀ x ∈ mid, x.hgt ≤ i) :
    w.cell? (lnk p pre i) = some (.pointer (nxt i D)) ∧ w.frozen? (lnk p pre i) = false := by
  have hl : lvl A D d i i = pre ++ (mid ++ D) := by unfold lvl; rw [if_neg (by omega), hA, List.append_assoc]
  rcases hh with rfl | ⟨a, x, rfl, hx⟩
  · rw [lnk_nil]
    refine ⟨?_, h.frz i⟩
    rw [h.first i hi, hl, List.nil_append, nxt_low hm]
  · rw [lnk_snoc]
    refine ⟨?_, h.nfrz x (by rw [hA]; simp) _⟩
    rw [h.link i a x (mid ++ D) (by rw [hl]; simp) hx, nxt_low hm]
theorem SkM.drewN {p : Nat} {A D : List Nd} {d : Nd} {i n : Nat} {w : World} (h : SkM p A D d i w) : SkM p A D d i (w.drewN n) := ⟨h.nodup, h.apart, h.first, h.many, h.top, h.frz, h.node, h.link, h.nfrz, h.own, h.typ, h.ntyp⟩
theorem SkM.drew {p : Nat} {A D : List Nd} {d : Nd} {i : Nat} {w : World} (h : SkM p A D d i w) : SkM p A D d i w.drew := ⟨h.nodup, h.apart, h.first, h.many, h.top, h.frz, h.node, h.link, h.nfrz, h.own, h.typ, h.ntyp⟩
theorem SkM.start {p : Nat} {A D : List Nd} {d : Nd} {w W : World} (h : SkA p (A ++ D) w) (hW : Below w.heap.size w W) (hn : w.heap.size ≤ d.blk) {cs : Array Value} (hc : W.heap[d.blk]? = some (.cells cs 97 (0, 0))) (hz : cs.size = 16)
    (hr : W.cell? ⟨d.blk, 0, none⟩ = some (.string d.row.key) ∧ W.cell? ⟨d.blk, 1, none⟩ = some (.int .u64 (d.row.seq : Int)) ∧ W.cell? ⟨d.blk, 2, none⟩ = some (.int .i64 d.row.kind) ∧ W.cell? ⟨d.blk, 3, none⟩ = some (.string d.row.val)) : SkM p A D d 0 W := by
  have h' := h.grow hW
  have hlt : ∀ x ∈ A ++ D, x.blk ≠ d.blk := fun x hx e => by have := h.nlt hx; omega
  have hmem : ∀ x, x ∈ A ++ d :: D → x = d ∨ x ∈ A ++ D := fun x hx => by
    simp only [List.mem_append, List.mem_cons] at hx ⊢
    rcases hx with h1 | h1 | h1
    · exact .inr (.inl h1)
    · exact .inl h1
    · exact .inr (.inr h1)
  refine ⟨?_, fun x hx => ?_, h'.first, h'.many, h'.top, h'.frz, fun x hx => ?_, fun l a x r e hl => h'.link a x r e l hl, fun x hx o => ?_, fun o ho => ?_, h'.typ, fun x hx => ?_⟩
  · have hp : (A ++ d :: D).Perm (d :: (A ++ D)) := List.perm_middle
    rw [(hp.map (·.blk)).nodup_iff, List.map_cons, List.nodup_cons]
    refine ⟨fun hm => ?_, h.nodup⟩
    obtain ⟨x, hx, e⟩ := List.mem_map.1 hm
    exact hlt x hx e
  · rcases hmem x hx with rfl | hx
    · intro e; have := h.lt; omega
    · exact h.apart x hx
  · rcases hmem x hx with rfl | hx
    · exact hr
    · exact h'.node x hx
  · rcases hmem x hx with rfl | hx
    · simp [World.frozen?, hc]
    · exact h'.nfrz x hx o
  · simp only [World.cell?, hc]
    rw [Array.getElem?_eq_getElem (by omega)]
    rfl
  · rcases hmem x hx with rfl | hx
    · exact ⟨cs, hc⟩
    · exact h'.ntyp x hx
theorem SkM.done {p : Nat} {A D : List Nd} {d : Nd} {i : Nat} {w : World} (h : SkM p A D d i w) (hi : i = d.hgt) (hs : SortedR (rowsN (A ++ d :: D))) (hh : ∀ x ∈ A ++ d :: D, 1 ≤ x.hgt ∧ x.hgt ≤ 12) (hb : ∀ x ∈ A ++ d :: D, x.row.key.size ≤ 281474976710656 ∧ x.row.val.size ≤ 281474976710656 ∧ x.row.seq ≤ 18446744073709551615) :
    SkA p (A ++ d :: D) ((w.setCell ⟨p, 12, none⟩ (.int .i64 (((A ++ d :: D).length : Nat) : Int))).setCell ⟨p, 13, none⟩ (.int .i64 ((topH (hgtsN (A ++ d :: D)) : Nat) : Int))) := by
  have oth : ∀ a : Addr, a ≠ ⟨p, 12, none⟩ → a ≠ ⟨p, 13, none⟩ → ((w.setCell ⟨p, 12, none⟩ (.int .i64 (((A ++ d :: D).length : Nat) : Int))).setCell ⟨p, 13, none⟩ (.int .i64 ((topH (hgtsN (A ++ d :: D)) : Nat) : Int))).cell? a = w.cell? a := fun a h1 h2 => by
    rw [World.cell?_setCell_other _ _ _ _ h2.symm, World.cell?_setCell_other _ _ _ _ h1.symm]
  have nd : ∀ x ∈ A ++ d :: D, ∀ o, ((w.setCell ⟨p, 12, none⟩ (.int .i64 (((A ++ d :: D).length : Nat) : Int))).setCell ⟨p, 13, none⟩ (.int .i64 ((topH (hgtsN (A ++ d :: D)) : Nat) : Int))).cell? ⟨x.blk, o, none⟩ = w.cell? ⟨x.blk, o, none⟩ := fun x hx o =>
    oth _ (fun e => h.apart x hx (congrArg Addr.block e)) (fun e => h.apart x hx (congrArg Addr.block e))
  have hl : ∀ l, nxt l (lvl A D d i l) = nxt l (A ++ d :: D) := fun l => by
    unfold lvl
    split
    · rfl
    · exact (nxt_skip (by omega) D A).symm
  refine ⟨hs, hh, hb, h.nodup, h.apart, fun l hl' => ?_, ?_, ?_, fun o => ?_, fun x hx => ?_, fun a x r e l hx => ?_, fun x hx o => ?_, (h.typ.set _ _ _).set _ _ _, fun x hx => ((h.ntyp x hx).set _ _ _).set _ _ _⟩
  · rw [oth _ (fun e => by have := congrArg Addr.off e; simp only at this; omega) (fun e => by have := congrArg Addr.off e; simp only at this; omega), h.first l hl', hl]
  · rw [World.cell?_setCell_other _ _ _ _ (fun e => by have := congrArg Addr.off e; simp at this)]
    exact World.cell?_setCell_same' _ _ _ (by rw [h.many]; rfl)
  · exact World.cell?_setCell_same' _ _ _ (by rw [World.cell?_setCell_other _ _ _ _ (fun e => by have := congrArg Addr.off e; simp at this), h.top]; rfl)
  · rw [World.frozen?_setCell, World.frozen?_setCell]; exact h.frz o
  · rw [nd x hx, nd x hx, nd x hx, nd x hx]; exact h.node x hx
  · have hxm : x ∈ A ++ d :: D := by rw [e]; simp
    rw [nd x hxm]
    by_cases hli : l < i
    · exact h.link l a x r (by unfold lvl; rw [if_pos hli]; exact e) hx
    · have hlv : lvl A D d i l = A ++ D := by unfold lvl; rw [if_neg hli]
      rcases List.append_eq_append_iff.1 e with ⟨a', e1, e2⟩ | ⟨c', e1, e2⟩
      · cases a' with
        | nil =>
          obtain ⟨rfl, rfl⟩ : d = x ∧ D = r := by simpa using e2
          exact absurd hx (by omega)
        | cons z a' =>
          obtain ⟨rfl, e3⟩ : d = z ∧ D = a' ++ x :: r := by simpa using e2
          exact h.link l (A ++ a') x r (by rw [hlv, e3]; simp) hx
      · cases c' with
        | nil =>
          obtain ⟨rfl, rfl⟩ : x = d ∧ r = D := by simpa using e2
          exact absurd hx (by omega)
        | cons z c' =>
          obtain ⟨rfl, rfl⟩ : x = z ∧ r = c' ++ d :: D := by simpa using e2
          rw [h.link l a x (c' ++ D) (by rw [hlv, e1]; simp) hx, nxt_skip (by omega)]
  · rw [World.frozen?_setCell, World.frozen?_setCell]; exact h.nfrz x hx o
end Go.Proofs.Ytdgbafpnfkedeaa
/-
  The contract of the list's Put. Condition: texts of less than 2^48 bytes.
-/
namespace Go.Proofs.Ytdgbafpnfkedeaa
set_option maxRecDepth 100000
open Go.RowKit
attribute [local go_sem] eq_node ne_node eq_list
/-- What Put leaves. -/
def PutDid (p : Nat) (ns : List Nd) (x : Rw) (hgt : Int) (w : World) (e : Ending) (w' : World) : Prop :=
  e = .returned (.bool (!thr (rowsN ns) x.key x.seq)) ∧ Only p ns w w' ∧
    ((thr (rowsN ns) x.key x.seq = true ∧ SkA p ns w') ∨ (thr (rowsN ns) x.key x.seq = false ∧ ∃ nb, w.heap.size ≤ nb ∧ nb < w'.heap.size ∧ SkA p (ns.take (plN ns x.key x.seq) ++ ⟨x, hgtOf hgt, nb⟩ :: ns.drop (plN ns x.key x.seq)) w'))
theorem front_whole {p : Nat} {ns : List Nd} {w : World} (h : SkA p ns w) (e : Nat) : ns.take (dn ((hgtsN ns).take e) 12).1 = ns.take e ∨ ns.length < e := by
  rcases Nat.lt_or_ge ns.length e with h1 | h1
  · exact .inr h1
  · left
    rw [hgtsN_take]
    have hh : ∀ x ∈ ns.take e, x.hgt ≤ 12 := fun x hx => (h.hgt x (List.mem_of_mem_take hx)).2
    obtain ⟨_, h2⟩ := dn_high hh (Nat.le_refl 12)
    have hl := (dn_le (hgtsN (ns.take e)) 12).1
    have hl2 : (hgtsN (ns.take e)).length = e := by unfold hgtsN; rw [List.length_map, List.length_take]; omega
    have h3 : (dn (hgtsN (ns.take e)) 12).1 = e := by
      rcases Nat.lt_or_ge (dn (hgtsN (ns.take e)) 12).1 e with h4 | h4
      · exfalso
        obtain ⟨x, hx⟩ : ∃ x, x ∈ (ns.take e).drop (dn (hgtsN (ns.take e)) 12).1 := by
          refine List.exists_mem_of_length_pos ?_
          rw [List.length_drop, List.length_take]; omega
        have := h2 x hx
        have := (h.hgt x (List.mem_of_mem_take (List.mem_of_mem_drop hx))).1
        omega
      · omega
    rw [h3]
theorem bfA_zero {p : Nat} {ns : List Nd} {w : World} (h : SkA p ns w) {e : Nat} (he : e ≤ ns.length) : bfA p ns e 0 = lnk p (ns.take e) 0 := by
  unfold bfA
  rcases front_whole h e with h1 | h1
  · rw [show 12 - 0 = 12 from rfl, h1]
  · omega
theorem thr_head {ns : List Nd} {k : ByteArray} {q : Nat} : thr (rowsN ns) k q = match ns.drop (plN ns k q) with | [] => false | y :: _ => decide (y.row.key.toList = k.toList) && decide (y.row.seq = q) := by
  unfold thr plN
  have e : (rowsN ns)[plc (rowsN ns) k q]? = (ns.drop (plc (rowsN ns) k q)).head?.map (·.row) := by
    unfold rowsN
    rw [List.getElem?_map, List.head?_drop]
  rw [e]
  cases ns.drop (plc (rowsN ns) k q) <;> rfl
theorem node_cells {w : World} {b : Nat} {T : TypeId} {v0 v1 v2 v3 v4 v5 v6 v7 v8 v9 v10 v11 v12 v13 v14 v15 : Value} (h : w.heap[b]? = some (.cells #[v0, v1, v2, v3, v4, v5, v6, v7, v8, v9, v10, v11, v12, v13, v14, v15] T (0, 0))) : w.cell? ⟨b, 0, none⟩ = some v0 ∧ w.cell? ⟨b, 1, none⟩ = some v1 ∧ w.cell? ⟨b, 2, none⟩ = some v2 ∧ w.cell? ⟨b, 3, none⟩ = some v3 := by simp [World.cell?, h]
set_option maxRecDepth 100000 in
set_option maxHeartbeats 4000000 in
theorem put_any {p : Nat} {ns : List Nd} {w : World} (h : SkA p ns w) (hn : ns.length ≤ 4611686018427387903) (x : Rw) (hk : x.key.size ≤ 281474976710656) (hv : x.val.size ≤ 281474976710656) (hq : x.seq ≤ 18446744073709551615) (hgt : Int) :
    Calls Try.prog 46 #[.pointer (some ⟨p, 0, none⟩), rowV x, .int .i64 hgt] w (PutDid p ns x hgt w) := by
  obtain ⟨e, he⟩ := named (plN ns x.key x.seq)
  have hel : e ≤ ns.length := by rw [he.out]; exact plN_le _ _ _
  obtain ⟨T, hT⟩ := named (thr (rowsN ns) x.key x.seq)
  have hT2 := hT.out
  rw [thr_head, ← he.out] at hT2
  replace hT2 := Lib.hid hT2
  unfold PutDid
  obtain ⟨HH, hHH⟩ := named (hgtOf hgt)
  rw [← hT.out, ← he.out, ← hHH.out]
  have hr := hgtOf_range hgt
  rw [← hHH.out] at hr
  have CP := fun u => Lib.hid (copied_any x hk hv u)
  have W0 := Lib.hid (below_alloc w (.cells #[.string x.key, .int .u64 (x.seq : Int), .int .i64 x.kind, .string x.val] 43))
  have S := Lib.hid (search_any (h.grow W0.out) (by omega) x.key x.seq)
  rw [← he.out] at S
  have R0 := Lib.hid (RowAt.new x w)
  have b0 := Lib.hid (bfA_zero h hel)
  have H := Lib.hid h
  have hkv : Hid (x.key.size ≤ 281474976710656 ∧ x.val.size ≤ 281474976710656 ∧ x.seq ≤ 18446744073709551615) := Lib.hid ⟨hk, hv, hq⟩
  obtain ⟨A, hA⟩ := named (ns.take e)
  obtain ⟨D, hD⟩ := named (ns.drop e)
  have hAD : Hid (ns = A ++ D) := Lib.hid (by rw [hA.out, hD.out, List.take_append_drop])
  rw [← hA.out] at b0
  rw [← hD.out] at hT2
  have l0 : Hid (∀ u, SkA p ns u → u.cell? (lnk p A 0) = some (.pointer (nxt 0 D))) := Lib.hid fun u hu => hu.at hAD.out (by omega) (by
    rcases List.eq_nil_or_concat A with e1 | ⟨a, y, e1⟩
    · exact .inl e1
    · exact .inr ⟨a, y, by rw [e1]; simp, by have := (hu.hgt y (by rw [hAD.out, e1]; simp)).1; omega⟩)
  have hG : ∀ l, l < 12 → (bfc p ns e 12)[l]? = some (.pointer (some (bfA p ns e l))) := fun l hl => by rw [bfc_at _ _ _ _ _ hl, if_pos (by omega)]
  rw [bfc_full] at S hG
  obtain ⟨bz, hbz⟩ := named (bfA p ns e)
  rw [← hbz.out] at S b0 hG
  replace hG := Lib.hid hG
  obtain ⟨xk, xs, xi, xv⟩ := x
  simp only at CP W0 S R0 hT2 hkv
  clear hk hv hq h
  go_enter Try.func46, Try.ntmps46
  have cR := R0.out.cells
  obtain ⟨⟨r0, r1, r2, r3⟩, r4⟩ := cR
  go_upto_region 4 with (go_at_call 51; ((with_reducible refine S.out.mono ?_); rintro e1 w1 ⟨rfl, hb1⟩))
  have hg1 := heap_alloc_new w1 (.cells #[.pointer (some (bz 0)), .pointer (some (bz 1)), .pointer (some (bz 2)), .pointer (some (bz 3)), .pointer (some (bz 4)), .pointer (some (bz 5)), .pointer (some (bz 6)), .pointer (some (bz 7)), .pointer (some (bz 8)), .pointer (some (bz 9)), .pointer (some (bz 10)), .pointer (some (bz 11))] 93)
  have hbw := below_of (below_of W0.out hb1) (below_alloc w1 (.cells #[.pointer (some (bz 0)), .pointer (some (bz 1)), .pointer (some (bz 2)), .pointer (some (bz 3)), .pointer (some (bz 4)), .pointer (some (bz 5)), .pointer (some (bz 6)), .pointer (some (bz 7)), .pointer (some (bz 8)), .pointer (some (bz 9)), .pointer (some (bz 10)), .pointer (some (bz 11))] 93))
  have R1 := (R0.out.below hb1).below (below_alloc w1 (.cells #[.pointer (some (bz 0)), .pointer (some (bz 1)), .pointer (some (bz 2)), .pointer (some (bz 3)), .pointer (some (bz 4)), .pointer (some (bz 5)), .pointer (some (bz 6)), .pointer (some (bz 7)), .pointer (some (bz 8)), .pointer (some (bz 9)), .pointer (some (bz 10)), .pointer (some (bz 11))] 93))
  have hgs : w.heap.size < w1.heap.size := by have := hb1.size; simp at this; omega
  generalize w1.alloc (.cells #[.pointer (some (bz 0)), .pointer (some (bz 1)), .pointer (some (bz 2)), .pointer (some (bz 3)), .pointer (some (bz 4)), .pointer (some (bz 5)), .pointer (some (bz 6)), .pointer (some (bz 7)), .pointer (some (bz 8)), .pointer (some (bz 9)), .pointer (some (bz 10)), .pointer (some (bz 11))] 93) = W2 at *
  obtain ⟨g, hg⟩ := named w1.heap.size
  rw [← hg.out] at hg1 hgs ⊢
  clear r0 r1 r2 r3 r4 S hb1
  have H2 := Lib.hid (H.out.grow hbw)
  have c0 : W2.cell? ⟨g, 0, none⟩ = some (.pointer (some (bz 0))) := by simp [World.cell?, hg1]
  have c1 := l0.out _ H2.out
  obtain ⟨N0, hN0⟩ := named (nxt 0 D)
  rw [← hN0.out] at c1
  rw [← b0.out] at c1
  obtain ⟨⟨r0, r1, r2, r3⟩, r4⟩ := R1.cells
  replace R1 := Lib.hid R1
  replace hbw := Lib.hid hbw
  replace hgs := Lib.hid hgs
  replace hg1 := Lib.hid hg1
  go_upto_region 5 with fail
  go_cut [49] from 28 to 49 (fun b wc => b = .bool T ∧ ∃ n, wc = W2.drewN n)
  case first =>
    clear CP b0 l0 hG
    cases D with
    | nil =>
      obtain rfl : T = false := hT2.out
      obtain rfl : N0 = none := hN0.out
      go_quiet (fail)
      go_wp2_with fail
      go_meet
      exact ⟨rfl, _, rfl⟩
    | cons y r =>
      have hy : y ∈ ns := by rw [hAD.out]; simp
      obtain rfl : N0 = some ⟨y.blk, 0, none⟩ := hN0.out.trans (nxt_hit (show 0 < y.hgt by have := (H2.out.hgt y hy).1; omega) r)
      obtain ⟨y0, y1, _, _⟩ := H2.out.node y hy
      have ht : T = (decide (y.row.key.toList = xk.toList) && decide (y.row.seq = xs)) := hT2.out
      by_cases q1 : y.row.key.toList = xk.toList
      · have q1b : (y.row.key.toList == xk.toList) = true := by simpa using q1
        by_cases q2 : y.row.seq = xs
        · have q2b : ((y.row.seq : Int) == (xs : Int)) = true := by rw [beq_iff_eq]; omega
          obtain rfl : T = true := by rw [ht, q1, q2]; simp
          clear q1 q2 ht
          go_quiet (fail)
          go_wp2_with fail
          go_meet
          exact ⟨rfl, _, rfl⟩
        · have q2b : ((y.row.seq : Int) == (xs : Int)) = false := by rw [beq_eq_false_iff_ne]; omega
          obtain rfl : T = false := by rw [ht, decide_eq_false q2]; simp
          clear q1 q2 ht
          go_quiet (fail)
          go_wp2_with fail
          go_meet
          exact ⟨rfl, _, rfl⟩
      · have q1b : (y.row.key.toList == xk.toList) = false := by simpa using q1
        obtain rfl : T = false := by rw [ht, decide_eq_false q1]; simp
        clear q1 ht
        go_quiet (fail)
        go_wp2_with fail
        go_meet
        exact ⟨rfl, _, rfl⟩
  case rest =>
    obtain ⟨rfl, n, rfl⟩ := hcut
    have hd := below_drewN (n := n) (Below.refl W2.heap.size W2)
    have hg3 := hg1.out
    rw [← hd.block g (by have := (Array.getElem?_eq_some_iff.1 hg1.out).1; exact this)] at hg3
    have hbw3 := below_of hbw.out hd
    have R3 := R1.out.below hd
    have hW2 := (Array.getElem?_eq_some_iff.1 hg1.out).1
    have H3 := Lib.hid (H2.out.grow hd)
    generalize W2.drewN n = W3 at *
    clear H2 hbw R1 r0 r1 r2 r3 r4 c0 c1 hd hT2
    cases T with
    | true =>
      have Q : Hid (Only p ns w W3 ∧ SkA p ns W3) := Lib.hid ⟨Only.of_below hbw3 (Nat.le_refl _), H3.out⟩
      clear hbw3 R3 hg3 H3 hg1
      go_wp2_with fail
      go_returns
      exact ⟨rfl, Q.out.1, by simpa using Q.out.2⟩
    | false =>
      obtain ⟨⟨r0, r1, r2, r3⟩, r4⟩ := R3.cells
      go_upto_region 9 with (go_at_call 52; ((with_reducible refine (CP _).out.mono ?_); rintro e4 w4 ⟨rfl, hb4⟩))
      rw [show min (max hgt 1) 12 = ((HH : Nat) : Int) by rw [hHH.out]; unfold hgtOf; split <;> (try split) <;> omega]
      have hm := (H3.out.grow hb4)
      rw [hAD.out] at hm
      have hc := heap_alloc_new w4 (.cells #[.string xk, .int .u64 (xs : Int), .int .i64 xi, .string xv, .pointer none, .pointer none, .pointer none, .pointer none, .pointer none, .pointer none, .pointer none, .pointer none, .pointer none, .pointer none, .pointer none, .pointer none] 97)
      have hm0 := SkM.start (d := ⟨⟨xk, xs, xi, xv⟩, HH, w4.heap.size⟩) hm (below_alloc w4 _) (Nat.le_refl _) hc rfl (node_cells hc)
      have hb5 := below_of hb4 (below_alloc w4 (.cells #[.string xk, .int .u64 (xs : Int), .int .i64 xi, .string xv, .pointer none, .pointer none, .pointer none, .pointer none, .pointer none, .pointer none, .pointer none, .pointer none, .pointer none, .pointer none, .pointer none, .pointer none] 97))
      have hlt5 : w4.heap.size < (w4.alloc (.cells #[.string xk, .int .u64 (xs : Int), .int .i64 xi, .string xv, .pointer none, .pointer none, .pointer none, .pointer none, .pointer none, .pointer none, .pointer none, .pointer none, .pointer none, .pointer none, .pointer none, .pointer none] 97)).heap.size := by simp
      have hnb : w.heap.size ≤ w4.heap.size ∧ g ≠ w4.heap.size := by
        have := hbw3.size; have := hb4.size; have := (Array.getElem?_eq_some_iff.1 hg3).1; omega
      generalize w4.alloc (.cells #[.string xk, .int .u64 (xs : Int), .int .i64 xi, .string xv, .pointer none, .pointer none, .pointer none, .pointer none, .pointer none, .pointer none, .pointer none, .pointer none, .pointer none, .pointer none, .pointer none, .pointer none] 97) = W5 at *
      obtain ⟨nb, hnbe⟩ := named w4.heap.size
      rw [← hnbe.out] at hm0 hnb hlt5 ⊢
      clear hc hm hb4 r0 r1 r2 r3 r4 R3 CP
      have hO := Only.of_below (p := p) (ns := ns) (below_of hbw3 hb5) (Nat.le_refl _)
      have hg5 := (hb5.block g (Array.getElem?_eq_some_iff.1 hg3).1).trans hg3
      replace hm0 := Lib.hid hm0
      replace hO := Lib.hid hO
      replace hg5 := Lib.hid hg5
      replace hgs := hgs.out
      have hgns : Hid (g ≠ p ∧ ∀ y ∈ ns, g ≠ y.blk) := Lib.hid ⟨by have := H.out.lt; omega, fun y hy => by have := H.out.nlt hy; omega⟩
      clear hb5 hbw3 hg3 hg1 H3 hW2
      go_wp2_with fail
      go_loopw [58] (fun c wr => ∃ i : Nat, i ≤ HH ∧ c = .int .i64 (i : Int) ∧ SkM p A D ⟨⟨xk, xs, xi, xv⟩, HH, nb⟩ i wr ∧ Only p ns w wr ∧ nb < wr.heap.size ∧ ∀ l, l < 12 → wr.cell? ⟨g, l, none⟩ = some (.pointer (some (bz l)))) (fun c _ => HH - (intOf c).toNat)
      case atStart => exact ⟨0, by omega, rfl, hm0.out, hO.out, hlt5, fun l hl => by simp only [World.cell?, hg5.out]; exact hG.out l hl⟩
      case round =>
        clear hm0 hO hg5 hlt5
        obtain ⟨i, hi, rfl, hM, hO, hlt, hgc⟩ := hrel
        by_cases hlt12 : i < HH
        · obtain ⟨pre, hpre⟩ := named (A.take (dn (hgtsN A) (12 - i)).1)
          obtain ⟨mid, hmid⟩ := named (A.drop (dn (hgtsN A) (12 - i)).1)
          have hA1 : A = pre ++ mid := by rw [hpre.out, hmid.out, List.take_append_drop]
          have hhi : High i pre ∧ ∀ x ∈ mid, x.hgt ≤ i := by
            obtain ⟨h1, h2⟩ := dn_high (A := A) (fun y hy => (H.out.hgt y (by rw [hAD.out]; simp [hy])).2) (show 12 - i ≤ 12 by omega)
            rw [← hpre.out] at h1
            rw [← hmid.out] at h2
            rw [show 12 - (12 - i) = i by omega] at h1 h2
            exact ⟨h1, h2⟩
          have hbi : bz i = lnk p pre 0 := by
            rw [hbz.out]
            unfold bfA
            rw [hgtsN_take, ← hA.out, hpre.out]
            congr 1
            rw [hA.out, List.take_take]
            congr 1
            have := (dn_le (hgtsN (ns.take e)) (12 - i)).1
            have hl2 : (hgtsN (ns.take e)).length = e := by unfold hgtsN; rw [List.length_map, List.length_take]; omega
            omega
          obtain ⟨b, o, hform, hf0⟩ := lnk_form p pre
          have c0 := hgc i (by omega)
          rw [hbi, hf0] at c0
          obtain ⟨c1, c2⟩ := hM.at (by omega) hA1 hhi.1 hhi.2
          rw [hform] at c1 c2
          have c3 : wr.frozen? ⟨nb, 4 + i, none⟩ = false := hM.nfrz ⟨⟨xk, xs, xi, xv⟩, HH, nb⟩ (by simp) _
          obtain ⟨v0, c4⟩ := Option.isSome_iff_exists.1 (hM.own (4 + i) (by omega))
          simp only at c4
          have i0 : (0 : Int) ≤ (i : Int) := by omega
          have i1 : (i : Int) < 12 := by omega
          have i2 : (i : Int) < (HH : Int) := by omega
          have hne : nb ≠ b := by
            have h1 := (lnk_block p pre 0)
            rw [hf0] at h1
            rcases h1 with e1 | ⟨y, hy, e1⟩
            · have := H.out.lt; simp only at e1; omega
            · have := H.out.nlt (x := y) (by rw [hAD.out, hA1]; simp [hy]); simp only at e1; omega
          have hne2 : Hid (g ≠ b) := Lib.hid (by
            have h1 := (lnk_block p pre 0)
            rw [hf0] at h1
            rcases h1 with e1 | ⟨y, hy, e1⟩
            · simp only at e1; rw [e1]; exact hgns.out.1
            · simp only at e1; rw [e1]; exact hgns.out.2 y (by rw [hAD.out, hA1]; simp [hy]))
          replace hM := Lib.hid hM
          replace hO := Lib.hid hO
          replace hgc := Lib.hid hgc
          replace hA1 := Lib.hid hA1
          replace hform := Lib.hid hform
          replace hf0 := Lib.hid hf0
          replace hbi := Lib.hid hbi
          go_upto_region 12 with fail
          go_region
          have Q : Hid (SkM p A D ⟨⟨xk, xs, xi, xv⟩, HH, nb⟩ (i + 1) ((wr.setCell ⟨nb, 4 + i, none⟩ (.pointer (nxt i D))).drew.setCell ⟨b, o + i, none⟩ (.pointer (some ⟨nb, 0, none⟩))) ∧ Only p ns w ((wr.setCell ⟨nb, 4 + i, none⟩ (.pointer (nxt i D))).drew.setCell ⟨b, o + i, none⟩ (.pointer (some ⟨nb, 0, none⟩))) ∧ nb < ((wr.setCell ⟨nb, 4 + i, none⟩ (.pointer (nxt i D))).drew.setCell ⟨b, o + i, none⟩ (.pointer (some ⟨nb, 0, none⟩))).heap.size ∧ ∀ l, l < 12 → ((wr.setCell ⟨nb, 4 + i, none⟩ (.pointer (nxt i D))).drew.setCell ⟨b, o + i, none⟩ (.pointer (some ⟨nb, 0, none⟩))).cell? ⟨g, l, none⟩ = some (.pointer (some (bz l)))) := Lib.hid (by
            refine ⟨?_, ?_, ?_, fun l hl => ?_⟩
            · have := (hM.out.step (by show i < HH; omega) hr.2 hA1.out hhi.1 hhi.2).drew
              rw [hform.out] at this
              exact this
            · refine Only.setCell (Only.drew (hO.out.setCell (.inr (.inr hnb.1)) _)) ?_ _
              have h1 := (lnk_block p pre 0)
              rw [hf0.out] at h1
              rcases h1 with e1 | ⟨y, hy, e1⟩
              · exact .inl e1
              · exact .inr (.inl ⟨y, by rw [hAD.out, hA1.out]; simp [hy], e1⟩)
            · have := ((Below.refl 0 wr).setCell (p := ⟨nb, 4 + i, none⟩) (Nat.zero_le _) (.pointer (nxt i D))).drew.setCell (p := ⟨b, o + i, none⟩) (Nat.zero_le _) (.pointer (some ⟨nb, 0, none⟩))
              exact Nat.lt_of_lt_of_le hlt this.size
            · rw [World.cell?_setCell_other _ _ _ _ (fun e => hne2.out (congrArg Addr.block e).symm), World.cell?_drew, World.cell?_setCell_other _ _ _ _ (fun e => hnb.2 (congrArg Addr.block e).symm)]
              exact hgc.out l hl)
          have d0 : (wr.setCell ⟨nb, 4 + i, none⟩ (.pointer (nxt i D))).drew.cell? ⟨g, i, none⟩ = some (.pointer (some ⟨b, o, none⟩)) := by
            rw [World.cell?_drew, World.cell?_setCell_other _ _ _ _ (fun e => hnb.2 (congrArg Addr.block e).symm)]; exact c0
          have d1 : (wr.setCell ⟨nb, 4 + i, none⟩ (.pointer (nxt i D))).drew.cell? ⟨b, o + i, none⟩ = some (.pointer (nxt i D)) := by
            rw [World.cell?_drew, World.cell?_setCell_other _ _ _ _ (fun e => hne (congrArg Addr.block e))]; exact c1
          have d2 : (wr.setCell ⟨nb, 4 + i, none⟩ (.pointer (nxt i D))).drew.frozen? ⟨b, o + i, none⟩ = false := by
            show (wr.setCell ⟨nb, 4 + i, none⟩ (.pointer (nxt i D))).frozen? _ = false
            rw [World.frozen?_setCell]; exact c2
          generalize (wr.setCell ⟨nb, 4 + i, none⟩ (.pointer (nxt i D))).drew = V at *
          clear c0 c1 c2 c3 c4 hM hO hgc hlt
          go_wp2_with fail
          go_roundw
          case rel => exact ⟨i + 1, by omega, by go_num, Q.out⟩
          case measure => simp [intOf]; omega
        · have hiH : i = HH := by omega
          subst hiH
          have m12 : wr.cell? ⟨p, 12, none⟩ = some (.int .i64 ((A ++ D).length : Int)) := hM.many
          have m13 : wr.cell? ⟨p, 13, none⟩ = some (.int .i64 (topH (hgtsN (A ++ D)) : Int)) := hM.top
          have f12 := hM.frz 12
          have f13 := hM.frz 13
          have hlen : (A ++ D).length ≤ 4611686018427387903 := by rw [← hAD.out]; exact hn
          have i2 : ¬ ((i : Int) < (i : Int)) := by omega
          obtain ⟨L, hL⟩ := named (A ++ D).length
          obtain ⟨M, hM2⟩ := named (topH (hgtsN (A ++ D)))
          rw [← hL.out] at m12 hlen
          rw [← hM2.out] at m13
          have eL : (A ++ (⟨⟨xk, xs, xi, xv⟩, i, nb⟩ : Nd) :: D).length = L + 1 := by rw [hL.out]; simp only [List.length_append, List.length_cons]; omega
          have eM : topH (hgtsN (A ++ (⟨⟨xk, xs, xi, xv⟩, i, nb⟩ : Nd) :: D)) = max M i := by
            rw [hM2.out]
            unfold hgtsN
            simp only [List.map_append, List.map_cons, topH_app, topH_cons]
            omega
          have hmem : ∀ y, y ∈ A ++ (⟨⟨xk, xs, xi, xv⟩, i, nb⟩ : Nd) :: D → y = ⟨⟨xk, xs, xi, xv⟩, i, nb⟩ ∨ y ∈ ns := fun y hy => by
            rw [hAD.out]
            simp only [List.mem_append, List.mem_cons] at hy ⊢
            rcases hy with h1 | h1 | h1
            · exact .inr (.inl h1)
            · exact .inl h1
            · exact .inr (.inr h1)
          have hsort : SortedR (rowsN (A ++ (⟨⟨xk, xs, xi, xv⟩, i, nb⟩ : Nd) :: D)) := by
            have := insR_sorted H.out.sort (x := ⟨xk, xs, xi, xv⟩) hT.out.symm
            unfold insR at this
            have he2 : plc (rowsN ns) xk xs = e := he.out.symm
            simp only [he2] at this
            rw [hA.out, hD.out]
            unfold rowsN at this ⊢
            rw [List.map_append, List.map_cons, List.map_take, List.map_drop]
            exact this
          have Q := hM.done rfl hsort (fun y hy => by
            rcases hmem y hy with rfl | hy
            · exact hr
            · exact H.out.hgt y hy) (fun y hy => by
            rcases hmem y hy with rfl | hy
            · exact hkv.out
            · exact H.out.small y hy)
          rw [eL, eM] at Q
          have Q2 : Only p ns w ((wr.setCell ⟨p, 12, none⟩ (.int .i64 ((L + 1 : Nat) : Int))).setCell ⟨p, 13, none⟩ (.int .i64 ((max M i : Nat) : Int))) := (hO.setCell (.inl rfl) _).setCell (.inl rfl) _
          have Q3 : nb < ((wr.setCell ⟨p, 12, none⟩ (.int .i64 ((L + 1 : Nat) : Int))).setCell ⟨p, 13, none⟩ (.int .i64 ((max M i : Nat) : Int))).heap.size :=
            Nat.lt_of_lt_of_le hlt (((Below.refl 0 wr).setCell (p := ⟨p, 12, none⟩) (Nat.zero_le _) _).setCell (p := ⟨p, 13, none⟩) (Nat.zero_le _) _).size
          rw [show ((L + 1 : Nat) : Int) = (L : Int) + 1 by omega, show ((max M i : Nat) : Int) = max (M : Int) (i : Int) by omega] at Q Q2 Q3
          replace Q : Hid (Only p ns w ((wr.setCell ⟨p, 12, none⟩ (.int .i64 ((L : Int) + 1))).setCell ⟨p, 13, none⟩ (.int .i64 (max (M : Int) (i : Int)))) ∧ ∃ nb, w.heap.size ≤ nb ∧ nb < ((wr.setCell ⟨p, 12, none⟩ (.int .i64 ((L : Int) + 1))).setCell ⟨p, 13, none⟩ (.int .i64 (max (M : Int) (i : Int)))).heap.size ∧ SkA p (ns.take e ++ ⟨⟨xk, xs, xi, xv⟩, i, nb⟩ :: ns.drop e) ((wr.setCell ⟨p, 12, none⟩ (.int .i64 ((L : Int) + 1))).setCell ⟨p, 13, none⟩ (.int .i64 (max (M : Int) (i : Int))))) := Lib.hid ⟨Q2, nb, hnb.1, Q3, by rw [← hA.out, ← hD.out]; exact Q⟩
          clear hM hO hlt hgc eL eM hmem hsort Q2 Q3 hnb hgs
          go_wp2_with fail
          go_returns
          exact ⟨rfl, Q.out⟩
end Go.Proofs.Ytdgbafpnfkedeaa
/-
  A loop over an iterator that would never end if the loop went on behind what it must stop at: what the iterator owes then, and the loop's rule, over the library's own steps. No condition.
-/
namespace Go.Proofs.Ytdgbafpnfkedeaa
set_option maxRecDepth 100000
open Go.RowKit
theorem grown_of_below {w w' : World} (h : Below w.heap.size w w') : w.grownBy w' none := ⟨h.os, h.tape, h.output, h.size, fun k hk _ => h.block k hk⟩
/-- What the iterator's value owes to a loop whose rounds, where they go on, keep what lay below B, and go on behind nothing but what G says. Ok: what it hands over next; S: what has come when it ends by itself. -/
def SeqUntil {α : Type} (P : Program) (gf : Nat) (lb : Array Value) (encs : α → Array Value) (B : Nat) (Ok : List α → α → Prop) (G S : List α → Prop) (w : World) : Prop :=
  ∀ (l : Nat) (J Jx : List α → World → Prop) (W : World), Below w.heap.size w W → (∀ s A C, J s A → Below A.heap.size A C → J s C) → (∀ s A C, Jx s A → Below A.heap.size A C → Jx s C) → (∀ pre A, J pre A → G pre) →
    (∀ pre x A, J pre A → Ok pre x → YieldAt Fence.wide 4 P l (encs x) A fun e C => (e = .returned (.bool true) ∧ J (pre ++ [x]) C ∧ Below B A C) ∨ (e = .returned (.bool false) ∧ Jx (pre ++ [x]) C)) →
    J [] W → CallsIn Fence.wide 5 P gf (#[.func (.yield l) #[] #[]] ++ lb) W fun e C => (∃ v, e = .returned v) ∧ ((∃ xs, S xs ∧ J xs C) ∨ (∃ pre, Jx pre C))
variable {α : Type} {P : Program}
/-- The rule for 'for x := range f' over such an iterator. -/
theorem wpIn_range_until {g : Operand} {ps : Array Tmp} {assign body : Code} {Q : Exit → Act → World → Prop} {a : Act} {w : World}
    {gf : Nat} {lb : Array Value} (hg : a.eval g = .func (.func gf) #[] lb) (eg : ∀ args v, (callFunc gf args).run P v = .ok (.enter gf args) v)
    {encs : α → Array Value} {B : Nat} (hB : B ≤ w.heap.size) {Ok : List α → α → Prop} {G S : List α → Prop} (hseq : SeqUntil P gf lb encs B Ok G S w) (hps : ∀ x, (encs x).size = ps.size)
    (I : List α → World → Prop) (Ix : Code → List α → World → Prop) (hI : OwnFrom w.heap.size I) (hIx : ∀ c, OwnFrom w.heap.size (Ix c)) (hG : ∀ pre W, I pre W → G pre) (h0 : I [] w)
    (Ax : α → Act → World → Prop) (hAx : ∀ x a', OwnFrom w.heap.size (fun (_ : Unit) W => Ax x a' W))
    (hassign : ∀ (l : Nat) (pre : List α) (x : α) (W : World) (K : Act → World → Prop), I pre W → (∀ a' W', KeepsFrom w.heap.size W W' → Below B W W' → I pre W' → Ax x a' W' → K a' W') →
      assign.wpIn (Fence.wide.inRound l) 4 P (Exit.then K (fun _ _ _ => False)) { tmps := (ps.zip (encs x)).foldl (fun t (p, v) => t.setIfInBounds p v) a.tmps, defers := [] } W)
    (hbody : ∀ (l : Nat) (pre : List α) (x : α) (a' : Act) (W : World), Ok pre x → I pre W → Ax x a' W → body.wpIn (Fence.wide.inRound l) 4 P (ownPostG w.heap.size (Below B) I Ix (pre ++ [x]) W) a' W)
    (hdone : ∀ (D : Nat) (xs : List α) (W : World), w.heap.size ≤ D → S xs → I xs W → W.heap[D]? = some (.deferred (some [])) → Q .normal { a with defers := { target := .collected D, args := #[] } :: a.defers } W)
    (hstop : ∀ (D : Nat) (c : Code) (pre : List α) (W : World), w.heap.size ≤ D → Ix c pre W → W.heap[D]? = some (.deferred (some [])) → c.wpIn Fence.wide 6 P Q { a with defers := { target := .collected D, args := #[] } :: a.defers } W) :
    (Code.rangeFunc g ps assign body).wpIn Fence.wide 6 P Q a w := by
  refine wpIn_rangeFunc fun fn hfn => ?_
  -- the loop's record in its states, and the two blocks that the statement lays
  obtain ⟨L, hL⟩ : ∃ L : LoopState → Option Code → Loop, L = fun st pe => { state := st, pending := pe, fn, tmps := a.tmps, params := ps, assign, body, defers := w.heap.size } := ⟨_, rfl⟩
  obtain ⟨W1, hW1⟩ : ∃ W1, W1 = (w.alloc (.deferred (some []))).alloc (.loop (L .ready none)) := ⟨_, rfl⟩
  let Held (st : LoopState) (pe : Option Code) (W : World) : Prop := W.heap[w.heap.size + 1]? = some (.loop (L st pe)) ∧ W.heap[w.heap.size]? = some (.deferred (some []))
  have hz1 : W1.heap.size = w.heap.size + 2 := by rw [hW1]; simp
  have hheld1 : Held .ready none W1 := by
    constructor
    · rw [hW1]; have := World.alloc_heap_new (w.alloc (.deferred (some []))) (.loop (L .ready none)); rwa [World.size_alloc] at this
    · rw [hW1]; exact (Below.heap_alloc _ _ _ (by simp)).trans (World.alloc_heap_new w _)
  have hI1 : I [] W1 := by rw [hW1]; exact hI.alloc _ (hI.alloc _ h0)
  have hb1 : Below w.heap.size w W1 := by rw [hW1]; exact ((Below.refl _ w).alloc (Nat.le_refl _) _).alloc (by simp) _
  have hheldB : ∀ {st pe A C}, Held st pe A → Below A.heap.size A C → Held st pe C := fun h hb =>
    ⟨(hb.block _ (Array.getElem?_eq_some_iff.1 h.1).1).trans h.1, (hb.block _ (Array.getElem?_eq_some_iff.1 h.2).1).trans h.2⟩
  have hIB : ∀ {s A C}, I s A → Below A.heap.size A C → I s C := fun h hb => hI _ _ _ none h (grown_of_below hb) (fun r e => by cases e)
  have hIxB : ∀ {c s A C}, Ix c s A → Below A.heap.size A C → Ix c s C := fun h hb => hIx _ _ _ _ none h (grown_of_below hb) (fun r e => by cases e)
  refine ⟨w.heap.size + 1, [{ target := .collected w.heap.size, args := #[] }], W1, { target := .fn (.func gf) lb, args := #[.func (.yield (w.heap.size + 1)) #[] #[]] }, W1, gf,
    #[.func (.yield (w.heap.size + 1)) #[] #[]] ++ lb, W1, ?_, ?_, fun _ _ => trivial, ?_, fun _ => by decide, ?_⟩
  · rw [hW1, hL]; exact run_enterLoop_outer _ _ _ _ _
  · simp only [resolve, hg]
    simp [go_sem]
  · simp [invoke, go_sem, eg]
  refine (hseq (w.heap.size + 1) (fun pre W => I pre W ∧ Held .ready none W) (fun pre W => ∃ c, Ix c pre W ∧ Held .done (some c) W) W1 hb1
    (fun s A C h hb => ⟨hIB h.1 hb, hheldB h.2 hb⟩) (fun s A C h hb => by obtain ⟨c, h1, h2⟩ := h; exact ⟨c, hIxB h1 hb, hheldB h2 hb⟩) (fun pre A h => hG pre A h.1) ?_ ⟨hI1, hheld1⟩).mono ?_
  · -- one round
    rintro pre x W0 ⟨hi0, hh0⟩ hok
    have hy := run_yield (P := P) (args := encs x) hh0.1 (by rw [hL]; exact hps x)
    rw [hL] at hy
    refine ⟨fn, _, assign, body, hy, roundIn_of_wpIn hfn (hassign _ pre x W0 _ hi0 fun a' W hk0 hb0 hi hax => ?_)⟩
    clear hy
    have hh : Held .ready none W := ⟨hk0.same _ _ (by omega) hh0.1 rfl, hk0.same _ _ (Nat.le_refl _) hh0.2 rfl⟩
    have hlt : w.heap.size + 1 < W.heap.size := (Array.getElem?_eq_some_iff.1 hh.1).1
    refine ⟨_, run_beginRound hh.1 (by rw [hL]), ?_⟩
    obtain ⟨V, hV⟩ : ∃ V, V = W.putObj (w.heap.size + 1) (.loop { L .ready none with state := .busy }) := ⟨_, rfl⟩
    have hbusy : V.heap[w.heap.size + 1]? = some (.loop { L .ready none with state := .busy }) := by rw [hV]; exact World.putObj_heap_same hlt
    have hdef : V.heap[w.heap.size]? = some (.deferred (some [])) := by rw [hV]; exact (World.putObj_heap_other (by omega)).trans hh.2
    have hbV : Below B W V := by rw [hV]; exact belowK_b hB _ _ _ _ (by omega) hh.1 rfl rfl
    have hiV : I pre V := by rw [hV]; exact hI.putObj _ hi (by omega) hh.1 rfl
    have haV : Ax x a' V := by rw [hV]; exact (hAx x a').putObj (s := ()) _ hax (by omega) hh.1 rfl
    rw [← hV]
    refine wpIn_mono (hbody _ pre x a' V hok hiV haV) ?_
    -- the round's end, whatever the jump
    have fin : ∀ (jump : Option Code) (C : World), KeepsFrom w.heap.size V C → ∃ C', (Instr.endRound (w.heap.size + 1) jump).run P C = .ok (.bool jump.isNone) C' ∧ Held (if jump.isNone then .ready else .done) jump C' ∧
        Below B C C' ∧ (∀ s, I s C → I s C') ∧ (∀ c s, Ix c s C → Ix c s C') := fun jump C hk => by
      have h3 := hk.same _ _ (by omega) hbusy rfl
      have hr := run_endRound (P := P) jump h3
      refine ⟨C.putObj (w.heap.size + 1) (.loop (L (if jump.isNone then .ready else .done) jump)), by rw [hL] at hr ⊢; exact hr, ⟨World.putObj_heap_same (Array.getElem?_eq_some_iff.1 h3).1, (World.putObj_heap_other (by omega)).trans (hk.same _ _ (Nat.le_refl _) hdef rfl)⟩, belowK_b hB _ _ _ _ (by omega) h3 rfl rfl, fun s hs => hI.putObj _ hs (by omega) h3 rfl, fun c s hs => (hIx c).putObj _ hs (by omega) h3 rfl⟩
    have left : ∀ (c : Code) (C : World), KeepsFrom w.heap.size V C ∧ Ix c (pre ++ [x]) C → ∃ v C', (Instr.endRound (w.heap.size + 1) (some c)).run P C = .ok v C' ∧
        ((Ending.returned v = .returned (.bool true) ∧ (I (pre ++ [x]) C' ∧ Held .ready none C') ∧ Below B W0 C') ∨ (Ending.returned v = .returned (.bool false) ∧ ∃ c, Ix c (pre ++ [x]) C' ∧ Held .done (some c) C')) := fun c C h => by
      obtain ⟨C', hr, hh', _, _, hx⟩ := fin (some c) C h.1
      exact ⟨_, C', hr, .inr ⟨rfl, c, hx c _ h.2, hh'⟩⟩
    rintro e a3 C hp
    cases e with
    | normal =>
      obtain ⟨C', hr, hh', hb, hx, _⟩ := fin none C hp.1
      exact ⟨_, C', hr, .inl ⟨rfl, ⟨hx _ hp.2.2, hh'⟩, hb0.trans (hbV.trans (hp.2.1.trans hb))⟩⟩
    | ret => exact left .ret C hp
    | exit id => exact left (.exit id) C hp
    | goto t => exact left (.goto t) C hp
    | panic ch => exact hp.elim
    | outgrown => exact hp.elim
  · -- behind the iterator
    rintro e C ⟨⟨v, rfl⟩, (⟨xs, hS, hi, hh⟩ | ⟨pre, c, hi, hh⟩)⟩
    · exact ⟨none, _, by have := run_endLoop (P := P) hh.1 (by rw [hL]; simp); rw [hL] at this; exact this, hdone _ xs _ (Nat.le_refl _) hS (hI.putObj _ hi (by omega) hh.1 rfl) ((World.putObj_heap_other (by omega)).trans hh.2)⟩
    · exact ⟨some c, _, by have := run_endLoop (P := P) hh.1 (by rw [hL]; simp); rw [hL] at this; exact this, hstop _ c pre _ (Nat.le_refl _) ((hIx c).putObj _ hi (by omega) hh.1 rfl) ((World.putObj_heap_other (by omega)).trans hh.2)⟩
end Go.Proofs.Ytdgbafpnfkedeaa
/-
  The iterators of a skip list: their makers, and what they hand over. No condition but texts of less than 2^48 bytes.
-/
namespace Go.Proofs.Ytdgbafpnfkedeaa
set_option maxRecDepth 100000
open Go.RowKit
attribute [local go_sem] eq_node ne_node eq_list
/-- The list that a pointer leads to, or none. -/
def LsA (q : Option Addr) (ns : List Nd) (w : World) : Prop := (q = none ∧ ns = []) ∨ ∃ p, q = some ⟨p, 0, none⟩ ∧ SkA p ns w
def LsLow (q : Option Addr) (ns : List Nd) (n₀ : Nat) : Prop := (∀ p, q = some ⟨p, 0, none⟩ → p < n₀) ∧ ∀ x ∈ ns, x.blk < n₀
theorem LsA.low {q : Option Addr} {ns : List Nd} {w : World} (h : LsA q ns w) : LsLow q ns w.heap.size := by
  rcases h with ⟨rfl, rfl⟩ | ⟨p, rfl, h⟩
  · exact ⟨fun p e => by (cases e), fun x hx => by cases hx⟩
  · exact ⟨fun p' e => by cases e; exact h.lt, fun x hx => h.nlt hx⟩
theorem LsA.below {q : Option Addr} {ns : List Nd} {w w' : World} {B : Nat} (h : LsA q ns w) (hl : LsLow q ns B) (hb : Below B w w') : LsA q ns w' := by
  rcases h with ⟨rfl, rfl⟩ | ⟨p, rfl, h⟩
  · exact .inl ⟨rfl, rfl⟩
  · refine .inr ⟨p, rfl, h.below hb fun b hb' => ?_⟩
    rcases hb' with rfl | ⟨x, hx, rfl⟩
    · exact hl.1 _ rfl
    · exact hl.2 x hx
theorem LsA.grow {q : Option Addr} {ns : List Nd} {w w' : World} (h : LsA q ns w) (hb : Below w.heap.size w w') : LsA q ns w' := h.below h.low hb
/-- An iterator's value, and its three boxes. -/
abbrev IterV (b : Nat) : Value := .func (.func 50) #[] #[.pointer (some ⟨b, 0, none⟩), .pointer (some ⟨b + 1, 0, none⟩), .pointer (some ⟨b + 2, 0, none⟩)]
structure IterAt (b : Nat) (q : Option Addr) (k : ByteArray) (s : Nat) (w : World) : Prop where
  c0 : w.cell? ⟨b, 0, none⟩ = some (.pointer q)
  c1 : w.cell? ⟨b + 1, 0, none⟩ = some (.string k)
  c2 : w.cell? ⟨b + 2, 0, none⟩ = some (.int .u64 (s : Int))
theorem IterAt.lt {b : Nat} {q : Option Addr} {k : ByteArray} {s : Nat} {w : World} (h : IterAt b q k s w) : b + 2 < w.heap.size := World.block_lt_of_cell? _ _ h.c2
theorem IterAt.below {b : Nat} {q : Option Addr} {k : ByteArray} {s : Nat} {w w' : World} (h : IterAt b q k s w) (hb : Below w.heap.size w w') : IterAt b q k s w' := by
  have := h.lt
  exact ⟨(hb.cell (p := ⟨b, 0, none⟩) (by simp only; omega)).trans h.c0, (hb.cell (p := ⟨b + 1, 0, none⟩) (by simp only; omega)).trans h.c1, (hb.cell (p := ⟨b + 2, 0, none⟩) (by simp only; omega)).trans h.c2⟩
theorem cell_one {w : World} {b : Nat} {v : Value} {T : TypeId} (h : w.heap[b]? = some (.cells #[v] T (0, 0))) : w.cell? ⟨b, 0, none⟩ = some v := by simp [World.cell?, h]
def IterDid (q : Option Addr) (k : ByteArray) (s : Nat) (w : World) (e : Ending) (w' : World) : Prop := ∃ b, w.heap.size ≤ b ∧ e = .returned (IterV b) ∧ IterAt b q k s w' ∧ Below w.heap.size w w'
set_option maxRecDepth 100000 in
set_option maxHeartbeats 2000000 in
theorem from_any (q : Option Addr) (k : ByteArray) (s : Nat) (w : World) : Calls Try.prog 45 #[.pointer q, .string k, .int .u64 (s : Int)] w (IterDid q k s w) := by
  have hmf : ∀ (fn : Fn) (first cap : Array Value) (w : World), (Instr.makeFunc fn first cap).run Try.prog w = .ok (.func fn first cap) w := fun _ _ _ _ => rfl
  have K : Hid (IterAt w.heap.size q k s (((w.alloc (.cells #[.pointer q] 52)).alloc (.cells #[.string k] 9)).alloc (.cells #[.int .u64 (s : Int)] 28)) ∧ Below w.heap.size w (((w.alloc (.cells #[.pointer q] 52)).alloc (.cells #[.string k] 9)).alloc (.cells #[.int .u64 (s : Int)] 28))) := Lib.hid (by
    have b1 := below_alloc w (.cells #[.pointer q] 52)
    have b2 := below_alloc (w.alloc (.cells #[.pointer q] 52)) (.cells #[.string k] 9)
    have b3 := below_alloc ((w.alloc (.cells #[.pointer q] 52)).alloc (.cells #[.string k] 9)) (.cells #[.int .u64 (s : Int)] 28)
    have n1 := heap_alloc_new w (.cells #[.pointer q] 52)
    have n2 := heap_alloc_new (w.alloc (.cells #[.pointer q] 52)) (.cells #[.string k] 9)
    have n3 := heap_alloc_new ((w.alloc (.cells #[.pointer q] 52)).alloc (.cells #[.string k] 9)) (.cells #[.int .u64 (s : Int)] 28)
    simp only [World.size_alloc] at n2 n3 b2 b3
    refine ⟨⟨?_, ?_, ?_⟩, below_of b1 (by rw [World.size_alloc]; exact (b2.trans (b3.mono (by omega))))⟩
    · exact cell_one ((b3.block _ (by omega)).trans ((b2.block _ (by omega)).trans n1))
    · exact cell_one ((b3.block _ (by omega)).trans n2)
    · exact cell_one n3)
  go_enter Try.func45, Try.ntmps45
  go_wp2_with fail
  go_returns
  exact ⟨_, Nat.le_refl _, rfl, K.out.1, K.out.2⟩
set_option maxRecDepth 100000 in
set_option maxHeartbeats 2000000 in
theorem all_iter (q : Option Addr) (w : World) : Calls Try.prog 40 #[.pointer q] w (IterDid q ⟨#[]⟩ 18446744073709551615 w) := by
  have C := Lib.hid (from_any q ⟨#[]⟩ 18446744073709551615 w)
  go_enter Try.func40, Try.ntmps40
  go_wp2_with fail
  refine C.out.mono ?_
  rintro e w' ⟨b, hb, rfl, h⟩
  have h := Lib.hid h
  go_wp2_with fail
  go_returns
  exact ⟨b, hb, rfl, h.out⟩
set_option maxRecDepth 100000 in
set_option maxHeartbeats 2000000 in
theorem from_iter (q : Option Addr) (k : ByteArray) (hk : k.size ≤ 281474976710656) (s : Nat) (w : World) : Calls Try.prog 36 #[.pointer q, .string k, .int .u64 (s : Int)] w (IterDid q k s w) := by
  have C0 := Lib.hid (clone_str k hk w)
  have C := fun u => Lib.hid (from_any q k s u)
  clear hk
  go_enter Try.func36, Try.ntmps36
  go_wp2_with fail
  refine C0.out.mono ?_
  rintro e w1 ⟨rfl, hb1⟩
  have hb1 := Lib.hid hb1
  go_wp2_with fail
  refine (C _).out.mono ?_
  rintro e w' ⟨b, hb, rfl, hI, hb2⟩
  have Q : Hid (w.heap.size ≤ b ∧ IterAt b q k s w' ∧ Below w.heap.size w w') := Lib.hid ⟨Nat.le_trans hb1.out.size hb, hI, below_of hb1.out hb2⟩
  clear hb hI hb2
  go_wp2_with fail
  go_returns
  exact ⟨b, Q.out.1, rfl, Q.out.2⟩
/-- How many nodes are left from where a pointer leads to. -/
def leftN (ns : List Nd) : Value → Nat
  | .pointer (some a) => (ns.dropWhile fun x => x.blk != a.block).length
  | _ => 0
theorem leftN_eq {ns pre : List Nd} {x : Nd} {r : List Nd} (hn : (ns.map (·.blk)).Nodup) (e : ns = pre ++ x :: r) : leftN ns (.pointer (some ⟨x.blk, 0, none⟩)) = r.length + 1 := by
  unfold leftN
  have : ns.dropWhile (fun y => y.blk != x.blk) = x :: r := by
    rw [e, List.dropWhile_append_of_pos]
    · simp
    · intro y hy
      obtain ⟨a, b, e2⟩ := List.append_of_mem hy
      have := blk_ne hn (a := a) (b := b) (c := r) (x := y) (y := x) (by rw [e, e2])
      simpa using this
  show (ns.dropWhile fun y => y.blk != x.blk).length = _
  rw [this]; rfl
theorem rowsN_snoc (a : List Nd) (x : Nd) : rowsN (a ++ [x]) = rowsN a ++ [x.row] := by simp [rowsN]
attribute [local go_sem] Oper.semAt_some
set_option maxRecDepth 100000 in
set_option maxHeartbeats 4000000 in
/-- The iterator's contract. -/
theorem iter_stops {q : Option Addr} {ns : List Nd} {w : World} {n₀ b : Nat} {k : ByteArray} {s : Nat} (hL : LsA q ns w) (hlow : LsLow q ns n₀) (hn₀ : n₀ ≤ w.heap.size) (hlen : ns.length ≤ 4611686018427387903) (hI : IterAt b q k s w) :
    SeqStopsK Fence.wide 5 Try.prog 50 #[.pointer (some ⟨b, 0, none⟩), .pointer (some ⟨b + 1, 0, none⟩), .pointer (some ⟨b + 2, 0, none⟩)] (fun x : Rw => #[rowV x]) (Below n₀) (fun ys => ys = rowsN (ns.drop (plN ns k s))) (fun pre => pre <+: rowsN (ns.drop (plN ns k s))) (rowsN (ns.drop (plN ns k s))).length w := by
  intro l J Jx W hW hJ hJx hY h0
  obtain ⟨c0, c1, c2⟩ := hI.below hW
  have hL := hL.below hlow (hW.mono hn₀)
  clear hI hW
  obtain ⟨D, hD⟩ := named (ns.drop (plN ns k s))
  rw [← hD.out] at hY ⊢
  rcases hL with ⟨rfl, rfl⟩ | ⟨p, rfl, H⟩
  · obtain rfl : D = [] := by rw [hD.out]; simp
    clear hD hlow
    refine callsIn_of_wp Try.func50 rfl trivial ?_ rfl
    simp only [Try.ntmps50, List.size_toArray, List.length_cons, List.length_nil, Nat.reduceAdd, Nat.reduceSub, Array.replicate_succ, Array.replicate_zero, List.push_toArray, List.append_toArray, List.nil_append, List.cons_append]
    gi_wp2
    refine bodyPost_ret (results_none rfl _ _ _) rfl ?_
    exact ⟨⟨_, rfl⟩, .inl h0⟩
  · have S := Lib.hid (search_any H (by omega) k s)
    obtain ⟨e, he⟩ := named (plN ns k s)
    rw [← he.out] at S hD
    have hel : e ≤ ns.length := by rw [he.out]; exact plN_le _ _ _
    obtain ⟨A, hA⟩ := named (ns.take e)
    have hAD : Hid (ns = A ++ D) := Lib.hid (by rw [hA.out, hD.out, List.take_append_drop])
    have b0 := Lib.hid (bfA_zero H hel)
    rw [← hA.out] at b0
    have l0 : Hid (∀ u, SkA p ns u → u.cell? (lnk p A 0) = some (.pointer (nxt 0 D))) := Lib.hid fun u hu => hu.at hAD.out (by omega) (by
      rcases List.eq_nil_or_concat A with e1 | ⟨a, y, e1⟩
      · exact .inl e1
      · exact .inr ⟨a, y, by rw [e1]; simp, by have := (hu.hgt y (by rw [hAD.out, e1]; simp)).1; omega⟩)
    rw [bfc_full] at S
    obtain ⟨bz, hbz⟩ := named (bfA p ns e)
    rw [← hbz.out] at S b0
    have HJ : Hid (∀ s A C, J s A → Below A.heap.size A C → J s C) := Lib.hid fun s A C h hb => hJ _ _ _ none h (grown_of_below hb) (fun r e => by cases e)
    have HY := Lib.hid hY
    have H0 := Lib.hid h0
    replace H := Lib.hid H
    clear hY h0 hJ hJx hel
    refine callsIn_of_wp Try.func50 rfl trivial ?_ rfl
    simp only [Try.ntmps50, List.size_toArray, List.length_cons, List.length_nil, Nat.reduceAdd, Nat.reduceSub, Array.replicate_succ, Array.replicate_zero, List.push_toArray, List.append_toArray, List.nil_append, List.cons_append]
    gi_wp2_with (refine ⟨trivial, ?_⟩; gi_at_call 51; refine (callsIn_wide.2 S.out).mono ?_; rintro e1 w1 ⟨rfl, hb1⟩; have d0 := b0.out; have d1 := l0.out _ (H.out.grow (below_of hb1 (below_alloc w1 (.cells #[.pointer (some (bz 0)), .pointer (some (bz 1)), .pointer (some (bz 2)), .pointer (some (bz 3)), .pointer (some (bz 4)), .pointer (some (bz 5)), .pointer (some (bz 6)), .pointer (some (bz 7)), .pointer (some (bz 8)), .pointer (some (bz 9)), .pointer (some (bz 10)), .pointer (some (bz 11))] 93)))); rw [← d0] at d1; clear d0)
    have hbV := below_of hb1 (below_alloc w1 (.cells #[.pointer (some (bz 0)), .pointer (some (bz 1)), .pointer (some (bz 2)), .pointer (some (bz 3)), .pointer (some (bz 4)), .pointer (some (bz 5)), .pointer (some (bz 6)), .pointer (some (bz 7)), .pointer (some (bz 8)), .pointer (some (bz 9)), .pointer (some (bz 10)), .pointer (some (bz 11))] 93))
    have HV := Lib.hid (H.out.grow hbV)
    have JV := Lib.hid (HJ.out _ _ _ H0.out hbV)
    generalize w1.alloc (.cells #[.pointer (some (bz 0)), .pointer (some (bz 1)), .pointer (some (bz 2)), .pointer (some (bz 3)), .pointer (some (bz 4)), .pointer (some (bz 5)), .pointer (some (bz 6)), .pointer (some (bz 7)), .pointer (some (bz 8)), .pointer (some (bz 9)), .pointer (some (bz 10)), .pointer (some (bz 11))] 93) = V at *
    have hh1 : Hid (∀ x ∈ ns, 0 < x.hgt) := Lib.hid fun x hx => by have := (H.out.hgt x hx).1; omega
    have hnd := Lib.hid H.out.nodup
    have hsm := Lib.hid H.out.small
    clear hbV hb1 d1 c0 c1 c2 S l0 b0 H H0
    gi_loopw [7] (fun v wr => ∃ (pre rest : List Nd), v = .pointer (nxt 0 rest) ∧ D = pre ++ rest ∧ SkA p ns wr ∧ J (rowsN pre) wr) (fun v _ => leftN ns v)
    case atStart => exact ⟨[], D, rfl, rfl, HV.out, JV.out⟩
    case round =>
      clear HV JV
      obtain ⟨pre, rest, rfl, hpr, hS, hJs⟩ := hrel
      cases rest with
      | nil =>
        rw [show nxt 0 [] = none from rfl]
        have Q : Hid (J (rowsN D) wr) := Lib.hid (by rw [hpr, List.append_nil]; exact hJs)
        clear hS hJs hpr
        gi_wp2
        go_end0
        exact ⟨⟨_, rfl⟩, .inl ⟨_, rfl, Q.out⟩⟩
      | cons x r =>
        have hxn : x ∈ ns := by rw [hAD.out, hpr]; simp
        have hx0 := nxt_hit (hh1.out x hxn) r
        have hns : Hid (ns = (A ++ pre) ++ x :: r) := Lib.hid (by rw [hAD.out, hpr]; simp)
        have hm : Hid (leftN ns (.pointer (some ⟨x.blk, 0, none⟩)) = r.length + 1) := Lib.hid (leftN_eq hnd.out hns.out)
        have hm2 : Hid (leftN ns (.pointer (nxt 0 r)) = r.length) := Lib.hid (by
          cases r with
          | nil => rfl
          | cons y r2 =>
            rw [nxt_hit (hh1.out y (by rw [hns.out]; simp))]
            exact leftN_eq (pre := A ++ pre ++ [x]) hnd.out (by rw [hns.out]; simp))
        have hpr2 : Hid (D = (pre ++ [x]) ++ r) := Lib.hid (by rw [hpr]; simp)
        obtain ⟨x0, x1, x2, x3⟩ := hS.node x hxn
        obtain ⟨s1, s2, _⟩ := hsm.out x hxn
        have CP := Lib.hid (copied_any x.row s1 s2)
        have hlt : Hid ((rowsN pre).length < (rowsN D).length) := Lib.hid (by rw [hpr]; simp [rowsN])
        have HY2 : Hid (∀ u, J (rowsN pre) u → YieldAt Fence.wide 4 Try.prog l #[rowV x.row] u fun e W' => (e = .returned (.bool true) ∧ J (rowsN pre ++ [x.row]) W' ∧ Below n₀ u W') ∨ (e = .returned (.bool false) ∧ Jx (rowsN pre ++ [x.row]) W')) := Lib.hid fun u hu => HY.out _ _ u hu hlt.out
        have SB : Hid (∀ u, Below wr.heap.size wr u → ∀ v, Below n₀ u v → SkA p ns v ∧ v.cell? ⟨x.blk, 4, none⟩ = some (.pointer (nxt 0 r))) := Lib.hid fun u hu v hv => by
          have h1 := (hS.grow hu).below hv fun b hb => by
            rcases hb with rfl | ⟨y, hy, rfl⟩
            · exact hlow.1 _ rfl
            · exact hlow.2 y hy
          exact ⟨h1, h1.link _ x r hns.out 0 (hh1.out x hxn)⟩
        have hJs := Lib.hid hJs
        rw [hx0]
        obtain ⟨⟨xk, xs, xi, xv⟩, xh, xb⟩ := x
        simp only at x0 x1 x2 x3 CP HY2 SB
        clear hS hpr hlt s1 s2 hxn
        gi_wp2_with (refine ⟨trivial, ?_⟩; gi_at_call 52; refine (callsIn_wide.2 (CP.out _)).mono ?_; rintro e w2 ⟨rfl, hb2⟩; obtain ⟨fn, tmps, assign, body, hy, hR1⟩ := HY2.out w2 (HJ.out _ _ _ hJs.out hb2))
        refine hR1.mono ?_
        rintro e C' (⟨rfl, hJ3, hk3⟩ | ⟨rfl, hJx3⟩)
        · obtain ⟨S3, n3⟩ := SB.out w2 hb2 C' hk3
          have S3 := Lib.hid S3
          replace hpr2 := hpr2
          gi_wp2
          go_roundw
          case rel => exact ⟨pre ++ [⟨⟨xk, xs, xi, xv⟩, xh, xb⟩], r, rfl, hpr2.out, S3.out, by rw [rowsN_snoc]; exact hJ3⟩
          case measure => show leftN ns _ < leftN ns _; rw [hm.out, hm2.out]; omega
        · have hpf : rowsN pre ++ [⟨xk, xs, xi, xv⟩] <+: rowsN D := ⟨rowsN r, by rw [hpr2.out]; simp [rowsN]⟩
          replace hpf := Lib.hid hpf
          gi_wp2
          refine bodyPost_ret (results_none rfl _ _ _) rfl ?_
          exact ⟨⟨_, rfl⟩, .inr ⟨_, hpf.out, hJx3⟩⟩
end Go.Proofs.Ytdgbafpnfkedeaa
/-
  The contracts of the list's Len, Height, Steps, of Put on no list. No condition.
-/
namespace Go.Proofs.Ytdgbafpnfkedeaa
set_option maxRecDepth 100000
open Go.RowKit
attribute [local go_sem] eq_node ne_node eq_list
set_option maxRecDepth 100000 in
set_option maxHeartbeats 2000000 in
theorem len_any {q : Option Addr} {ns : List Nd} {w : World} (h : LsA q ns w) : Calls Try.prog 41 #[.pointer q] w fun e w' => e = .returned (.int .i64 (ns.length : Int)) ∧ w' = w := by
  rcases h with ⟨rfl, rfl⟩ | ⟨p, rfl, h⟩
  · go_enter Try.func41, Try.ntmps41
    go_wp2_with fail
    go_returns
    exact ⟨rfl, rfl⟩
  · have c := h.many
    clear h
    go_enter Try.func41, Try.ntmps41
    go_wp2_with fail
    go_returns
    exact ⟨rfl, rfl⟩
set_option maxRecDepth 100000 in
set_option maxHeartbeats 2000000 in
theorem put_none (x : Rw) (hgt : Int) (w : World) : Calls Try.prog 46 #[.pointer none, rowV x, .int .i64 hgt] w fun e w' => e = .returned (.bool false) ∧ Below w.heap.size w w' := by
  obtain ⟨xk, xs, xi, xv⟩ := x
  have W0 := Lib.hid (below_alloc w (.cells #[.string xk, .int .u64 (xs : Int), .int .i64 xi, .string xv] 43))
  go_enter Try.func46, Try.ntmps46
  go_wp2_with fail
  go_returns
  exact ⟨rfl, W0.out⟩
end Go.Proofs.Ytdgbafpnfkedeaa
/-
  The contract of the list's Seek. Condition: texts of less than 2^48 bytes.
-/
namespace Go.Proofs.Ytdgbafpnfkedeaa
set_option maxRecDepth 100000
open Go.RowKit
attribute [local go_sem] eq_node ne_node eq_list Oper.semAt_some
theorem rowAt_own {β : Type} (b : Nat) (f : β → Rw) (B : Nat) : OwnFrom B (fun s W => RowAt b (f s) W) := fun s X Y row h hg hr => (hg.block b (Array.getElem?_eq_some_iff.1 h).1 fun e => by
  obtain ⟨_, o, ho, hc⟩ := hr b e.symm
  rw [show X.heap[b]? = _ from h] at ho
  cases ho; cases hc).trans h
theorem RowAt.kept {b : Nat} {x : Rw} {W Y : World} {row : Option Nat} (h : RowAt b x W) (hg : W.grownBy Y row) (hr : row ≠ some b) : RowAt b x Y := (hg.block b (Array.getElem?_eq_some_iff.1 h).1 (fun e => hr e.symm)).trans h
theorem seekX_own {β : Type} (b b' : Nat) (t : TypeId) (g : β → List Rw) (B : Nat) : OwnFrom B (fun s W => ∃ x, g s = [x] ∧ RowAt b x W ∧ Boxed W b' t (.bool true)) := fun s X Y row h hg hr => by
  obtain ⟨x, e, h1, h2⟩ := h
  exact ⟨x, e, rowAt_own b (fun _ : Unit => x) B () X Y row h1 hg hr, Own.from (boxed_own b' t fun _ : Unit => .bool true) B () X Y row h2 hg hr⟩
theorem RowAt.set4 {b : Nat} {y : Rw} {W : World} (h : RowAt b y W) (x : Rw) : RowAt b x ((((W.setCell ⟨b, 0, none⟩ (.string x.key)).setCell ⟨b, 1, none⟩ (.int .u64 (x.seq : Int))).setCell ⟨b, 2, none⟩ (.int .i64 x.kind)).setCell ⟨b, 3, none⟩ (.string x.val)) := by
  have h0 := heap_setCell_same _ b 0 _ _ (.string x.key) h
  have h1 := heap_setCell_same _ b 1 _ _ (.int .u64 (x.seq : Int)) h0
  have h2 := heap_setCell_same _ b 2 _ _ (.int .i64 x.kind) h1
  exact heap_setCell_same _ b 3 _ _ (.string x.val) h2
theorem boxed_other {W : World} {B B' : Nat} {t : TypeId} {v : Value} (h : Boxed W B t v) (o : Nat) (hne : B ≠ B') (u : Value) : Boxed (W.setCell ⟨B', o, none⟩ u) B t v := (Below.heap_setCell W _ u B hne).trans h
def zeroR : Rw := ⟨⟨#[]⟩, 0, 0, ⟨#[]⟩⟩
/-- What Seek tells of the rows that are left. -/
def seekR (l : List Rw) : Value := match l with | [] => .tuple #[rowV zeroR, .bool false] | x :: _ => .tuple #[rowV x, .bool true]
set_option maxRecDepth 100000 in
set_option maxHeartbeats 4000000 in
theorem seek_any {q : Option Addr} {ns : List Nd} {w : World} (h : LsA q ns w) (hn : ns.length ≤ 4611686018427387903) (k : ByteArray) (s : Nat) :
    Calls Try.prog 34 #[.pointer q, .string k, .int .u64 (s : Int)] w fun e w' => e = .returned (seekR (rowsN (ns.drop (plN ns k s)))) ∧ Below w.heap.size w w' := by
  obtain ⟨R, hR⟩ := named (rowsN (ns.drop (plN ns k s)))
  rw [← hR.out]
  have C := fun u => Lib.hid (from_any q k s u)
  refine (callsIn_wide (n := 6)).1 ?_
  refine callsIn_of_wp_marks Try.func34 rfl trivial ?_ rfl
  simp only [Try.ntmps34, List.size_toArray, List.length_cons, List.length_nil, Nat.reduceAdd, Nat.reduceSub, Array.replicate_succ, Array.replicate_zero, List.push_toArray, List.append_toArray, List.nil_append, List.cons_append]
  refine wpIn_wide.2 ?_
  go_wp2_with (go_at_call 45; ((with_reducible refine (C _).out.mono ?_); rintro e w1 ⟨b, hb, rfl, hI, hb1⟩))
  have n0 := heap_alloc_new w (.cells #[.string ⟨#[]⟩, .int .u64 0, .int .i64 0, .string ⟨#[]⟩] 43)
  have n1 := Boxed.new (w.alloc (.cells #[.string ⟨#[]⟩, .int .u64 0, .int .i64 0, .string ⟨#[]⟩] 43)) 4 (.bool false)
  have k0 := below_alloc w (.cells #[.string ⟨#[]⟩, .int .u64 0, .int .i64 0, .string ⟨#[]⟩] 43)
  have k1 := below_alloc (w.alloc (.cells #[.string ⟨#[]⟩, .int .u64 0, .int .i64 0, .string ⟨#[]⟩] 43)) (.cells #[.bool false] 4)
  have hL := h.grow (below_of (below_of k0 k1) hb1)
  have B0 := below_of (below_of k0 k1) hb1
  have r6 : RowAt w.heap.size zeroR w1 := ((hb1.block w.heap.size (by simp only [World.size_alloc]; omega)).trans (k1.block w.heap.size (by simp only [World.size_alloc]; omega))).trans n0
  have b7 : Boxed w1 (w.heap.size + 1) 4 (.bool false) := by
    rw [World.size_alloc] at n1
    exact (hb1.block (w.heap.size + 1) (by simp only [World.size_alloc]; omega)).trans n1
  have hsz : w.heap.size + 2 ≤ w1.heap.size := by have := hb1.size; simp at this; omega
  clear hb n0 n1 k0 k1 hb1
  refine (wpIn_wide (n := 6)).1 ?_
  refine wpIn_rangeFunc_ownH (F := Fence.wide) (n := 6) rfl (by omega) (gf := 50) (lb := #[.pointer (some ⟨b, 0, none⟩), .pointer (some ⟨b + 1, 0, none⟩), .pointer (some ⟨b + 2, 0, none⟩)]) rfl trivial (enters_of Try.func50 (by kernel_rfl) rfl)
    (iter_stops (n₀ := w.heap.size) hL h.low (by omega) hn hI) belowK_t (belowK_b (by omega)) (Below.refl _ _) (fun _ => rfl)
    (fun pre W => (RowAt w.heap.size zeroR W ∧ Boxed W (w.heap.size + 1) 4 (.bool false)) ∧ pre = [] ∧ Below w.heap.size w W)
    (fun c pre W => c = .ret ∧ (∃ x, pre = [x] ∧ RowAt w.heap.size x W ∧ Boxed W (w.heap.size + 1) 4 (.bool true)) ∧ Below w.heap.size w W)
    (OwnFrom.and (OwnFrom.and (rowAt_own _ (fun _ => zeroR) _) (Own.from (boxed_own _ _ fun _ => .bool false) _)) (OwnFrom.and (ownFrom_pure _ fun pre => pre = []) (ownFrom_below (Nat.le_refl _) (by omega))))
    (fun c => OwnFrom.and (ownFrom_pure _ fun _ => c = .ret) (OwnFrom.and (seekX_own _ _ _ (fun pre => pre) _) (ownFrom_below (Nat.le_refl _) (by omega))))
    ⟨⟨r6, b7⟩, rfl, B0⟩
    (fun x a' W => ∃ bx, w.heap.size + 1 < bx ∧ RowAt bx x W ∧ a' = { tmps := #[.pointer q, .string k, .int .u64 (s : Int), undef, undef, undef, .pointer (some ⟨w.heap.size, 0, none⟩), .pointer (some ⟨w.heap.size + 1, 0, none⟩), .pointer (some ⟨bx, 0, none⟩), .pointer q, .string k, .int .u64 (s : Int), IterV b, rowV x, undef, undef], defers := [] })
    (fun x a' _ X Y row h hg hr => by
      obtain ⟨bx, h1, h2, h3⟩ := h
      exact ⟨bx, h1, rowAt_own bx (fun _ : Unit => x) _ () X Y row h2 hg hr, h3⟩)
    ?assign ?body ?done ?stop
  case assign =>
    rintro l pre x W K ⟨⟨r6, b7⟩, hp, hB⟩ hK
    gi_wp2
    exact hK _ _ ((KeepsOthers.alloc _ _).from _) ((Below.refl _ W).alloc hB.size _) ⟨⟨r6.below (below_alloc _ _), b7.alloc _⟩, hp, hB.alloc hB.size _⟩ ⟨W.heap.size, b7.lt, RowAt.new x W, rfl⟩
  case body =>
    rintro l pre x a' W hl ⟨r, hr⟩ ⟨⟨r6, b7⟩, rfl, hB⟩ ⟨bx, hbx, rX, rfl⟩ hlt
    obtain ⟨⟨x0, x1, x2, x3⟩, x4⟩ := rX.cells
    obtain ⟨⟨y0, y1, y2, y3⟩, y4⟩ := r6.cells
    have z0 := b7.cell
    have z1 := b7.frozen
    gi_wp2
    refine ⟨?_, rfl, ⟨x, rfl, ?_, ?_⟩, ?_⟩
    · exact (((((KeepsOthers.setCell _ _ _).trans (KeepsOthers.setCell _ _ _)).trans (KeepsOthers.setCell _ _ _)).trans (KeepsOthers.setCell _ _ _)).trans (KeepsOthers.setCell _ _ _)).from _
    · have := RowAt.set4 r6 x
      exact this.kept (grownBy_setCell' _ (w.heap.size + 1) _) (by simp)
    · exact (boxed_other (boxed_other (boxed_other (boxed_other b7 0 (by omega) _) 1 (by omega) _) 2 (by omega) _) 3 (by omega) _).set _
    · exact ((((hB.setCell (p := ⟨w.heap.size, 0, none⟩) (Nat.le_refl _) _).setCell (p := ⟨w.heap.size, 1, none⟩) (Nat.le_refl _) _).setCell (p := ⟨w.heap.size, 2, none⟩) (Nat.le_refl _) _).setCell (p := ⟨w.heap.size, 3, none⟩) (Nat.le_refl _) _).setCell (p := ⟨w.heap.size + 1, 0, none⟩) (by simp) _
  case done =>
    rintro D xs W hD rfl ⟨⟨r6, b7⟩, hnil, hB⟩ hK
    have hnil' : R = [] := by rw [hR.out]; exact hnil
    subst hnil'
    clear hnil
    obtain ⟨⟨y0, y1, y2, y3⟩, y4⟩ := r6.cells
    have z0 := b7.cell
    have z1 := b7.frozen
    clear hR
    go_wp2_with fail
    have r6' := (RowAt.set4 r6 zeroR).kept (grownBy_setCell' _ (w.heap.size + 1) (.bool false)) (by simp)
    have b7' := (boxed_other (boxed_other (boxed_other (boxed_other b7 0 (show w.heap.size + 1 ≠ w.heap.size by omega) (.string zeroR.key)) 1 (show w.heap.size + 1 ≠ w.heap.size by omega) (.int .u64 (zeroR.seq : Int))) 2 (show w.heap.size + 1 ≠ w.heap.size by omega) (.int .i64 zeroR.kind)) 3 (show w.heap.size + 1 ≠ w.heap.size by omega) (.string zeroR.val)).set (.bool false)
    have hB' := ((((hB.setCell (p := ⟨w.heap.size, 0, none⟩) (Nat.le_refl _) (.string zeroR.key)).setCell (p := ⟨w.heap.size, 1, none⟩) (Nat.le_refl _) (.int .u64 (zeroR.seq : Int))).setCell (p := ⟨w.heap.size, 2, none⟩) (Nat.le_refl _) (.int .i64 zeroR.kind)).setCell (p := ⟨w.heap.size, 3, none⟩) (Nat.le_refl _) (.string zeroR.val)).setCell (p := ⟨w.heap.size + 1, 0, none⟩) (by simp) (.bool false)
    have hK' := (((((KeepsOthers.setCell W ⟨w.heap.size, 0, none⟩ (.string zeroR.key)).trans (KeepsOthers.setCell _ ⟨w.heap.size, 1, none⟩ (.int .u64 (zeroR.seq : Int)))).trans (KeepsOthers.setCell _ ⟨w.heap.size, 2, none⟩ (.int .i64 zeroR.kind))).trans (KeepsOthers.setCell _ ⟨w.heap.size, 3, none⟩ (.string zeroR.val))).trans (KeepsOthers.setCell _ ⟨w.heap.size + 1, 0, none⟩ (.bool false))).same D _ hK rfl
    refine ⟨by simp, .inl ⟨_, _, rfl, run_takeDeferred hK', ?_⟩⟩
    have r7 := r6'.kept (grownBy_putObj' _ D (.deferred none)) (fun e => by cases e; rw [show _ = _ from r6'] at hK'; cases hK')
    have b8 := (((boxed_own (w.heap.size + 1) 4 (fun _ : Unit => (.bool false : Value))).putObj (s := ()) (.deferred none) b7' hK' rfl)).cell
    obtain ⟨⟨v0, v1, v2, v3⟩, _⟩ := r7.cells
    refine ⟨.tuple #[rowV zeroR, .bool false], ?_, rfl, ?_⟩
    · simp only [zeroR] at v0 v1 v2 v3 b8
      simp [results, Try.results34, go_sem, zeroR] at v0 v1 v2 v3 b8 ⊢
      simp [v0, v1, v2, v3, b8]
    · exact hB'.trans (belowK_b (w := w) (Nat.le_refl _) _ D _ _ (by omega) hK' rfl rfl)
  case stop =>
    rintro D c pre W hD hpre ⟨rfl, ⟨x, rfl, r6, b7⟩, hB⟩ hK
    refine wpIn_wide.2 ?_
    go_wp2_with fail
    have hR1 : R = x :: R.tail := by
      obtain ⟨t, ht⟩ := hpre
      rw [← hR.out] at ht
      rw [← ht]; rfl
    rw [hR1]
    refine ⟨by simp, .inl ⟨_, _, rfl, run_takeDeferred hK, ?_⟩⟩
    have r6' : RowAt w.heap.size x (W.putObj D (.deferred none)) := r6.kept (grownBy_putObj' _ D (.deferred none)) (fun e => by cases e; rw [show W.heap[w.heap.size]? = _ from r6] at hK; cases hK)
    have b7' := (((boxed_own (w.heap.size + 1) 4 (fun _ : Unit => (.bool true : Value))).putObj (s := ()) (.deferred none) b7 hK rfl)).cell
    obtain ⟨⟨y0, y1, y2, y3⟩, y4⟩ := r6'.cells
    refine ⟨.tuple #[rowV x, .bool true], ?_, rfl, ?_⟩
    · simp [results, Try.results34, go_sem, y0, y1, y2, y3, b7']
    · exact hB.trans (belowK_b (w := w) (Nat.le_refl _) W D _ _ (by omega) hK rfl rfl)
end Go.Proofs.Ytdgbafpnfkedeaa
