/-
  The contracts of a node's isBefore and of the list's search. No condition.
-/
import Derived.Test.YtcgpcpplbmebgaaSkipRep
import Derived.Handy
import Derived.Deep.DrawnRows
import Derived.Deep.RegionHeld
namespace Go.Proofs.Ytcgpcpplbmebgaa
open Go.RowKit
attribute [local go_sem] eq_node ne_node eq_list
set_option maxRecDepth 100000 in
set_option maxHeartbeats 2000000 in
theorem before_any {b : Nat} {x : Rw} {w : World} (h0 : w.cell? ⟨b, 0, none⟩ = some (.string x.key)) (h1 : w.cell? ⟨b, 1, none⟩ = some (.int .u64 (x.seq : Int))) (k : ByteArray) (q : Nat) :
    Calls Try.prog 57 #[.pointer (some ⟨b, 0, none⟩), .string k, .int .u64 (q : Int)] w fun e w' => e = .returned (.bool (ahd x k q)) ∧ w' = w := by
  obtain ⟨xk, xs, xi, xv⟩ := x
  simp only at h0 h1
  unfold ahd
  simp only
  by_cases e : xk.toList = k.toList
  · have e1 : (xk.toList == k.toList) = true := by simpa using e
    rw [if_pos e]
    have e2 : (decide (q < xs) : Bool) = decide ((q : Int) < (xs : Int)) := by congr 1; simp
    rw [e2]
    clear e
    go_enter Try.func57, Try.ntmps57
    go_wp2_with fail
    go_returns
    exact ⟨rfl, rfl⟩
  · have e1 : (xk.toList == k.toList) = false := by simpa using e
    rw [if_neg e, ← less_before]
    clear e
    go_enter Try.func57, Try.ntmps57
    go_wp2_with fail
    go_returns
    exact ⟨rfl, rfl⟩
/-- What the search says of level l: where its link lies behind the last node of that level that stands ahead. -/
def bfA (p : Nat) (ns : List Nd) (e l : Nat) : Addr := lnk p (ns.take (dn ((hgtsN ns).take e) (12 - l)).1) 0
/-- The array of what was found, k levels being done. -/
def bfc (p : Nat) (ns : List Nd) (e k : Nat) : Array Value := ((List.range 12).map fun l => if 12 - k ≤ l then Value.pointer (some (bfA p ns e l)) else .pointer none).toArray
theorem bfc_size (p : Nat) (ns : List Nd) (e k : Nat) : (bfc p ns e k).size = 12 := by simp [bfc]
theorem bfc_at (p : Nat) (ns : List Nd) (e k l : Nat) (hl : l < 12) : (bfc p ns e k)[l]? = some (if 12 - k ≤ l then Value.pointer (some (bfA p ns e l)) else .pointer none) := by
  unfold bfc; simp [hl]
theorem bfc_zero (p : Nat) (ns : List Nd) (e : Nat) : bfc p ns e 0 = #[.pointer none, .pointer none, .pointer none, .pointer none, .pointer none, .pointer none, .pointer none, .pointer none, .pointer none, .pointer none, .pointer none, .pointer none] := by
  unfold bfc; rfl
theorem bfc_step (p : Nat) (ns : List Nd) (e k : Nat) (hk : k < 12) : (bfc p ns e k).setIfInBounds (11 - k) (.pointer (some (bfA p ns e (11 - k)))) = bfc p ns e (k + 1) := by
  apply Array.ext
  · simp [bfc]
  · intro i h1 h2
    have hi : i < 12 := by rw [bfc_size] at h2; exact h2
    rw [Array.getElem_setIfInBounds (by simpa using h1)]
    have e1 := bfc_at p ns e k i hi
    have e2 := bfc_at p ns e (k + 1) i hi
    rw [Array.getElem?_eq_getElem (by rw [bfc_size]; exact hi)] at e1 e2
    rw [Option.some.inj e1, Option.some.inj e2]
    by_cases h : 11 - k = i
    · subst h; rw [if_pos rfl, if_pos (by omega)]
    · rw [if_neg h]
      by_cases h' : 12 - k ≤ i
      · rw [if_pos h', if_pos (by omega)]
      · rw [if_neg h', if_neg (by omega)]
theorem bfc_full (p : Nat) (ns : List Nd) (e : Nat) : bfc p ns e 12 = #[.pointer (some (bfA p ns e 0)), .pointer (some (bfA p ns e 1)), .pointer (some (bfA p ns e 2)), .pointer (some (bfA p ns e 3)), .pointer (some (bfA p ns e 4)), .pointer (some (bfA p ns e 5)), .pointer (some (bfA p ns e 6)), .pointer (some (bfA p ns e 7)), .pointer (some (bfA p ns e 8)), .pointer (some (bfA p ns e 9)), .pointer (some (bfA p ns e 10)), .pointer (some (bfA p ns e 11))] := by
  unfold bfc; rfl
theorem hgtsN_take (ns : List Nd) (j : Nat) : (hgtsN ns).take j = hgtsN (ns.take j) := by unfold hgtsN; rw [List.map_take]
theorem hgtsN_drop (ns : List Nd) (j : Nat) : (hgtsN ns).drop j = hgtsN (ns.drop j) := by unfold hgtsN; rw [List.map_drop]
theorem hgts_low {l : Nat} {ns : List Nd} (h : ∀ x ∈ ns, x.hgt ≤ l) : ∀ x ∈ hgtsN ns, x ≤ l := by
  intro x hx
  obtain ⟨y, hy, rfl⟩ := List.mem_map.1 hx
  exact h y hy
/-- Behind k levels one is as high as the next level asks. -/
theorem dn_high {A : List Nd} (hh : ∀ x ∈ A, x.hgt ≤ 12) {k : Nat} (hk : k ≤ 12) : High (12 - k) (A.take (dn (hgtsN A) k).1) ∧ ∀ x ∈ A.drop (dn (hgtsN A) k).1, x.hgt ≤ 12 - k := by
  obtain ⟨h1, h2⟩ := dn_last (hs := hgtsN A) (hgts_low hh) k hk
  refine ⟨?_, fun x hx => h2 _ (by rw [hgtsN_drop]; exact List.mem_map.2 ⟨x, hx, rfl⟩)⟩
  rcases h1 with h | ⟨y, hy, hlt⟩
  · exact .inl (by rw [h]; rfl)
  · by_cases h0 : (dn (hgtsN A) k).1 = 0
    · exact .inl (by rw [h0]; rfl)
    · obtain ⟨m, hm⟩ : ∃ m, (dn (hgtsN A) k).1 = m + 1 := ⟨_, (Nat.succ_pred h0).symm⟩
      rw [hm] at hy ⊢
      rw [Nat.add_sub_cancel] at hy
      unfold hgtsN at hy
      rw [List.getElem?_map] at hy
      obtain ⟨x, hx, rfl⟩ := Option.map_eq_some_iff.1 hy
      exact .inr ⟨A.take m, x, by rw [List.take_add_one, hx]; rfl, hlt⟩
theorem High.mono {h k : Nat} {pre : List Nd} (hh : High h pre) (hk : k ≤ h) : High k pre := by
  rcases hh with h' | ⟨a, x, e, hx⟩
  · exact .inl h'
  · exact .inr ⟨a, x, e, by omega⟩
theorem take_of_app {α : Type} {A a b : List α} (h : A = a ++ b) : A.take a.length = a := by rw [h]; simp
theorem cells12 {w : World} {b : Nat} {T : TypeId} {v0 v1 v2 v3 v4 v5 v6 v7 v8 v9 v10 v11 : Value} (h : w.heap[b]? = some (.cells #[v0, v1, v2, v3, v4, v5, v6, v7, v8, v9, v10, v11] T (0, 0))) :
    (w.cell? ⟨b, 0, none⟩ = some v0 ∧ w.cell? ⟨b, 1, none⟩ = some v1 ∧ w.cell? ⟨b, 2, none⟩ = some v2 ∧ w.cell? ⟨b, 3, none⟩ = some v3 ∧ w.cell? ⟨b, 4, none⟩ = some v4 ∧ w.cell? ⟨b, 5, none⟩ = some v5 ∧ w.cell? ⟨b, 6, none⟩ = some v6 ∧ w.cell? ⟨b, 7, none⟩ = some v7 ∧ w.cell? ⟨b, 8, none⟩ = some v8 ∧ w.cell? ⟨b, 9, none⟩ = some v9 ∧ w.cell? ⟨b, 10, none⟩ = some v10 ∧ w.cell? ⟨b, 11, none⟩ = some v11) ∧ ∀ o, w.frozen? ⟨b, o, none⟩ = false := by
  refine ⟨by simp [World.cell?, h], fun o => by simp [World.frozen?, h]⟩
/-- Twelve stores, one behind the other. -/
abbrev set12 (w : World) (b : Nat) (v0 v1 v2 v3 v4 v5 v6 v7 v8 v9 v10 v11 : Value) : World := ((((((((((((w.setCell ⟨b, 0, none⟩ v0).setCell ⟨b, 1, none⟩ v1).setCell ⟨b, 2, none⟩ v2).setCell ⟨b, 3, none⟩ v3).setCell ⟨b, 4, none⟩ v4).setCell ⟨b, 5, none⟩ v5).setCell ⟨b, 6, none⟩ v6).setCell ⟨b, 7, none⟩ v7).setCell ⟨b, 8, none⟩ v8).setCell ⟨b, 9, none⟩ v9).setCell ⟨b, 10, none⟩ v10).setCell ⟨b, 11, none⟩ v11)
theorem set12_heap {w : World} {b : Nat} {T : TypeId} {u0 u1 u2 u3 u4 u5 u6 u7 u8 u9 u10 u11 : Value} (h : w.heap[b]? = some (.cells #[u0, u1, u2, u3, u4, u5, u6, u7, u8, u9, u10, u11] T (0, 0))) (v0 v1 v2 v3 v4 v5 v6 v7 v8 v9 v10 v11 : Value) :
    (set12 w b v0 v1 v2 v3 v4 v5 v6 v7 v8 v9 v10 v11).heap[b]? = some (.cells #[v0, v1, v2, v3, v4, v5, v6, v7, v8, v9, v10, v11] T (0, 0)) := by
  have h0 : (w.setCell ⟨b, 0, none⟩ v0).heap[b]? = some (.cells #[v0, u1, u2, u3, u4, u5, u6, u7, u8, u9, u10, u11] T (0, 0)) := heap_setCell_same _ b 0 _ _ v0 h
  have h1 : ((w.setCell ⟨b, 0, none⟩ v0).setCell ⟨b, 1, none⟩ v1).heap[b]? = some (.cells #[v0, v1, u2, u3, u4, u5, u6, u7, u8, u9, u10, u11] T (0, 0)) := heap_setCell_same _ b 1 _ _ v1 h0
  have h2 : (((w.setCell ⟨b, 0, none⟩ v0).setCell ⟨b, 1, none⟩ v1).setCell ⟨b, 2, none⟩ v2).heap[b]? = some (.cells #[v0, v1, v2, u3, u4, u5, u6, u7, u8, u9, u10, u11] T (0, 0)) := heap_setCell_same _ b 2 _ _ v2 h1
  have h3 : ((((w.setCell ⟨b, 0, none⟩ v0).setCell ⟨b, 1, none⟩ v1).setCell ⟨b, 2, none⟩ v2).setCell ⟨b, 3, none⟩ v3).heap[b]? = some (.cells #[v0, v1, v2, v3, u4, u5, u6, u7, u8, u9, u10, u11] T (0, 0)) := heap_setCell_same _ b 3 _ _ v3 h2
  have h4 : (((((w.setCell ⟨b, 0, none⟩ v0).setCell ⟨b, 1, none⟩ v1).setCell ⟨b, 2, none⟩ v2).setCell ⟨b, 3, none⟩ v3).setCell ⟨b, 4, none⟩ v4).heap[b]? = some (.cells #[v0, v1, v2, v3, v4, u5, u6, u7, u8, u9, u10, u11] T (0, 0)) := heap_setCell_same _ b 4 _ _ v4 h3
  have h5 : ((((((w.setCell ⟨b, 0, none⟩ v0).setCell ⟨b, 1, none⟩ v1).setCell ⟨b, 2, none⟩ v2).setCell ⟨b, 3, none⟩ v3).setCell ⟨b, 4, none⟩ v4).setCell ⟨b, 5, none⟩ v5).heap[b]? = some (.cells #[v0, v1, v2, v3, v4, v5, u6, u7, u8, u9, u10, u11] T (0, 0)) := heap_setCell_same _ b 5 _ _ v5 h4
  have h6 : (((((((w.setCell ⟨b, 0, none⟩ v0).setCell ⟨b, 1, none⟩ v1).setCell ⟨b, 2, none⟩ v2).setCell ⟨b, 3, none⟩ v3).setCell ⟨b, 4, none⟩ v4).setCell ⟨b, 5, none⟩ v5).setCell ⟨b, 6, none⟩ v6).heap[b]? = some (.cells #[v0, v1, v2, v3, v4, v5, v6, u7, u8, u9, u10, u11] T (0, 0)) := heap_setCell_same _ b 6 _ _ v6 h5
  have h7 : ((((((((w.setCell ⟨b, 0, none⟩ v0).setCell ⟨b, 1, none⟩ v1).setCell ⟨b, 2, none⟩ v2).setCell ⟨b, 3, none⟩ v3).setCell ⟨b, 4, none⟩ v4).setCell ⟨b, 5, none⟩ v5).setCell ⟨b, 6, none⟩ v6).setCell ⟨b, 7, none⟩ v7).heap[b]? = some (.cells #[v0, v1, v2, v3, v4, v5, v6, v7, u8, u9, u10, u11] T (0, 0)) := heap_setCell_same _ b 7 _ _ v7 h6
  have h8 : (((((((((w.setCell ⟨b, 0, none⟩ v0).setCell ⟨b, 1, none⟩ v1).setCell ⟨b, 2, none⟩ v2).setCell ⟨b, 3, none⟩ v3).setCell ⟨b, 4, none⟩ v4).setCell ⟨b, 5, none⟩ v5).setCell ⟨b, 6, none⟩ v6).setCell ⟨b, 7, none⟩ v7).setCell ⟨b, 8, none⟩ v8).heap[b]? = some (.cells #[v0, v1, v2, v3, v4, v5, v6, v7, v8, u9, u10, u11] T (0, 0)) := heap_setCell_same _ b 8 _ _ v8 h7
  have h9 : ((((((((((w.setCell ⟨b, 0, none⟩ v0).setCell ⟨b, 1, none⟩ v1).setCell ⟨b, 2, none⟩ v2).setCell ⟨b, 3, none⟩ v3).setCell ⟨b, 4, none⟩ v4).setCell ⟨b, 5, none⟩ v5).setCell ⟨b, 6, none⟩ v6).setCell ⟨b, 7, none⟩ v7).setCell ⟨b, 8, none⟩ v8).setCell ⟨b, 9, none⟩ v9).heap[b]? = some (.cells #[v0, v1, v2, v3, v4, v5, v6, v7, v8, v9, u10, u11] T (0, 0)) := heap_setCell_same _ b 9 _ _ v9 h8
  have h10 : (((((((((((w.setCell ⟨b, 0, none⟩ v0).setCell ⟨b, 1, none⟩ v1).setCell ⟨b, 2, none⟩ v2).setCell ⟨b, 3, none⟩ v3).setCell ⟨b, 4, none⟩ v4).setCell ⟨b, 5, none⟩ v5).setCell ⟨b, 6, none⟩ v6).setCell ⟨b, 7, none⟩ v7).setCell ⟨b, 8, none⟩ v8).setCell ⟨b, 9, none⟩ v9).setCell ⟨b, 10, none⟩ v10).heap[b]? = some (.cells #[v0, v1, v2, v3, v4, v5, v6, v7, v8, v9, v10, u11] T (0, 0)) := heap_setCell_same _ b 10 _ _ v10 h9
  have h11 : ((((((((((((w.setCell ⟨b, 0, none⟩ v0).setCell ⟨b, 1, none⟩ v1).setCell ⟨b, 2, none⟩ v2).setCell ⟨b, 3, none⟩ v3).setCell ⟨b, 4, none⟩ v4).setCell ⟨b, 5, none⟩ v5).setCell ⟨b, 6, none⟩ v6).setCell ⟨b, 7, none⟩ v7).setCell ⟨b, 8, none⟩ v8).setCell ⟨b, 9, none⟩ v9).setCell ⟨b, 10, none⟩ v10).setCell ⟨b, 11, none⟩ v11).heap[b]? = some (.cells #[v0, v1, v2, v3, v4, v5, v6, v7, v8, v9, v10, v11] T (0, 0)) := heap_setCell_same _ b 11 _ _ v11 h10
  exact h11
theorem set12_below {w w0 : World} {b B : Nat} (h : Below B w0 w) (hb : B ≤ b) (v0 v1 v2 v3 v4 v5 v6 v7 v8 v9 v10 v11 : Value) : Below B w0 (set12 w b v0 v1 v2 v3 v4 v5 v6 v7 v8 v9 v10 v11) :=
  (((((((((((h.setCell (p := ⟨b, 0, none⟩) hb _).setCell (p := ⟨b, 1, none⟩) hb _).setCell (p := ⟨b, 2, none⟩) hb _).setCell (p := ⟨b, 3, none⟩) hb _).setCell (p := ⟨b, 4, none⟩) hb _).setCell (p := ⟨b, 5, none⟩) hb _).setCell (p := ⟨b, 6, none⟩) hb _).setCell (p := ⟨b, 7, none⟩) hb _).setCell (p := ⟨b, 8, none⟩) hb _).setCell (p := ⟨b, 9, none⟩) hb _).setCell (p := ⟨b, 10, none⟩) hb _).setCell (p := ⟨b, 11, none⟩) hb _
set_option maxRecDepth 100000 in
set_option maxHeartbeats 4000000 in
theorem search_any {p : Nat} {ns : List Nd} {w : World} (h : SkA p ns w) (hn : ns.length ≤ 4611686018427387904) (key : ByteArray) (q : Nat) :
    Calls Try.prog 42 #[.pointer (some ⟨p, 0, none⟩), .string key, .int .u64 (q : Int)] w fun e w' =>
      e = .returned (.tuple #[.agg (bfc p ns (plN ns key q) 12), .int .i64 (stp ((hgtsN ns).take (plN ns key q)) : Int)]) ∧ Below w.heap.size w w' := by
  obtain ⟨e, he⟩ := named (plN ns key q)
  rw [← he.out]
  have hel : e ≤ ns.length := by rw [he.out]; exact plN_le _ _ _
  obtain ⟨A, hA⟩ := named (ns.take e)
  obtain ⟨D, hD⟩ := named (ns.drop e)
  have hAD : Hid (ns = A ++ D) := Lib.hid (by rw [hA.out, hD.out, List.take_append_drop])
  have hAl : Hid (A.length = e) := Lib.hid (by rw [hA.out, List.length_take]; omega)
  have fA : Hid (∀ x ∈ A, ahd x.row key q = true) := Lib.hid fun x hx => front_ahd (by rw [← he.out, ← hA.out]; exact hx)
  have fD : Hid (∀ x ∈ D, ahd x.row key q = false) := Lib.hid fun x hx => back_ahd h.sort (by rw [← he.out, ← hD.out]; exact hx)
  have hh : Hid (∀ x ∈ A, x.hgt ≤ 12) := Lib.hid fun x hx => (h.hgt x (by rw [hAD.out]; simp [hx])).2
  have hHS : Hid ((hgtsN ns).take e = hgtsN A) := Lib.hid (by rw [hA.out, hgtsN_take])
  have hT : Hid (∀ j, j ≤ e → ns.take j = A.take j) := Lib.hid fun j hj => by rw [hA.out, List.take_take, Nat.min_eq_left hj]
  have hdl : Hid (∀ k, (dn (hgtsN A) k).1 ≤ e ∧ (dn (hgtsN A) k).2 ≤ e) := Lib.hid fun k => by
    obtain ⟨h1, h2⟩ := dn_le (hgtsN A) k
    have : (hgtsN A).length = e := by rw [← hAl.out]; unfold hgtsN; simp
    omega
  have hg0 := Lib.hid (heap_alloc_new w (.cells #[.pointer none, .pointer none, .pointer none, .pointer none, .pointer none, .pointer none, .pointer none, .pointer none, .pointer none, .pointer none, .pointer none, .pointer none] 89))
  have hB0 := Lib.hid (below_alloc w (.cells #[.pointer none, .pointer none, .pointer none, .pointer none, .pointer none, .pointer none, .pointer none, .pointer none, .pointer none, .pointer none, .pointer none, .pointer none] 89))
  have H := Lib.hid h
  clear h hA hD he
  rw [← bfc_zero p ns e] at hg0
  rw [hHS.out, show stp (hgtsN A) = (dn (hgtsN A) 12).2 from rfl, bfc_full]
  go_enter Try.func42, Try.ntmps42
  go_wp2_with fail
  go_loopw [7, 8, 9] (fun s a hv wr => ∃ k : Nat, k ≤ 12 ∧ hv = .int .i64 (11 - (k : Int)) ∧ s = .int .i64 ((dn (hgtsN A) k).2 : Int) ∧ a = .pointer (some (lnk p (A.take (dn (hgtsN A) k).1) 0)) ∧ Below w.heap.size w wr ∧ wr.heap[w.heap.size]? = some (.cells (bfc p ns e k) 89 (0, 0))) (fun _ _ hv _ => (intOf hv + 1).toNat)
  case atStart => exact ⟨0, by omega, rfl, rfl, rfl, hB0.out, hg0.out⟩
  case round =>
    clear hB0 hg0
    obtain ⟨k, hk, rfl, rfl, rfl, hb, hg⟩ := hrel
    by_cases hk12 : k < 12
    · obtain ⟨l, hl, hkl⟩ : ∃ l : Nat, l < 12 ∧ k = 11 - l := ⟨11 - k, by omega, by omega⟩
      have hki : (11 - (k : Int)) = (l : Int) := by omega
      obtain ⟨pre0, hpre0⟩ := named (A.take (dn (hgtsN A) k).1)
      obtain ⟨mid0, hmid0⟩ := named (A.drop (dn (hgtsN A) k).1)
      have hA0 : Hid (A = pre0 ++ mid0) := Lib.hid (by rw [hpre0.out, hmid0.out, List.take_append_drop])
      have hhi := (dn_high hh.out hk).1
      have hhi : Hid (High l pre0) := Lib.hid (by rw [hpre0.out]; exact hhi.mono (by omega))
      obtain ⟨S0, hS0⟩ := named (dn (hgtsN A) k).2
      rw [← hpre0.out, ← hS0.out, hki]
      obtain ⟨b, o, hform, hf0⟩ := lnk_form p pre0
      have c0 : wr.cell? ⟨b, o + l, none⟩ = some (.pointer (nxt l (mid0 ++ D))) := by
        rw [← hform]
        exact (H.out.grow hb).at (by rw [hAD.out, hA0.out, List.append_assoc]) hl hhi.out
      rw [hf0]
      have l0 : (0 : Int) ≤ (l : Int) := by omega
      have l1 : (l : Int) < 12 := by omega
      replace hform := Lib.hid hform
      replace hf0 := Lib.hid hf0
      replace hb := Lib.hid hb
      replace hg := Lib.hid hg
      clear hki hk hk12
      replace hkl := Lib.hid hkl
      obtain ⟨S1, hS1⟩ := named (dn (hgtsN A) (k + 1)).2
      obtain ⟨a1, ha1⟩ := named (dn (hgtsN A) (k + 1)).1
      have e1 : Hid (S0 + hopC l (hgtsN mid0) = S1) := Lib.hid (by
        rw [hS1.out, hS0.out, hmid0.out]
        have : 11 - k = l := by have := hkl.out; omega
        simp only [dn, this]
        rw [hgtsN_drop])
      have e2 : Hid (pre0.length + hopI l (hgtsN mid0) = a1) := Lib.hid (by
        rw [ha1.out, hpre0.out, hmid0.out, List.length_take]
        have : 11 - k = l := by have := hkl.out; omega
        simp only [dn, this]
        rw [hgtsN_drop]
        have := (hdl.out k).1
        have := hAl.out
        omega)
      have hSe : S1 ≤ e := by rw [hS1.out]; exact (hdl.out _).2
      have fin : Hid (∀ pre mid : List Nd, A = pre ++ mid → pre.length + hopI l (hgtsN mid) = a1 → hopI l (hgtsN mid) = 0 → pre = A.take (dn (hgtsN A) (k + 1)).1) := Lib.hid fun pre mid ea eb ec => by
        rw [← ha1.out, ← eb, ec, Nat.add_zero]
        exact (take_of_app ea).symm
      have hbf : Hid (bfA p ns e l = lnk p (A.take (dn (hgtsN A) (k + 1)).1) 0) := Lib.hid (by
        unfold bfA
        rw [hHS.out, show 12 - l = k + 1 by have := hkl.out; omega, hT.out _ (hdl.out _).1])
      have hst : Hid ((bfc p ns e k).setIfInBounds l (.pointer (some (bfA p ns e l))) = bfc p ns e (k + 1)) := Lib.hid (by
        have := bfc_step p ns e k (by have := hkl.out; omega)
        rw [show 11 - k = l by have := hkl.out; omega] at this
        exact this)
      have cg : wr.cell? ⟨w.heap.size, l, none⟩ = some (.pointer none) := by
        have := bfc_at p ns e k l hl
        rw [if_neg (by have := hkl.out; omega)] at this
        simp [World.cell?, hg.out, this]
      have fg : wr.frozen? ⟨w.heap.size, l, none⟩ = false := by simp [World.frozen?, hg.out]
      go_wp2_with fail
      clear c0
      go_loopw [7, 8, 10] (fun s a n wq => wq = wr ∧ ∃ (pre mid : List Nd) (S : Nat), A = pre ++ mid ∧ High l pre ∧ s = .int .i64 (S : Int) ∧ a = .pointer (some (lnk p pre 0)) ∧ n = .pointer (nxt l (mid ++ D)) ∧ S + hopC l (hgtsN mid) = S1 ∧ pre.length + hopI l (hgtsN mid) = a1) (fun s _ _ _ => S1 - (intOf s).toNat)
      case atStart => exact ⟨rfl, pre0, mid0, S0, hA0.out, hhi.out, rfl, by rw [hf0.out], rfl, e1.out, e2.out⟩
      case round =>
        clear hS0 e1 e2 hA0 hhi hf0 hform
        obtain ⟨rfl, pre, mid, S, hA1, hhi1, rfl, rfl, rfl, hS, ha⟩ := hrel
        replace hA1 := Lib.hid hA1
        replace hhi1 := Lib.hid hhi1
        rcases nd_split l mid with hlow | ⟨a, x, r, hmid, hlow, hx⟩
        · obtain ⟨z1, z2⟩ := hop_low l (hgtsN mid) (hgts_low hlow)
          have hpre := Lib.hid (fin.out pre mid hA1.out ha z1)
          have hS2 : S = (dn (hgtsN A) (k + 1)).2 := by rw [← hS1.out]; omega
          rw [nxt_low hlow, hpre.out, hS2]
          replace hlow := Lib.hid hlow
          rw [← hbf.out]
          have Q : Hid (Below w.heap.size w (wr.setCell ⟨w.heap.size, l, none⟩ (.pointer (some (bfA p ns e l)))) ∧ (wr.setCell ⟨w.heap.size, l, none⟩ (.pointer (some (bfA p ns e l)))).heap[w.heap.size]? = some (.cells (bfc p ns e (k + 1)) 89 (0, 0))) := Lib.hid (by
            refine ⟨hb.out.setCell (p := ⟨w.heap.size, l, none⟩) (Nat.le_refl _) _, ?_⟩
            rw [heap_setCell_same _ _ _ _ _ _ hg.out, ← hst.out])
          clear z1 z2 hS2 hpre hS ha
          rcases nd_split l D with hlowD | ⟨a, x, r, hmidD, hlowD, hx⟩
          · rw [nxt_none hlowD]
            replace hlowD := Lib.hid hlowD
            go_wp2_with fail
            go_roundw
            case rel => exact ⟨k + 1, by have := hkl.out; omega, (by have := hkl.out; go_num), rfl, by rw [hbf.out], Q.out⟩
            case measure => simp [intOf]
          · have hxD : x ∈ D := by rw [hmidD]; simp
            have hxn : x ∈ ns := by rw [hAD.out]; simp [hxD]
            obtain ⟨x0, x1, _, _⟩ := (H.out.grow hb.out).node x hxn
            have C := Lib.hid (before_any x0 x1 key q)
            rw [fD.out x hxD] at C
            rw [hmidD, nxt_low hlowD, nxt_hit hx]
            clear hmidD hlowD hxD hxn x0 x1
            go_wp2_with (go_at_call 57; ((with_reducible refine C.out.mono ?_); rintro e w' ⟨rfl, rfl⟩))
            go_roundw
            case rel => exact ⟨k + 1, by have := hkl.out; omega, (by have := hkl.out; go_num), rfl, by rw [hbf.out], Q.out⟩
            case measure => simp [intOf]
        · have hxA : x ∈ A := by rw [hA1.out, hmid]; simp
          have hxn : x ∈ ns := by rw [hAD.out]; simp [hxA]
          obtain ⟨x0, x1, _, _⟩ := (H.out.grow hb.out).node x hxn
          have C := Lib.hid (before_any x0 x1 key q)
          rw [fA.out x hxA] at C
          obtain ⟨f1, f2⟩ := hop_hit l x.hgt (hgtsN r) hx (hgtsN a) (hgts_low hlow)
          have em : hgtsN mid = hgtsN a ++ x.hgt :: hgtsN r := by rw [hmid]; simp [hgtsN]
          rw [em, f1] at ha
          rw [em, f2] at hS
          have hla : (hgtsN a).length = a.length := by simp [hgtsN]
          rw [hmid, List.append_assoc, nxt_low hlow, List.cons_append, nxt_hit hx]
          have hA2 : Hid (A = (pre ++ a ++ [x]) ++ r) := Lib.hid (by rw [hA1.out, hmid]; simp)
          have hhi2 : Hid (High l (pre ++ a ++ [x])) := Lib.hid (.inr ⟨pre ++ a, x, rfl, hx⟩)
          have cx : wr.cell? ⟨x.blk, 4 + l, none⟩ = some (.pointer (nxt l (r ++ D))) := by
            have := (H.out.grow hb.out).at (pre := pre ++ a ++ [x]) (rest := r ++ D) (by rw [hAD.out, hA2.out, List.append_assoc]) hl hhi2.out
            rwa [lnk_snoc] at this
          have eS : Hid (S + 1 + hopC l (hgtsN r) = S1) := Lib.hid (by omega)
          have ea : Hid ((pre ++ a ++ [x]).length + hopI l (hgtsN r) = a1) := Lib.hid (by simp only [List.length_append, List.length_cons, List.length_nil]; omega)
          have hS3 : S < S1 := by omega
          obtain ⟨bo, oo, hform, hf0⟩ := lnk_form p pre
          rw [hf0]
          clear hform hf0 hxA hxn x0 x1 f1 f2 em ha hS hla hmid hlow cg fg
          go_wp2_with (go_at_call 57; ((with_reducible refine C.out.mono ?_); rintro e w' ⟨rfl, rfl⟩))
          go_roundw
          case rel => exact ⟨trivial, pre ++ a ++ [x], r, S + 1, hA2.out, hhi2.out, by go_num, by rw [lnk_snoc], rfl, eS.out, ea.out⟩
          case measure => simp [intOf]; omega
    · have hk2 : k = 12 := by omega
      subst hk2
      replace hb := Lib.hid hb
      rw [bfc_full] at hg
      obtain ⟨⟨y0, y1, y2, y3, y4, y5, y6, y7, y8, y9, y10, y11⟩, yf⟩ := cells12 hg
      have z0 := yf 0
      replace hg := Lib.hid hg
      go_wp2_with fail
      have K := set12_heap hg.out (.pointer (some (bfA p ns e 0))) (.pointer (some (bfA p ns e 1))) (.pointer (some (bfA p ns e 2))) (.pointer (some (bfA p ns e 3))) (.pointer (some (bfA p ns e 4))) (.pointer (some (bfA p ns e 5))) (.pointer (some (bfA p ns e 6))) (.pointer (some (bfA p ns e 7))) (.pointer (some (bfA p ns e 8))) (.pointer (some (bfA p ns e 9))) (.pointer (some (bfA p ns e 10))) (.pointer (some (bfA p ns e 11)))
      have Q := set12_below hb.out (Nat.le_refl _) (.pointer (some (bfA p ns e 0))) (.pointer (some (bfA p ns e 1))) (.pointer (some (bfA p ns e 2))) (.pointer (some (bfA p ns e 3))) (.pointer (some (bfA p ns e 4))) (.pointer (some (bfA p ns e 5))) (.pointer (some (bfA p ns e 6))) (.pointer (some (bfA p ns e 7))) (.pointer (some (bfA p ns e 8))) (.pointer (some (bfA p ns e 9))) (.pointer (some (bfA p ns e 10))) (.pointer (some (bfA p ns e 11)))
      obtain ⟨⟨r0, r1, r2, r3, r4, r5, r6, r7, r8, r9, r10, r11⟩, _⟩ := cells12 K
      refine bodyPost_ret (v := .tuple #[.agg #[.pointer (some (bfA p ns e 0)), .pointer (some (bfA p ns e 1)), .pointer (some (bfA p ns e 2)), .pointer (some (bfA p ns e 3)), .pointer (some (bfA p ns e 4)), .pointer (some (bfA p ns e 5)), .pointer (some (bfA p ns e 6)), .pointer (some (bfA p ns e 7)), .pointer (some (bfA p ns e 8)), .pointer (some (bfA p ns e 9)), .pointer (some (bfA p ns e 10)), .pointer (some (bfA p ns e 11))], .int .i64 ((dn (hgtsN A) 12).2 : Int)]) (by simp [results, Try.results42, go_sem, r0, r1, r2, r3, r4, r5, r6, r7, r8, r9, r10, r11]) rfl ⟨rfl, Q⟩
end Go.Proofs.Ytcgpcpplbmebgaa
