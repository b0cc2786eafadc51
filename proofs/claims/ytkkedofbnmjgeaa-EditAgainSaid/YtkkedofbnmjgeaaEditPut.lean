/-
  The program's Encode. Condition: texts of fewer than 2^47 bytes (every edit that came in).
-/
import Derived.Test.YtkkedofbnmjgeaaEditListed
import Derived.Test.YtkkedofbnmjgeaaRowGen
import Derived.Test.YtkkedofbnmjgeaaBuilder
import Derived.Test.YtkkedofbnmjgeaaCodePutText
import Derived.Test.YtkkedofbnmjgeaaCodeUint
namespace Go.Proofs.Ytkkedofbnmjgeaa
set_option maxRecDepth 100000
open Go.RowKit
def cellsN (x : Nat) : List Value := [.int .u64 (x : Int)]
def fldB (s : ByteArray) : List UInt8 := Code.uvar s.size ++ s.data.toList
def encG (g : Gn) : List UInt8 := Code.uvar g.lev.toNat ++ Code.uvar g.num
def encP (p : Pl) : List UInt8 := Code.uvar p.lev.toNat ++ (Code.uvar p.tb.num ++ (Code.uvar p.tb.size.toNat ++ Code.uvar p.tb.rows.toNat)) ++ fldB p.tb.fst ++ fldB p.tb.lst ++ (Code.uvar p.tb.least ++ Code.uvar p.tb.gr)
def encE (e : Ed) : List UInt8 := Code.uvar e.log ++ (Code.uvar e.next ++ (Code.uvar e.seq ++ Code.uvar e.gone.length)) ++ e.gone.flatMap encG ++ Code.uvar e.added.length ++ e.added.flatMap encP
theorem uvar_le (n : Nat) (h : n ≤ 18446744073709551615) : (Code.uvar n).length ≤ 10 := Code.uvar_ten (n := n) (by omega)
theorem flat_le {α : Type} (f : α → List UInt8) : ∀ (l : List α), (∀ y ∈ l, (f y).length ≤ 10) → (l.flatMap f).length ≤ 10 * l.length
  | [], _ => by simp
  | y :: r, h => by
    have h1 := h y (List.mem_cons_self ..)
    have h2 := flat_le f r (fun z hz => h z (List.mem_cons_of_mem _ hz))
    rw [List.flatMap_cons, List.length_append, List.length_cons]
    omega
/-- What a write of numbers leaves. -/
structure Wrote (B b : Nat) (l : List UInt8) (w w' : World) : Prop where
  bld : Bld B b l w'
  bel : Below B w w'
  sp : Spares b w w'
theorem Wrote.trans {B b : Nat} {l k : List UInt8} {x y z : World} (h : Wrote B b l x y) (g : Wrote B b k y z) : Wrote B b k x z := ⟨g.bld, h.bel.trans g.bel, h.sp.trans g.sp⟩
theorem Wrote.pre {B b : Nat} {k : List UInt8} {x y z : World} (h : Below x.heap.size x y) (hB : B ≤ x.heap.size) (g : Wrote B b k y z) : Wrote B b k x z := ⟨g.bld, (h.mono hB).trans g.bel, (Spares.below h).trans g.sp⟩
theorem Wrote.post {B b : Nat} {k : List UInt8} {x y z : World} (g : Wrote B b k x y) (h : Below y.heap.size y z) (hB : B ≤ y.heap.size) : Wrote B b k x z := ⟨g.bld.below h, g.bel.trans (h.mono hB), g.sp.trans (Spares.below h)⟩
theorem bld_lt {B b : Nat} {l : List UInt8} {w : World} (h : Bld B b l w) : b < w.heap.size ∧ ∀ cs m, w.heap[b]? = some (.cells cs 22 m) → False := by
  rcases h with h | h
  · obtain ⟨hB, v, hbk, _⟩ := h
    exact ⟨(Array.getElem?_eq_some_iff.1 hbk).1, fun cs m e => by rw [hbk] at e; cases e⟩
  · obtain ⟨hB, v, hbk, _⟩ := h
    exact ⟨(Array.getElem?_eq_some_iff.1 hbk).1, fun cs m e => by rw [hbk] at e; cases e⟩
theorem spares_cells {b : Nat} {w w' : World} (h : Spares b w w') {g : Nat} {cs : Array Value} {t : TypeId} {m : Nat × Nat} (hg : w.heap[g]? = some (.cells cs t m)) (hb : g ≠ b) (ht : t ≠ 5) : w'.heap[g]? = some (.cells cs t m) :=
  (h.2 g (Array.getElem?_eq_some_iff.1 hg).1 hb (fun cs' m' e => by rw [hg] at e; cases e; exact ht rfl)).trans hg
set_option maxRecDepth 100000 in
set_option maxHeartbeats 4000000 in
/-- The closure that writes numbers. -/
theorem put_any {B b g : Nat} {l : List UInt8} {w : World} (ns : List Nat) (cs : Array Value) (hcs : cs.toList = ns.flatMap cellsN) (hk : ns.length ≤ 4) (hns : ∀ n ∈ ns, n ≤ 18446744073709551615) (hg : w.heap[g]? = some (.cells cs 22 (0, 0))) (hgb : g ≠ b) (hb : Bld B b l w) (hBw : B ≤ w.heap.size) (hl : l.length ≤ 70368744177664) :
    Calls Try.prog 50 #[.slice (some ⟨g, 0, none⟩) ns.length ns.length, .pointer (some ⟨b, 0, none⟩)] w fun e w' => e = .returned (.tuple #[]) ∧ Wrote B b (l ++ ns.flatMap Code.uvar) w w' := by
  have W0 : Hid (Wrote B b (l ++ (ns.take 0).flatMap Code.uvar) w w) := Lib.hid ⟨by simpa using hb, Below.refl _ _, Spares.refl _ _⟩
  obtain ⟨n, hn⟩ := named ns.length
  rw [← hn.out] at hk ⊢
  replace hn := Lib.hid hn.out.symm
  replace hcs := Lib.hid hcs
  replace hns := Lib.hid hns
  go_enter Try.func50, Try.ntmps50
  go_wp2_with fail
  go_loopw [7] (fun i wr => ∃ j : Nat, j ≤ n ∧ i = .int .i64 (j : Int) ∧ Hid (Wrote B b (l ++ (ns.take j).flatMap Code.uvar) w wr)) (fun i _ => n - (intOf i).toNat)
  case atStart => exact ⟨0, Nat.zero_le _, rfl, W0⟩
  case round =>
    obtain ⟨j, hj, rfl, hw⟩ := hrel
    by_cases hlt : j < n
    · obtain ⟨x, hx⟩ : ∃ x, ns[j]? = some x := ⟨_, List.getElem?_eq_getElem (by rw [hn.out]; exact hlt)⟩
      have hg2 := spares_cells hw.out.sp hg hgb (by decide)
      have c0 : wr.cell? ⟨g, j, none⟩ = some (.int .u64 (x : Int)) := by
        have h1 := rowG_at (cells := cellsN) (k := 1) (fun _ => rfl) ns j 0 hx (by omega)
        rw [← hcs.out, Nat.mul_one, Nat.add_zero] at h1
        rw [Lib.cell_of_heap hg2]
        rw [← Array.getElem?_toList]
        exact h1
      have i0 : (j : Int) < (n : Int) := by omega
      have hxm := hns.out x (List.mem_of_getElem? hx)
      have PC := Lib.hid (fun u => putuint_any x (by omega) u)
      obtain ⟨U, hU⟩ := named (Code.uvar x)
      rw [← hU.out] at PC
      have hlen : (l ++ (ns.take j).flatMap Code.uvar).length + (⟨U.toArray⟩ : ByteArray).size ≤ 140737488355328 := by
        have h1 : U.length ≤ 10 := by rw [hU.out]; exact uvar_le x hxm
        have h2 : ((ns.take j).flatMap Code.uvar).length ≤ 10 * (ns.take j).length := flat_le _ _ (fun y hy => uvar_le y (hns.out y (List.mem_of_mem_take hy)))
        have h3 : (ns.take j).length ≤ 4 := by rw [List.length_take]; omega
        have h4 : (⟨U.toArray⟩ : ByteArray).size = U.length := by simp [ByteArray.size]
        rw [List.length_append, h4]
        omega
      have SC := Lib.hid (fun u (hu : Below wr.heap.size wr u) => bld_string (hw.out.bld.below hu) (Nat.le_trans hBw (Nat.le_trans hw.out.bel.size hu.size)) ⟨U.toArray⟩ hlen)
      have hz : Hid (B ≤ wr.heap.size) := Lib.hid (Nat.le_trans hBw hw.out.bel.size)
      have hfin : Hid (l ++ (ns.take j).flatMap Code.uvar ++ U = l ++ (ns.take (j + 1)).flatMap Code.uvar) := Lib.hid (by rw [List.take_add_one, hx, hU.out]; simp)
      clear hx hlen hxm
      replace hU := Lib.hid hU.out
      go_wp2_with (first
        | (go_at_call 52; ((with_reducible refine (PC.out _).mono ?_); rintro e w1 ⟨rfl, hb1⟩; have B1 := Lib.hid hb1; clear hb1))
        | (go_at_call 51; ((with_reducible refine (SC.out _ B1.out).mono ?_); rintro e w2 ⟨rfl, h1, h2, h3⟩; have W2 : Hid (Wrote B b (l ++ (ns.take (j + 1)).flatMap Code.uvar) w w2) := Lib.hid (hw.out.trans ⟨by rw [← hfin.out]; exact h1, (B1.out.mono hz.out).trans h2, (Spares.below B1.out).trans h3⟩); clear h1 h2 h3)))
      go_roundw
      case rel => exact ⟨j + 1, by omega, by go_num, W2⟩
      case measure => simp [intOf]; omega
    · have i0 : ¬ (j : Int) < (n : Int) := by omega
      have e1 : Hid (ns.take j = ns) := Lib.hid (List.take_of_length_le (by rw [hn.out]; omega))
      rw [e1.out] at hw
      go_wp2_with fail
      go_returns
      exact ⟨rfl, hw.out⟩
end Go.Proofs.Ytkkedofbnmjgeaa
