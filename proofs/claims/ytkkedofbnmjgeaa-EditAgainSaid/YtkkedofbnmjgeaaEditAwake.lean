/-
  The law's own answers that the document fixes: true. No condition.
-/
import Derived.Test.YtkkedofbnmjgeaaEditApply
import Derived.Test.YtkkedofbnmjgeaaEditEncode
namespace Go.Proofs.Ytkkedofbnmjgeaa
set_option maxRecDepth 100000
open Go Go.RowKit
theorem right_nil (a b c : Nat) (ha : NumP a) (hb : NumP b) (hc : c < 72057594037927936) : RightP ⟨a, b, c, fun _ => []⟩ :=
  ⟨⟨ha, hb, hc⟩, fun i _ => ⟨Nat.zero_le _, (fun x hx => nomatch hx), (fun x hx => nomatch hx), ⟨List.nodup_nil, (fun x hx => nomatch hx)⟩, (fun i x y hx => nomatch hx)⟩⟩
abbrev firstL : Value := .agg #[.int .u64 1, .int .u64 1, .int .u64 0, .slice none 0 0, .slice none 0 0, .slice none 0 0, .slice none 0 0]
theorem firstL_any (w : World) : Calls Try.prog 24 #[] w fun r w' => r = .returned firstL ∧ Below w.heap.size w w' := first_any w
def nilHd : Hd := ⟨none, 0, 0, 0, 0⟩
/-- Apply at the first version, where nothing is added. -/
theorem apply_first {e : Ed} {hg : Hd} {w : World} (hE : EdAt e hg nilHd w) (hI : EdIn e) (hn : hg.n ≤ 1000) (h1 : ¬ BelP e.log 1) (h2 : ¬ BelP e.next 1) (hL : ListedP e) :
    Calls Try.prog 13 #[verV firstV noHd, edV e hg nilHd] w fun r w' => ApplyD firstV e (decide (hg.n = 0)) true (fun _ => []) w r w' := by
  refine apply_in (first_at w) (fun i hi x hx => by cases hx) hE (right_nil 1 1 0 ⟨by omega, by omega⟩ ⟨by omega, by omega⟩ (by omega)) h1 h2 (fun h => absurd h.2 (Nat.not_lt_zero _)) hL (decide (hg.n = 0)) true (fun G => G = noHd) (LvAtG (fun _ => [])) (fun G x y h hb => LvAtG.below h hb) (fun _ => []) (fun i hi x hx => by cases hx) ?_ ?_
  · intro u hu hb
    refine (without_nil (hE.gone.below hb) (fun g hg => hI.2.2.2.1 g hg) hn).mono fun r u' ⟨h3, h4⟩ => ⟨noHd, h3, rfl, fun i hi => Ms.nil u', h4, fun i hi h0 => absurd h0 (Nat.lt_irrefl 0)⟩
  · intro u q G hb hq hQ hG hL1 hGb
    subst hG
    refine (insert_nil hQ).mono fun r u' ⟨h3, h4⟩ => ⟨h3, (h4.mono (by have := (Array.getElem?_eq_some_iff.1 hQ).1; omega)), fun _ => ⟨noHd, (h4.block q (Array.getElem?_eq_some_iff.1 hQ).1).trans hQ, fun i hi => Ms.nil u'⟩⟩
def ae1 : Ed := ⟨0, 3, 0, [⟨1, 2⟩], []⟩
def ae2 : Ed := ⟨0, 0, 0, [⟨0, 1⟩], []⟩
def ae3 : Ed := ⟨0, 0, 5, [], []⟩
theorem enc_ae1 : encE ae1 = [0, 3, 0, 1, 1, 2, 0] := by
  have u : ∀ n, n < 128 → Code.uvar n = [UInt8.ofNat n] := fun n h => Code.uvar_small h
  simp [encE, ae1, encG, u 0 (by decide), u 1 (by decide), u 2 (by decide), u 3 (by decide)]
theorem gn_in (l : Int) (n : Nat) (h : 0 ≤ l ∧ l < 4) (hn : n ≤ 100) : GnIn ⟨l, n⟩ := ⟨by simp [Lit.wf, IntKind.min, IntKind.max, IntKind.signed, IntKind.bits]; omega, by show n ≤ _; omega⟩
theorem one_gs (x : Gn) (w : World) : Gs ⟨some ⟨w.heap.size, 0, none⟩, 1, 1, w.heap.size, 0⟩ [x] (w.alloc (gnO x)) := by
  refine ⟨⟨rfl, Nat.le_refl _, by show (1 : Nat) ≤ _; omega, fun _ => ⟨rfl, by simp⟩, fun j y hy m u hu => ?_⟩, fun h => by cases h⟩
  have hj : j = 0 := by have := (List.getElem?_eq_some_iff.1 hy).1; simp at this; exact this
  subst hj
  simp at hy
  subst hy
  rw [World.cell?_alloc_new, ← Array.getElem?_toList]
  simpa [cellsG] using hu
theorem enc_fixed (w : World) : Calls Try.prog 25 #[.agg #[.int .u64 0, .int .u64 3, .int .u64 0, .slice (some ⟨w.heap.size, 0, none⟩) 1 1, .slice none 0 0]] (w.alloc (.cells #[.int .i64 1, .int .u64 2] 54)) fun r w' => r = .returned (.tuple #[.string ⟨#[0, 3, 0, 1, 1, 2, 0]⟩, .int .i64 0]) ∧ Below w.heap.size w w' := by
  have h := encode_main (e := ae1) (hg := ⟨some ⟨w.heap.size, 0, none⟩, 1, 1, w.heap.size, 0⟩) (ha := nilHd) (w := w.alloc (gnO ⟨1, 2⟩)) ⟨one_gs _ _, Ps.nil _⟩ ⟨by decide, by decide, by decide, (fun x hx => by simp [ae1] at hx; subst hx; exact gn_in 1 2 (by omega) (by omega)), (fun x hx => nomatch hx)⟩ ⟨(fun x hx => by simp [ae1] at hx; subst hx; exact ⟨by decide, by decide⟩), (fun x hx => nomatch hx)⟩ (show (1 : Nat) ≤ 256 by omega) (show (0 : Nat) ≤ 256 by omega)
  rw [enc_ae1] at h
  exact h.mono fun r w' ⟨h1, h2⟩ => ⟨h1, below_of (below_alloc w _) h2⟩
theorem app_fixed2 (w : World) : Calls Try.prog 13 #[firstL, .agg #[.int .u64 0, .int .u64 0, .int .u64 0, .slice (some ⟨w.heap.size, 0, none⟩) 1 1, .slice none 0 0]] (w.alloc (.cells #[.int .i64 0, .int .u64 1] 54)) fun r w' => r = .returned (.tuple #[zV, .int .i64 4]) ∧ Below w.heap.size w w' := by
  have h := apply_first (e := ae2) (hg := ⟨some ⟨w.heap.size, 0, none⟩, 1, 1, w.heap.size, 0⟩) (w := w.alloc (gnO ⟨0, 1⟩)) ⟨one_gs _ _, Ps.nil _⟩ ⟨by decide, by decide, by decide, (fun x hx => by simp [ae2] at hx; subst hx; exact gn_in 0 1 (by omega) (by omega)), (fun x hx => nomatch hx)⟩ (show (1 : Nat) ≤ 1000 by omega) (fun h => h.1 rfl) (fun h => h.1 rfl) ⟨(fun x hx => by simp [ae2] at hx; subst hx; exact ⟨by decide, by decide⟩), (fun x hx => nomatch hx)⟩
  refine h.mono fun r w' ⟨h1, h2⟩ => ⟨?_, below_of (below_alloc w _) h1⟩
  rcases h2 with ⟨_, h3⟩ | ⟨h3, _⟩ | ⟨h3, _⟩ | ⟨h3, _⟩
  · exact h3
  · cases h3
  · cases h3
  · cases h3
theorem app_fixed3 (w : World) : Calls Try.prog 13 #[firstL, .agg #[.int .u64 0, .int .u64 0, .int .u64 5, .slice none 0 0, .slice none 0 0]] w fun r w' => (∃ H : Nat → Hd, r = .returned (.tuple #[.agg #[.int .u64 1, .int .u64 1, .int .u64 5, .slice (H 0).a (H 0).n (H 0).c, .slice (H 1).a (H 1).n (H 1).c, .slice (H 2).a (H 2).n (H 2).c, .slice (H 3).a (H 3).n (H 3).c], .int .i64 0])) ∧ Below w.heap.size w w' := by
  have h := apply_first (e := ae3) (hg := nilHd) (w := w) ⟨Gs.nil _, Ps.nil _⟩ ⟨by decide, by decide, by decide, (fun x hx => nomatch hx), (fun x hx => nomatch hx)⟩ (show (0 : Nat) ≤ 1000 by omega) (fun h => h.1 rfl) (fun h => h.1 rfl) ⟨(fun x hx => nomatch hx), (fun x hx => nomatch hx)⟩
  refine h.mono fun r w' ⟨h1, h2⟩ => ⟨?_, h1⟩
  rcases h2 with ⟨h3, _⟩ | ⟨_, h3, _⟩ | ⟨_, _, _, G, h3, _⟩ | ⟨_, _, h3, _⟩
  · cases h3
  · cases h3
  · exact ⟨G, h3⟩
  · exact absurd (right_nil 1 1 5 ⟨by omega, by omega⟩ ⟨by omega, by omega⟩ (by omega)) h3
set_option maxRecDepth 100000 in
set_option maxHeartbeats 8000000 in
theorem eawake_any (w : World) : Calls Try.prog 11 #[] w fun e w' => e = .returned (.bool true) ∧ Below w.heap.size w w' := by
  have EC := Lib.hid (fun u => enc_fixed u)
  have FC := Lib.hid (fun u => firstL_any u)
  have A2 := Lib.hid (fun u => app_fixed2 u)
  have A3 := Lib.hid (fun u => app_fixed3 u)
  go_enter Try.func11, Try.ntmps11
  go_wp2_with (first
    | (go_at_call 25; ((with_reducible refine (EC.out _).mono ?_); rintro r w1 ⟨rfl, hb1⟩; have B1 := Lib.hid hb1; clear hb1))
    | (go_at_call 24; ((with_reducible refine (FC.out _).mono ?_); rintro r w2 ⟨rfl, hb2⟩; have B2 : Hid (Below w.heap.size w w2) := (by first | exact Lib.hid (below_of (w := w) B3.out hb2) | exact Lib.hid (below_of (w := w) (B3.out.alloc B3.out.size _) hb2) | exact Lib.hid (below_of (w := w) B1.out hb2)); clear hb2))
    | (go_at_call 13; ((with_reducible refine (A2.out _).mono ?_); rintro r w3 ⟨rfl, hb3⟩; have B3 := Lib.hid (below_of (w := w) B2.out hb3); clear hb3))
    | (go_at_call 13; ((with_reducible refine (A3.out _).mono ?_); rintro r w4 ⟨⟨H, rfl⟩, hb4⟩; have B4 := Lib.hid (below_of (w := w) B2.out hb4); have B5 := Lib.hid (B4.out.alloc B4.out.size (verO ⟨1, 1, 5, fun _ => []⟩ H)); clear hb4)))
  go_returns
  exact ⟨rfl, B5.out⟩
end Go.Proofs.Ytkkedofbnmjgeaa
