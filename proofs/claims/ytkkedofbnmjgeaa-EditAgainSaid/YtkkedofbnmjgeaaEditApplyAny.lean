/-
  The contract of the program's Apply, in general, and the mathematics of EditMakes. Condition: at most 300 in each list of the edit.
-/
import Derived.Test.YtkkedofbnmjgeaaEditApply
import Derived.Test.YtkkedofbnmjgeaaEditInsert
import Derived.Test.YtkkedofbnmjgeaaEditSame
import Derived.Test.YtkkedofbnmjgeaaEditAwake
namespace Go.Proofs.Ytkkedofbnmjgeaa
set_option maxRecDepth 100000
open Go Go.RowKit
theorem z_at {w : World} {v : Vr} {H : Nat → Hd} {e : Ed} {hg ha : Hd} : VerB w.heap.size v H (((w.alloc (verO v H)).alloc (edO e hg ha)).alloc (zO)) ∧ EdB (w.heap.size + 1) e hg ha (((w.alloc (verO v H)).alloc (edO e hg ha)).alloc (zO)) ∧ VerB (w.heap.size + 1 + 1) zeroV noHd (((w.alloc (verO v H)).alloc (edO e hg ha)).alloc (zO)) ∧ Below w.heap.size w (((w.alloc (verO v H)).alloc (edO e hg ha)).alloc (zO)) := by
  have z1 : (w.alloc (verO v H)).heap.size = w.heap.size + 1 := World.size_alloc _ _
  have z2 : ((w.alloc (verO v H)).alloc (edO e hg ha)).heap.size = w.heap.size + 1 + 1 := by rw [World.size_alloc, z1]
  refine ⟨((VerB.new v H w).below (below_alloc _ _)).below (below_alloc _ _), ?_, ?_, ((below_alloc w _).alloc (by simp) _).alloc (by simp; omega) _⟩
  · have := EdB.new e hg ha (w.alloc (verO v H))
    rw [z1] at this
    exact this.below (below_alloc _ _)
  · have : VerB ((w.alloc (verO v H)).alloc (edO e hg ha)).heap.size zeroV noHd (((w.alloc (verO v H)).alloc (edO e hg ha)).alloc (zO)) := VerB.new zeroV noHd ((w.alloc (verO v H)).alloc (edO e hg ha))
    rwa [z2] at this
set_option maxRecDepth 100000 in
set_option maxHeartbeats 16000000 in
theorem apply_arg0 {v : Vr} {H : Nat → Hd} {e : Ed} {hg ha : Hd} {w : World} (hM : VrAt v H w) (hN : NumsIn v) (hE : EdAt e hg ha w) (hR : ¬ RightP v) : Calls Try.prog 13 #[verV v H, edV e hg ha] w fun r w' => r = .returned (.tuple #[zV, .int .i64 2]) ∧ Below w.heap.size w w' := by
  obtain ⟨V0, E0, Z0, B0⟩ := z_at (w := w) (v := v) (H := H) (e := e) (hg := hg) (ha := ha)
  have RC := Lib.hid (fun u (hu : Below w.heap.size w u) => right_any (hM.below hu) hN)
  rw [tf_false hR] at RC
  have KP := Lib.hid (fun u (hu : Below (((w.alloc (verO v H)).alloc (edO e hg ha)).alloc (zO)).heap.size (((w.alloc (verO v H)).alloc (edO e hg ha)).alloc (zO)) u) => (⟨V0.below hu, E0.below hu, Z0.below hu, below_of B0 hu⟩ : VerB w.heap.size v H u ∧ EdB (w.heap.size + 1) e hg ha u ∧ VerB (w.heap.size + 1 + 1) zeroV noHd u ∧ Below w.heap.size w u))
  obtain ⟨v0, v1, v2, v3, v4, v5, v6⟩ := V0.cells
  obtain ⟨e0, e1, e2, e3, e4⟩ := E0.cells
  obtain ⟨y0, y1, y2, y3, y4, y5, y6⟩ := Z0.cells
  have fz := Z0.frozen
  have B00 := Lib.hid B0
  clear hM hN hE hR V0 E0 Z0 B0
  go_enter Try.func13, Try.ntmps13
  go_wp2_with (first
    | (go_at_call 22; ((with_reducible refine (RC.out _ B00.out).mono ?_); rintro r w1 ⟨rfl, hb1⟩; have K1 := Lib.hid (KP.out _ hb1); have L1 := Lib.hid hb1; clear hb1; obtain ⟨v0, v1, v2, v3, v4, v5, v6⟩ := K1.out.1.cells; obtain ⟨e0, e1, e2, e3, e4⟩ := K1.out.2.1.cells; obtain ⟨y0, y1, y2, y3, y4, y5, y6⟩ := K1.out.2.2.1.cells; have fz := K1.out.2.2.1.frozen)))
  obtain ⟨g0, g1, g2, g3, g4, g5, g6⟩ := zput_cells K1.out.2.2.1
  exact bodyPost_ret (v := .tuple #[zV, .int .i64 2]) (by simp [results, Try.results13, go_sem, g0, g1, g2, g3, g4, g5, g6]) rfl ⟨rfl, below_zPut (p := w.heap.size + 1 + 1) K1.out.2.2.2 (by omega)⟩
set_option maxRecDepth 100000 in
set_option maxHeartbeats 16000000 in
theorem apply_arg1 {v : Vr} {H : Nat → Hd} {e : Ed} {hg ha : Hd} {w : World} (hM : VrAt v H w) (hN : NumsIn v) (hE : EdAt e hg ha w) (hR : RightP v) (h1 : BelP e.log v.log) : Calls Try.prog 13 #[verV v H, edV e hg ha] w fun r w' => r = .returned (.tuple #[zV, .int .i64 2]) ∧ Below w.heap.size w w' := by
  obtain ⟨V0, E0, Z0, B0⟩ := z_at (w := w) (v := v) (H := H) (e := e) (hg := hg) (ha := ha)
  have RC := Lib.hid (fun u (hu : Below w.heap.size w u) => right_any (hM.below hu) hN)
  rw [tf_true hR] at RC
  have C1 := Lib.hid (fun u => isbel_any e.log v.log u)
  rw [decide_eq_true h1] at C1
  have KP := Lib.hid (fun u (hu : Below (((w.alloc (verO v H)).alloc (edO e hg ha)).alloc (zO)).heap.size (((w.alloc (verO v H)).alloc (edO e hg ha)).alloc (zO)) u) => (⟨V0.below hu, E0.below hu, Z0.below hu, below_of B0 hu⟩ : VerB w.heap.size v H u ∧ EdB (w.heap.size + 1) e hg ha u ∧ VerB (w.heap.size + 1 + 1) zeroV noHd u ∧ Below w.heap.size w u))
  obtain ⟨v0, v1, v2, v3, v4, v5, v6⟩ := V0.cells
  obtain ⟨e0, e1, e2, e3, e4⟩ := E0.cells
  obtain ⟨y0, y1, y2, y3, y4, y5, y6⟩ := Z0.cells
  have fz := Z0.frozen
  have B00 := Lib.hid B0
  clear hM hN hE hR h1 V0 E0 Z0 B0
  go_enter Try.func13, Try.ntmps13
  go_wp2_with (first
    | (go_at_call 22; ((with_reducible refine (RC.out _ B00.out).mono ?_); rintro r w1 ⟨rfl, hb1⟩; have K1 := Lib.hid (KP.out _ hb1); have L1 := Lib.hid hb1; clear hb1; obtain ⟨v0, v1, v2, v3, v4, v5, v6⟩ := K1.out.1.cells; obtain ⟨e0, e1, e2, e3, e4⟩ := K1.out.2.1.cells; obtain ⟨y0, y1, y2, y3, y4, y5, y6⟩ := K1.out.2.2.1.cells; have fz := K1.out.2.2.1.frozen))
    | (go_at_call 26; ((with_reducible refine (C1.out _).mono ?_); rintro r w2 ⟨rfl, rfl⟩)))
  obtain ⟨g0, g1, g2, g3, g4, g5, g6⟩ := zput_cells K1.out.2.2.1
  exact bodyPost_ret (v := .tuple #[zV, .int .i64 2]) (by simp [results, Try.results13, go_sem, g0, g1, g2, g3, g4, g5, g6]) rfl ⟨rfl, below_zPut (p := w.heap.size + 1 + 1) K1.out.2.2.2 (by omega)⟩
set_option maxRecDepth 100000 in
set_option maxHeartbeats 16000000 in
theorem apply_arg2 {v : Vr} {H : Nat → Hd} {e : Ed} {hg ha : Hd} {w : World} (hM : VrAt v H w) (hN : NumsIn v) (hE : EdAt e hg ha w) (hR : RightP v) (h1 : ¬ BelP e.log v.log) (h2 : BelP e.next v.next) : Calls Try.prog 13 #[verV v H, edV e hg ha] w fun r w' => r = .returned (.tuple #[zV, .int .i64 2]) ∧ Below w.heap.size w w' := by
  obtain ⟨V0, E0, Z0, B0⟩ := z_at (w := w) (v := v) (H := H) (e := e) (hg := hg) (ha := ha)
  have RC := Lib.hid (fun u (hu : Below w.heap.size w u) => right_any (hM.below hu) hN)
  rw [tf_true hR] at RC
  have C1 := Lib.hid (fun u => isbel_any e.log v.log u)
  rw [decide_eq_false h1] at C1
  have C2 := Lib.hid (fun u => isbel_any e.next v.next u)
  rw [decide_eq_true h2] at C2
  have KP := Lib.hid (fun u (hu : Below (((w.alloc (verO v H)).alloc (edO e hg ha)).alloc (zO)).heap.size (((w.alloc (verO v H)).alloc (edO e hg ha)).alloc (zO)) u) => (⟨V0.below hu, E0.below hu, Z0.below hu, below_of B0 hu⟩ : VerB w.heap.size v H u ∧ EdB (w.heap.size + 1) e hg ha u ∧ VerB (w.heap.size + 1 + 1) zeroV noHd u ∧ Below w.heap.size w u))
  obtain ⟨v0, v1, v2, v3, v4, v5, v6⟩ := V0.cells
  obtain ⟨e0, e1, e2, e3, e4⟩ := E0.cells
  obtain ⟨y0, y1, y2, y3, y4, y5, y6⟩ := Z0.cells
  have fz := Z0.frozen
  have B00 := Lib.hid B0
  clear hM hN hE hR h1 h2 V0 E0 Z0 B0
  go_enter Try.func13, Try.ntmps13
  go_wp2_with (first
    | (go_at_call 22; ((with_reducible refine (RC.out _ B00.out).mono ?_); rintro r w1 ⟨rfl, hb1⟩; have K1 := Lib.hid (KP.out _ hb1); have L1 := Lib.hid hb1; clear hb1; obtain ⟨v0, v1, v2, v3, v4, v5, v6⟩ := K1.out.1.cells; obtain ⟨e0, e1, e2, e3, e4⟩ := K1.out.2.1.cells; obtain ⟨y0, y1, y2, y3, y4, y5, y6⟩ := K1.out.2.2.1.cells; have fz := K1.out.2.2.1.frozen))
    | (go_at_call 26; ((with_reducible refine (C1.out _).mono ?_); rintro r w2 ⟨rfl, rfl⟩))
    | (go_at_call 26; ((with_reducible refine (C2.out _).mono ?_); rintro r w2 ⟨rfl, rfl⟩)))
  obtain ⟨g0, g1, g2, g3, g4, g5, g6⟩ := zput_cells K1.out.2.2.1
  exact bodyPost_ret (v := .tuple #[zV, .int .i64 2]) (by simp [results, Try.results13, go_sem, g0, g1, g2, g3, g4, g5, g6]) rfl ⟨rfl, below_zPut (p := w.heap.size + 1 + 1) K1.out.2.2.2 (by omega)⟩
set_option maxRecDepth 100000 in
set_option maxHeartbeats 16000000 in
theorem apply_arg3 {v : Vr} {H : Nat → Hd} {e : Ed} {hg ha : Hd} {w : World} (hM : VrAt v H w) (hN : NumsIn v) (hE : EdAt e hg ha w) (hR : RightP v) (h1 : ¬ BelP e.log v.log) (h2 : ¬ BelP e.next v.next) (h3 : BelP e.seq v.seq) : Calls Try.prog 13 #[verV v H, edV e hg ha] w fun r w' => r = .returned (.tuple #[zV, .int .i64 2]) ∧ Below w.heap.size w w' := by
  obtain ⟨V0, E0, Z0, B0⟩ := z_at (w := w) (v := v) (H := H) (e := e) (hg := hg) (ha := ha)
  have RC := Lib.hid (fun u (hu : Below w.heap.size w u) => right_any (hM.below hu) hN)
  rw [tf_true hR] at RC
  have C1 := Lib.hid (fun u => isbel_any e.log v.log u)
  rw [decide_eq_false h1] at C1
  have C2 := Lib.hid (fun u => isbel_any e.next v.next u)
  rw [decide_eq_false h2] at C2
  have C3 := Lib.hid (fun u => isbel_any e.seq v.seq u)
  rw [decide_eq_true h3] at C3
  have KP := Lib.hid (fun u (hu : Below (((w.alloc (verO v H)).alloc (edO e hg ha)).alloc (zO)).heap.size (((w.alloc (verO v H)).alloc (edO e hg ha)).alloc (zO)) u) => (⟨V0.below hu, E0.below hu, Z0.below hu, below_of B0 hu⟩ : VerB w.heap.size v H u ∧ EdB (w.heap.size + 1) e hg ha u ∧ VerB (w.heap.size + 1 + 1) zeroV noHd u ∧ Below w.heap.size w u))
  obtain ⟨v0, v1, v2, v3, v4, v5, v6⟩ := V0.cells
  obtain ⟨e0, e1, e2, e3, e4⟩ := E0.cells
  obtain ⟨y0, y1, y2, y3, y4, y5, y6⟩ := Z0.cells
  have fz := Z0.frozen
  have B00 := Lib.hid B0
  clear hM hN hE hR h1 h2 h3 V0 E0 Z0 B0
  go_enter Try.func13, Try.ntmps13
  go_wp2_with (first
    | (go_at_call 22; ((with_reducible refine (RC.out _ B00.out).mono ?_); rintro r w1 ⟨rfl, hb1⟩; have K1 := Lib.hid (KP.out _ hb1); have L1 := Lib.hid hb1; clear hb1; obtain ⟨v0, v1, v2, v3, v4, v5, v6⟩ := K1.out.1.cells; obtain ⟨e0, e1, e2, e3, e4⟩ := K1.out.2.1.cells; obtain ⟨y0, y1, y2, y3, y4, y5, y6⟩ := K1.out.2.2.1.cells; have fz := K1.out.2.2.1.frozen))
    | (go_at_call 26; ((with_reducible refine (C1.out _).mono ?_); rintro r w2 ⟨rfl, rfl⟩))
    | (go_at_call 26; ((with_reducible refine (C2.out _).mono ?_); rintro r w2 ⟨rfl, rfl⟩))
    | (go_at_call 26; ((with_reducible refine (C3.out _).mono ?_); rintro r w2 ⟨rfl, rfl⟩)))
  obtain ⟨g0, g1, g2, g3, g4, g5, g6⟩ := zput_cells K1.out.2.2.1
  exact bodyPost_ret (v := .tuple #[zV, .int .i64 2]) (by simp [results, Try.results13, go_sem, g0, g1, g2, g3, g4, g5, g6]) rfl ⟨rfl, below_zPut (p := w.heap.size + 1 + 1) K1.out.2.2.2 (by omega)⟩
set_option maxRecDepth 100000 in
set_option maxHeartbeats 16000000 in
theorem apply_arg4 {v : Vr} {H : Nat → Hd} {e : Ed} {hg ha : Hd} {w : World} (hM : VrAt v H w) (hN : NumsIn v) (hE : EdAt e hg ha w) (hR : RightP v) (h1 : ¬ BelP e.log v.log) (h2 : ¬ BelP e.next v.next) (h3 : ¬ BelP e.seq v.seq) (hL : ¬ ListedP e) : Calls Try.prog 13 #[verV v H, edV e hg ha] w fun r w' => r = .returned (.tuple #[zV, .int .i64 2]) ∧ Below w.heap.size w w' := by
  obtain ⟨V0, E0, Z0, B0⟩ := z_at (w := w) (v := v) (H := H) (e := e) (hg := hg) (ha := ha)
  have RC := Lib.hid (fun u (hu : Below w.heap.size w u) => right_any (hM.below hu) hN)
  rw [tf_true hR] at RC
  have C1 := Lib.hid (fun u => isbel_any e.log v.log u)
  rw [decide_eq_false h1] at C1
  have C2 := Lib.hid (fun u => isbel_any e.next v.next u)
  rw [decide_eq_false h2] at C2
  have C3 := Lib.hid (fun u => isbel_any e.seq v.seq u)
  rw [decide_eq_false h3] at C3
  have LC := Lib.hid (fun u (hu : Below w.heap.size w u) => islisted_any (hE.below hu))
  rw [tf_false hL] at LC
  have KP := Lib.hid (fun u (hu : Below (((w.alloc (verO v H)).alloc (edO e hg ha)).alloc (zO)).heap.size (((w.alloc (verO v H)).alloc (edO e hg ha)).alloc (zO)) u) => (⟨V0.below hu, E0.below hu, Z0.below hu, below_of B0 hu⟩ : VerB w.heap.size v H u ∧ EdB (w.heap.size + 1) e hg ha u ∧ VerB (w.heap.size + 1 + 1) zeroV noHd u ∧ Below w.heap.size w u))
  obtain ⟨v0, v1, v2, v3, v4, v5, v6⟩ := V0.cells
  obtain ⟨e0, e1, e2, e3, e4⟩ := E0.cells
  obtain ⟨y0, y1, y2, y3, y4, y5, y6⟩ := Z0.cells
  have fz := Z0.frozen
  have B00 := Lib.hid B0
  clear hM hN hE hR h1 h2 h3 V0 E0 Z0 B0
  go_enter Try.func13, Try.ntmps13
  go_wp2_with (first
    | (go_at_call 22; ((with_reducible refine (RC.out _ B00.out).mono ?_); rintro r w1 ⟨rfl, hb1⟩; have K1 := Lib.hid (KP.out _ hb1); have L1 := Lib.hid hb1; clear hb1; obtain ⟨v0, v1, v2, v3, v4, v5, v6⟩ := K1.out.1.cells; obtain ⟨e0, e1, e2, e3, e4⟩ := K1.out.2.1.cells; obtain ⟨y0, y1, y2, y3, y4, y5, y6⟩ := K1.out.2.2.1.cells; have fz := K1.out.2.2.1.frozen))
    | (go_at_call 26; ((with_reducible refine (C1.out _).mono ?_); rintro r w2 ⟨rfl, rfl⟩))
    | (go_at_call 26; ((with_reducible refine (C2.out _).mono ?_); rintro r w2 ⟨rfl, rfl⟩))
    | (go_at_call 26; ((with_reducible refine (C3.out _).mono ?_); rintro r w2 ⟨rfl, rfl⟩))
    | (go_at_call 27; ((with_reducible refine (LC.out _ K1.out.2.2.2).mono ?_); rintro r w3 ⟨rfl, hb3⟩; have K3 := Lib.hid (KP.out _ (L1.out.trans (hb3.mono L1.out.size))); clear hb3; obtain ⟨y0, y1, y2, y3, y4, y5, y6⟩ := K3.out.2.2.1.cells; have fz := K3.out.2.2.1.frozen)))
  obtain ⟨g0, g1, g2, g3, g4, g5, g6⟩ := zput_cells K3.out.2.2.1
  exact bodyPost_ret (v := .tuple #[zV, .int .i64 2]) (by simp [results, Try.results13, go_sem, g0, g1, g2, g3, g4, g5, g6]) rfl ⟨rfl, below_zPut (p := w.heap.size + 1 + 1) K3.out.2.2.2 (by omega)⟩
/-- What Apply refuses at once. -/
def ArgP (v : Vr) (e : Ed) : Prop := ¬ RightP v ∨ BelP e.log v.log ∨ BelP e.next v.next ∨ BelP e.seq v.seq ∨ ¬ ListedP e
theorem apply_arg {v : Vr} {H : Nat → Hd} {e : Ed} {hg ha : Hd} {w : World} (hM : VrAt v H w) (hN : NumsIn v) (hE : EdAt e hg ha w) (h : ArgP v e) : Calls Try.prog 13 #[verV v H, edV e hg ha] w fun r w' => r = .returned (.tuple #[zV, .int .i64 2]) ∧ Below w.heap.size w w' := by
  by_cases hR : RightP v
  · by_cases h1 : BelP e.log v.log
    · exact apply_arg1 hM hN hE hR h1
    · by_cases h2 : BelP e.next v.next
      · exact apply_arg2 hM hN hE hR h1 h2
      · by_cases h3 : BelP e.seq v.seq
        · exact apply_arg3 hM hN hE hR h1 h2 h3
        · have hL : ¬ ListedP e := by
            rcases h with h | h | h | h | h
            · exact absurd hR h
            · exact absurd h h1
            · exact absurd h h2
            · exact absurd h h3
            · exact h
          exact apply_arg4 hM hN hE hR h1 h2 h3 hL
  · exact apply_arg0 hM hN hE hR
/-- The levels behind those that go, and behind those that are added. -/
noncomputable def outLv (v : Vr) (e : Ed) : Nat → List Mt := lvTo e.gone v.lv 4 0
noncomputable def newLv (v : Vr) (e : Ed) : Nat → List Mt := insLv (outLv v e) e.added
def NoneP (v : Vr) (e : Ed) : Prop := fdTo e.gone v.lv 4 0 = e.gone.length
def ThereP (v : Vr) (e : Ed) : Prop := NewP (nsTo (outLv v e) 4) (e.added.map Pl.tb)
theorem outLv_eq {v : Vr} {e : Ed} {i : Nat} (hi : i < 4) : outLv v e i = outL e.gone i (v.lv i) := by unfold outLv lvTo; rw [if_pos hi]
theorem outLv_sub {v : Vr} {e : Ed} {i : Nat} (hi : i < 4) : ∀ x ∈ outLv v e i, x ∈ v.lv i := fun x hx => by
  rw [outLv_eq hi] at hx
  exact (List.mem_filter.1 hx).1
theorem outLv_len {v : Vr} {e : Ed} {i : Nat} (hi : i < 4) : (outLv v e i).length ≤ (v.lv i).length := by
  rw [outLv_eq hi]; exact List.length_filter_le _ _
theorem newLv_mem {v : Vr} {e : Ed} {i : Nat} : ∀ x ∈ newLv v e i, x ∈ outLv v e i ∨ ∃ p ∈ e.added, p.lev = (i : Int) ∧ p.tb = x := fun x hx => by
  have h1 := (srt_perm (cfOf i) (swoOf i) (addTo e.added (outLv v e) e.added.length i)).1.mem_iff.1 hx
  unfold addTo at h1
  rcases List.mem_append.1 h1 with h | h
  · exact .inl h
  · obtain ⟨p, hp, rfl⟩ := List.mem_map.1 h
    obtain ⟨h2, h3⟩ := List.mem_filter.1 hp
    exact .inr ⟨p, List.mem_of_mem_take h2, by simpa using h3, rfl⟩
/-- What Apply comes to where its arguments stand. -/
theorem apply_yes {v : Vr} {H : Nat → Hd} {e : Ed} {hg ha : Hd} {w : World} (hM : VrAt v H w) (hI : VrIn v) (hE : EdAt e hg ha w) (iE : EdIn e) (hA : ¬ ArgP v e) (hgn : hg.n ≤ 1000) (han : ha.n ≤ 1000) :
    Calls Try.prog 13 #[verV v H, edV e hg ha] w fun r w' => ApplyD v e (tf (NoneP v e)) (tf (ThereP v e)) (newLv v e) w r w' := by
  have hR : RightP v := Classical.byContradiction fun h => hA (.inl h)
  have h1 : ¬ BelP e.log v.log := fun h => hA (.inr (.inl h))
  have h2 : ¬ BelP e.next v.next := fun h => hA (.inr (.inr (.inl h)))
  have h3 : ¬ BelP e.seq v.seq := fun h => hA (.inr (.inr (.inr (.inl h))))
  have hL : ListedP e := Classical.byContradiction fun h => hA (.inr (.inr (.inr (.inr h))))
  have hl64 : ∀ i, i < 4 → (v.lv i).length ≤ 64 := fun i hi => (hR.2 i hi).1
  refine apply_in hM (fun i hi x hx => (hI.2.2.2 i hi x hx).1) hE hR h1 h2 h3 hL (tf (NoneP v e)) (tf (ThereP v e)) (fun _ => True) (fun G u => ∃ B, w.heap.size + 3 ≤ B ∧ B ≤ u.heap.size ∧ OwnLv B (outLv v e) G u) (fun G x y ⟨B, b1, b2, b3⟩ hb => ⟨B, b1, Nat.le_trans b2 hb.size, b3.below hb⟩) (newLv v e) (fun i hi x hx => ?_) (fun u hu hb => ?_) (fun u q G hb hq hl _ hO hG => ?_)
  · rcases newLv_mem x hx with h | ⟨p, hp, _, rfl⟩
    · exact (hI.2.2.2 i hi x (outLv_sub hi x h)).1
    · exact (iE.2.2.2.2 p hp).2.1
  · refine (without_any (L := v.lv) (G := H) (fun i hi => (hM i hi).below hb) hI.2.2.2 (fun i hi => Nat.le_trans (hl64 i hi) (by omega)) (hE.gone.below hb) iE.2.2.2.1 hgn).mono ?_
    rintro r u' ⟨K, rfl, k1, k2, k3⟩
    exact ⟨K, rfl, trivial, ⟨_, by omega, k3, k1⟩, k2, fun i hi h0 => Nat.le_trans (by omega) ((k1.ms i hi).2 h0)⟩
  · obtain ⟨B, b1, b2, b3⟩ := hO
    have lq := (Array.getElem?_eq_some_iff.1 hl).1
    refine (insert_any (N := w.heap.size + 3) (B := B) hl b3 b1 hq (by omega) b2 (fun i hi => Nat.le_trans (outLv_len hi) (Nat.le_trans (hl64 i hi) (by omega))) (fun i hi x hx => (hI.2.2.2 i hi x (outLv_sub hi x hx)).1) (hE.added.below hb) (fun h0 => by have := (hE.added.sl.addr h0).2; omega) iE.2.2.2.2 (fun p hp => (hL.2 p hp).1) han).mono ?_
    rintro r u' ⟨rfl, k2, k3⟩
    exact ⟨rfl, k2, fun hok => k3 (tf_iff.1 hok)⟩
open Go.Sort
/-- Sorted lists of the same elements, one of them strictly so, are the same. -/
theorem sorted_eq (lt : Mt → Mt → Bool) : ∀ (l k : List Mt), l.Pairwise (fun x y => lt x y = true) → k.Perm l → k.Pairwise (fun x y => lt y x = false) → k = l
  | [], k, _, hp, _ => List.perm_nil.1 hp
  | x :: l, [], _, hp, _ => by have := hp.length_eq; simp at this
  | x :: l, y :: k, hl, hp, hk => by
    have h1 := List.pairwise_cons.1 hl
    have h2 := List.pairwise_cons.1 hk
    have e : y = x := by
      rcases Classical.em (y = x) with e | e
      · exact e
      · have hy : y ∈ x :: l := hp.mem_iff.1 (List.mem_cons_self ..)
        have hx : x ∈ y :: k := hp.mem_iff.2 (List.mem_cons_self ..)
        have hy' : y ∈ l := by
          rcases List.mem_cons.1 hy with h | h
          · exact absurd h e
          · exact h
        have hx' : x ∈ k := by
          rcases List.mem_cons.1 hx with h | h
          · exact absurd h.symm e
          · exact h
        have a := h1.1 y hy'
        have b := h2.1 x hx'
        rw [a] at b; cases b
    subst e
    rw [sorted_eq lt l k h1.2 ((List.perm_cons y).1 hp) h2.2]
theorem pairwise_of {R : Mt → Mt → Prop} : ∀ (l : List Mt), (∀ (i j : Nat) (x y : Mt), i < j → l[i]? = some x → l[j]? = some y → R x y) → l.Pairwise R
  | [], _ => List.Pairwise.nil
  | z :: l, h => List.pairwise_cons.2 ⟨fun y hy => by
      obtain ⟨j, hj, e⟩ := List.getElem_of_mem hy
      exact h 0 (j + 1) z y (by omega) rfl (by rw [List.getElem?_cons_succ, List.getElem?_eq_getElem hj, e]), pairwise_of l fun i j x y hij hx hy => h (i + 1) (j + 1) x y (by omega) hx hy⟩
/-- Sorting leaves a strictly sorted level, or one that holds the same, as that is. -/
theorem srt_same (cf : Mt → Mt → Int) (hO : SWO (ltOf cf)) {l k : List Mt} (hl : l.Pairwise (fun x y => ltOf cf x y = true)) (hp : k.Perm l) : srt cf k = l := by
  obtain ⟨h1, h2⟩ := srt_perm cf hO k
  exact sorted_eq (ltOf cf) l _ hl (h1.trans hp) (pairwise_of _ fun i j x y hij hx hy => h2 i j x y hij hx hy)
theorem pairwise_adj {R : Mt → Mt → Prop} (tr : ∀ x y z, R x y → R y z → R x z) : ∀ (l : List Mt), (∀ i x y, l[i]? = some x → l[i + 1]? = some y → R x y) → l.Pairwise R
  | [], _ => List.Pairwise.nil
  | [x], _ => by simp
  | x :: y :: l, h => by
    have ih := pairwise_adj tr (y :: l) (fun i a b ha hb => h (i + 1) a b ha hb)
    have hxy := h 0 x y rfl rfl
    refine List.pairwise_cons.2 ⟨fun z hz => ?_, ih⟩
    rcases List.mem_cons.1 hz with e | hz
    · rw [e]; exact hxy
    · exact tr x y z hxy ((List.pairwise_cons.1 ih).1 z hz)
/-- A right level is strictly sorted. -/
theorem lv_sorted {v : Vr} (h : RightP v) {i : Nat} (hi : i < 4) : (v.lv i).Pairwise (fun x y => ltOf (cfOf i) x y = true) := by
  obtain ⟨_, hm, _, _, ho⟩ := h.2 i hi
  refine pairwise_adj (fun x y z => (swoOf i).trans x y z) _ (fun k x y hx hy => ?_)
  have h1 := ho k x y hx hy
  unfold ordP at h1
  unfold cfOf
  by_cases e : i = 0
  · subst e
    rw [if_pos rfl, ltNum]
    simp at h1
    exact decide_eq_true h1
  · rw [if_neg e, ltKey]
    have hb : (i == 0) = false := by rw [beq_eq_false_iff_ne]; exact e
    rw [hb] at h1
    simp only [Bool.false_eq_true, if_false] at h1
    have hle := (hm x (List.mem_of_getElem? hx)).2.2.2.2.2.2.2.2.2.2.1
    rw [less_before] at h1 hle ⊢
    rcases Classical.em (x.fst.toList = x.lst.toList) with q | q
    · rw [q]; exact h1
    · rcases WideAt.bytes_total _ _ q with t | t
      · exact WideShapes.bytes_trans _ _ _ t h1
      · rw [hle] at t; cases t
theorem right_congr {v u : Vr} (h : SameV v u) (hr : RightP v) : RightP u := by
  obtain ⟨h1, h2, h3, h4⟩ := h
  have hn : ∀ i, i ≤ 4 → numsTo u i = numsTo v i := by
    intro i
    induction i with
    | zero => intro _; rfl
    | succ i ih => intro hi; show (u.lv i).map Mt.num ++ numsTo u i = _; rw [ih (by omega), ← h4 i (by omega)]; rfl
  refine ⟨by rw [← h1, ← h2, ← h3]; exact hr.1, fun i hi => ?_⟩
  have := hr.2 i hi
  unfold LvOK at this ⊢
  rw [← h4 i hi, ← h2, ← h3, hn i (by omega)]
  exact this
theorem plsTo_mem {v : Vr} : ∀ {n : Nat} {p : Pl}, p ∈ plsTo v n → ∃ i, i < n ∧ p.lev = (i : Int) ∧ p.tb ∈ v.lv i
  | 0, p, h => by cases h
  | n + 1, p, h => by
    rcases List.mem_append.1 h with h | h
    · obtain ⟨i, h1, h2⟩ := plsTo_mem h
      exact ⟨i, by omega, h2⟩
    · obtain ⟨x, hx, rfl⟩ := List.mem_map.1 h
      exact ⟨n, by omega, rfl, hx⟩
theorem plsTo_tb (v : Vr) : ∀ n, ((plsTo v n).map Pl.tb).map Mt.num = ((List.range n).flatMap fun i => (v.lv i).map Mt.num)
  | 0 => rfl
  | n + 1 => by
    show ((plsTo v n ++ (v.lv n).map (fun x => (⟨(n : Int), x⟩ : Pl))).map Pl.tb).map Mt.num = _
    rw [List.map_append, List.map_append, plsTo_tb v n, List.range_succ, List.flatMap_append]
    simp [List.map_map, Function.comp_def]
theorem numsTo_mem {v : Vr} : ∀ {n y : Nat}, y ∈ numsTo v n ↔ y ∈ ((plsTo v n).map Pl.tb).map Mt.num
  | 0, y => by simp [numsTo, plsTo]
  | n + 1, y => by
    show y ∈ (v.lv n).map Mt.num ++ numsTo v n ↔ y ∈ ((plsTo v n ++ (v.lv n).map (fun x => (⟨(n : Int), x⟩ : Pl))).map Pl.tb).map Mt.num
    rw [List.mem_append, List.map_append, List.map_append, List.mem_append, numsTo_mem]
    simp [List.map_map, Function.comp_def, or_comm]
theorem plsTo_nodup {v : Vr} (h : RightP v) : ∀ n, n ≤ 4 → (((plsTo v n).map Pl.tb).map Mt.num).Nodup
  | 0, _ => by simp [plsTo]
  | n + 1, hn => by
    obtain ⟨_, _, _, ⟨h1, h2⟩, _⟩ := h.2 n (by omega)
    show (((plsTo v n ++ (v.lv n).map (fun x => (⟨(n : Int), x⟩ : Pl))).map Pl.tb).map Mt.num).Nodup
    rw [List.map_append, List.map_append]
    have e : ((List.map (fun x => (⟨(n : Int), x⟩ : Pl)) (v.lv n)).map Pl.tb).map Mt.num = (v.lv n).map Mt.num := by simp [List.map_map, Function.comp_def]
    rw [e]
    refine List.nodup_append.2 ⟨plsTo_nodup h n (by omega), h1, fun a ha b hb hab => ?_⟩
    obtain ⟨x, hx, rfl⟩ := List.mem_map.1 hb
    exact h2 x hx (numsTo_mem.2 (hab ▸ ha))
theorem plsTo_lev (v : Vr) (i : Nat) : ∀ n, ((plsTo v n).filter (fun p : Pl => p.lev == (i : Int))).map Pl.tb = if i < n then v.lv i else []
  | 0 => by simp [plsTo]
  | n + 1 => by
    show ((plsTo v n ++ (v.lv n).map (fun x => (⟨(n : Int), x⟩ : Pl))).filter (fun p : Pl => p.lev == (i : Int))).map Pl.tb = _
    rw [List.filter_append, List.map_append, plsTo_lev v i n]
    by_cases e : i = n
    · subst e
      rw [if_neg (Nat.lt_irrefl i), if_pos (by omega), List.nil_append, List.filter_eq_self.2 (fun p hp => by
        obtain ⟨x, _, rfl⟩ := List.mem_map.1 hp
        simp)]
      simp [List.map_map, Function.comp_def]
    · have : ((v.lv n).map (fun x => (⟨(n : Int), x⟩ : Pl))).filter (fun p : Pl => p.lev == (i : Int)) = [] := List.filter_eq_nil_iff.2 (fun p hp => by
        obtain ⟨x, _, rfl⟩ := List.mem_map.1 hp
        simp
        omega)
      rw [this]
      by_cases h : i < n
      · rw [if_pos h, if_pos (by omega)]; simp
      · rw [if_neg h, if_neg (by omega)]; simp
theorem outLv_nil {v : Vr} {e : Ed} (hv : ∀ i, v.lv i = []) : outLv v e = fun _ => [] := by
  funext j
  unfold outLv lvTo outL
  simp [hv]
theorem nsTo_nil : ∀ n, nsTo (fun _ => []) n = []
  | 0 => rfl
  | n + 1 => by show [].map Mt.num ++ nsTo (fun _ => []) n = []; rw [nsTo_nil n]; rfl
theorem fdTo_nil (gs : List Gn) {L : Nat → List Mt} (hL : ∀ i, L i = []) : ∀ n k, fdTo gs L n k = 0
  | 0, k => by show inN gs 0 ((L 0).take k) = 0; rw [hL]; simp [inN]
  | n + 1, k => by show fdTo gs L n (L n).length + inN gs (n + 1) ((L (n + 1)).take k) = 0; rw [fdTo_nil gs hL, hL (n + 1)]; simp [inN]
/-- The whole edit makes the version of the first one. -/
theorem whole_makes {v : Vr} (h : RightP v) : ¬ ArgP firstV (wholeE v) ∧ NoneP firstV (wholeE v) ∧ ThereP firstV (wholeE v) ∧ SameV v (madeV firstV (wholeE v) (newLv firstV (wholeE v))) ∧ RightP (madeV firstV (wholeE v) (newLv firstV (wholeE v))) := by
  have e0 : outLv firstV (wholeE v) = fun _ => [] := outLv_nil (fun _ => rfl)
  have hs : SameV v (madeV firstV (wholeE v) (newLv firstV (wholeE v))) := by
    have a1 := h.1.1.1
    have b1 := h.1.2.1.1
    refine ⟨?_, ?_, ?_, fun i hi => ?_⟩
    · show v.log = orN v.log 1
      unfold orN; rw [if_neg (by omega)]
    · show v.next = orN v.next 1
      unfold orN; rw [if_neg (by omega)]
    · show v.seq = orN v.seq 0
      unfold orN; split <;> omega
    · show v.lv i = insLv (outLv firstV (wholeE v)) (plsTo v 4) i
      rw [e0]
      unfold insLv
      refine (srt_same _ (swoOf i) (lv_sorted h hi) ?_).symm
      unfold addTo
      rw [List.take_length, plsTo_lev, if_pos hi, List.nil_append]
  refine ⟨?_, ?_, ?_, hs, right_congr hs h⟩
  · rintro (h1 | h1 | h1 | h1 | h1)
    · exact h1 (right_nil 1 1 0 ⟨by omega, by omega⟩ ⟨by omega, by omega⟩ (by omega))
    · have : v.log < 1 := h1.2
      have := h.1.1.1; omega
    · have : v.next < 1 := h1.2
      have := h.1.2.1.1; omega
    · exact absurd h1.2 (Nat.not_lt_zero _)
    · refine h1 ⟨fun g hg => (by cases hg), fun p hp => ?_⟩
      obtain ⟨i, hi, h2, h3⟩ := plsTo_mem hp
      exact ⟨⟨by omega, by omega⟩, (h.2 i hi).2.1 _ h3⟩
  · exact fdTo_nil _ (fun _ => rfl) 4 0
  · unfold ThereP
    rw [e0, nsTo_nil]
    exact ⟨plsTo_nodup h 4 (Nat.le_refl _), fun x _ hx => by cases hx⟩
theorem whole_in {v : Vr} (h : VrIn v) : EdIn (wholeE v) := by
  refine ⟨h.1, h.2.1, h.2.2.1, fun g hg => (by cases hg), fun p hp => ?_⟩
  obtain ⟨i, hi, h2, h3⟩ := plsTo_mem hp
  exact ⟨by rw [h2]; simp [Lit.wf, IntKind.min, IntKind.max, IntKind.signed, IntKind.bits]; omega, h.2.2.2 i hi _ h3⟩
end Go.Proofs.Ytkkedofbnmjgeaa
