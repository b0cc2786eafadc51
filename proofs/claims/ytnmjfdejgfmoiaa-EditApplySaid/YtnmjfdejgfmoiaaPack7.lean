/-
  Apply, over what without and insert do. No condition.
-/
import Derived.Test.YtnmjfdejgfmoiaaPack6
namespace Go.Proofs.Ytnmjfdejgfmoiaa
set_option maxRecDepth 100000
open Go Go.RowKit
abbrev lvsV (G : Nat → Hd) : Value := .agg #[.slice (G 0).a (G 0).n (G 0).c, .slice (G 1).a (G 1).n (G 1).c, .slice (G 2).a (G 2).n (G 2).c, .slice (G 3).a (G 3).n (G 3).c]
abbrev lvsO (G : Nat → Hd) : Obj := .cells #[.slice (G 0).a (G 0).n (G 0).c, .slice (G 1).a (G 1).n (G 1).c, .slice (G 2).a (G 2).n (G 2).c, .slice (G 3).a (G 3).n (G 3).c] 24 (0, 0)
def LvAtG (L : Nat → List Mt) (G : Nat → Hd) (w : World) : Prop := ∀ i, i < 4 → Ms (G i) (L i) w
/-- The levels' tables lie in memory of a call's own, that may be written. -/
def FrL (N : Nat) (G : Nat → Hd) (u : World) : Prop := ∀ i, i < 4 → ∀ j, j < (G i).n * 7 → N ≤ (G i).b ∧ (G i).b < u.heap.size ∧ u.frozen? ⟨(G i).b, (G i).o + j, none⟩ = false
theorem FrL.keep {N : Nat} {G : Nat → Hd} {u u' : World} (h : FrL N G u) (hk : ∀ k, N ≤ k → k < u.heap.size → u'.heap[k]? = u.heap[k]?) (hs : u.heap.size ≤ u'.heap.size) : FrL N G u' := fun i hi j hj => by
  obtain ⟨h1, h2, h3⟩ := h i hi j hj
  refine ⟨h1, Nat.lt_of_lt_of_le h2 hs, ?_⟩
  simp only [World.frozen?, hk _ h1 h2] at h3 ⊢
  exact h3
theorem FrL.below {N : Nat} {G : Nat → Hd} {u u' : World} (h : FrL N G u) (hb : Below u.heap.size u u') : FrL N G u' := h.keep (fun k _ hk => hb.block k hk) hb.size
theorem LvAtG.below {L : Nat → List Mt} {G : Nat → Hd} {w w' : World} (h : LvAtG L G w) (hb : Below w.heap.size w w') : LvAtG L G w' := fun i hi => (h i hi).below hb
abbrev zO : Obj := .cells #[.int .u64 0, .int .u64 0, .int .u64 0, .slice none 0 0, .slice none 0 0, .slice none 0 0, .slice none 0 0] 26 (0, 0)
abbrev zV : Value := .agg #[.int .u64 0, .int .u64 0, .int .u64 0, .slice none 0 0, .slice none 0 0, .slice none 0 0, .slice none 0 0]
def zeroV : Vr := ⟨0, 0, 0, fun _ => []⟩
abbrev verPut (p : Nat) (v : Vr) (H : Nat → Hd) (w : World) : World := ((((((w.setCell ⟨p, 0, none⟩ (.int .u64 (v.log : Int))).setCell ⟨p, 1, none⟩ (.int .u64 (v.next : Int))).setCell ⟨p, 2, none⟩ (.int .u64 (v.seq : Int))).setCell ⟨p, 3, none⟩ (.slice (H 0).a (H 0).n (H 0).c)).setCell ⟨p, 4, none⟩ (.slice (H 1).a (H 1).n (H 1).c)).setCell ⟨p, 5, none⟩ (.slice (H 2).a (H 2).n (H 2).c)).setCell ⟨p, 6, none⟩ (.slice (H 3).a (H 3).n (H 3).c)
set_option maxHeartbeats 8000000 in
theorem VerB.put {p : Nat} {v0 : Vr} {H0 : Nat → Hd} {w : World} (h : VerB p v0 H0 w) (v : Vr) (H : Nat → Hd) : VerB p v H (verPut p v H w) :=
  (heap_setCell_same _ _ _ _ _ _ ((heap_setCell_same _ _ _ _ _ _ ((heap_setCell_same _ _ _ _ _ _ ((heap_setCell_same _ _ _ _ _ _ ((heap_setCell_same _ _ _ _ _ _ ((heap_setCell_same _ _ _ _ _ _ ((heap_setCell_same _ _ _ _ _ _ h).trans rfl)).trans rfl)).trans rfl)).trans rfl)).trans rfl)).trans rfl)).trans rfl
theorem below_verPut {B p : Nat} {w V : World} (h : Below B w V) (hp : B ≤ p) (v : Vr) (H : Nat → Hd) : Below B w (verPut p v H V) :=
  ((((((h.setCell (p := ⟨p, 0, none⟩) hp _).setCell (p := ⟨p, 1, none⟩) hp _).setCell (p := ⟨p, 2, none⟩) hp _).setCell (p := ⟨p, 3, none⟩) hp _).setCell (p := ⟨p, 4, none⟩) hp _).setCell (p := ⟨p, 5, none⟩) hp _).setCell (p := ⟨p, 6, none⟩) hp _
theorem VerB.frozen {p : Nat} {v : Vr} {H : Nat → Hd} {w : World} (h : VerB p v H w) : ∀ o, w.frozen? ⟨p, o, none⟩ = false := fun o => by
  unfold VerB at h
  simp [World.frozen?, h]
abbrev zPut (p : Nat) (w : World) : World := ((((((w.setCell ⟨p, 0, none⟩ (.int .u64 0)).setCell ⟨p, 1, none⟩ (.int .u64 0)).setCell ⟨p, 2, none⟩ (.int .u64 0)).setCell ⟨p, 3, none⟩ (.slice none 0 0)).setCell ⟨p, 4, none⟩ (.slice none 0 0)).setCell ⟨p, 5, none⟩ (.slice none 0 0)).setCell ⟨p, 6, none⟩ (.slice none 0 0)
theorem zput_cells {p : Nat} {w : World} (h : VerB p zeroV noHd w) : (zPut p w).cell? ⟨p, 0, none⟩ = some (.int .u64 0) ∧ (zPut p w).cell? ⟨p, 1, none⟩ = some (.int .u64 0) ∧ (zPut p w).cell? ⟨p, 2, none⟩ = some (.int .u64 0) ∧ (zPut p w).cell? ⟨p, 3, none⟩ = some (.slice none 0 0) ∧ (zPut p w).cell? ⟨p, 4, none⟩ = some (.slice none 0 0) ∧ (zPut p w).cell? ⟨p, 5, none⟩ = some (.slice none 0 0) ∧ (zPut p w).cell? ⟨p, 6, none⟩ = some (.slice none 0 0) := (h.put zeroV noHd).cells
theorem below_zPut {B p : Nat} {w V : World} (h : Below B w V) (hp : B ≤ p) : Below B w (zPut p V) := below_verPut h hp zeroV noHd
/-- What an edit makes of a version's numbers. -/
def madeV (v : Vr) (e : Ed) (L : Nat → List Mt) : Vr := ⟨orN e.log v.log, orN e.next v.next, orN e.seq v.seq, L⟩
theorem VerB.nems {p : Nat} {v : Vr} {H : Nat → Hd} {w : World} (h : VerB p v H w) {hd : Hd} {l : List Mt} (k : Ms hd l w) : 0 < hd.n → hd.b ≠ p := fun h0 e => by
  obtain ⟨x, _, _, _, c0, c1, _⟩ := k.at7 h0
  rw [Nat.zero_mul, Nat.add_zero] at c0 c1
  rw [e] at c0 c1
  obtain ⟨d0, d1, d2, d3, d4, d5, d6⟩ := h.cells
  have hb : ∀ o, 7 ≤ o → w.cell? ⟨p, o, none⟩ = none := fun o ho => by
    unfold VerB at h
    simp only [World.cell?, h]
    simp
    omega
  rcases (show hd.o = 0 ∨ hd.o = 1 ∨ hd.o = 2 ∨ hd.o = 3 ∨ hd.o = 4 ∨ hd.o = 5 ∨ 6 ≤ hd.o by omega) with g | g | g | g | g | g | g
  · rw [g] at c1; rw [d1] at c1; cases c1
  · rw [g] at c1; rw [d2] at c1; cases c1
  · rw [g] at c1; rw [d3] at c1; cases c1
  · rw [g] at c1; rw [d4] at c1; cases c1
  · rw [g] at c1; rw [d5] at c1; cases c1
  · rw [g] at c1; rw [d6] at c1; cases c1
  · rw [hb _ (by omega)] at c1; cases c1
theorem heap_verPut {p k : Nat} {v : Vr} {H : Nat → Hd} {w : World} (hk : k ≠ p) : (verPut p v H w).heap[k]? = w.heap[k]? := by
  unfold verPut
  rw [heap_setCell_other _ _ _ _ hk, heap_setCell_other _ _ _ _ hk, heap_setCell_other _ _ _ _ hk, heap_setCell_other _ _ _ _ hk, heap_setCell_other _ _ _ _ hk, heap_setCell_other _ _ _ _ hk, heap_setCell_other _ _ _ _ hk]
theorem size_verPut {p : Nat} {v : Vr} {H : Nat → Hd} {w : World} : (verPut p v H w).heap.size = w.heap.size := by simp [verPut, World.setCell]
theorem or_below (a b g : Nat) (w : World) (c0 : w.cell? ⟨g, 0, none⟩ = some (.int .u64 (a : Int))) (c1 : w.cell? ⟨g, 1, none⟩ = some (.int .u64 (b : Int))) : Calls Try.prog 19 #[.slice (some ⟨g, 0, none⟩) 2 2] w fun r w' => r = .returned (.int .u64 (orN a b : Int)) ∧ Below w.heap.size w w' := (or_any a b g w c0 c1).mono fun r w' ⟨h1, h2⟩ => ⟨h1, by rw [h2]; exact Below.refl _ _⟩
/-- What insert leaves where nothing is refused. -/
def InsP (N : Nat) (ok2 : Bool) (q : Nat) (L2 : Nat → List Mt) (u' : World) : Prop := ok2 = true → ∃ G2 : Nat → Hd, u'.heap[q]? = some (lvsO G2) ∧ LvAtG L2 G2 u' ∧ FrL N G2 u'
/-- What Apply comes to. -/
def ApplyD (v : Vr) (e : Ed) (ok ok2 : Bool) (L2 : Nat → List Mt) (w : World) (r : Ending) (w' : World) : Prop := Below w.heap.size w w' ∧
      ((ok = false ∧ r = .returned (.tuple #[zV, .int .i64 4])) ∨ (ok = true ∧ ok2 = false ∧ r = .returned (.tuple #[zV, .int .i64 5])) ∨
       (ok = true ∧ ok2 = true ∧ RightP (madeV v e L2) ∧ ∃ G2, r = .returned (.tuple #[verV (madeV v e L2) G2, .int .i64 0]) ∧ VrAt (madeV v e L2) G2 w' ∧ FrL (w.heap.size + 3) G2 w') ∨
       (ok = true ∧ ok2 = true ∧ ¬ RightP (madeV v e L2) ∧ r = .returned (.tuple #[zV, .int .i64 11])))
set_option maxRecDepth 100000 in
set_option maxHeartbeats 16000000 in
theorem apply_in {v : Vr} {H : Nat → Hd} {e : Ed} {hg ha : Hd} {w : World} (hM : VrAt v H w) (hN : NumsIn v) (hE : EdAt e hg ha w) (hR : RightP v) (h1 : ¬ BelP e.log v.log) (h2 : ¬ BelP e.next v.next) (h3 : ¬ BelP e.seq v.seq) (hL : ListedP e)
    (ok ok2 : Bool) (GP : (Nat → Hd) → Prop) (OL : (Nat → Hd) → World → Prop) (OLb : ∀ G x y, OL G x → Below x.heap.size x y → OL G y) (L2 : Nat → List Mt) (hL2 : ∀ i, i < 4 → ∀ x ∈ L2 i, x.num ≤ 18446744073709551615)
    (WC : ∀ u, w.heap.size + 3 ≤ u.heap.size → Below w.heap.size w u → Calls Try.prog 17 #[lvsV H, .slice hg.a hg.n hg.c] u fun r u' => ∃ G : Nat → Hd, r = .returned (.tuple #[lvsV G, .bool ok]) ∧ GP G ∧ OL G u' ∧ Below u.heap.size u u' ∧ (∀ i, i < 4 → 0 < (G i).n → w.heap.size + 3 ≤ (G i).b))
    (IC : ∀ u q G, Below w.heap.size w u → w.heap.size + 3 ≤ q → u.heap[q]? = some (lvsO G) → GP G → OL G u → (∀ i, i < 4 → 0 < (G i).n → w.heap.size + 3 ≤ (G i).b) → Calls Try.prog 18 #[.pointer (some ⟨q, 0, none⟩), .slice ha.a ha.n ha.c] u fun r u' => r = .returned (.bool ok2) ∧ Below (w.heap.size + 3) u u' ∧ InsP (w.heap.size + 3) ok2 q L2 u') :
    Calls Try.prog 8 #[verV v H, edV e hg ha] w fun r w' => ApplyD v e ok ok2 L2 w r w' := by
  have z1 : Hid ((w.alloc (verO v H)).heap.size = w.heap.size + 1) := Lib.hid (World.size_alloc _ _)
  have z2 : Hid (((w.alloc (verO v H)).alloc (edO e hg ha)).heap.size = w.heap.size + 1 + 1) := Lib.hid (by rw [World.size_alloc, z1.out])
  have B0 : Hid (Below w.heap.size w (((w.alloc (verO v H)).alloc (edO e hg ha)).alloc (zO))) := Lib.hid (((below_alloc w _).alloc (by simp) _).alloc (by simp; omega) _)
  have V0 : Hid (VerB w.heap.size v H (((w.alloc (verO v H)).alloc (edO e hg ha)).alloc (zO))) := Lib.hid (((VerB.new v H w).below (below_alloc _ _)).below (below_alloc _ _))
  have E0 : Hid (EdB (w.heap.size + 1) e hg ha (((w.alloc (verO v H)).alloc (edO e hg ha)).alloc (zO))) := Lib.hid (by
    have := (EdB.new e hg ha (w.alloc (verO v H))).below (below_alloc _ (zO))
    rw [z1.out] at this
    exact this)
  have Z0 : Hid (VerB (w.heap.size + 1 + 1) zeroV noHd (((w.alloc (verO v H)).alloc (edO e hg ha)).alloc (zO))) := Lib.hid (by
    have : VerB ((w.alloc (verO v H)).alloc (edO e hg ha)).heap.size zeroV noHd (((w.alloc (verO v H)).alloc (edO e hg ha)).alloc zO) := VerB.new zeroV noHd ((w.alloc (verO v H)).alloc (edO e hg ha))
    rw [z2.out] at this
    exact this)
  have s0 : Hid ((((w.alloc (verO v H)).alloc (edO e hg ha)).alloc (zO)).heap.size = w.heap.size + 3) := Lib.hid (by rw [World.size_alloc, z2.out])
  have RC := right_any (hM.below B0.out) hN
  rw [tf_true hR] at RC
  replace RC := Lib.hid RC
  have C1 := Lib.hid (fun u => isbel_any e.log v.log u)
  rw [decide_eq_false h1] at C1
  have C2 := Lib.hid (fun u => isbel_any e.next v.next u)
  rw [decide_eq_false h2] at C2
  have C3 := Lib.hid (fun u => isbel_any e.seq v.seq u)
  rw [decide_eq_false h3] at C3
  have LC := Lib.hid (fun u (hu : Below w.heap.size w u) => (islisted_any (hE.below hu)))
  rw [tf_true hL] at LC
  replace WC := Lib.hid WC
  replace IC := Lib.hid IC
  replace hM := Lib.hid hM
  replace hE := Lib.hid hE
  replace hN := Lib.hid hN
  clear h1 h2 h3 hL hR
  -- what stands of Apply's own boxes
  have KP : Hid (∀ u, Below (w.heap.size + 3) (((w.alloc (verO v H)).alloc (edO e hg ha)).alloc (zO)) u → VerB w.heap.size v H u ∧ EdB (w.heap.size + 1) e hg ha u ∧ VerB (w.heap.size + 1 + 1) zeroV noHd u) := Lib.hid (fun u hu => by
    rw [← s0.out] at hu
    exact ⟨V0.out.below hu, E0.out.below hu, Z0.out.below hu⟩)
  have KB : Hid (∀ u, Below (w.heap.size + 3) (((w.alloc (verO v H)).alloc (edO e hg ha)).alloc (zO)) u → Below w.heap.size w u ∧ w.heap.size + 3 ≤ u.heap.size) := Lib.hid (fun u hu => ⟨B0.out.trans (hu.mono (by omega)), by have := hu.size; rw [s0.out] at this; exact this⟩)
  have RF : Hid (Below (w.heap.size + 3) (((w.alloc (verO v H)).alloc (edO e hg ha)).alloc (zO)) (((w.alloc (verO v H)).alloc (edO e hg ha)).alloc (zO))) := Lib.hid (Below.refl _ _)
  obtain ⟨v0, v1, v2, v3, v4, v5, v6⟩ := V0.out.cells
  obtain ⟨e0, e1, e2, e3, e4⟩ := E0.out.cells
  have ST : Hid (∀ x y, Below (w.heap.size + 3) (((w.alloc (verO v H)).alloc (edO e hg ha)).alloc (zO)) x → Below x.heap.size x y → Below (w.heap.size + 3) (((w.alloc (verO v H)).alloc (edO e hg ha)).alloc (zO)) y) := Lib.hid (fun x y hx hy => hx.trans (hy.mono (KB.out x hx).2))
  -- a return of the zero version
  go_enter Try.func8, Try.ntmps8
  cases ok with
  | false =>
    go_upto_region 5 with (first
    | (go_at_call 14; ((with_reducible refine RC.out.mono ?_); rintro r w1 ⟨rfl, hb1⟩; have K1 := Lib.hid (ST.out _ _ RF.out hb1); clear hb1; obtain ⟨v0, v1, v2, v3, v4, v5, v6⟩ := (KP.out _ K1.out).1.cells; obtain ⟨e0, e1, e2, e3, e4⟩ := (KP.out _ K1.out).2.1.cells))
    | (go_at_call 15; ((with_reducible refine (C1.out _).mono ?_); rintro r w2 ⟨rfl, rfl⟩))
    | (go_at_call 15; ((with_reducible refine (C2.out _).mono ?_); rintro r w2 ⟨rfl, rfl⟩))
    | (go_at_call 15; ((with_reducible refine (C3.out _).mono ?_); rintro r w2 ⟨rfl, rfl⟩))
    | (go_at_call 16; ((with_reducible refine (LC.out _ (KB.out _ K1.out).1).mono ?_); rintro r w3 ⟨rfl, hb3⟩; have K3 := Lib.hid (ST.out _ _ K1.out hb3); clear hb3; obtain ⟨v0, v1, v2, v3, v4, v5, v6⟩ := (KP.out _ K3.out).1.cells; obtain ⟨e0, e1, e2, e3, e4⟩ := (KP.out _ K3.out).2.1.cells))
    | (go_at_call 17; ((with_reducible refine (WC.out _ (KB.out _ K3.out).2 (KB.out _ K3.out).1).mono ?_); rintro r w4 ⟨G, rfl, hgp, hG, hb4, hGb⟩; have hgp := Lib.hid hgp; have K4 := Lib.hid (ST.out _ _ K3.out hb4); have K5 := Lib.hid (ST.out _ _ K4.out (below_alloc _ (lvsO G))); have G5 := Lib.hid (OLb _ _ _ hG (below_alloc _ (lvsO G))); have hGb := Lib.hid hGb; have Q5 := Lib.hid (heap_alloc_new w4 (lvsO G)); clear hb4 hG; obtain ⟨v0, v1, v2, v3, v4, v5, v6⟩ := (KP.out _ K5.out).1.cells; obtain ⟨e0, e1, e2, e3, e4⟩ := (KP.out _ K5.out).2.1.cells)))
    have ZP := zput_cells (KP.out _ K5.out).2.2
    obtain ⟨y0, y1, y2, y3, y4, y5, y6⟩ := (KP.out _ K5.out).2.2.cells
    have fz := (KP.out _ K5.out).2.2.frozen
    obtain ⟨g0, g1, g2, g3, g4, g5, g6⟩ := ZP
    have B9 := Lib.hid (below_zPut (p := w.heap.size + 1 + 1) (KB.out _ K5.out).1 (by omega))
    go_wp2_with fail
    refine bodyPost_ret (v := .tuple #[zV, .int .i64 4]) (by simp [results, Try.results8, go_sem, g0, g1, g2, g3, g4, g5, g6]) rfl ⟨B9.out, .inl ⟨rfl, rfl⟩⟩
  | true =>
  cases ok2 with
  | false =>
    go_upto_region 7 with (first
    | (go_at_call 14; ((with_reducible refine RC.out.mono ?_); rintro r w1 ⟨rfl, hb1⟩; have K1 := Lib.hid (ST.out _ _ RF.out hb1); clear hb1; obtain ⟨v0, v1, v2, v3, v4, v5, v6⟩ := (KP.out _ K1.out).1.cells; obtain ⟨e0, e1, e2, e3, e4⟩ := (KP.out _ K1.out).2.1.cells))
    | (go_at_call 15; ((with_reducible refine (C1.out _).mono ?_); rintro r w2 ⟨rfl, rfl⟩))
    | (go_at_call 15; ((with_reducible refine (C2.out _).mono ?_); rintro r w2 ⟨rfl, rfl⟩))
    | (go_at_call 15; ((with_reducible refine (C3.out _).mono ?_); rintro r w2 ⟨rfl, rfl⟩))
    | (go_at_call 16; ((with_reducible refine (LC.out _ (KB.out _ K1.out).1).mono ?_); rintro r w3 ⟨rfl, hb3⟩; have K3 := Lib.hid (ST.out _ _ K1.out hb3); clear hb3; obtain ⟨v0, v1, v2, v3, v4, v5, v6⟩ := (KP.out _ K3.out).1.cells; obtain ⟨e0, e1, e2, e3, e4⟩ := (KP.out _ K3.out).2.1.cells))
    | (go_at_call 17; ((with_reducible refine (WC.out _ (KB.out _ K3.out).2 (KB.out _ K3.out).1).mono ?_); rintro r w4 ⟨G, rfl, hgp, hG, hb4, hGb⟩; have hgp := Lib.hid hgp; have K4 := Lib.hid (ST.out _ _ K3.out hb4); have K5 := Lib.hid (ST.out _ _ K4.out (below_alloc _ (lvsO G))); have G5 := Lib.hid (OLb _ _ _ hG (below_alloc _ (lvsO G))); have hGb := Lib.hid hGb; have Q5 := Lib.hid (heap_alloc_new w4 (lvsO G)); clear hb4 hG; obtain ⟨v0, v1, v2, v3, v4, v5, v6⟩ := (KP.out _ K5.out).1.cells; obtain ⟨e0, e1, e2, e3, e4⟩ := (KP.out _ K5.out).2.1.cells))
    | (go_at_call 18; ((with_reducible refine (IC.out _ _ _ (KB.out _ K5.out).1 (KB.out _ K4.out).2 Q5.out hgp.out G5.out hGb.out).mono ?_); rintro r w6 ⟨rfl, hb6, hG6⟩; have K6 : Hid (Below (w.heap.size + 3) (((w.alloc (verO v H)).alloc (edO e hg ha)).alloc zO) w6) := Lib.hid (K5.out.trans hb6); have G6 := Lib.hid hG6; clear hb6 hG6; obtain ⟨v0, v1, v2, v3, v4, v5, v6⟩ := (KP.out _ K6.out).1.cells; obtain ⟨e0, e1, e2, e3, e4⟩ := (KP.out _ K6.out).2.1.cells)))
    have ZP := zput_cells (KP.out _ K6.out).2.2
    obtain ⟨y0, y1, y2, y3, y4, y5, y6⟩ := (KP.out _ K6.out).2.2.cells
    have fz := (KP.out _ K6.out).2.2.frozen
    obtain ⟨g0, g1, g2, g3, g4, g5, g6⟩ := ZP
    have B9 := Lib.hid (below_zPut (p := w.heap.size + 1 + 1) (KB.out _ K6.out).1 (by omega))
    go_wp2_with fail
    refine bodyPost_ret (v := .tuple #[zV, .int .i64 5]) (by simp [results, Try.results8, go_sem, g0, g1, g2, g3, g4, g5, g6]) rfl ⟨B9.out, .inr (.inl ⟨rfl, rfl, rfl⟩)⟩
  | true =>
    go_upto_region 8 with (first
    | (go_at_call 14; ((with_reducible refine RC.out.mono ?_); rintro r w1 ⟨rfl, hb1⟩; have K1 := Lib.hid (ST.out _ _ RF.out hb1); clear hb1; obtain ⟨v0, v1, v2, v3, v4, v5, v6⟩ := (KP.out _ K1.out).1.cells; obtain ⟨e0, e1, e2, e3, e4⟩ := (KP.out _ K1.out).2.1.cells))
    | (go_at_call 15; ((with_reducible refine (C1.out _).mono ?_); rintro r w2 ⟨rfl, rfl⟩))
    | (go_at_call 15; ((with_reducible refine (C2.out _).mono ?_); rintro r w2 ⟨rfl, rfl⟩))
    | (go_at_call 15; ((with_reducible refine (C3.out _).mono ?_); rintro r w2 ⟨rfl, rfl⟩))
    | (go_at_call 16; ((with_reducible refine (LC.out _ (KB.out _ K1.out).1).mono ?_); rintro r w3 ⟨rfl, hb3⟩; have K3 := Lib.hid (ST.out _ _ K1.out hb3); clear hb3; obtain ⟨v0, v1, v2, v3, v4, v5, v6⟩ := (KP.out _ K3.out).1.cells; obtain ⟨e0, e1, e2, e3, e4⟩ := (KP.out _ K3.out).2.1.cells))
    | (go_at_call 17; ((with_reducible refine (WC.out _ (KB.out _ K3.out).2 (KB.out _ K3.out).1).mono ?_); rintro r w4 ⟨G, rfl, hgp, hG, hb4, hGb⟩; have hgp := Lib.hid hgp; have K4 := Lib.hid (ST.out _ _ K3.out hb4); have K5 := Lib.hid (ST.out _ _ K4.out (below_alloc _ (lvsO G))); have G5 := Lib.hid (OLb _ _ _ hG (below_alloc _ (lvsO G))); have hGb := Lib.hid hGb; have Q5 := Lib.hid (heap_alloc_new w4 (lvsO G)); clear hb4 hG; obtain ⟨v0, v1, v2, v3, v4, v5, v6⟩ := (KP.out _ K5.out).1.cells; obtain ⟨e0, e1, e2, e3, e4⟩ := (KP.out _ K5.out).2.1.cells))
    | (go_at_call 18; ((with_reducible refine (IC.out _ _ _ (KB.out _ K5.out).1 (KB.out _ K4.out).2 Q5.out hgp.out G5.out hGb.out).mono ?_); rintro r w6 ⟨rfl, hb6, hG6⟩; have K6 : Hid (Below (w.heap.size + 3) (((w.alloc (verO v H)).alloc (edO e hg ha)).alloc zO) w6) := Lib.hid (K5.out.trans hb6); have G6 := Lib.hid hG6; clear hb6 hG6; obtain ⟨v0, v1, v2, v3, v4, v5, v6⟩ := (KP.out _ K6.out).1.cells; obtain ⟨e0, e1, e2, e3, e4⟩ := (KP.out _ K6.out).2.1.cells)))
    obtain ⟨G2, Q6, L6, F6⟩ := G6.out rfl
    have FIN : Hid (∀ u, Below w6.heap.size w6 u → VerB w.heap.size (madeV v e L2) G2 (verPut w.heap.size (madeV v e L2) G2 u) ∧ VerB (w.heap.size + 1 + 1) zeroV noHd (verPut w.heap.size (madeV v e L2) G2 u) ∧ Below w.heap.size w (verPut w.heap.size (madeV v e L2) G2 u) ∧ LvAtG L2 G2 (verPut w.heap.size (madeV v e L2) G2 u) ∧ FrL (w.heap.size + 3) G2 (verPut w.heap.size (madeV v e L2) G2 u)) := Lib.hid (fun u hu => by
      obtain ⟨a1, a2, a3⟩ := KP.out _ (ST.out _ _ K6.out hu)
      refine ⟨a1.put _ _, (heap_verPut (by omega)).trans a3, below_verPut (KB.out _ (ST.out _ _ K6.out hu)).1 (Nat.le_refl _) _ _, fun i hi => ?_, (F6.below hu).keep (fun k h1 _ => heap_verPut (by omega)) (by rw [size_verPut]; exact Nat.le_refl _)⟩
      have m := (L6 i hi).below hu
      exact ⟨m.sl.keep (fun h0 => heap_verPut (a1.nems m h0)) (by rw [size_verPut]; exact Nat.le_refl _), m.none'⟩)
    have hq : w6.cell? ⟨w4.heap.size, 0, none⟩ = some (.slice (G2 0).a (G2 0).n (G2 0).c) ∧ w6.cell? ⟨w4.heap.size, 1, none⟩ = some (.slice (G2 1).a (G2 1).n (G2 1).c) ∧ w6.cell? ⟨w4.heap.size, 2, none⟩ = some (.slice (G2 2).a (G2 2).n (G2 2).c) ∧ w6.cell? ⟨w4.heap.size, 3, none⟩ = some (.slice (G2 3).a (G2 3).n (G2 3).c) := by simp [World.cell?, Q6]
    have S0 : Hid (VerB w.heap.size v H w6.drew ∧ (w6.drew.cell? ⟨w.heap.size, 0, none⟩ = some (.int .u64 (v.log : Int)) ∧ w6.drew.cell? ⟨w.heap.size, 1, none⟩ = some (.int .u64 (v.next : Int)) ∧ w6.drew.cell? ⟨w.heap.size, 2, none⟩ = some (.int .u64 (v.seq : Int))) ∧ (w6.drew.cell? ⟨w.heap.size + 1, 0, none⟩ = some (.int .u64 (e.log : Int)) ∧ w6.drew.cell? ⟨w.heap.size + 1, 1, none⟩ = some (.int .u64 (e.next : Int)) ∧ w6.drew.cell? ⟨w.heap.size + 1, 2, none⟩ = some (.int .u64 (e.seq : Int))) ∧ w6.drew.cell? ⟨w4.heap.size, 0, none⟩ = some (.slice (G2 0).a (G2 0).n (G2 0).c) ∧ w6.drew.cell? ⟨w4.heap.size, 1, none⟩ = some (.slice (G2 1).a (G2 1).n (G2 1).c) ∧ w6.drew.cell? ⟨w4.heap.size, 2, none⟩ = some (.slice (G2 2).a (G2 2).n (G2 2).c) ∧ w6.drew.cell? ⟨w4.heap.size, 3, none⟩ = some (.slice (G2 3).a (G2 3).n (G2 3).c)) := Lib.hid ⟨(KP.out _ K6.out).1.below ((Below.refl _ _).drew), ⟨v0, v1, v2⟩, ⟨e0, e1, e2⟩, hq⟩
    have hSk : Hid (∀ (u : World) (o : Obj), (VerB w.heap.size v H u ∧ (u.cell? ⟨w.heap.size, 0, none⟩ = some (.int .u64 (v.log : Int)) ∧ u.cell? ⟨w.heap.size, 1, none⟩ = some (.int .u64 (v.next : Int)) ∧ u.cell? ⟨w.heap.size, 2, none⟩ = some (.int .u64 (v.seq : Int))) ∧ (u.cell? ⟨w.heap.size + 1, 0, none⟩ = some (.int .u64 (e.log : Int)) ∧ u.cell? ⟨w.heap.size + 1, 1, none⟩ = some (.int .u64 (e.next : Int)) ∧ u.cell? ⟨w.heap.size + 1, 2, none⟩ = some (.int .u64 (e.seq : Int))) ∧ u.cell? ⟨w4.heap.size, 0, none⟩ = some (.slice (G2 0).a (G2 0).n (G2 0).c) ∧ u.cell? ⟨w4.heap.size, 1, none⟩ = some (.slice (G2 1).a (G2 1).n (G2 1).c) ∧ u.cell? ⟨w4.heap.size, 2, none⟩ = some (.slice (G2 2).a (G2 2).n (G2 2).c) ∧ u.cell? ⟨w4.heap.size, 3, none⟩ = some (.slice (G2 3).a (G2 3).n (G2 3).c)) → VerB w.heap.size v H (u.alloc o) ∧ ((u.alloc o).cell? ⟨w.heap.size, 0, none⟩ = some (.int .u64 (v.log : Int)) ∧ (u.alloc o).cell? ⟨w.heap.size, 1, none⟩ = some (.int .u64 (v.next : Int)) ∧ (u.alloc o).cell? ⟨w.heap.size, 2, none⟩ = some (.int .u64 (v.seq : Int))) ∧ ((u.alloc o).cell? ⟨w.heap.size + 1, 0, none⟩ = some (.int .u64 (e.log : Int)) ∧ (u.alloc o).cell? ⟨w.heap.size + 1, 1, none⟩ = some (.int .u64 (e.next : Int)) ∧ (u.alloc o).cell? ⟨w.heap.size + 1, 2, none⟩ = some (.int .u64 (e.seq : Int))) ∧ (u.alloc o).cell? ⟨w4.heap.size, 0, none⟩ = some (.slice (G2 0).a (G2 0).n (G2 0).c) ∧ (u.alloc o).cell? ⟨w4.heap.size, 1, none⟩ = some (.slice (G2 1).a (G2 1).n (G2 1).c) ∧ (u.alloc o).cell? ⟨w4.heap.size, 2, none⟩ = some (.slice (G2 2).a (G2 2).n (G2 2).c) ∧ (u.alloc o).cell? ⟨w4.heap.size, 3, none⟩ = some (.slice (G2 3).a (G2 3).n (G2 3).c)) := Lib.hid (fun u o ⟨hv, ⟨a0, a1, a2⟩, ⟨b0, b1, b2⟩, c0, c1, c2, c3⟩ => by
      have hk := below_alloc u o
      exact ⟨hv.below hk, ⟨cell_keep hk a0, cell_keep hk a1, cell_keep hk a2⟩, ⟨cell_keep hk b0, cell_keep hk b1, cell_keep hk b2⟩, cell_keep hk c0, cell_keep hk c1, cell_keep hk c2, cell_keep hk c3⟩)
    have hSB : Hid (∀ u k : World, Below u.heap.size u k → (VerB w.heap.size v H u ∧ (u.cell? ⟨w.heap.size, 0, none⟩ = some (.int .u64 (v.log : Int)) ∧ u.cell? ⟨w.heap.size, 1, none⟩ = some (.int .u64 (v.next : Int)) ∧ u.cell? ⟨w.heap.size, 2, none⟩ = some (.int .u64 (v.seq : Int))) ∧ (u.cell? ⟨w.heap.size + 1, 0, none⟩ = some (.int .u64 (e.log : Int)) ∧ u.cell? ⟨w.heap.size + 1, 1, none⟩ = some (.int .u64 (e.next : Int)) ∧ u.cell? ⟨w.heap.size + 1, 2, none⟩ = some (.int .u64 (e.seq : Int))) ∧ u.cell? ⟨w4.heap.size, 0, none⟩ = some (.slice (G2 0).a (G2 0).n (G2 0).c) ∧ u.cell? ⟨w4.heap.size, 1, none⟩ = some (.slice (G2 1).a (G2 1).n (G2 1).c) ∧ u.cell? ⟨w4.heap.size, 2, none⟩ = some (.slice (G2 2).a (G2 2).n (G2 2).c) ∧ u.cell? ⟨w4.heap.size, 3, none⟩ = some (.slice (G2 3).a (G2 3).n (G2 3).c)) → VerB w.heap.size v H k ∧ (k.cell? ⟨w.heap.size, 0, none⟩ = some (.int .u64 (v.log : Int)) ∧ k.cell? ⟨w.heap.size, 1, none⟩ = some (.int .u64 (v.next : Int)) ∧ k.cell? ⟨w.heap.size, 2, none⟩ = some (.int .u64 (v.seq : Int))) ∧ (k.cell? ⟨w.heap.size + 1, 0, none⟩ = some (.int .u64 (e.log : Int)) ∧ k.cell? ⟨w.heap.size + 1, 1, none⟩ = some (.int .u64 (e.next : Int)) ∧ k.cell? ⟨w.heap.size + 1, 2, none⟩ = some (.int .u64 (e.seq : Int))) ∧ k.cell? ⟨w4.heap.size, 0, none⟩ = some (.slice (G2 0).a (G2 0).n (G2 0).c) ∧ k.cell? ⟨w4.heap.size, 1, none⟩ = some (.slice (G2 1).a (G2 1).n (G2 1).c) ∧ k.cell? ⟨w4.heap.size, 2, none⟩ = some (.slice (G2 2).a (G2 2).n (G2 2).c) ∧ k.cell? ⟨w4.heap.size, 3, none⟩ = some (.slice (G2 3).a (G2 3).n (G2 3).c)) := Lib.hid (fun u k hk ⟨hv, ⟨a0, a1, a2⟩, ⟨b0, b1, b2⟩, c0, c1, c2, c3⟩ => by
      exact ⟨hv.below hk, ⟨cell_keep hk a0, cell_keep hk a1, cell_keep hk a2⟩, ⟨cell_keep hk b0, cell_keep hk b1, cell_keep hk b2⟩, cell_keep hk c0, cell_keep hk c1, cell_keep hk c2, cell_keep hk c3⟩)
    have fz : ∀ u : World, VerB w.heap.size v H u → ∀ o, u.frozen? ⟨w.heap.size, o, none⟩ = false := fun u hu => hu.frozen
    have RC2 : Hid (∀ u, LvAtG L2 G2 u → Calls Try.prog 14 #[verV (madeV v e L2) G2] u fun r w' => r = .returned (.bool (tf (RightP (madeV v e L2)))) ∧ Below u.heap.size u w') := Lib.hid (fun u hu => right_any (v := madeV v e L2) hu hL2)
    clear v0 v1 v2 v3 v4 v5 v6 e0 e1 e2 e3 e4 hq
    replace L6 := Lib.hid L6
    replace F6 := Lib.hid F6
    replace Q6 := Lib.hid Q6
    go_cut [] from 54 to 73 (fun wc => Hid (VerB w.heap.size (madeV v e L2) G2 wc ∧ VerB (w.heap.size + 1 + 1) zeroV noHd wc ∧ Below w.heap.size w wc ∧ LvAtG L2 G2 wc ∧ FrL (w.heap.size + 3) G2 wc))
    case first =>
      have VB := Lib.hid (fun u (hu : Below w6.heap.size w6 u) => (KP.out _ (ST.out _ _ K6.out hu)).1)
      refine wp_region_E 20 (S := (fun u => VerB w.heap.size v H u ∧ (u.cell? ⟨w.heap.size, 0, none⟩ = some (.int .u64 (v.log : Int)) ∧ u.cell? ⟨w.heap.size, 1, none⟩ = some (.int .u64 (v.next : Int)) ∧ u.cell? ⟨w.heap.size, 2, none⟩ = some (.int .u64 (v.seq : Int))) ∧ (u.cell? ⟨w.heap.size + 1, 0, none⟩ = some (.int .u64 (e.log : Int)) ∧ u.cell? ⟨w.heap.size + 1, 1, none⟩ = some (.int .u64 (e.next : Int)) ∧ u.cell? ⟨w.heap.size + 1, 2, none⟩ = some (.int .u64 (e.seq : Int))) ∧ u.cell? ⟨w4.heap.size, 0, none⟩ = some (.slice (G2 0).a (G2 0).n (G2 0).c) ∧ u.cell? ⟨w4.heap.size, 1, none⟩ = some (.slice (G2 1).a (G2 1).n (G2 1).c) ∧ u.cell? ⟨w4.heap.size, 2, none⟩ = some (.slice (G2 2).a (G2 2).n (G2 2).c) ∧ u.cell? ⟨w4.heap.size, 3, none⟩ = some (.slice (G2 3).a (G2 3).n (G2 3).c))) (by kernel_rfl) (S0.out) (fun hHeld => ?_)
      refine heldE_take (i := 0) (v := ?_) rfl (by kernel_rfl) (by kernel_rfl) (by kernel_rfl) (fun _ _ _ h => h) (by rfl) (fun w hSw => ?_) (by assumption) ?_; rotate_left 1; focus (((try dsimp only at hSw); first | (go_simp; done) | (go_simp; with_reducible rfl)))
      try simp only [Act.put, List.setIfInBounds_toArray, List.set_cons_zero, List.set_cons_succ]
      refine heldE_take (i := 1) (v := ?_) rfl (by kernel_rfl) (by kernel_rfl) (by kernel_rfl) (fun _ _ _ h => h) (by rfl) (fun w hSw => ?_) (by assumption) ?_; rotate_left 1; focus (((try dsimp only at hSw); first | (go_simp; done) | (go_simp; with_reducible rfl)))
      try simp only [Act.put, List.setIfInBounds_toArray, List.set_cons_zero, List.set_cons_succ]
      refine heldE_take (i := 2) (v := ?_) rfl (by kernel_rfl) (by kernel_rfl) (by kernel_rfl) (fun _ _ _ h => h) (by rfl) (fun w hSw => ?_) (by assumption) ?_; rotate_left 1; focus (((try dsimp only at hSw); first | (go_simp; done) | (go_simp; with_reducible rfl)))
      try simp only [Act.put, List.setIfInBounds_toArray, List.set_cons_zero, List.set_cons_succ]
      refine heldE_take (i := 3) (v := ?_) rfl (by kernel_rfl) (by kernel_rfl) (by kernel_rfl) (fun _ _ _ h => h) (by rfl) (fun w hSw => ?_) (by assumption) ?_; rotate_left 1; focus (((try dsimp only at hSw); first | (go_simp; done) | (go_simp; with_reducible rfl)))
      try simp only [Act.put, List.setIfInBounds_toArray, List.set_cons_zero, List.set_cons_succ]
      refine heldE_take (i := 6) (v := ?_) rfl (by kernel_rfl) (by kernel_rfl) (by kernel_rfl) (fun _ _ _ h => h) (by rfl) (fun w hSw => ?_) (by assumption) ?_; rotate_left 1; focus (((try dsimp only at hSw); first | (go_simp; done) | (go_simp; with_reducible rfl)))
      try simp only [Act.put, List.setIfInBounds_toArray, List.set_cons_zero, List.set_cons_succ]
      refine heldE_take (i := 7) (v := ?_) rfl (by kernel_rfl) (by kernel_rfl) (by kernel_rfl) (fun _ _ _ h => h) (by rfl) (fun w hSw => ?_) (by assumption) ?_; rotate_left 1; focus (((try dsimp only at hSw); first | (go_simp; done) | (go_simp; with_reducible rfl)))
      try simp only [Act.put, List.setIfInBounds_toArray, List.set_cons_zero, List.set_cons_succ]
      refine heldE_take (i := 8) (v := ?_) rfl (by kernel_rfl) (by kernel_rfl) (by kernel_rfl) (fun _ _ _ h => h) (by rfl) (fun w hSw => ?_) (by assumption) ?_; rotate_left 1; focus (((try dsimp only at hSw); first | (go_simp; done) | (go_simp; with_reducible rfl)))
      try simp only [Act.put, List.setIfInBounds_toArray, List.set_cons_zero, List.set_cons_succ]
      refine heldE_take (i := 9) (v := ?_) rfl (by kernel_rfl) (by kernel_rfl) (by kernel_rfl) (fun _ _ _ h => h) (by rfl) (fun w hSw => ?_) (by assumption) ?_; rotate_left 1; focus (((try dsimp only at hSw); first | (go_simp; done) | (go_simp; with_reducible rfl)))
      try simp only [Act.put, List.setIfInBounds_toArray, List.set_cons_zero, List.set_cons_succ]
      refine heldE_take (i := 12) (v := ?_) rfl (by kernel_rfl) (by kernel_rfl) (by kernel_rfl) (fun _ _ _ h => h) (by rfl) (fun w hSw => ?_) (by assumption) ?_; rotate_left 1; focus (((try dsimp only at hSw); first | (go_simp; done) | (go_simp; with_reducible rfl)))
      try simp only [Act.put, List.setIfInBounds_toArray, List.set_cons_zero, List.set_cons_succ]
      refine heldE_take (i := 13) (v := ?_) rfl (by kernel_rfl) (by kernel_rfl) (by kernel_rfl) (fun _ _ _ h => h) (by rfl) (fun w hSw => ?_) (by assumption) ?_; rotate_left 1; focus (((try dsimp only at hSw); first | (go_simp; done) | (go_simp; with_reducible rfl)))
      try simp only [Act.put, List.setIfInBounds_toArray, List.set_cons_zero, List.set_cons_succ]
      refine heldE_take (i := 14) (v := ?_) rfl (by kernel_rfl) (by kernel_rfl) (by kernel_rfl) (fun _ _ _ h => h) (by rfl) (fun w hSw => ?_) (by assumption) ?_; rotate_left 1; focus (((try dsimp only at hSw); first | (go_simp; done) | (go_simp; with_reducible rfl)))
      try simp only [Act.put, List.setIfInBounds_toArray, List.set_cons_zero, List.set_cons_succ]
      refine heldE_take (i := 15) (v := ?_) rfl (by kernel_rfl) (by kernel_rfl) (by kernel_rfl) (fun _ _ _ h => h) (by rfl) (fun w hSw => ?_) (by assumption) ?_; rotate_left 1; focus (((try dsimp only at hSw); first | (go_simp; done) | (go_simp; with_reducible rfl)))
      try simp only [Act.put, List.setIfInBounds_toArray, List.set_cons_zero, List.set_cons_succ]
      refine heldE_take (i := 18) (v := ?_) rfl (by kernel_rfl) (by kernel_rfl) (by kernel_rfl) (fun _ _ _ h => h) (by rfl) (fun w hSw => ?_) (by assumption) ?_; rotate_left 1; focus (((try dsimp only at hSw); first | (go_simp; done) | (go_simp; with_reducible rfl)))
      try simp only [Act.put, List.setIfInBounds_toArray, List.set_cons_zero, List.set_cons_succ]
      refine heldE_three (i := 4) (j := 10) (k := 16) (by kernel_rfl) rfl rfl rfl (by rfl) (by rfl) (by rfl) (fun K hK => ?_) (fun K hK => ?_) (fun K hK => ?_)
      · go_simp
        refine hK.out _ _ (hSk.out _ _ hHeld) (fun hHeld => ?_)
        try simp only [Act.put, List.setIfInBounds_toArray, List.set_cons_zero, List.set_cons_succ]
        refine heldE_three (i := 5) (j := 10) (k := 16) (by kernel_rfl) rfl rfl rfl (by rfl) (by rfl) (by rfl) (fun K hK => ?_) (fun K hK => ?_) (fun K hK => ?_)
        · go_simp
          refine (or_any e.log v.log _ _ (by go_simp) (by go_simp)).mono ?_
          rintro r wq ⟨rfl, rfl⟩
          refine hK.out _ _ (hHeld) (fun hHeld => ?_)
          try simp only [Act.put, List.setIfInBounds_toArray, List.set_cons_zero, List.set_cons_succ]
          refine heldE_two (i := 10) (j := 16) (by kernel_rfl) rfl rfl (by rfl) (by rfl) (fun K hK => ?_) (fun K hK => ?_)
          · go_simp
            refine hK.out _ _ (hSk.out _ _ hHeld) (fun hHeld => ?_)
            try simp only [Act.put, List.setIfInBounds_toArray, List.set_cons_zero, List.set_cons_succ]
            refine heldE_two (i := 11) (j := 16) (by kernel_rfl) rfl rfl (by rfl) (by rfl) (fun K hK => ?_) (fun K hK => ?_)
            · go_simp
              refine (or_any e.next v.next _ _ (by go_simp) (by go_simp)).mono ?_
              rintro r wq ⟨rfl, rfl⟩
              refine hK.out _ _ (hHeld) (fun hHeld => ?_)
              try simp only [Act.put, List.setIfInBounds_toArray, List.set_cons_zero, List.set_cons_succ]
              refine heldE_call (i := 16) (by kernel_rfl) rfl (by rfl) (fun K hK => ?_)
              go_simp
              refine hK.out _ _ (hSk.out _ _ hHeld) (fun hHeld => ?_)
              try simp only [Act.put, List.setIfInBounds_toArray, List.set_cons_zero, List.set_cons_succ]
              refine heldE_call (i := 17) (by kernel_rfl) rfl (by rfl) (fun K hK => ?_)
              go_simp
              refine (or_below e.seq v.seq _ _ (by go_simp) (by go_simp)).mono ?_
              rintro r wq ⟨rfl, hbq⟩
              have Bq : Hid (Below w6.heap.size w6 wq) := Lib.hid (below_of (w := w6) (by repeat first | exact Below.refl _ _ | refine Below.drew ?_ | refine Below.alloc ?_ (by first | (simp; done) | (simp; omega)) _) hbq)
              refine hK.out _ _ (hSB.out _ _ hbq hHeld) (fun hHeld => ?_)
              try simp only [Act.put, List.setIfInBounds_toArray, List.set_cons_zero, List.set_cons_succ]
              refine heldE_take (i := 19) (v := ?_) rfl (by kernel_rfl) (by kernel_rfl) (by kernel_rfl) (fun _ _ _ h => h) (by rfl) (fun w hSw => ?_) (by assumption) ?_; rotate_left 1; focus (((try dsimp only at hSw); first | (go_simp; done) | (go_simp; with_reducible rfl)))
              try simp only [Act.put, List.setIfInBounds_toArray, List.set_cons_zero, List.set_cons_succ]
              refine heldE_last (by kernel_rfl) rfl (by rfl) (fun K hK => ?_)
              obtain ⟨hv, _⟩ := hHeld
              obtain ⟨x0, x1, x2, x3, x4, x5, x6⟩ := hv.cells
              have fz := hv.frozen
              go_simp
              refine hK.out _ _ ?_
              try simp only [Act.put, List.setIfInBounds_toArray, List.set_cons_zero, List.set_cons_succ]
              refine wpE_done (by kernel_rfl) ?_ _
              go_wp2_with fail
              go_meet
              exact Lib.hid (FIN.out _ Bq.out)
            · go_simp
              refine hK.out _ _ (hSk.out _ _ hHeld) (fun hHeld => ?_)
              try simp only [Act.put, List.setIfInBounds_toArray, List.set_cons_zero, List.set_cons_succ]
              refine heldE_call (i := 11) (by kernel_rfl) rfl (by rfl) (fun K hK => ?_)
              go_simp
              refine (or_any e.next v.next _ _ (by go_simp) (by go_simp)).mono ?_
              rintro r wq ⟨rfl, rfl⟩
              refine hK.out _ _ (hHeld) (fun hHeld => ?_)
              try simp only [Act.put, List.setIfInBounds_toArray, List.set_cons_zero, List.set_cons_succ]
              refine heldE_call (i := 17) (by kernel_rfl) rfl (by rfl) (fun K hK => ?_)
              go_simp
              refine (or_below e.seq v.seq _ _ (by go_simp) (by go_simp)).mono ?_
              rintro r wq ⟨rfl, hbq⟩
              have Bq : Hid (Below w6.heap.size w6 wq) := Lib.hid (below_of (w := w6) (by repeat first | exact Below.refl _ _ | refine Below.drew ?_ | refine Below.alloc ?_ (by first | (simp; done) | (simp; omega)) _) hbq)
              refine hK.out _ _ (hSB.out _ _ hbq hHeld) (fun hHeld => ?_)
              try simp only [Act.put, List.setIfInBounds_toArray, List.set_cons_zero, List.set_cons_succ]
              refine heldE_take (i := 19) (v := ?_) rfl (by kernel_rfl) (by kernel_rfl) (by kernel_rfl) (fun _ _ _ h => h) (by rfl) (fun w hSw => ?_) (by assumption) ?_; rotate_left 1; focus (((try dsimp only at hSw); first | (go_simp; done) | (go_simp; with_reducible rfl)))
              try simp only [Act.put, List.setIfInBounds_toArray, List.set_cons_zero, List.set_cons_succ]
              refine heldE_last (by kernel_rfl) rfl (by rfl) (fun K hK => ?_)
              obtain ⟨hv, _⟩ := hHeld
              obtain ⟨x0, x1, x2, x3, x4, x5, x6⟩ := hv.cells
              have fz := hv.frozen
              go_simp
              refine hK.out _ _ ?_
              try simp only [Act.put, List.setIfInBounds_toArray, List.set_cons_zero, List.set_cons_succ]
              refine wpE_done (by kernel_rfl) ?_ _
              go_wp2_with fail
              go_meet
              exact Lib.hid (FIN.out _ Bq.out)
          · go_simp
            refine hK.out _ _ (hSk.out _ _ hHeld) (fun hHeld => ?_)
            try simp only [Act.put, List.setIfInBounds_toArray, List.set_cons_zero, List.set_cons_succ]
            refine heldE_call (i := 10) (by kernel_rfl) rfl (by rfl) (fun K hK => ?_)
            go_simp
            refine hK.out _ _ (hSk.out _ _ hHeld) (fun hHeld => ?_)
            try simp only [Act.put, List.setIfInBounds_toArray, List.set_cons_zero, List.set_cons_succ]
            refine heldE_call (i := 11) (by kernel_rfl) rfl (by rfl) (fun K hK => ?_)
            go_simp
            refine (or_any e.next v.next _ _ (by go_simp) (by go_simp)).mono ?_
            rintro r wq ⟨rfl, rfl⟩
            refine hK.out _ _ (hHeld) (fun hHeld => ?_)
            try simp only [Act.put, List.setIfInBounds_toArray, List.set_cons_zero, List.set_cons_succ]
            refine heldE_call (i := 17) (by kernel_rfl) rfl (by rfl) (fun K hK => ?_)
            go_simp
            refine (or_below e.seq v.seq _ _ (by go_simp) (by go_simp)).mono ?_
            rintro r wq ⟨rfl, hbq⟩
            have Bq : Hid (Below w6.heap.size w6 wq) := Lib.hid (below_of (w := w6) (by repeat first | exact Below.refl _ _ | refine Below.drew ?_ | refine Below.alloc ?_ (by first | (simp; done) | (simp; omega)) _) hbq)
            refine hK.out _ _ (hSB.out _ _ hbq hHeld) (fun hHeld => ?_)
            try simp only [Act.put, List.setIfInBounds_toArray, List.set_cons_zero, List.set_cons_succ]
            refine heldE_take (i := 19) (v := ?_) rfl (by kernel_rfl) (by kernel_rfl) (by kernel_rfl) (fun _ _ _ h => h) (by rfl) (fun w hSw => ?_) (by assumption) ?_; rotate_left 1; focus (((try dsimp only at hSw); first | (go_simp; done) | (go_simp; with_reducible rfl)))
            try simp only [Act.put, List.setIfInBounds_toArray, List.set_cons_zero, List.set_cons_succ]
            refine heldE_last (by kernel_rfl) rfl (by rfl) (fun K hK => ?_)
            obtain ⟨hv, _⟩ := hHeld
            obtain ⟨x0, x1, x2, x3, x4, x5, x6⟩ := hv.cells
            have fz := hv.frozen
            go_simp
            refine hK.out _ _ ?_
            try simp only [Act.put, List.setIfInBounds_toArray, List.set_cons_zero, List.set_cons_succ]
            refine wpE_done (by kernel_rfl) ?_ _
            go_wp2_with fail
            go_meet
            exact Lib.hid (FIN.out _ Bq.out)
        · go_simp
          refine hK.out _ _ (hSk.out _ _ hHeld) (fun hHeld => ?_)
          try simp only [Act.put, List.setIfInBounds_toArray, List.set_cons_zero, List.set_cons_succ]
          refine heldE_two (i := 5) (j := 16) (by kernel_rfl) rfl rfl (by rfl) (by rfl) (fun K hK => ?_) (fun K hK => ?_)
          · go_simp
            refine (or_any e.log v.log _ _ (by go_simp) (by go_simp)).mono ?_
            rintro r wq ⟨rfl, rfl⟩
            refine hK.out _ _ (hHeld) (fun hHeld => ?_)
            try simp only [Act.put, List.setIfInBounds_toArray, List.set_cons_zero, List.set_cons_succ]
            refine heldE_two (i := 11) (j := 16) (by kernel_rfl) rfl rfl (by rfl) (by rfl) (fun K hK => ?_) (fun K hK => ?_)
            · go_simp
              refine (or_any e.next v.next _ _ (by go_simp) (by go_simp)).mono ?_
              rintro r wq ⟨rfl, rfl⟩
              refine hK.out _ _ (hHeld) (fun hHeld => ?_)
              try simp only [Act.put, List.setIfInBounds_toArray, List.set_cons_zero, List.set_cons_succ]
              refine heldE_call (i := 16) (by kernel_rfl) rfl (by rfl) (fun K hK => ?_)
              go_simp
              refine hK.out _ _ (hSk.out _ _ hHeld) (fun hHeld => ?_)
              try simp only [Act.put, List.setIfInBounds_toArray, List.set_cons_zero, List.set_cons_succ]
              refine heldE_call (i := 17) (by kernel_rfl) rfl (by rfl) (fun K hK => ?_)
              go_simp
              refine (or_below e.seq v.seq _ _ (by go_simp) (by go_simp)).mono ?_
              rintro r wq ⟨rfl, hbq⟩
              have Bq : Hid (Below w6.heap.size w6 wq) := Lib.hid (below_of (w := w6) (by repeat first | exact Below.refl _ _ | refine Below.drew ?_ | refine Below.alloc ?_ (by first | (simp; done) | (simp; omega)) _) hbq)
              refine hK.out _ _ (hSB.out _ _ hbq hHeld) (fun hHeld => ?_)
              try simp only [Act.put, List.setIfInBounds_toArray, List.set_cons_zero, List.set_cons_succ]
              refine heldE_take (i := 19) (v := ?_) rfl (by kernel_rfl) (by kernel_rfl) (by kernel_rfl) (fun _ _ _ h => h) (by rfl) (fun w hSw => ?_) (by assumption) ?_; rotate_left 1; focus (((try dsimp only at hSw); first | (go_simp; done) | (go_simp; with_reducible rfl)))
              try simp only [Act.put, List.setIfInBounds_toArray, List.set_cons_zero, List.set_cons_succ]
              refine heldE_last (by kernel_rfl) rfl (by rfl) (fun K hK => ?_)
              obtain ⟨hv, _⟩ := hHeld
              obtain ⟨x0, x1, x2, x3, x4, x5, x6⟩ := hv.cells
              have fz := hv.frozen
              go_simp
              refine hK.out _ _ ?_
              try simp only [Act.put, List.setIfInBounds_toArray, List.set_cons_zero, List.set_cons_succ]
              refine wpE_done (by kernel_rfl) ?_ _
              go_wp2_with fail
              go_meet
              exact Lib.hid (FIN.out _ Bq.out)
            · go_simp
              refine hK.out _ _ (hSk.out _ _ hHeld) (fun hHeld => ?_)
              try simp only [Act.put, List.setIfInBounds_toArray, List.set_cons_zero, List.set_cons_succ]
              refine heldE_call (i := 11) (by kernel_rfl) rfl (by rfl) (fun K hK => ?_)
              go_simp
              refine (or_any e.next v.next _ _ (by go_simp) (by go_simp)).mono ?_
              rintro r wq ⟨rfl, rfl⟩
              refine hK.out _ _ (hHeld) (fun hHeld => ?_)
              try simp only [Act.put, List.setIfInBounds_toArray, List.set_cons_zero, List.set_cons_succ]
              refine heldE_call (i := 17) (by kernel_rfl) rfl (by rfl) (fun K hK => ?_)
              go_simp
              refine (or_below e.seq v.seq _ _ (by go_simp) (by go_simp)).mono ?_
              rintro r wq ⟨rfl, hbq⟩
              have Bq : Hid (Below w6.heap.size w6 wq) := Lib.hid (below_of (w := w6) (by repeat first | exact Below.refl _ _ | refine Below.drew ?_ | refine Below.alloc ?_ (by first | (simp; done) | (simp; omega)) _) hbq)
              refine hK.out _ _ (hSB.out _ _ hbq hHeld) (fun hHeld => ?_)
              try simp only [Act.put, List.setIfInBounds_toArray, List.set_cons_zero, List.set_cons_succ]
              refine heldE_take (i := 19) (v := ?_) rfl (by kernel_rfl) (by kernel_rfl) (by kernel_rfl) (fun _ _ _ h => h) (by rfl) (fun w hSw => ?_) (by assumption) ?_; rotate_left 1; focus (((try dsimp only at hSw); first | (go_simp; done) | (go_simp; with_reducible rfl)))
              try simp only [Act.put, List.setIfInBounds_toArray, List.set_cons_zero, List.set_cons_succ]
              refine heldE_last (by kernel_rfl) rfl (by rfl) (fun K hK => ?_)
              obtain ⟨hv, _⟩ := hHeld
              obtain ⟨x0, x1, x2, x3, x4, x5, x6⟩ := hv.cells
              have fz := hv.frozen
              go_simp
              refine hK.out _ _ ?_
              try simp only [Act.put, List.setIfInBounds_toArray, List.set_cons_zero, List.set_cons_succ]
              refine wpE_done (by kernel_rfl) ?_ _
              go_wp2_with fail
              go_meet
              exact Lib.hid (FIN.out _ Bq.out)
          · go_simp
            refine hK.out _ _ (hSk.out _ _ hHeld) (fun hHeld => ?_)
            try simp only [Act.put, List.setIfInBounds_toArray, List.set_cons_zero, List.set_cons_succ]
            refine heldE_call (i := 5) (by kernel_rfl) rfl (by rfl) (fun K hK => ?_)
            go_simp
            refine (or_any e.log v.log _ _ (by go_simp) (by go_simp)).mono ?_
            rintro r wq ⟨rfl, rfl⟩
            refine hK.out _ _ (hHeld) (fun hHeld => ?_)
            try simp only [Act.put, List.setIfInBounds_toArray, List.set_cons_zero, List.set_cons_succ]
            refine heldE_call (i := 11) (by kernel_rfl) rfl (by rfl) (fun K hK => ?_)
            go_simp
            refine (or_any e.next v.next _ _ (by go_simp) (by go_simp)).mono ?_
            rintro r wq ⟨rfl, rfl⟩
            refine hK.out _ _ (hHeld) (fun hHeld => ?_)
            try simp only [Act.put, List.setIfInBounds_toArray, List.set_cons_zero, List.set_cons_succ]
            refine heldE_call (i := 17) (by kernel_rfl) rfl (by rfl) (fun K hK => ?_)
            go_simp
            refine (or_below e.seq v.seq _ _ (by go_simp) (by go_simp)).mono ?_
            rintro r wq ⟨rfl, hbq⟩
            have Bq : Hid (Below w6.heap.size w6 wq) := Lib.hid (below_of (w := w6) (by repeat first | exact Below.refl _ _ | refine Below.drew ?_ | refine Below.alloc ?_ (by first | (simp; done) | (simp; omega)) _) hbq)
            refine hK.out _ _ (hSB.out _ _ hbq hHeld) (fun hHeld => ?_)
            try simp only [Act.put, List.setIfInBounds_toArray, List.set_cons_zero, List.set_cons_succ]
            refine heldE_take (i := 19) (v := ?_) rfl (by kernel_rfl) (by kernel_rfl) (by kernel_rfl) (fun _ _ _ h => h) (by rfl) (fun w hSw => ?_) (by assumption) ?_; rotate_left 1; focus (((try dsimp only at hSw); first | (go_simp; done) | (go_simp; with_reducible rfl)))
            try simp only [Act.put, List.setIfInBounds_toArray, List.set_cons_zero, List.set_cons_succ]
            refine heldE_last (by kernel_rfl) rfl (by rfl) (fun K hK => ?_)
            obtain ⟨hv, _⟩ := hHeld
            obtain ⟨x0, x1, x2, x3, x4, x5, x6⟩ := hv.cells
            have fz := hv.frozen
            go_simp
            refine hK.out _ _ ?_
            try simp only [Act.put, List.setIfInBounds_toArray, List.set_cons_zero, List.set_cons_succ]
            refine wpE_done (by kernel_rfl) ?_ _
            go_wp2_with fail
            go_meet
            exact Lib.hid (FIN.out _ Bq.out)
        · go_simp
          refine hK.out _ _ (hSk.out _ _ hHeld) (fun hHeld => ?_)
          try simp only [Act.put, List.setIfInBounds_toArray, List.set_cons_zero, List.set_cons_succ]
          refine heldE_two (i := 5) (j := 10) (by kernel_rfl) rfl rfl (by rfl) (by rfl) (fun K hK => ?_) (fun K hK => ?_)
          · go_simp
            refine (or_any e.log v.log _ _ (by go_simp) (by go_simp)).mono ?_
            rintro r wq ⟨rfl, rfl⟩
            refine hK.out _ _ (hHeld) (fun hHeld => ?_)
            try simp only [Act.put, List.setIfInBounds_toArray, List.set_cons_zero, List.set_cons_succ]
            refine heldE_call (i := 10) (by kernel_rfl) rfl (by rfl) (fun K hK => ?_)
            go_simp
            refine hK.out _ _ (hSk.out _ _ hHeld) (fun hHeld => ?_)
            try simp only [Act.put, List.setIfInBounds_toArray, List.set_cons_zero, List.set_cons_succ]
            refine heldE_call (i := 11) (by kernel_rfl) rfl (by rfl) (fun K hK => ?_)
            go_simp
            refine (or_any e.next v.next _ _ (by go_simp) (by go_simp)).mono ?_
            rintro r wq ⟨rfl, rfl⟩
            refine hK.out _ _ (hHeld) (fun hHeld => ?_)
            try simp only [Act.put, List.setIfInBounds_toArray, List.set_cons_zero, List.set_cons_succ]
            refine heldE_call (i := 17) (by kernel_rfl) rfl (by rfl) (fun K hK => ?_)
            go_simp
            refine (or_below e.seq v.seq _ _ (by go_simp) (by go_simp)).mono ?_
            rintro r wq ⟨rfl, hbq⟩
            have Bq : Hid (Below w6.heap.size w6 wq) := Lib.hid (below_of (w := w6) (by repeat first | exact Below.refl _ _ | refine Below.drew ?_ | refine Below.alloc ?_ (by first | (simp; done) | (simp; omega)) _) hbq)
            refine hK.out _ _ (hSB.out _ _ hbq hHeld) (fun hHeld => ?_)
            try simp only [Act.put, List.setIfInBounds_toArray, List.set_cons_zero, List.set_cons_succ]
            refine heldE_take (i := 19) (v := ?_) rfl (by kernel_rfl) (by kernel_rfl) (by kernel_rfl) (fun _ _ _ h => h) (by rfl) (fun w hSw => ?_) (by assumption) ?_; rotate_left 1; focus (((try dsimp only at hSw); first | (go_simp; done) | (go_simp; with_reducible rfl)))
            try simp only [Act.put, List.setIfInBounds_toArray, List.set_cons_zero, List.set_cons_succ]
            refine heldE_last (by kernel_rfl) rfl (by rfl) (fun K hK => ?_)
            obtain ⟨hv, _⟩ := hHeld
            obtain ⟨x0, x1, x2, x3, x4, x5, x6⟩ := hv.cells
            have fz := hv.frozen
            go_simp
            refine hK.out _ _ ?_
            try simp only [Act.put, List.setIfInBounds_toArray, List.set_cons_zero, List.set_cons_succ]
            refine wpE_done (by kernel_rfl) ?_ _
            go_wp2_with fail
            go_meet
            exact Lib.hid (FIN.out _ Bq.out)
          · go_simp
            refine hK.out _ _ (hSk.out _ _ hHeld) (fun hHeld => ?_)
            try simp only [Act.put, List.setIfInBounds_toArray, List.set_cons_zero, List.set_cons_succ]
            refine heldE_call (i := 5) (by kernel_rfl) rfl (by rfl) (fun K hK => ?_)
            go_simp
            refine (or_any e.log v.log _ _ (by go_simp) (by go_simp)).mono ?_
            rintro r wq ⟨rfl, rfl⟩
            refine hK.out _ _ (hHeld) (fun hHeld => ?_)
            try simp only [Act.put, List.setIfInBounds_toArray, List.set_cons_zero, List.set_cons_succ]
            refine heldE_call (i := 11) (by kernel_rfl) rfl (by rfl) (fun K hK => ?_)
            go_simp
            refine (or_any e.next v.next _ _ (by go_simp) (by go_simp)).mono ?_
            rintro r wq ⟨rfl, rfl⟩
            refine hK.out _ _ (hHeld) (fun hHeld => ?_)
            try simp only [Act.put, List.setIfInBounds_toArray, List.set_cons_zero, List.set_cons_succ]
            refine heldE_call (i := 17) (by kernel_rfl) rfl (by rfl) (fun K hK => ?_)
            go_simp
            refine (or_below e.seq v.seq _ _ (by go_simp) (by go_simp)).mono ?_
            rintro r wq ⟨rfl, hbq⟩
            have Bq : Hid (Below w6.heap.size w6 wq) := Lib.hid (below_of (w := w6) (by repeat first | exact Below.refl _ _ | refine Below.drew ?_ | refine Below.alloc ?_ (by first | (simp; done) | (simp; omega)) _) hbq)
            refine hK.out _ _ (hSB.out _ _ hbq hHeld) (fun hHeld => ?_)
            try simp only [Act.put, List.setIfInBounds_toArray, List.set_cons_zero, List.set_cons_succ]
            refine heldE_take (i := 19) (v := ?_) rfl (by kernel_rfl) (by kernel_rfl) (by kernel_rfl) (fun _ _ _ h => h) (by rfl) (fun w hSw => ?_) (by assumption) ?_; rotate_left 1; focus (((try dsimp only at hSw); first | (go_simp; done) | (go_simp; with_reducible rfl)))
            try simp only [Act.put, List.setIfInBounds_toArray, List.set_cons_zero, List.set_cons_succ]
            refine heldE_last (by kernel_rfl) rfl (by rfl) (fun K hK => ?_)
            obtain ⟨hv, _⟩ := hHeld
            obtain ⟨x0, x1, x2, x3, x4, x5, x6⟩ := hv.cells
            have fz := hv.frozen
            go_simp
            refine hK.out _ _ ?_
            try simp only [Act.put, List.setIfInBounds_toArray, List.set_cons_zero, List.set_cons_succ]
            refine wpE_done (by kernel_rfl) ?_ _
            go_wp2_with fail
            go_meet
            exact Lib.hid (FIN.out _ Bq.out)
      · go_simp
        refine hK.out _ _ (hSk.out _ _ hHeld) (fun hHeld => ?_)
        try simp only [Act.put, List.setIfInBounds_toArray, List.set_cons_zero, List.set_cons_succ]
        refine heldE_two (i := 4) (j := 16) (by kernel_rfl) rfl rfl (by rfl) (by rfl) (fun K hK => ?_) (fun K hK => ?_)
        · go_simp
          refine hK.out _ _ (hSk.out _ _ hHeld) (fun hHeld => ?_)
          try simp only [Act.put, List.setIfInBounds_toArray, List.set_cons_zero, List.set_cons_succ]
          refine heldE_two (i := 5) (j := 16) (by kernel_rfl) rfl rfl (by rfl) (by rfl) (fun K hK => ?_) (fun K hK => ?_)
          · go_simp
            refine (or_any e.log v.log _ _ (by go_simp) (by go_simp)).mono ?_
            rintro r wq ⟨rfl, rfl⟩
            refine hK.out _ _ (hHeld) (fun hHeld => ?_)
            try simp only [Act.put, List.setIfInBounds_toArray, List.set_cons_zero, List.set_cons_succ]
            refine heldE_two (i := 11) (j := 16) (by kernel_rfl) rfl rfl (by rfl) (by rfl) (fun K hK => ?_) (fun K hK => ?_)
            · go_simp
              refine (or_any e.next v.next _ _ (by go_simp) (by go_simp)).mono ?_
              rintro r wq ⟨rfl, rfl⟩
              refine hK.out _ _ (hHeld) (fun hHeld => ?_)
              try simp only [Act.put, List.setIfInBounds_toArray, List.set_cons_zero, List.set_cons_succ]
              refine heldE_call (i := 16) (by kernel_rfl) rfl (by rfl) (fun K hK => ?_)
              go_simp
              refine hK.out _ _ (hSk.out _ _ hHeld) (fun hHeld => ?_)
              try simp only [Act.put, List.setIfInBounds_toArray, List.set_cons_zero, List.set_cons_succ]
              refine heldE_call (i := 17) (by kernel_rfl) rfl (by rfl) (fun K hK => ?_)
              go_simp
              refine (or_below e.seq v.seq _ _ (by go_simp) (by go_simp)).mono ?_
              rintro r wq ⟨rfl, hbq⟩
              have Bq : Hid (Below w6.heap.size w6 wq) := Lib.hid (below_of (w := w6) (by repeat first | exact Below.refl _ _ | refine Below.drew ?_ | refine Below.alloc ?_ (by first | (simp; done) | (simp; omega)) _) hbq)
              refine hK.out _ _ (hSB.out _ _ hbq hHeld) (fun hHeld => ?_)
              try simp only [Act.put, List.setIfInBounds_toArray, List.set_cons_zero, List.set_cons_succ]
              refine heldE_take (i := 19) (v := ?_) rfl (by kernel_rfl) (by kernel_rfl) (by kernel_rfl) (fun _ _ _ h => h) (by rfl) (fun w hSw => ?_) (by assumption) ?_; rotate_left 1; focus (((try dsimp only at hSw); first | (go_simp; done) | (go_simp; with_reducible rfl)))
              try simp only [Act.put, List.setIfInBounds_toArray, List.set_cons_zero, List.set_cons_succ]
              refine heldE_last (by kernel_rfl) rfl (by rfl) (fun K hK => ?_)
              obtain ⟨hv, _⟩ := hHeld
              obtain ⟨x0, x1, x2, x3, x4, x5, x6⟩ := hv.cells
              have fz := hv.frozen
              go_simp
              refine hK.out _ _ ?_
              try simp only [Act.put, List.setIfInBounds_toArray, List.set_cons_zero, List.set_cons_succ]
              refine wpE_done (by kernel_rfl) ?_ _
              go_wp2_with fail
              go_meet
              exact Lib.hid (FIN.out _ Bq.out)
            · go_simp
              refine hK.out _ _ (hSk.out _ _ hHeld) (fun hHeld => ?_)
              try simp only [Act.put, List.setIfInBounds_toArray, List.set_cons_zero, List.set_cons_succ]
              refine heldE_call (i := 11) (by kernel_rfl) rfl (by rfl) (fun K hK => ?_)
              go_simp
              refine (or_any e.next v.next _ _ (by go_simp) (by go_simp)).mono ?_
              rintro r wq ⟨rfl, rfl⟩
              refine hK.out _ _ (hHeld) (fun hHeld => ?_)
              try simp only [Act.put, List.setIfInBounds_toArray, List.set_cons_zero, List.set_cons_succ]
              refine heldE_call (i := 17) (by kernel_rfl) rfl (by rfl) (fun K hK => ?_)
              go_simp
              refine (or_below e.seq v.seq _ _ (by go_simp) (by go_simp)).mono ?_
              rintro r wq ⟨rfl, hbq⟩
              have Bq : Hid (Below w6.heap.size w6 wq) := Lib.hid (below_of (w := w6) (by repeat first | exact Below.refl _ _ | refine Below.drew ?_ | refine Below.alloc ?_ (by first | (simp; done) | (simp; omega)) _) hbq)
              refine hK.out _ _ (hSB.out _ _ hbq hHeld) (fun hHeld => ?_)
              try simp only [Act.put, List.setIfInBounds_toArray, List.set_cons_zero, List.set_cons_succ]
              refine heldE_take (i := 19) (v := ?_) rfl (by kernel_rfl) (by kernel_rfl) (by kernel_rfl) (fun _ _ _ h => h) (by rfl) (fun w hSw => ?_) (by assumption) ?_; rotate_left 1; focus (((try dsimp only at hSw); first | (go_simp; done) | (go_simp; with_reducible rfl)))
              try simp only [Act.put, List.setIfInBounds_toArray, List.set_cons_zero, List.set_cons_succ]
              refine heldE_last (by kernel_rfl) rfl (by rfl) (fun K hK => ?_)
              obtain ⟨hv, _⟩ := hHeld
              obtain ⟨x0, x1, x2, x3, x4, x5, x6⟩ := hv.cells
              have fz := hv.frozen
              go_simp
              refine hK.out _ _ ?_
              try simp only [Act.put, List.setIfInBounds_toArray, List.set_cons_zero, List.set_cons_succ]
              refine wpE_done (by kernel_rfl) ?_ _
              go_wp2_with fail
              go_meet
              exact Lib.hid (FIN.out _ Bq.out)
          · go_simp
            refine hK.out _ _ (hSk.out _ _ hHeld) (fun hHeld => ?_)
            try simp only [Act.put, List.setIfInBounds_toArray, List.set_cons_zero, List.set_cons_succ]
            refine heldE_call (i := 5) (by kernel_rfl) rfl (by rfl) (fun K hK => ?_)
            go_simp
            refine (or_any e.log v.log _ _ (by go_simp) (by go_simp)).mono ?_
            rintro r wq ⟨rfl, rfl⟩
            refine hK.out _ _ (hHeld) (fun hHeld => ?_)
            try simp only [Act.put, List.setIfInBounds_toArray, List.set_cons_zero, List.set_cons_succ]
            refine heldE_call (i := 11) (by kernel_rfl) rfl (by rfl) (fun K hK => ?_)
            go_simp
            refine (or_any e.next v.next _ _ (by go_simp) (by go_simp)).mono ?_
            rintro r wq ⟨rfl, rfl⟩
            refine hK.out _ _ (hHeld) (fun hHeld => ?_)
            try simp only [Act.put, List.setIfInBounds_toArray, List.set_cons_zero, List.set_cons_succ]
            refine heldE_call (i := 17) (by kernel_rfl) rfl (by rfl) (fun K hK => ?_)
            go_simp
            refine (or_below e.seq v.seq _ _ (by go_simp) (by go_simp)).mono ?_
            rintro r wq ⟨rfl, hbq⟩
            have Bq : Hid (Below w6.heap.size w6 wq) := Lib.hid (below_of (w := w6) (by repeat first | exact Below.refl _ _ | refine Below.drew ?_ | refine Below.alloc ?_ (by first | (simp; done) | (simp; omega)) _) hbq)
            refine hK.out _ _ (hSB.out _ _ hbq hHeld) (fun hHeld => ?_)
            try simp only [Act.put, List.setIfInBounds_toArray, List.set_cons_zero, List.set_cons_succ]
            refine heldE_take (i := 19) (v := ?_) rfl (by kernel_rfl) (by kernel_rfl) (by kernel_rfl) (fun _ _ _ h => h) (by rfl) (fun w hSw => ?_) (by assumption) ?_; rotate_left 1; focus (((try dsimp only at hSw); first | (go_simp; done) | (go_simp; with_reducible rfl)))
            try simp only [Act.put, List.setIfInBounds_toArray, List.set_cons_zero, List.set_cons_succ]
            refine heldE_last (by kernel_rfl) rfl (by rfl) (fun K hK => ?_)
            obtain ⟨hv, _⟩ := hHeld
            obtain ⟨x0, x1, x2, x3, x4, x5, x6⟩ := hv.cells
            have fz := hv.frozen
            go_simp
            refine hK.out _ _ ?_
            try simp only [Act.put, List.setIfInBounds_toArray, List.set_cons_zero, List.set_cons_succ]
            refine wpE_done (by kernel_rfl) ?_ _
            go_wp2_with fail
            go_meet
            exact Lib.hid (FIN.out _ Bq.out)
        · go_simp
          refine hK.out _ _ (hSk.out _ _ hHeld) (fun hHeld => ?_)
          try simp only [Act.put, List.setIfInBounds_toArray, List.set_cons_zero, List.set_cons_succ]
          refine heldE_call (i := 4) (by kernel_rfl) rfl (by rfl) (fun K hK => ?_)
          go_simp
          refine hK.out _ _ (hSk.out _ _ hHeld) (fun hHeld => ?_)
          try simp only [Act.put, List.setIfInBounds_toArray, List.set_cons_zero, List.set_cons_succ]
          refine heldE_call (i := 5) (by kernel_rfl) rfl (by rfl) (fun K hK => ?_)
          go_simp
          refine (or_any e.log v.log _ _ (by go_simp) (by go_simp)).mono ?_
          rintro r wq ⟨rfl, rfl⟩
          refine hK.out _ _ (hHeld) (fun hHeld => ?_)
          try simp only [Act.put, List.setIfInBounds_toArray, List.set_cons_zero, List.set_cons_succ]
          refine heldE_call (i := 11) (by kernel_rfl) rfl (by rfl) (fun K hK => ?_)
          go_simp
          refine (or_any e.next v.next _ _ (by go_simp) (by go_simp)).mono ?_
          rintro r wq ⟨rfl, rfl⟩
          refine hK.out _ _ (hHeld) (fun hHeld => ?_)
          try simp only [Act.put, List.setIfInBounds_toArray, List.set_cons_zero, List.set_cons_succ]
          refine heldE_call (i := 17) (by kernel_rfl) rfl (by rfl) (fun K hK => ?_)
          go_simp
          refine (or_below e.seq v.seq _ _ (by go_simp) (by go_simp)).mono ?_
          rintro r wq ⟨rfl, hbq⟩
          have Bq : Hid (Below w6.heap.size w6 wq) := Lib.hid (below_of (w := w6) (by repeat first | exact Below.refl _ _ | refine Below.drew ?_ | refine Below.alloc ?_ (by first | (simp; done) | (simp; omega)) _) hbq)
          refine hK.out _ _ (hSB.out _ _ hbq hHeld) (fun hHeld => ?_)
          try simp only [Act.put, List.setIfInBounds_toArray, List.set_cons_zero, List.set_cons_succ]
          refine heldE_take (i := 19) (v := ?_) rfl (by kernel_rfl) (by kernel_rfl) (by kernel_rfl) (fun _ _ _ h => h) (by rfl) (fun w hSw => ?_) (by assumption) ?_; rotate_left 1; focus (((try dsimp only at hSw); first | (go_simp; done) | (go_simp; with_reducible rfl)))
          try simp only [Act.put, List.setIfInBounds_toArray, List.set_cons_zero, List.set_cons_succ]
          refine heldE_last (by kernel_rfl) rfl (by rfl) (fun K hK => ?_)
          obtain ⟨hv, _⟩ := hHeld
          obtain ⟨x0, x1, x2, x3, x4, x5, x6⟩ := hv.cells
          have fz := hv.frozen
          go_simp
          refine hK.out _ _ ?_
          try simp only [Act.put, List.setIfInBounds_toArray, List.set_cons_zero, List.set_cons_succ]
          refine wpE_done (by kernel_rfl) ?_ _
          go_wp2_with fail
          go_meet
          exact Lib.hid (FIN.out _ Bq.out)
      · go_simp
        refine hK.out _ _ (hSk.out _ _ hHeld) (fun hHeld => ?_)
        try simp only [Act.put, List.setIfInBounds_toArray, List.set_cons_zero, List.set_cons_succ]
        refine heldE_two (i := 4) (j := 10) (by kernel_rfl) rfl rfl (by rfl) (by rfl) (fun K hK => ?_) (fun K hK => ?_)
        · go_simp
          refine hK.out _ _ (hSk.out _ _ hHeld) (fun hHeld => ?_)
          try simp only [Act.put, List.setIfInBounds_toArray, List.set_cons_zero, List.set_cons_succ]
          refine heldE_two (i := 5) (j := 10) (by kernel_rfl) rfl rfl (by rfl) (by rfl) (fun K hK => ?_) (fun K hK => ?_)
          · go_simp
            refine (or_any e.log v.log _ _ (by go_simp) (by go_simp)).mono ?_
            rintro r wq ⟨rfl, rfl⟩
            refine hK.out _ _ (hHeld) (fun hHeld => ?_)
            try simp only [Act.put, List.setIfInBounds_toArray, List.set_cons_zero, List.set_cons_succ]
            refine heldE_call (i := 10) (by kernel_rfl) rfl (by rfl) (fun K hK => ?_)
            go_simp
            refine hK.out _ _ (hSk.out _ _ hHeld) (fun hHeld => ?_)
            try simp only [Act.put, List.setIfInBounds_toArray, List.set_cons_zero, List.set_cons_succ]
            refine heldE_call (i := 11) (by kernel_rfl) rfl (by rfl) (fun K hK => ?_)
            go_simp
            refine (or_any e.next v.next _ _ (by go_simp) (by go_simp)).mono ?_
            rintro r wq ⟨rfl, rfl⟩
            refine hK.out _ _ (hHeld) (fun hHeld => ?_)
            try simp only [Act.put, List.setIfInBounds_toArray, List.set_cons_zero, List.set_cons_succ]
            refine heldE_call (i := 17) (by kernel_rfl) rfl (by rfl) (fun K hK => ?_)
            go_simp
            refine (or_below e.seq v.seq _ _ (by go_simp) (by go_simp)).mono ?_
            rintro r wq ⟨rfl, hbq⟩
            have Bq : Hid (Below w6.heap.size w6 wq) := Lib.hid (below_of (w := w6) (by repeat first | exact Below.refl _ _ | refine Below.drew ?_ | refine Below.alloc ?_ (by first | (simp; done) | (simp; omega)) _) hbq)
            refine hK.out _ _ (hSB.out _ _ hbq hHeld) (fun hHeld => ?_)
            try simp only [Act.put, List.setIfInBounds_toArray, List.set_cons_zero, List.set_cons_succ]
            refine heldE_take (i := 19) (v := ?_) rfl (by kernel_rfl) (by kernel_rfl) (by kernel_rfl) (fun _ _ _ h => h) (by rfl) (fun w hSw => ?_) (by assumption) ?_; rotate_left 1; focus (((try dsimp only at hSw); first | (go_simp; done) | (go_simp; with_reducible rfl)))
            try simp only [Act.put, List.setIfInBounds_toArray, List.set_cons_zero, List.set_cons_succ]
            refine heldE_last (by kernel_rfl) rfl (by rfl) (fun K hK => ?_)
            obtain ⟨hv, _⟩ := hHeld
            obtain ⟨x0, x1, x2, x3, x4, x5, x6⟩ := hv.cells
            have fz := hv.frozen
            go_simp
            refine hK.out _ _ ?_
            try simp only [Act.put, List.setIfInBounds_toArray, List.set_cons_zero, List.set_cons_succ]
            refine wpE_done (by kernel_rfl) ?_ _
            go_wp2_with fail
            go_meet
            exact Lib.hid (FIN.out _ Bq.out)
          · go_simp
            refine hK.out _ _ (hSk.out _ _ hHeld) (fun hHeld => ?_)
            try simp only [Act.put, List.setIfInBounds_toArray, List.set_cons_zero, List.set_cons_succ]
            refine heldE_call (i := 5) (by kernel_rfl) rfl (by rfl) (fun K hK => ?_)
            go_simp
            refine (or_any e.log v.log _ _ (by go_simp) (by go_simp)).mono ?_
            rintro r wq ⟨rfl, rfl⟩
            refine hK.out _ _ (hHeld) (fun hHeld => ?_)
            try simp only [Act.put, List.setIfInBounds_toArray, List.set_cons_zero, List.set_cons_succ]
            refine heldE_call (i := 11) (by kernel_rfl) rfl (by rfl) (fun K hK => ?_)
            go_simp
            refine (or_any e.next v.next _ _ (by go_simp) (by go_simp)).mono ?_
            rintro r wq ⟨rfl, rfl⟩
            refine hK.out _ _ (hHeld) (fun hHeld => ?_)
            try simp only [Act.put, List.setIfInBounds_toArray, List.set_cons_zero, List.set_cons_succ]
            refine heldE_call (i := 17) (by kernel_rfl) rfl (by rfl) (fun K hK => ?_)
            go_simp
            refine (or_below e.seq v.seq _ _ (by go_simp) (by go_simp)).mono ?_
            rintro r wq ⟨rfl, hbq⟩
            have Bq : Hid (Below w6.heap.size w6 wq) := Lib.hid (below_of (w := w6) (by repeat first | exact Below.refl _ _ | refine Below.drew ?_ | refine Below.alloc ?_ (by first | (simp; done) | (simp; omega)) _) hbq)
            refine hK.out _ _ (hSB.out _ _ hbq hHeld) (fun hHeld => ?_)
            try simp only [Act.put, List.setIfInBounds_toArray, List.set_cons_zero, List.set_cons_succ]
            refine heldE_take (i := 19) (v := ?_) rfl (by kernel_rfl) (by kernel_rfl) (by kernel_rfl) (fun _ _ _ h => h) (by rfl) (fun w hSw => ?_) (by assumption) ?_; rotate_left 1; focus (((try dsimp only at hSw); first | (go_simp; done) | (go_simp; with_reducible rfl)))
            try simp only [Act.put, List.setIfInBounds_toArray, List.set_cons_zero, List.set_cons_succ]
            refine heldE_last (by kernel_rfl) rfl (by rfl) (fun K hK => ?_)
            obtain ⟨hv, _⟩ := hHeld
            obtain ⟨x0, x1, x2, x3, x4, x5, x6⟩ := hv.cells
            have fz := hv.frozen
            go_simp
            refine hK.out _ _ ?_
            try simp only [Act.put, List.setIfInBounds_toArray, List.set_cons_zero, List.set_cons_succ]
            refine wpE_done (by kernel_rfl) ?_ _
            go_wp2_with fail
            go_meet
            exact Lib.hid (FIN.out _ Bq.out)
        · go_simp
          refine hK.out _ _ (hSk.out _ _ hHeld) (fun hHeld => ?_)
          try simp only [Act.put, List.setIfInBounds_toArray, List.set_cons_zero, List.set_cons_succ]
          refine heldE_call (i := 4) (by kernel_rfl) rfl (by rfl) (fun K hK => ?_)
          go_simp
          refine hK.out _ _ (hSk.out _ _ hHeld) (fun hHeld => ?_)
          try simp only [Act.put, List.setIfInBounds_toArray, List.set_cons_zero, List.set_cons_succ]
          refine heldE_call (i := 5) (by kernel_rfl) rfl (by rfl) (fun K hK => ?_)
          go_simp
          refine (or_any e.log v.log _ _ (by go_simp) (by go_simp)).mono ?_
          rintro r wq ⟨rfl, rfl⟩
          refine hK.out _ _ (hHeld) (fun hHeld => ?_)
          try simp only [Act.put, List.setIfInBounds_toArray, List.set_cons_zero, List.set_cons_succ]
          refine heldE_call (i := 11) (by kernel_rfl) rfl (by rfl) (fun K hK => ?_)
          go_simp
          refine (or_any e.next v.next _ _ (by go_simp) (by go_simp)).mono ?_
          rintro r wq ⟨rfl, rfl⟩
          refine hK.out _ _ (hHeld) (fun hHeld => ?_)
          try simp only [Act.put, List.setIfInBounds_toArray, List.set_cons_zero, List.set_cons_succ]
          refine heldE_call (i := 17) (by kernel_rfl) rfl (by rfl) (fun K hK => ?_)
          go_simp
          refine (or_below e.seq v.seq _ _ (by go_simp) (by go_simp)).mono ?_
          rintro r wq ⟨rfl, hbq⟩
          have Bq : Hid (Below w6.heap.size w6 wq) := Lib.hid (below_of (w := w6) (by repeat first | exact Below.refl _ _ | refine Below.drew ?_ | refine Below.alloc ?_ (by first | (simp; done) | (simp; omega)) _) hbq)
          refine hK.out _ _ (hSB.out _ _ hbq hHeld) (fun hHeld => ?_)
          try simp only [Act.put, List.setIfInBounds_toArray, List.set_cons_zero, List.set_cons_succ]
          refine heldE_take (i := 19) (v := ?_) rfl (by kernel_rfl) (by kernel_rfl) (by kernel_rfl) (fun _ _ _ h => h) (by rfl) (fun w hSw => ?_) (by assumption) ?_; rotate_left 1; focus (((try dsimp only at hSw); first | (go_simp; done) | (go_simp; with_reducible rfl)))
          try simp only [Act.put, List.setIfInBounds_toArray, List.set_cons_zero, List.set_cons_succ]
          refine heldE_last (by kernel_rfl) rfl (by rfl) (fun K hK => ?_)
          obtain ⟨hv, _⟩ := hHeld
          obtain ⟨x0, x1, x2, x3, x4, x5, x6⟩ := hv.cells
          have fz := hv.frozen
          go_simp
          refine hK.out _ _ ?_
          try simp only [Act.put, List.setIfInBounds_toArray, List.set_cons_zero, List.set_cons_succ]
          refine wpE_done (by kernel_rfl) ?_ _
          go_wp2_with fail
          go_meet
          exact Lib.hid (FIN.out _ Bq.out)
    case rest =>
      obtain ⟨hv, hz, hb, hl, hf⟩ := hcut.out
      replace hcut := Lib.hid trivial
      have RR := RC2.out wc hl
      obtain ⟨x0, x1, x2, x3, x4, x5, x6⟩ := hv.cells
      by_cases hr : RightP (madeV v e L2)
      · rw [tf_true hr] at RR
        replace RR := Lib.hid RR
        replace hv := Lib.hid hv
        replace hz := Lib.hid hz
        replace hb := Lib.hid hb
        replace hl := Lib.hid hl
        replace hf := Lib.hid hf
        replace hr := Lib.hid hr
        go_wp2_with (go_at_call 14; ((with_reducible refine RR.out.mono ?_); rintro r w9 ⟨rfl, hb9⟩; have B9 := Lib.hid hb9; obtain ⟨y0, y1, y2, y3, y4, y5, y6⟩ := (hv.out.below hb9).cells; obtain ⟨s0, s1, s2, s3, s4, s5, s6⟩ := (hz.out.below hb9).cells; have fz9 := (hz.out.below hb9).frozen; obtain ⟨g0, g1, g2, g3, g4, g5, g6⟩ := ((hz.out.below hb9).put (madeV v e L2) G2).cells; clear hb9))
        have BF := below_verPut (p := w.heap.size + 1 + 1) (below_of hb.out B9.out) (by omega) (madeV v e L2) G2
        refine bodyPost_ret (v := .tuple #[verV (madeV v e L2) G2, .int .i64 0]) (by simp [results, Try.results8, go_sem, g0, g1, g2, g3, g4, g5, g6]) rfl ⟨BF, .inr (.inr (.inl ⟨rfl, rfl, hr.out, G2, rfl, fun i hi => ?_, (hf.out.below B9.out).keep (fun k h1 _ => heap_verPut (by omega)) (by rw [size_verPut]; exact Nat.le_refl _)⟩))⟩
        have m := (hl.out i hi).below B9.out
        exact ⟨m.sl.keep (fun h0 => heap_verPut ((hz.out.below B9.out).nems m h0)) (by rw [size_verPut]; exact Nat.le_refl _), m.none'⟩
      · rw [tf_false hr] at RR
        replace RR := Lib.hid RR
        clear hf
        replace hz := Lib.hid hz
        replace hb := Lib.hid hb
        replace hr := Lib.hid hr
        go_wp2_with (go_at_call 14; ((with_reducible refine RR.out.mono ?_); rintro r w9 ⟨rfl, hb9⟩; have B9 := Lib.hid hb9; obtain ⟨s0, s1, s2, s3, s4, s5, s6⟩ := (hz.out.below hb9).cells; have fz9 := (hz.out.below hb9).frozen; obtain ⟨g0, g1, g2, g3, g4, g5, g6⟩ := zput_cells (hz.out.below hb9); clear hb9))
        refine bodyPost_ret (v := .tuple #[zV, .int .i64 11]) (by simp [results, Try.results8, go_sem, g0, g1, g2, g3, g4, g5, g6]) rfl ⟨below_zPut (p := w.heap.size + 1 + 1) (below_of hb.out B9.out) (by omega), .inr (.inr (.inr ⟨rfl, rfl, hr.out, rfl⟩))⟩
end Go.Proofs.Ytnmjfdejgfmoiaa
