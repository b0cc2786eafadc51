/-
  EditApply: any edit of any version makes what the document says, or is refused with the right error, and leaves both as they were. Condition: at most 80 tables a level, 300 in each of the edit's lists (the law's own).
-/
import Derived.Test.YtnmjfdejgfmoiaaPack19
import Derived.Deep.MidRow
namespace Go.Proofs.Ytnmjfdejgfmoiaa
set_option maxRecDepth 100000
open Go Go.RowKit
structure VeJ (v : Vr) (H : Nat → Hd) (e : Ed) (hg ha : Hd) (w wr : World) : Prop where
  x : VerB w.heap.size v H wr
  y : EdB (w.heap.size + 1) e hg ha wr
  f : Below w.heap.size w wr
theorem VeJ.below {v : Vr} {H : Nat → Hd} {e : Ed} {hg ha : Hd} {w wr u : World} (h : VeJ v H e hg ha w wr) (hb : Below wr.heap.size wr u) : VeJ v H e hg ha w u := ⟨h.x.below hb, h.y.below hb, below_of h.f hb⟩
theorem VeJ.new (v : Vr) (H : Nat → Hd) (e : Ed) (hg ha : Hd) (w : World) : VeJ v H e hg ha w ((w.alloc (verO v H)).alloc (edO e hg ha)) := by
  refine ⟨(VerB.new v H w).below (below_alloc _ _), ?_, (below_alloc w _).alloc (by simp) _⟩
  have := EdB.new e hg ha (w.alloc (verO v H))
  rwa [World.size_alloc] at this
/-- What both Apply come to: the same errno, and the same version. -/
theorem both_apply (v : Vr) (e : Ed) (hI : VrIn v) (iE : EdIn e) : ∃ (c : Nat) (x : Vr),
    (∀ (K : Nat → Hd) (hg ha : Hd) (u : World), VrAt v K u → EdAt e hg ha u → hg.n ≤ 1000 → ha.n ≤ 1000 → Calls Try.prog 8 #[verV v K, edV e hg ha] u fun r u' => (∃ G, r = .returned (.tuple #[verV x G, .int .i64 (c : Int)]) ∧ VrAt x G u' ∧ FrL u.heap.size G u') ∧ Below u.heap.size u u') ∧
    (∀ (K : Nat → Hd) (hg ha : Hd) (u : World), VrAt v K u → EdAt e hg ha u → hg.n ≤ 1000 → ha.n ≤ 1000 → Calls Try.prog 9 #[verV v K, edV e hg ha] u fun r u' => (∃ y G, r = .returned (.tuple #[verV y G, .int .i64 (c : Int)]) ∧ VrAt y G u' ∧ SameV x y) ∧ Below u.heap.size u u') := by
  have zz : SameV zeroV zeroV := ⟨rfl, rfl, rfl, fun _ _ => rfl⟩
  have za : ∀ u, VrAt zeroV noHd u := fun u i hi => Ms.nil u
  have zf : ∀ N u, FrL N noHd u := fun N u i hi j hj => absurd hj (by show ¬ j < 0 * 7; omega)
  have fm : ∀ {N M : Nat} {G : Nat → Hd} {u : World}, N ≤ M → FrL M G u → FrL N G u := fun h1 h2 i hi j hj => ⟨Nat.le_trans h1 (h2 i hi j hj).1, (h2 i hi j hj).2⟩
  by_cases hA : ArgP v e
  · refine ⟨2, zeroV, fun K hg ha u hM hE _ _ => ?_, fun K hg ha u hM hE h1 h2 => ?_⟩
    · refine (apply_arg hM (fun i hi x hx => (hI.2.2.2 i hi x hx).1) hE hA).mono ?_
      rintro r u' ⟨rfl, hb⟩
      exact ⟨⟨noHd, rfl, za _, zf _ _⟩, hb⟩
    · refine (rapply_any hM hI hE iE h1 h2).mono ?_
      rintro r u' ⟨⟨_, rfl⟩ | ⟨h, _⟩, hb⟩
      · exact ⟨⟨zeroV, noHd, rfl, za _, zz⟩, hb⟩
      · exact absurd hA h
  have AP := fun (K : Nat → Hd) (hg ha : Hd) (u : World) hM hE h1 h2 => apply_yes (v := v) (H := K) (e := e) (hg := hg) (ha := ha) (w := u) hM hI hE iE hA h1 h2
  have RP := fun (K : Nat → Hd) (hg ha : Hd) (u : World) hM hE h1 h2 => rapply_any (v := v) (H := K) (e := e) (hg := hg) (ha := ha) (w := u) hM hI hE iE h1 h2
  by_cases h1 : NoneP v e
  rotate_left 1
  · refine ⟨4, zeroV, fun K hg ha u hM hE b1 b2 => (AP K hg ha u hM hE b1 b2).mono ?_, fun K hg ha u hM hE b1 b2 => (RP K hg ha u hM hE b1 b2).mono ?_⟩
    · rintro r u' ⟨hb, ⟨_, rfl⟩ | ⟨h, _⟩ | ⟨h, _⟩ | ⟨h, _⟩⟩
      · exact ⟨⟨noHd, rfl, za _, zf _ _⟩, hb⟩
      · rw [tf_false h1] at h; cases h
      · rw [tf_false h1] at h; cases h
      · rw [tf_false h1] at h; cases h
    · rintro r u' ⟨⟨h, _⟩ | ⟨_, ⟨_, rfl⟩ | ⟨h, _⟩ | ⟨h, _⟩⟩, hb⟩
      · exact absurd h hA
      · exact ⟨⟨zeroV, noHd, rfl, za _, zz⟩, hb⟩
      · exact absurd h h1
      · exact absurd h h1
  by_cases h2 : ThereP v e
  rotate_left 1
  · refine ⟨5, zeroV, fun K hg ha u hM hE b1 b2 => (AP K hg ha u hM hE b1 b2).mono ?_, fun K hg ha u hM hE b1 b2 => (RP K hg ha u hM hE b1 b2).mono ?_⟩
    · rintro r u' ⟨hb, ⟨h, _⟩ | ⟨_, _, rfl⟩ | ⟨_, h, _⟩ | ⟨_, h, _⟩⟩
      · rw [tf_true h1] at h; cases h
      · exact ⟨⟨noHd, rfl, za _, zf _ _⟩, hb⟩
      · rw [tf_false h2] at h; cases h
      · rw [tf_false h2] at h; cases h
    · rintro r u' ⟨⟨h, _⟩ | ⟨_, ⟨h, _⟩ | ⟨_, _, rfl⟩ | ⟨_, h, _⟩⟩, hb⟩
      · exact absurd h hA
      · exact absurd h1 h
      · exact ⟨⟨zeroV, noHd, rfl, za _, zz⟩, hb⟩
      · exact absurd h h2
  by_cases h3 : RightP (madeV v e (newLv v e))
  · refine ⟨0, madeV v e (newLv v e), fun K hg ha u hM hE b1 b2 => (AP K hg ha u hM hE b1 b2).mono ?_, fun K hg ha u hM hE b1 b2 => (RP K hg ha u hM hE b1 b2).mono ?_⟩
    · rintro r u' ⟨hb, ⟨h, _⟩ | ⟨_, h, _⟩ | ⟨_, _, _, G, rfl, k1, k2⟩ | ⟨_, _, h, _⟩⟩
      · rw [tf_true h1] at h; cases h
      · rw [tf_true h2] at h; cases h
      · exact ⟨⟨G, rfl, k1, fm (by omega) k2⟩, hb⟩
      · exact absurd h3 h
    · rintro r u' ⟨⟨h, _⟩ | ⟨_, ⟨h, _⟩ | ⟨_, h, _⟩ | ⟨_, _, M, hP, ⟨hr, G, rfl, k1⟩ | ⟨hr, _⟩⟩⟩, hb⟩
      · exact absurd h hA
      · exact absurd h1 h
      · exact absurd h2 h
      · exact ⟨⟨_, G, rfl, k1, (put_same hP).2 hr⟩, hb⟩
      · exact absurd ((put_same hP).1.2 h3) hr
  · refine ⟨11, zeroV, fun K hg ha u hM hE b1 b2 => (AP K hg ha u hM hE b1 b2).mono ?_, fun K hg ha u hM hE b1 b2 => (RP K hg ha u hM hE b1 b2).mono ?_⟩
    · rintro r u' ⟨hb, ⟨h, _⟩ | ⟨_, h, _⟩ | ⟨_, _, h, _⟩ | ⟨_, _, _, rfl⟩⟩
      · rw [tf_true h1] at h; cases h
      · rw [tf_true h2] at h; cases h
      · exact absurd h h3
      · exact ⟨⟨noHd, rfl, za _, zf _ _⟩, hb⟩
    · rintro r u' ⟨⟨h, _⟩ | ⟨_, ⟨h, _⟩ | ⟨_, h, _⟩ | ⟨_, _, M, hP, ⟨hr, _⟩ | ⟨_, rfl⟩⟩⟩, hb⟩
      · exact absurd h hA
      · exact absurd h1 h
      · exact absurd h2 h
      · exact absurd ((put_same hP).1.1 hr) h3
      · exact ⟨⟨zeroV, noHd, rfl, za _, zz⟩, hb⟩
/-- What stands while the new version's tables are wiped out: N: where the copy's memory ends; M: the box of the new version. -/
structure LwI (v : Vr) (H K G : Nat → Hd) (x : Vr) (b5 N M : Nat) (w wr : World) : Prop where
  a : VerB w.heap.size v H wr
  o : VerB b5 v K wr
  g : VerB M x G wr
  f : Below w.heap.size w wr
  cp : ∀ i, i < 4 → Cp (K i) (v.lv i) wr ∧ (K i).b < N
  wp : ∀ i, i < 4 → ∀ j, j < (G i).n * 7 → N ≤ (G i).b ∧ (G i).b < M ∧ (G i).a = some ⟨(G i).b, (G i).o, none⟩ ∧ (wr.cell? ⟨(G i).b, (G i).o + j, none⟩).isSome = true ∧ wr.frozen? ⟨(G i).b, (G i).o + j, none⟩ = false
  lo : w.heap.size < b5 ∧ b5 < N
section
variable {v : Vr} {H K G : Nat → Hd} {x : Vr} {b5 N M : Nat} {w wr : World}
theorem LwI.below {u : World} (h : LwI v H K G x b5 N M w wr) (hb : Below wr.heap.size wr u) : LwI v H K G x b5 N M w u := by
  refine ⟨h.a.below hb, h.o.below hb, h.g.below hb, below_of h.f hb, fun i hi => ⟨(h.cp i hi).1.below hb, (h.cp i hi).2⟩, fun i hi j hj => ?_, h.lo⟩
  obtain ⟨h1, h2, h3, h4, h5⟩ := h.wp i hi j hj
  have hl := h.g.lt
  have e : u.heap[(G i).b]? = wr.heap[(G i).b]? := hb.block _ (by omega)
  refine ⟨h1, h2, h3, ?_, ?_⟩
  · simp only [World.cell?, e] at h4 ⊢; exact h4
  · simp only [World.frozen?, e] at h5 ⊢; exact h5
theorem LwI.put (h : LwI v H K G x b5 N M w wr) {b y : Nat} (hN : N ≤ b) (hM : b < M) (z : Value) : LwI v H K G x b5 N M w (wr.setCell ⟨b, y, none⟩ z) := by
  have hlo := h.lo
  have oth : ∀ k, k ≠ b → (wr.setCell ⟨b, y, none⟩ z).heap[k]? = wr.heap[k]? := fun k hk => heap_setCell_other _ _ _ _ hk
  refine ⟨(oth _ (by omega)).trans h.a, (oth _ (by omega)).trans h.o, (oth _ (by omega)).trans h.g, h.f.setCell (p := ⟨b, y, none⟩) (by show w.heap.size ≤ b; omega) _, fun i hi => ⟨(h.cp i hi).1.keep (oth _ (by have := (h.cp i hi).2; omega)), (h.cp i hi).2⟩, fun i hi j hj => ?_, h.lo⟩
  obtain ⟨h1, h2, h3, h4, h5⟩ := h.wp i hi j hj
  exact ⟨h1, h2, h3, (show ((wr.setCells b y [z]).cell? _).isSome = true from World.isSome_setCells b [z] y wr _ h4), (World.frozen?_setCell _ _ _ _).trans h5⟩
end
set_option maxRecDepth 100000 in
set_option maxHeartbeats 16000000 in
theorem apply_walk (v : Vr) (H : Nat → Hd) (e : Ed) (hg ha : Hd) (w : World) (hM : VrAt v H w) (hI : VrIn v) (hE : EdAt e hg ha w) (iE : EdIn e) :
    Calls Try.prog 3 #[verV v H, edV e hg ha] w fun r w' => r = .returned (.bool true) ∧ Below w.heap.size w w' := by
  have AW := Lib.hid (fun u => eawake_any u)
  have MX := Lib.hid (fun u => many_any v H u)
  have LX := Lib.hid (fun u => long_any e hg ha u)
  have T0 := Lib.hid (VeJ.new v H e hg ha w)
  obtain ⟨c0, c1, c2, c3, c4, c5, c6⟩ := T0.out.x.cells
  by_cases m1 : FewP H
  rotate_left 1
  · rw [tf_true m1] at MX
    clear m1 hM hI hE iE
    go_enter Try.func3, Try.ntmps3
    go_wp2_with (first
      | (go_at_call 4; ((with_reducible refine (MX.out _).mono ?_); rintro r w1 ⟨rfl, hb1⟩; have B1 := Lib.hid (below_of T0.out.f hb1); clear hb1))
      | (go_at_call 6; ((with_reducible refine (AW.out _).mono ?_); rintro r w2 ⟨rfl, hb2⟩; have B2 := Lib.hid (below_of B1.out hb2); clear hb2)))
    go_returns
    exact ⟨rfl, B2.out⟩
  rw [tf_false (fun h => h m1)] at MX
  by_cases m2 : hg.n ≤ 300 ∧ ha.n ≤ 300
  rotate_left 1
  · rw [tf_true m2] at LX
    clear m1 m2 hM hI hE iE
    go_enter Try.func3, Try.ntmps3
    go_wp2_with (first
      | (go_at_call 4; ((with_reducible refine (MX.out _).mono ?_); rintro r w1 ⟨rfl, hb1⟩; have T1 := Lib.hid (T0.out.below hb1); obtain ⟨d0, d1, d2, d3, d4⟩ := T1.out.y.cells; clear hb1))
      | (go_at_call 5; ((with_reducible refine (LX.out _).mono ?_); rintro r w1' ⟨rfl, hb1⟩; have B1 := Lib.hid (below_of T1.out.f hb1); clear hb1))
      | (go_at_call 6; ((with_reducible refine (AW.out _).mono ?_); rintro r w2 ⟨rfl, hb2⟩; have B2 := Lib.hid (below_of B1.out hb2); clear hb2)))
    go_returns
    exact ⟨rfl, B2.out⟩
  rw [tf_false (fun h => h m2)] at LX
  have h80 : ∀ i, i < 4 → (H i).n ≤ 80 := m1
  obtain ⟨c, x, PA, RA⟩ := both_apply v e hI iE
  have CC := Lib.hid (fun u (hu : Below w.heap.size w u) => copy_any (hM.below hu) h80)
  have KC := Lib.hid (fun u (hu : Below w.heap.size w u) (Kc : Nat → Hd) (hK : ∀ i, i < 4 → Cp (Kc i) (v.lv i) u) => kept_any (hM.below hu) hK h80)
  have AC := Lib.hid (fun u (hu : Below w.heap.size w u) (Kc : Nat → Hd) (hK : VrAt v Kc u) => PA Kc hg ha u hK (hE.below hu) (by omega) (by omega))
  have RC := Lib.hid (fun u (hu : Below w.heap.size w u) => RA H hg ha u (hM.below hu) (hE.below hu) (by omega) (by omega))
  clear m1 m2 h80 hM hI hE iE PA RA
  have hcc : ((c : Int) != (c : Int)) = false := by simp
  go_enter Try.func3, Try.ntmps3
  go_upto_region 4 with (first
    | (go_at_call 4; ((with_reducible refine (MX.out _).mono ?_); rintro r w1 ⟨rfl, hb1⟩; have T1 := Lib.hid (T0.out.below hb1); obtain ⟨d0, d1, d2, d3, d4⟩ := T1.out.y.cells; clear hb1))
    | (go_at_call 5; ((with_reducible refine (LX.out _).mono ?_); rintro r w2 ⟨rfl, hb1⟩; have T2 := Lib.hid (T1.out.below hb1); obtain ⟨x0, x1, x2, x3, x4, x5, x6⟩ := T2.out.x.cells; clear hb1))
    | (go_at_call 7; ((with_reducible refine (CC.out _ T2.out.f).mono ?_); rintro r w3 ⟨⟨Kc, rfl, hK⟩, hb3⟩; have T3 := Lib.hid ((T2.out.below hb3).below (below_alloc w3 (verO v Kc))); have O3 := Lib.hid (VerB.new v Kc w3); have K3 := Lib.hid (fun i (hi : i < 4) => (⟨(hK i hi).below (below_alloc w3 (verO v Kc)), (hK i hi).lt⟩ : Cp (Kc i) (v.lv i) (w3.alloc (verO v Kc)) ∧ (Kc i).b < w3.heap.size)); have lt3 : Hid (w.heap.size < w3.heap.size) := Lib.hid (by have := (T2.out.below hb3).x.lt; exact this); clear hb3 hK)))
  obtain ⟨b5, hb5⟩ := named w3.heap.size
  have N3 : Hid ((w3.alloc (verO v Kc)).heap.size = b5 + 1) := Lib.hid (by rw [World.size_alloc, hb5.out])
  obtain ⟨u3, hu3⟩ := named (w3.alloc (verO v Kc))
  rw [← hu3.out] at T3 O3 K3 N3
  rw [← hb5.out] at O3 K3 lt3
  rw [← hu3.out, ← hb5.out]
  replace hu3 := Lib.hid trivial
  replace hb5 := Lib.hid trivial
  clear T0 T1 T2 c0 c1 c2 c3 c4 c5 c6 d0 d1 d2 d3 d4 x0 x1 x2 x3 x4 x5 x6 MX LX CC
  obtain ⟨c0, c1, c2, c3, c4, c5, c6⟩ := O3.out.cells
  obtain ⟨d0, d1, d2, d3, d4⟩ := T3.out.y.cells
  go_upto_region 5 with (go_at_call 8; fail)
  have ZA := AC.out _ T3.out.f Kc (fun i hi => (K3.out i hi).1.ms)
  with_reducible refine ZA.mono ?_
  clear ZA
  rintro r w4 ⟨⟨G, rfl, hG, hF⟩, hb4⟩
  have T4 := Lib.hid ((T3.out.below hb4).below (below_alloc w4 (verO x G)))
  have O4 := Lib.hid ((O3.out.below hb4).below (below_alloc w4 (verO x G)))
  have G4 := Lib.hid (VerB.new x G w4)
  have M4 := Lib.hid (VrAt.below hG (below_alloc w4 (verO x G)))
  have F4 := Lib.hid hF
  have K4 := Lib.hid (fun i (hi : i < 4) => (⟨((K3.out i hi).1.below hb4).below (below_alloc w4 (verO x G)), (K3.out i hi).2⟩ : Cp (Kc i) (v.lv i) (w4.alloc (verO x G)) ∧ (Kc i).b < b5))
  clear hb4 hG hF
  go_upto_region 5 with fail
  have L4 : Hid (LwI v H Kc G x b5 u3.heap.size w4.heap.size w (w4.alloc (verO x G))) := Lib.hid ⟨T4.out.x, O4.out, G4.out, T4.out.f, fun i hi => ⟨(K4.out i hi).1, by have := (K4.out i hi).2; have := N3.out; omega⟩, fun i hi j hj => by
    obtain ⟨f1, f2, f3⟩ := F4.out i hi j hj
    have hn : 0 < (G i).n := by omega
    have m := M4.out i hi
    have hj7 : j / 7 < (x.lv i).length := by rw [m.len]; omega
    have hm7 : j % 7 < 7 := Nat.mod_lt _ (by decide)
    have hc := m.sl.at' (j / 7) _ (List.getElem?_eq_getElem hj7) (j % 7) ((cellsM (x.lv i)[j / 7])[j % 7]'(by show j % 7 < 7; exact hm7)) (List.getElem?_eq_getElem _)
    rw [show (G i).o + j / 7 * 7 + j % 7 = (G i).o + j by omega] at hc
    refine ⟨f1, f2, (m.sl.addr hn).1, by rw [hc]; rfl, ?_⟩
    have e2 : (w4.alloc (verO x G)).heap[(G i).b]? = w4.heap[(G i).b]? := (below_alloc w4 (verO x G)).block _ f2
    simp only [World.frozen?, e2] at f3 ⊢
    exact f3, ⟨lt3.out, by have := N3.out; omega⟩⟩
  have hGc : Hid (∀ i, i < 4 → (G i).n ≤ (G i).c ∧ (G i).c ≤ 9223372036854775807) := Lib.hid (fun i hi => ⟨(M4.out i hi).sl.cap, (M4.out i hi).sl.most⟩)
  obtain ⟨b6, hb6⟩ := named w4.heap.size
  obtain ⟨N, hN⟩ := named u3.heap.size
  obtain ⟨u4, hu4⟩ := named (w4.alloc (verO x G))
  rw [← hu4.out, ← hb6.out, ← hN.out] at L4
  rw [← hu4.out] at T4 M4
  rw [← hu4.out, ← hb6.out]
  replace hu4 := Lib.hid trivial
  replace hb6 := Lib.hid trivial
  replace hN := Lib.hid trivial
  clear T3 O3 K3 N3 O4 G4 F4 K4 lt3 AC c0 c1 c2 c3 c4 c5 c6 d0 d1 d2 d3 d4
  obtain ⟨c0, c1, c2, c3, c4, c5, c6⟩ := L4.out.a.cells
  obtain ⟨d0, d1, d2, d3, d4⟩ := T4.out.y.cells
  go_upto_region 6 with (go_at_call 9; fail)
  have ZA := RC.out _ T4.out.f
  with_reducible refine ZA.mono ?_
  clear ZA
  rintro r w5 ⟨⟨y, Gy, rfl, hG, hS⟩, hb⟩
  have L5 := Lib.hid ((L4.out.below hb).below (below_alloc w5 (verO y Gy)))
  have Y5 := Lib.hid (VerB.new y Gy w5)
  have M5 := Lib.hid (VrAt.below hG (below_alloc w5 (verO y Gy)))
  have X5 := Lib.hid (VrAt.below (VrAt.below M4.out hb) (below_alloc w5 (verO y Gy)))
  have S5 := Lib.hid hS
  clear hb hG hS
  go_upto_region 6 with fail
  obtain ⟨b8, hb8⟩ := named w5.heap.size
  obtain ⟨u5, hu5⟩ := named (w5.alloc (verO y Gy))
  rw [← hu5.out] at L5 Y5 M5 X5
  rw [← hb8.out] at Y5
  rw [← hu5.out, ← hb8.out]
  replace hu5 := Lib.hid trivial
  replace hb8 := Lib.hid trivial
  clear L4 T4 M4 RC c0 c1 c2 c3 c4 c5 c6 d0 d1 d2 d3 d4
  have SM := rsame_any X5.out M5.out
  rw [tf_true S5.out] at SM
  replace SM := Lib.hid SM
  obtain ⟨c0, c1, c2, c3, c4, c5, c6⟩ := L5.out.g.cells
  obtain ⟨d0, d1, d2, d3, d4, d5, d6⟩ := Y5.out.cells
  clear S5 X5 M5
  go_upto_region 8 with (first
    | (go_at_call 10; ((with_reducible refine SM.out.mono ?_); rintro r w6 ⟨rfl, hb⟩; have L6 := Lib.hid (L5.out.below hb); obtain ⟨x0, x1, x2, x3, x4, x5, x6⟩ := L6.out.o.cells; obtain ⟨y0, y1, y2, y3, y4, y5, y6⟩ := L6.out.a.cells; clear hb))
    | (go_at_call 11; ((with_reducible refine (KC.out _ L6.out.f Kc (fun i hi => (L6.out.cp i hi).1)).mono ?_); rintro r w7 ⟨rfl, hb⟩; have L7 := Lib.hid (L6.out.below hb); clear hb)))
  clear c0 c1 c2 c3 c4 c5 c6 d0 d1 d2 d3 d4 d5 d6 x0 x1 x2 x3 x4 x5 x6 y0 y1 y2 y3 y4 y5 y6 SM Y5 L5 L6 hcc
  go_wp2_with fail
  go_loopw [10] (fun iv wr => ∃ j : Nat, j ≤ 4 ∧ iv = .int .i64 (j : Int) ∧ Hid (LwI v H Kc G x b5 N b6 w wr)) (fun iv _ => 4 - (intOf iv).toNat)
  case atStart => exact ⟨0, Nat.zero_le _, rfl, L7⟩
  case round =>
    clear L7
    obtain ⟨j, hj4, rfl, hL⟩ := hrel
    by_cases hlt : j < 4
    · have i0 : (j : Int) < 4 := by omega
      have i1 : (0 : Int) ≤ (j : Int) := by omega
      have i2 : ¬ (j : Int) < 0 := by omega
      have LV := Lib.hid (fun (u : World) (hu : LwI v H Kc G x b5 N b6 w u) => hu.g.lev hlt)
      have hcap := hGc.out j hlt
      have ST := Lib.hid (fun (u : World) (hu : LwI v H Kc G x b5 N b6 w u) (k : Nat) (hk : k < (G j).n) => (by
        have q := fun t (ht : t < 7) => hu.wp j hlt (k * 7 + t) (by omega)
        have q0 := q 0 (by omega)
        have hs := fun t (ht : t < 7) => Option.isSome_iff_exists.1 (q t ht).2.2.2.1
        have hf := fun t (ht : t < 7) => (q t ht).2.2.2.2
        simp only [← Nat.add_assoc] at hs hf
        have hs0 := hs 0 (by omega)
        have hf0 := hf 0 (by omega)
        rw [Nat.add_zero] at hs0 hf0
        exact ⟨q0.2.2.1, q0.1, q0.2.1, hs0, hs 1 (by omega), hs 2 (by omega), hs 3 (by omega), hs 4 (by omega), hs 5 (by omega), hs 6 (by omega), hf0, hf 1 (by omega), hf 2 (by omega), hf 3 (by omega), hf 4 (by omega), hf 5 (by omega), hf 6 (by omega)⟩ :
        (G j).a = some ⟨(G j).b, (G j).o, none⟩ ∧ N ≤ (G j).b ∧ (G j).b < b6 ∧ (∃ z, u.cell? ⟨(G j).b, (G j).o + k * 7, none⟩ = some z) ∧ (∃ z, u.cell? ⟨(G j).b, (G j).o + k * 7 + 1, none⟩ = some z) ∧ (∃ z, u.cell? ⟨(G j).b, (G j).o + k * 7 + 2, none⟩ = some z) ∧ (∃ z, u.cell? ⟨(G j).b, (G j).o + k * 7 + 3, none⟩ = some z) ∧ (∃ z, u.cell? ⟨(G j).b, (G j).o + k * 7 + 4, none⟩ = some z) ∧ (∃ z, u.cell? ⟨(G j).b, (G j).o + k * 7 + 5, none⟩ = some z) ∧ (∃ z, u.cell? ⟨(G j).b, (G j).o + k * 7 + 6, none⟩ = some z) ∧ u.frozen? ⟨(G j).b, (G j).o + k * 7, none⟩ = false ∧ u.frozen? ⟨(G j).b, (G j).o + k * 7 + 1, none⟩ = false ∧ u.frozen? ⟨(G j).b, (G j).o + k * 7 + 2, none⟩ = false ∧ u.frozen? ⟨(G j).b, (G j).o + k * 7 + 3, none⟩ = false ∧ u.frozen? ⟨(G j).b, (G j).o + k * 7 + 4, none⟩ = false ∧ u.frozen? ⟨(G j).b, (G j).o + k * 7 + 5, none⟩ = false ∧ u.frozen? ⟨(G j).b, (G j).o + k * 7 + 6, none⟩ = false))
      obtain ⟨⟨ga, gn, gc, gb, go⟩, hk⟩ := named (G j)
      rw [← hk.out] at LV ST hcap
      simp only at LV ST hcap
      obtain ⟨hc1, hc2⟩ := hcap
      replace hk := Lib.hid trivial
      go_wp2_with fail
      go_loopw [11] (fun kv wr => ∃ k : Nat, k ≤ gn ∧ kv = .int .i64 (k : Int) ∧ Hid (LwI v H Kc G x b5 N b6 w wr)) (fun kv _ => gn - (intOf kv).toNat)
      case atStart => exact ⟨0, Nat.zero_le _, rfl, hL⟩
      case round =>
        clear hL
        obtain ⟨k, hkn, rfl, hL⟩ := hrel
        have lev := LV.out _ hL.out
        by_cases hkl : k < gn
        · have k0 : (k : Int) < (gn : Int) := by omega
          have k1 : (0 : Int) ≤ (k : Int) := by omega
          obtain ⟨rfl, hN1, hM1, ⟨z0, s0⟩, ⟨z1, s1⟩, ⟨z2, s2⟩, ⟨z3, s3⟩, ⟨z4, s4⟩, ⟨z5, s5⟩, ⟨z6, s6⟩, f0, f1, f2, f3, f4, f5, f6⟩ := ST.out _ hL.out k hkl
          have L9 := Lib.hid (fun a0 a1 a2 a3 a4 a5 a6 => ((((((hL.out.put (y := go + k * 7) hN1 hM1 a0).put (y := go + k * 7 + 1) hN1 hM1 a1).put (y := go + k * 7 + 2) hN1 hM1 a2).put (y := go + k * 7 + 3) hN1 hM1 a3).put (y := go + k * 7 + 4) hN1 hM1 a4).put (y := go + k * 7 + 5) hN1 hM1 a5).put (y := go + k * 7 + 6) hN1 hM1 a6)
          clear hN1 hM1
          go_wp2_with fail
          go_roundw
          case rel => exact ⟨k + 1, by omega, by go_num, Lib.hid (L9.out _ _ _ _ _ _ _)⟩
          case measure => simp [intOf]; omega
        obtain rfl : k = gn := by omega
        have k0 : ¬ (k : Int) < (k : Int) := by omega
        go_wp2_with fail
        go_roundw
        case rel => exact ⟨j + 1, by omega, by go_num, hL⟩
        case measure => simp [intOf]; omega
    obtain rfl : j = 4 := by omega
    have i0 : ¬ ((4 : Nat) : Int) < 4 := by omega
    obtain ⟨x0, x1, x2, x3, x4, x5, x6⟩ := hL.out.o.cells
    obtain ⟨y0, y1, y2, y3, y4, y5, y6⟩ := hL.out.a.cells
    go_wp2_with (first
      | (go_at_call 11; ((with_reducible refine (KC.out _ hL.out.f Kc (fun i hi => (hL.out.cp i hi).1)).mono ?_); rintro r w7 ⟨rfl, hb⟩; have B7 := Lib.hid (below_of hL.out.f hb); clear hb))
      | (go_at_call 6; ((with_reducible refine (AW.out _).mono ?_); rintro r w2 ⟨rfl, hb2⟩; have B9 := Lib.hid (below_of B7.out hb2); clear hb2)))
    go_returns
    exact ⟨rfl, B9.out⟩
--LAW freshetlaw14.EditApply apply_walk ver:v edit:e
--BEGIN
namespace EditApplyProof
open Go.ChangeShapes Go.WideShapes Go.ChangeAt Go.RowKit
open Go.ChangeMaps (open_string shut_string)
theorem own : ownKnob Try.prog.godebug = none := by kernel_rfl
set_option maxRecDepth 100000 in
theorem lifted (os : Os) (started : os.Started) (H : Type) (enc : TypeId × Value → H) :
    ReturnsInHanded {} Try.checked os 3 .any (Rows.editApplySpec.pre6 enc Try.prog Try.f3 Rows.editApplyRow.domain false) (Rows.editApplySpec.post enc Try.prog Try.f3 false true false false) := by
  refine returnsInHanded_of_change_sized (C := Try.checked) own started (by kernel_rfl) Try.func3
    (ChangeSpec.witness6 (enc := enc) (C := Try.checked) false ⟨#[], #[.agg #[.int .u64 0, .int .u64 0, .int .u64 0, .slice none 0 0, .slice none 0 0, .slice none 0 0, .slice none 0 0], .agg #[.int .u64 0, .int .u64 0, .int .u64 0, .slice none 0 0, .slice none 0 0]], []⟩ 8 (by kernel_rfl) (by kernel_rfl) (by kernel_rfl) (by kernel_rfl)) ?_
  intro W base args ds gs before hval0 hW _ hsz _
  have hval : ∀ (j : Nat) t v, Try.f3.params[j]? = some t → args[j]? = some v → Value.okWide Try.prog W .any base t v := hval0
  have hW' := hW
  obtain ⟨p, q, hA0, hV, rfl, hfz, hnd⟩ := hW
  have hA : DataW.TrodAll enc Try.prog W 0 (fun _ => true) true Try.f3.params.toList args.toList ds p := hA0
  rw [Try.params3] at hA hval hsz
  obtain ⟨v0, vs0, d0, ds0, p0, q0, hargs, rfl, rfl, h0, r0⟩ := trodAll_cons hA
  obtain ⟨v1, vs1, d1, ds1, p1, q1, rfl, rfl, rfl, h1, r1⟩ := trodAll_cons r0
  obtain ⟨rfl, rfl, rfl⟩ := trodAll_nil r1
  obtain rfl : args = #[v0, v1] := by cases args; simp_all
  obtain ⟨rfl, rfl⟩ := trodVars_none hV
  have k0 := h0
  obtain ⟨v, hh0, rfl, ia0, im0⟩ := open_ver (hval 0 26 v0 rfl rfl) h0 hsz (j := 0) rfl rfl
  have lt0 : ∀ x ∈ p0, x.block < W.heap.size := fun x hx => hW'.lt x (by simp only [List.mem_append]; simp [hx])
  have k1 := h1
  obtain ⟨e, hg1, ha1, rfl, ia1, im1⟩ := open_ed (hval 1 30 v1 rfl rfl) h1 hsz (j := 1) rfl rfl
  have lt1 : ∀ x ∈ p1, x.block < W.heap.size := fun x hx => hW'.lt x (by simp only [List.mem_append]; simp [hx])
  clear hA0 hval0
  simp only [List.append_nil] at hW'
  refine (apply_walk v hh0 e hg1 ha1 W ia0 im0 ia1 im1).mono fun e W' ⟨he, hg⟩ => ?_
  subst he
  exact ⟨_, rfl, _, _, _, [], _, [], hW', (trodAll_cons_mk (shut_bool Try.underlying4 _) trodAll_mk0), (trodAll_cons_mk (Below.trod laid_out (by kernel_rfl) (of_decide_eq_true (by kernel_rfl)) k0 hg lt0) (trodAll_cons_mk (Below.trod laid_out (by kernel_rfl) (of_decide_eq_true (by kernel_rfl)) k1 hg lt1) trodAll_mk0)), rfl, hg.frame _, fun h => by cases h⟩
theorem holds : Rows.EditApplySaid :=
  OpenClaim.holds_of_wide 3 Try.f3 rfl rfl rfl rfl rfl rfl rfl ⟨rfl, rfl, rfl, rfl, rfl⟩ rfl rfl rfl rfl rfl (by kernel_rfl) Try.func3 (by kernel_rfl)
    (of_decide_eq_true (by kernel_rfl)) (by unfold Func.isWrapper; first | (rw [if_pos (by decide +kernel)]; kernel_rfl) | (rw [if_neg (by decide +kernel)]; exact ⟨rfl, rfl⟩))
    (fun os started H enc _ => lifted os started H enc)
end EditApplyProof
--END
end Go.Proofs.Ytnmjfdejgfmoiaa
