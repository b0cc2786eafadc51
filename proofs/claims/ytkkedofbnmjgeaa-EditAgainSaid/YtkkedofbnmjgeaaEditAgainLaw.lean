/-
  EditAgain: what an edit adds an edit takes away again: the tables are as before. Condition: at most 80 tables a level, 300 added (the law's own).
-/
import Derived.Test.YtkkedofbnmjgeaaEditApplyAny
namespace Go.Proofs.Ytkkedofbnmjgeaa
set_option maxRecDepth 100000
open Go Go.RowKit
section
open Go.Sort
/-- The edit that adds, and the one that takes away. -/
def addE (ps : List Pl) : Ed := ⟨0, 0, 0, [], ps⟩
def gsOf (ps : List Pl) : List Gn := ps.map fun p => ⟨p.lev, p.tb.num⟩
def goneE (ps : List Pl) : Ed := ⟨0, 0, 0, gsOf ps, []⟩
theorem outL_nil (i : Nat) (l : List Mt) : outL [] i l = l := by
  unfold outL goes
  refine List.filter_eq_self.2 fun x _ => ?_
  rw [tf_false (by simp)]; rfl
theorem nsTo_mem {L : Nat → List Mt} {y : Nat} : ∀ {n : Nat}, y ∈ nsTo L n ↔ ∃ i, i < n ∧ ∃ x ∈ L i, x.num = y
  | 0 => by simp [nsTo]
  | n + 1 => by
    show y ∈ (L n).map Mt.num ++ nsTo L n ↔ _
    rw [List.mem_append, nsTo_mem (n := n), List.mem_map]
    refine ⟨fun h => ?_, fun ⟨i, hi, h⟩ => ?_⟩
    · rcases h with h | ⟨i, hi, h⟩
      · exact ⟨n, by omega, h⟩
      · exact ⟨i, by omega, h⟩
    · by_cases e : i = n
      · subst e; exact .inl h
      · exact .inr ⟨i, by omega, h⟩
/-- Those that are added to level i. -/
def addAt (ps : List Pl) (i : Nat) : List Mt := (ps.filter (fun p : Pl => p.lev == (i : Int))).map Pl.tb
theorem add_lens {ps : List Pl} (h : ∀ p ∈ ps, LevP p.lev) : (addAt ps 0).length + ((addAt ps 1).length + ((addAt ps 2).length + (addAt ps 3).length)) = ps.length := by
  unfold addAt
  simp only [List.length_map]
  induction ps with
  | nil => rfl
  | cons p ps ih =>
    have ih' := ih (fun q hq => h q (List.mem_cons_of_mem _ hq))
    obtain ⟨h0, h4⟩ := h p (List.mem_cons_self ..)
    simp only [List.filter_cons, List.length_cons, show ((0 : Nat) : Int) = 0 from rfl, show ((1 : Nat) : Int) = 1 from rfl, show ((2 : Nat) : Int) = 2 from rfl, show ((3 : Nat) : Int) = 3 from rfl] at ih' ⊢
    rcases (show p.lev = 0 ∨ p.lev = 1 ∨ p.lev = 2 ∨ p.lev = 3 by omega) with e | e | e | e
    all_goals (rw [e]; simp; omega)
theorem goes_yes {ps : List Pl} {i : Nat} {x : Mt} (h : x ∈ addAt ps i) : goes (gsOf ps) i x = true := by
  unfold addAt at h
  obtain ⟨p, hp, rfl⟩ := List.mem_map.1 h
  obtain ⟨h1, h2⟩ := List.mem_filter.1 hp
  refine tf_true (List.mem_map.2 ⟨p, h1, ?_⟩)
  have : p.lev = (i : Int) := by simpa using h2
  rw [this]
theorem goes_no {ps : List Pl} {S : List Nat} {i : Nat} {x : Mt} (hT : NewP S (ps.map Pl.tb)) (hx : x.num ∈ S) : goes (gsOf ps) i x = false := by
  refine tf_false fun h => ?_
  obtain ⟨p, hp, e⟩ := List.mem_map.1 h
  simp only [Gn.mk.injEq] at e
  exact hT.2 p.tb (List.mem_map.2 ⟨p, hp, rfl⟩) (e.2 ▸ hx)
theorem again_makes {v : Vr} {ps : List Pl} (hR : RightP v) (hA : ¬ ArgP v (addE ps)) (hT : ThereP v (addE ps)) (hW : RightP (madeV v (addE ps) (newLv v (addE ps)))) :
    ¬ ArgP (madeV v (addE ps) (newLv v (addE ps))) (goneE ps) ∧ NoneP (madeV v (addE ps) (newLv v (addE ps))) (goneE ps) ∧ ThereP (madeV v (addE ps) (newLv v (addE ps))) (goneE ps) ∧
    SameV v (madeV (madeV v (addE ps) (newLv v (addE ps))) (goneE ps) (newLv (madeV v (addE ps) (newLv v (addE ps))) (goneE ps))) ∧ RightP (madeV (madeV v (addE ps) (newLv v (addE ps))) (goneE ps) (newLv (madeV v (addE ps) (newLv v (addE ps))) (goneE ps))) := by
  have hL : ListedP (addE ps) := Classical.byContradiction fun h => hA (.inr (.inr (.inr (.inr h))))
  have hlev : ∀ p ∈ ps, LevP p.lev := fun p hp => (hL.2 p hp).1
  obtain ⟨W, hWd⟩ : ∃ W, W = madeV v (addE ps) (newLv v (addE ps)) := ⟨_, rfl⟩
  rw [← hWd] at hW ⊢
  have o1 : ∀ i, i < 4 → outLv v (addE ps) i = v.lv i := fun i hi => by rw [outLv_eq hi]; exact outL_nil i _
  have wl : ∀ i, i < 4 → (W.lv i).Perm (v.lv i ++ addAt ps i) := fun i hi => by
    have h1 := (srt_perm (cfOf i) (swoOf i) (addTo ps (outLv v (addE ps)) ps.length i)).1
    rw [hWd]
    show (insLv (outLv v (addE ps)) ps i).Perm _
    unfold insLv
    refine h1.trans ?_
    unfold addTo addAt
    rw [List.take_length, o1 i hi]
  have ns : ∀ i, i < 4 → ∀ x ∈ v.lv i, x.num ∈ nsTo (outLv v (addE ps)) 4 := fun i hi x hx => nsTo_mem.2 ⟨i, hi, x, by rw [o1 i hi]; exact hx, rfl⟩
  have gv : ∀ i, i < 4 → ∀ x ∈ v.lv i, goes (gsOf ps) i x = false := fun i hi x hx => goes_no hT (ns i hi x hx)
  have out : ∀ i, i < 4 → (outLv W (goneE ps) i).Perm (v.lv i) := fun i hi => by
    rw [outLv_eq hi]
    show (outL (gsOf ps) i (W.lv i)).Perm _
    unfold outL
    have h1 := (wl i hi).filter (fun m => !goes (gsOf ps) i m)
    have f1 : (v.lv i).filter (fun m => !goes (gsOf ps) i m) = v.lv i := List.filter_eq_self.2 (fun x hx => by rw [gv i hi x hx]; rfl)
    have f2 : (addAt ps i).filter (fun m => !goes (gsOf ps) i m) = [] := List.filter_eq_nil_iff.2 (fun x hx => by rw [goes_yes hx]; decide)
    rw [List.filter_append, f1, f2, List.append_nil] at h1
    exact h1
  have inn : ∀ i, i < 4 → inN (gsOf ps) i (W.lv i) = (addAt ps i).length := fun i hi => by
    unfold inN
    have h1 := ((wl i hi).filter (fun m => goes (gsOf ps) i m)).length_eq
    have f1 : (v.lv i).filter (fun m => goes (gsOf ps) i m) = [] := List.filter_eq_nil_iff.2 (fun x hx => by rw [gv i hi x hx]; decide)
    have f2 : (addAt ps i).filter (fun m => goes (gsOf ps) i m) = addAt ps i := List.filter_eq_self.2 (fun x hx => goes_yes hx)
    rw [List.filter_append, f1, f2, List.nil_append] at h1
    exact h1
  have hs : SameV v (madeV W (goneE ps) (newLv W (goneE ps))) := by
    refine ⟨?_, ?_, ?_, fun i hi => ?_⟩
    · rw [hWd]; rfl
    · rw [hWd]; rfl
    · rw [hWd]; rfl
    · show v.lv i = insLv (outLv W (goneE ps)) [] i
      unfold insLv
      refine (srt_same _ (swoOf i) (lv_sorted hR hi) ?_).symm
      unfold addTo
      simpa using out i hi
  refine ⟨?_, ?_, ?_, hs, right_congr hs hR⟩
  · rintro (h1 | h1 | h1 | h1 | h1)
    · exact h1 hW
    · exact h1.1 rfl
    · exact h1.1 rfl
    · exact h1.1 rfl
    · refine h1 ⟨fun g hg => ?_, fun p hp => (by cases hp)⟩
      obtain ⟨p, hp, rfl⟩ := List.mem_map.1 hg
      exact hlev p hp
  · show fdTo (gsOf ps) W.lv 4 0 = (gsOf ps).length
    have e0 : (gsOf ps).length = ps.length := by unfold gsOf; rw [List.length_map]
    have e1 := add_lens hlev
    rw [e0, ← e1]
    have t : ∀ i, inN (gsOf ps) i ((W.lv i).take (W.lv i).length) = inN (gsOf ps) i (W.lv i) := fun i => by rw [List.take_length]
    show fdTo (gsOf ps) W.lv 3 (W.lv 3).length + inN (gsOf ps) 4 ((W.lv 4).take 0) = _
    show inN (gsOf ps) 0 ((W.lv 0).take (W.lv 0).length) + inN (gsOf ps) 1 ((W.lv 1).take (W.lv 1).length) + inN (gsOf ps) 2 ((W.lv 2).take (W.lv 2).length) + inN (gsOf ps) 3 ((W.lv 3).take (W.lv 3).length) + inN (gsOf ps) 4 ((W.lv 4).take 0) = _
    rw [t, t, t, t, inn 0 (by omega), inn 1 (by omega), inn 2 (by omega), inn 3 (by omega)]
    simp [inN]
    omega
  · exact ⟨List.nodup_nil, fun x hx => (by cases hx)⟩
theorem goneE_in {v : Vr} {ps : List Pl} (h : ∀ p ∈ ps, PlIn p) : EdIn (goneE ps) := by
  refine ⟨by show 0 ≤ _; omega, by show 0 ≤ _; omega, by show 0 ≤ _; omega, fun g hg => ?_, fun p hp => (by cases hp)⟩
  obtain ⟨p, hp, rfl⟩ := List.mem_map.1 hg
  exact ⟨(h p hp).1, (h p hp).2.1⟩
theorem addE_in {ps : List Pl} (h : ∀ p ∈ ps, PlIn p) : EdIn (addE ps) := ⟨by show 0 ≤ _; omega, by show 0 ≤ _; omega, by show 0 ≤ _; omega, fun g hg => (by cases hg), h⟩
/-- What is made of a version that came in came in, too. -/
theorem made_in {v : Vr} {e : Ed} (hI : VrIn v) (iE : EdIn e) : VrIn (madeV v e (newLv v e)) := by
  have o : ∀ a b, a ≤ 18446744073709551615 → b ≤ 18446744073709551615 → orN a b ≤ 18446744073709551615 := fun a b h1 h2 => by unfold orN; split <;> omega
  refine ⟨o _ _ iE.1 hI.1, o _ _ iE.2.1 hI.2.1, o _ _ iE.2.2.1 hI.2.2.1, fun i hi x hx => ?_⟩
  rcases newLv_mem x hx with h | ⟨p, hp, _, rfl⟩
  · exact hI.2.2.2 i hi x (outLv_sub hi x h)
  · exact (iE.2.2.2.2 p hp).2
end
/-- What Apply comes to, and what that says. -/
theorem again_cases {v : Vr} {H : Nat → Hd} {e : Ed} {hg ha : Hd} {w : World} (hM : VrAt v H w) (hI : VrIn v) (hE : EdAt e hg ha w) (iE : EdIn e) (hgn : hg.n ≤ 1000) (han : ha.n ≤ 1000) :
    (∃ c : Nat, c ≠ 0 ∧ ∀ u, Below w.heap.size w u → Calls Try.prog 13 #[verV v H, edV e hg ha] u fun r u' => r = .returned (.tuple #[zV, .int .i64 (c : Int)]) ∧ Below u.heap.size u u') ∨
    (¬ ArgP v e ∧ ThereP v e ∧ RightP (madeV v e (newLv v e)) ∧ ∀ u, Below w.heap.size w u → Calls Try.prog 13 #[verV v H, edV e hg ha] u fun r u' => (∃ G2, r = .returned (.tuple #[verV (madeV v e (newLv v e)) G2, .int .i64 0]) ∧ VrAt (madeV v e (newLv v e)) G2 u') ∧ Below u.heap.size u u') := by
  by_cases hA : ArgP v e
  · exact .inl ⟨2, by decide, fun u hu => apply_arg (hM.below hu) (fun i hi x hx => (hI.2.2.2 i hi x hx).1) (hE.below hu) hA⟩
  have AP := fun u (hu : Below w.heap.size w u) => apply_yes (hM.below hu) hI (hE.below hu) iE hA hgn han
  by_cases h1 : NoneP v e
  · by_cases h2 : ThereP v e
    · by_cases h3 : RightP (madeV v e (newLv v e))
      · refine .inr ⟨hA, h2, h3, fun u hu => (AP u hu).mono ?_⟩
        rintro r u' ⟨hb, ⟨h, _⟩ | ⟨_, h, _⟩ | ⟨_, _, _, h⟩ | ⟨_, _, h, _⟩⟩
        · rw [tf_true h1] at h; cases h
        · rw [tf_true h2] at h; cases h
        · exact ⟨h, hb⟩
        · exact absurd h3 h
      · refine .inl ⟨11, by decide, fun u hu => (AP u hu).mono ?_⟩
        rintro r u' ⟨hb, ⟨h, _⟩ | ⟨_, h, _⟩ | ⟨_, _, h, _⟩ | ⟨_, _, _, h⟩⟩
        · rw [tf_true h1] at h; cases h
        · rw [tf_true h2] at h; cases h
        · exact absurd h h3
        · exact ⟨h, hb⟩
    · refine .inl ⟨5, by decide, fun u hu => (AP u hu).mono ?_⟩
      rintro r u' ⟨hb, ⟨h, _⟩ | ⟨_, _, h⟩ | ⟨_, h, _⟩ | ⟨_, h, _⟩⟩
      · rw [tf_true h1] at h; cases h
      · exact ⟨h, hb⟩
      · rw [tf_false h2] at h; cases h
      · rw [tf_false h2] at h; cases h
  · refine .inl ⟨4, by decide, fun u hu => (AP u hu).mono ?_⟩
    rintro r u' ⟨hb, ⟨_, h⟩ | ⟨h, _⟩ | ⟨h, _⟩ | ⟨h, _⟩⟩
    · exact ⟨h, hb⟩
    · rw [tf_false h1] at h; cases h
    · rw [tf_false h1] at h; cases h
    · rw [tf_false h1] at h; cases h
theorem zero_atA (w : World) : VrAt zeroV noHd w := fun i hi => Ms.nil w
theorem zv_eqA : zV = verV zeroV noHd := rfl
theorem zz_sameA (w : World) : Calls Try.prog 23 #[verV zeroV noHd, zV] w fun e w' => e = .returned (.bool true) ∧ Below w.heap.size w w' := by
  have h := same_any (zero_atA w) (zero_atA w)
  rw [tf_true ⟨rfl, rfl, rfl, fun _ _ => rfl⟩] at h
  rw [zv_eqA]
  exact h
theorem ne_numA (c : Nat) (h : c ≠ 0) : ((c : Int) == 0) = false ∧ ¬ (c : Int) = 0 ∧ ((c : Int) != 0) = true := by
  have : ¬ (c : Int) = 0 := by omega
  exact ⟨by simpa using this, this, by simpa using this⟩
theorem gsOf_take {ps : List Pl} {k : Nat} {x : Pl} (h : ps[k]? = some x) : (gsOf (ps.take (k + 1))).flatMap cellsG = (gsOf (ps.take k)).flatMap cellsG ++ cellsG ⟨x.lev, x.tb.num⟩ := by
  unfold gsOf
  rw [List.take_add_one, h]
  simp
set_option maxRecDepth 100000 in
set_option maxHeartbeats 16000000 in
theorem again_walk (v : Vr) (H : Nat → Hd) (ps : List Pl) (ha : Hd) (w : World) (hM : VrAt v H w) (hI : VrIn v) (hA : Ps ha ps w) (hPI : ∀ p ∈ ps, PlIn p) :
    Calls Try.prog 8 #[verV v H, .slice ha.a ha.n ha.c] w fun r w' => r = .returned (.bool true) ∧ Below w.heap.size w w' := by
  obtain ⟨aa, an, ac, ab, ao⟩ := ha
  have AW := Lib.hid (fun u => eawake_any u)
  have MX := Lib.hid (fun u => many_any v H u)
  have ZZ := Lib.hid (fun u => zz_sameA u)
  have V1 : Hid (VerB w.heap.size v H (w.alloc (verO v H))) := Lib.hid (VerB.new v H w)
  have B0 : Hid (Below w.heap.size w (w.alloc (verO v H))) := Lib.hid (below_alloc w _)
  have m0 : ac ≤ 9223372036854775807 := hA.sl.most
  have q0 : an ≤ ac := hA.sl.cap
  have e1 : Hid (ps.length = an) := Lib.hid hA.len
  show Calls _ _ #[verV v H, .slice aa an ac] _ _
  by_cases m1 : FewP H
  rotate_left 1
  · rw [tf_true m1] at MX
    clear m1 hM hI hA hPI
    go_enter Try.func8, Try.ntmps8
    go_wp2_with (first
      | (go_at_call 9; ((with_reducible refine (MX.out _).mono ?_); rintro e w1 ⟨rfl, hb1⟩; have B1 := Lib.hid (below_of B0.out hb1); clear hb1))
      | (go_at_call 11; ((with_reducible refine (AW.out _).mono ?_); rintro e w2 ⟨rfl, hb2⟩; have B2 := Lib.hid (below_of B1.out hb2); clear hb2)))
    go_returns
    exact ⟨rfl, B2.out⟩
  rw [tf_false (fun h => h m1)] at MX
  by_cases m2 : an ≤ 300
  rotate_left 1
  · have g1 : (300 : Int) < (an : Int) := by omega
    clear m1 m2 hM hI hA hPI
    go_enter Try.func8, Try.ntmps8
    go_wp2_with (first
      | (go_at_call 9; ((with_reducible refine (MX.out _).mono ?_); rintro e w1 ⟨rfl, hb1⟩; have B1 := Lib.hid (below_of B0.out hb1); clear hb1))
      | (go_at_call 11; ((with_reducible refine (AW.out _).mono ?_); rintro e w2 ⟨rfl, hb2⟩; have B2 := Lib.hid (below_of B1.out hb2); clear hb2)))
    go_returns
    exact ⟨rfl, B2.out⟩
  have g1 : ¬ (300 : Int) < (an : Int) := by omega
  have hE1 : EdAt (addE ps) ⟨none, 0, 0, 0, 0⟩ ⟨aa, an, ac, ab, ao⟩ w := ⟨Gs.nil w, hA⟩
  rcases again_cases hM hI hE1 (addE_in hPI) (by show 0 ≤ _; omega) (by show an ≤ _; omega) with ⟨c, hc0, AP⟩ | ⟨hArg, hT, hok, AP⟩
  · obtain ⟨n1, n2, n3⟩ := ne_numA c hc0
    have AP1 : Hid (∀ u, Below w.heap.size w u → Calls Try.prog 13 #[verV v H, .agg #[.int .u64 0, .int .u64 0, .int .u64 0, .slice none 0 0, .slice aa an ac]] u fun r u' => r = .returned (.tuple #[zV, .int .i64 (c : Int)]) ∧ Below u.heap.size u u') := Lib.hid AP
    clear AP m1 m2 hM hI hA hPI hE1 hc0
    go_enter Try.func8, Try.ntmps8
    go_upto_region 4 with (first
      | (go_at_call 9; ((with_reducible refine (MX.out _).mono ?_); rintro e w1 ⟨rfl, hb1⟩; have B1 := Lib.hid (below_of B0.out hb1); obtain ⟨x0, x1, x2, x3, x4, x5, x6⟩ := (V1.out.below hb1).cells; clear hb1))
      | (go_at_call 13; ((with_reducible refine (AP1.out _ B1.out).mono ?_); rintro e w3 ⟨rfl, hb3⟩; have B3 := Lib.hid (below_of (below_of B1.out hb3) (below_alloc w3 zO)); have Q3 : Hid (VerB w3.heap.size zeroV noHd (w3.alloc zO)) := Lib.hid (VerB.new zeroV noHd w3); clear hb3)))
    obtain ⟨p3, hp3⟩ := named w3.heap.size
    obtain ⟨u3, hu3⟩ := named (w3.alloc zO)
    rw [← hu3.out] at B3 Q3
    rw [← hp3.out] at Q3
    rw [← hu3.out, ← hp3.out]
    replace hu3 := Lib.hid trivial
    replace hp3 := Lib.hid trivial
    obtain ⟨d0, d1, d2, d3, d4, d5, d6⟩ := Q3.out.cells
    go_wp2_with (first
      | (go_at_call 23; ((with_reducible refine (ZZ.out _).mono ?_); rintro r w4 ⟨rfl, hb4⟩; have B4 := Lib.hid (below_of B3.out hb4); clear hb4))
      | (go_at_call 11; ((with_reducible refine (AW.out _).mono ?_); rintro r w5 ⟨rfl, hb5⟩; have B5 := Lib.hid (below_of B4.out hb5); clear hb5)))
    go_returns
    exact ⟨rfl, B5.out⟩
  · have hR : RightP v := Classical.byContradiction fun h => hArg (.inl h)
    obtain ⟨k1, k2, k3, k4, k5⟩ := again_makes hR hArg hT hok
    have hIW := made_in (v := v) (e := addE ps) hI (addE_in hPI)
    obtain ⟨W, hWn⟩ := named (madeV v (addE ps) (newLv v (addE ps)))
    rw [← hWn.out] at hok AP k1 k2 k3 k4 k5 hIW
    obtain ⟨M2, hM2⟩ := named (madeV W (goneE ps) (newLv W (goneE ps)))
    have AP1 : Hid (∀ u, Below w.heap.size w u → Calls Try.prog 13 #[verV v H, .agg #[.int .u64 0, .int .u64 0, .int .u64 0, .slice none 0 0, .slice aa an ac]] u fun r u' => (∃ G2, r = .returned (.tuple #[verV W G2, .int .i64 0]) ∧ VrAt W G2 u') ∧ Below u.heap.size u u') := Lib.hid AP
    have A2 : Hid (∀ u G2 ga gc gb go, VrAt W G2 u → Gs ⟨ga, an, gc, gb, go⟩ (gsOf ps) u → Calls Try.prog 13 #[verV W G2, .agg #[.int .u64 0, .int .u64 0, .int .u64 0, .slice ga an gc, .slice none 0 0]] u fun r u' => (∃ G5, r = .returned (.tuple #[verV M2 G5, .int .i64 0]) ∧ VrAt M2 G5 u') ∧ Below u.heap.size u u') := Lib.hid (fun u G2 ga gc gb go hG hg => by
      rw [hM2.out]
      have := apply_yes (v := W) (H := G2) (e := goneE ps) (hg := ⟨ga, an, gc, gb, go⟩) (ha := ⟨none, 0, 0, 0, 0⟩) hG hIW ⟨hg, Ps.nil u⟩ (goneE_in (v := v) hPI) k1 (by show an ≤ _; omega) (by show 0 ≤ _; omega)
      refine Calls.mono (show Calls Try.prog 13 #[verV W G2, .agg #[.int .u64 0, .int .u64 0, .int .u64 0, .slice ga an gc, .slice none 0 0]] u _ from this) ?_
      rintro r u' ⟨hb, ⟨h, _⟩ | ⟨_, h, _⟩ | ⟨_, _, _, h⟩ | ⟨_, _, h, _⟩⟩
      · rw [tf_true k2] at h; cases h
      · rw [tf_true k3] at h; cases h
      · exact ⟨h, hb⟩
      · exact absurd k5 h)
    have SM : Hid (∀ u G5, VrAt M2 G5 u → Below w.heap.size w u → Calls Try.prog 23 #[verV M2 G5, verV v H] u fun r u' => r = .returned (.bool true) ∧ Below u.heap.size u u') := Lib.hid (fun u G5 h hu => by
      have := same_any h (hM.below hu)
      rw [tf_true (by rw [hM2.out]; exact ⟨k4.1.symm, k4.2.1.symm, k4.2.2.1.symm, fun i hi => (k4.2.2.2 i hi).symm⟩)] at this
      exact this)
    have AT : Hid (∀ u, Below w.heap.size w u → Ps ⟨aa, an, ac, ab, ao⟩ ps u) := Lib.hid (fun u hu => hA.below hu)
    replace hM2 := Lib.hid trivial
    replace hWn := Lib.hid trivial
    clear AP m1 hM hI hA hPI hE1 hArg hT hok hR k1 k2 k3 k4 k5 hIW
    obtain ⟨ti, hi, hy0, hy1, hy2⟩ := info_parts infoG
    go_enter Try.func8, Try.ntmps8
    go_upto_region 4 with (first
      | (go_at_call 9; ((with_reducible refine (MX.out _).mono ?_); rintro e w1 ⟨rfl, hb1⟩; have B1 := Lib.hid (below_of B0.out hb1); have V2 := Lib.hid (V1.out.below hb1); obtain ⟨x0, x1, x2, x3, x4, x5, x6⟩ := V2.out.cells; clear hb1))
      | (go_at_call 13; ((with_reducible refine (AP1.out _ B1.out).mono ?_); rintro e w3 ⟨⟨G2, rfl, hG2⟩, hb3⟩; have B3 := Lib.hid (below_of (below_of B1.out hb3) (below_alloc w3 (verO W G2))); have Q3 := Lib.hid (VerB.new W G2 w3); have V3 : Hid (VerB w.heap.size v H (w3.alloc (verO W G2))) := Lib.hid ((V2.out.below hb3).below (below_alloc w3 (verO W G2))); have G3 := Lib.hid (hG2.below (below_alloc w3 (verO W G2))); clear hb3 hG2)))
    obtain ⟨p3, hp3⟩ := named w3.heap.size
    obtain ⟨u3, hu3⟩ := named (w3.alloc (verO W G2))
    rw [← hu3.out] at B3 Q3 V3 G3
    rw [← hp3.out] at Q3
    rw [← hu3.out, ← hp3.out]
    replace hu3 := Lib.hid trivial
    replace hp3 := Lib.hid trivial
    have O0 : Hid (u3.ownsRow u3.heap.size 54 2 (.slice none 0 0) 0 ((gsOf (ps.take 0)).flatMap cellsG)) := Lib.hid (World.ownsRow_nil _ _ _ _)
    have L0 := Lib.hid (Below.refl u3.heap.size u3)
    clear AP1 MX V1 V2 B0 B1 x0 x1 x2 x3 x4 x5 x6
    go_wp2_with fail
    go_loopw [8, 7] (fun iv gv wr => ∃ k : Nat, k ≤ an ∧ iv = .int .i64 (k : Int) ∧ Hid (wr.ownsRow u3.heap.size 54 2 gv k ((gsOf (ps.take k)).flatMap cellsG)) ∧ Hid (Below u3.heap.size u3 wr)) (fun iv _ _ => an - (intOf iv).toNat)
    case atStart => exact ⟨0, Nat.zero_le _, rfl, O0, L0⟩
    case round =>
      clear O0 L0
      obtain ⟨k, hkn, rfl, hO, hL⟩ := hrel
      obtain ⟨s1, s2, s3, rfl⟩ := own_shape hO.out
      by_cases hlt : k < an
      · have k0 : (k : Int) < (an : Int) := by omega
        obtain ⟨x, hx, rfl, hbl, y0, y1, _⟩ := (AT.out _ (below_of B3.out hL.out)).at8x hlt
        have hnext := Lib.hid (gsOf_take hx)
        have AK : Hid (∀ u, Below u3.heap.size u3 u → u.cell? ⟨ab, ao + k * 8, none⟩ = some (.int .i64 x.lev) ∧ u.cell? ⟨ab, ao + k * 8 + 1, none⟩ = some (.int .u64 (x.tb.num : Int))) := Lib.hid (fun u hu => by
          obtain ⟨y, hy, _, _, z0, z1, _⟩ := (AT.out _ (below_of B3.out hu)).at8x hlt
          obtain rfl : y = x := Option.some.inj (hy.symm.trans hx)
          exact ⟨z0, z1⟩)
        have hbd : Hid (k + 1 ≤ maxLen ∧ (k + 1) * 80 ≤ 140737488355328 ∧ (k + 1) * 16 ≤ 140737488355328) := Lib.hid (bound_app (by omega))
        have L1 := Lib.hid hL.out.drew
        have O1 : Hid (wr.drew.ownsRow u3.heap.size 54 2 (.slice s1 s2 s3) k ((gsOf (ps.take k)).flatMap cellsG)) := hO
        have S0 := Lib.hid (AK.out _ L1.out)
        clear hx y0 y1
        go_upto_region 10 with fail
        refine wp_region_held_drew (S := (fun u => u.cell? ⟨ab, ao + k * 8, none⟩ = some (.int .i64 x.lev) ∧ u.cell? ⟨ab, ao + k * 8 + 1, none⟩ = some (.int .u64 (x.tb.num : Int)))) (by kernel_rfl) (S0.out) (fun hHeld => ?_)
        refine held_take (i := 0) (v := ?_) rfl (by kernel_rfl) (by kernel_rfl) (by kernel_rfl) (fun _ _ _ h => h) (by rfl) (fun w hSw => ?_) (by assumption) ?_; rotate_left 1; focus (((try dsimp only at hSw); first | (go_simp; done) | (go_simp; with_reducible rfl)))
        try simp only [Act.put, List.setIfInBounds_toArray, List.set_cons_zero, List.set_cons_succ]
        refine held_take (i := 1) (v := ?_) rfl (by kernel_rfl) (by kernel_rfl) (by kernel_rfl) (fun _ _ _ h => h) (by rfl) (fun w hSw => ?_) (by assumption) ?_; rotate_left 1; focus (((try dsimp only at hSw); first | (go_simp; done) | (go_simp; with_reducible rfl)))
        try simp only [Act.put, List.setIfInBounds_toArray, List.set_cons_zero, List.set_cons_succ]
        refine held_take (i := 2) (v := ?_) rfl (by kernel_rfl) (by kernel_rfl) (by kernel_rfl) (fun _ _ _ h => h) (by rfl) (fun w hSw => ?_) (by assumption) ?_; rotate_left 1; focus (((try dsimp only at hSw); first | (go_simp; done) | (go_simp; with_reducible rfl)))
        try simp only [Act.put, List.setIfInBounds_toArray, List.set_cons_zero, List.set_cons_succ]
        refine held_take (i := 3) (v := ?_) rfl (by kernel_rfl) (by kernel_rfl) (by kernel_rfl) (fun _ _ _ h => h) (by rfl) (fun w hSw => ?_) (by assumption) ?_; rotate_left 1; focus (((try dsimp only at hSw); first | (go_simp; done) | (go_simp; with_reducible rfl)))
        try simp only [Act.put, List.setIfInBounds_toArray, List.set_cons_zero, List.set_cons_succ]
        refine held_take (i := 4) (v := ?_) rfl (by kernel_rfl) (by kernel_rfl) (by kernel_rfl) (fun _ _ _ h => h) (by rfl) (fun w hSw => ?_) (by assumption) ?_; rotate_left 1; focus (((try dsimp only at hSw); first | (go_simp; done) | (go_simp; with_reducible rfl)))
        try simp only [Act.put, List.setIfInBounds_toArray, List.set_cons_zero, List.set_cons_succ]
        refine held_take (i := 5) (v := ?_) rfl (by kernel_rfl) (by kernel_rfl) (by kernel_rfl) (fun _ _ _ h => h) (by rfl) (fun w hSw => ?_) (by assumption) ?_; rotate_left 1; focus (((try dsimp only at hSw); first | (go_simp; done) | (go_simp; with_reducible rfl)))
        try simp only [Act.put, List.setIfInBounds_toArray, List.set_cons_zero, List.set_cons_succ]
        refine held_take (i := 6) (v := ?_) rfl (by kernel_rfl) (by kernel_rfl) (by kernel_rfl) (fun _ _ _ h => h) (by rfl) (fun w hSw => ?_) (by assumption) ?_; rotate_left 1; focus (((try dsimp only at hSw); first | (go_simp; done) | (go_simp; with_reducible rfl)))
        try simp only [Act.put, List.setIfInBounds_toArray, List.set_cons_zero, List.set_cons_succ]
        refine held_take (i := 7) (v := ?_) rfl (by kernel_rfl) (by kernel_rfl) (by kernel_rfl) (fun _ _ _ h => h) (by rfl) (fun w hSw => ?_) (by assumption) ?_; rotate_left 1; focus (((try dsimp only at hSw); first | (go_simp; done) | (go_simp; with_reducible rfl)))
        try simp only [Act.put, List.setIfInBounds_toArray, List.set_cons_zero, List.set_cons_succ]
        refine held_take (i := 8) (v := ?_) rfl (by kernel_rfl) (by kernel_rfl) (by kernel_rfl) (fun _ _ _ h => h) (by rfl) (fun w hSw => ?_) (by assumption) ?_; rotate_left 1; focus (((try dsimp only at hSw); first | (go_simp; done) | (go_simp; with_reducible rfl)))
        try simp only [Act.put, List.setIfInBounds_toArray, List.set_cons_zero, List.set_cons_succ]
        refine held_take (i := 9) (v := ?_) rfl (by kernel_rfl) (by kernel_rfl) (by kernel_rfl) (fun _ _ _ h => h) (by rfl) (fun w hSw => ?_) (by assumption) ?_; rotate_left 1; focus (((try dsimp only at hSw); first | (go_simp; done) | (go_simp; with_reducible rfl)))
        try simp only [Act.put, List.setIfInBounds_toArray, List.set_cons_zero, List.set_cons_succ]
        refine held_take (i := 10) (v := ?_) rfl (by kernel_rfl) (by kernel_rfl) (by kernel_rfl) (fun _ _ _ h => h) (by rfl) (fun w hSw => ?_) (by assumption) ?_; rotate_left 1; focus (((try dsimp only at hSw); first | (go_simp; done) | (go_simp; with_reducible rfl)))
        try simp only [Act.put, List.setIfInBounds_toArray, List.set_cons_zero, List.set_cons_succ]
        refine held_take (i := 11) (v := ?_) rfl (by kernel_rfl) (by kernel_rfl) (by kernel_rfl) (fun _ _ _ h => h) (by rfl) (fun w hSw => ?_) (by assumption) ?_; rotate_left 1; focus (((try dsimp only at hSw); first | (go_simp; done) | (go_simp; with_reducible rfl)))
        try simp only [Act.put, List.setIfInBounds_toArray, List.set_cons_zero, List.set_cons_succ]
        refine held_take (i := 12) (v := ?_) rfl (by kernel_rfl) (by kernel_rfl) (by kernel_rfl) (fun _ _ _ h => h) (by rfl) (fun w hSw => ?_) (by assumption) ?_; rotate_left 1; focus (((try dsimp only at hSw); first | (go_simp; done) | (go_simp; with_reducible rfl)))
        try simp only [Act.put, List.setIfInBounds_toArray, List.set_cons_zero, List.set_cons_succ]
        refine held_call (i := 13) (by kernel_rfl) rfl (by rfl) (fun K hK => ?_)
        go_simp
        refine hK.out _ _ (AK.out _ (L1.out.alloc L1.out.size _)) (fun hHeld => ?_)
        try simp only [Act.put, List.setIfInBounds_toArray, List.set_cons_zero, List.set_cons_succ]
        refine held_call (i := 14) (by kernel_rfl) rfl (by rfl) (fun K hK => ?_)
        refine wp_append_lies _ (.tmp 40) (.tmp 53) 27 rfl u3.heap.size 54 ti (.agg #[.int .i64 0, .int .u64 0]) 2 16 Try.underlying27 hi hy0 hy1 hy2 rfl (by decide) (.slice s1 s2 s3) k ((gsOf (ps.take k)).flatMap cellsG) (by rfl) (O1.out.alloc _) ⟨wr.heap.size, 0, none⟩ 1 1 (cellsG ⟨x.lev, x.tb.num⟩) (by rfl) rfl (World.news_of_block (heap_alloc_new _ _)) (one_g ⟨x.lev, x.tb.num⟩) (by decide) hbd.out.1 hbd.out.2.2 (by simp only [World.size_drew, World.size_alloc]; have := hL.out.size; omega) _ rfl ?_
        intro g9 cap9 w8 hown8 hgrow8 hat8 _
        have L8 : Hid (Below u3.heap.size u3 w8) := Lib.hid ((L1.out.alloc L1.out.size _).grown hgrow8 (by simp only [World.size_drew, World.size_alloc]; have := hL.out.size; omega) (fun r hr => (row_of O1.out r hr).1))
        have O8 : Hid (w8.ownsRow u3.heap.size 54 2 (.slice (some ⟨g9, 0, none⟩) (k + 1) cap9) (k + 1) ((gsOf (ps.take (k + 1))).flatMap cellsG)) := Lib.hid (by rw [hnext.out]; exact hown8)
        clear hown8 hgrow8 hat8
        refine hK.out _ _ (AK.out _ L8.out) (fun hHeld => ?_)
        try simp only [Act.put, List.setIfInBounds_toArray, List.set_cons_zero, List.set_cons_succ]
        refine held_take (i := 15) (v := ?_) rfl (by kernel_rfl) (by kernel_rfl) (by kernel_rfl) (fun _ _ _ h => h) (by rfl) (fun w hSw => ?_) (by assumption) ?_; rotate_left 1; focus (((try dsimp only at hSw); first | (go_simp; done) | (go_simp; with_reducible rfl)))
        try simp only [Act.put, List.setIfInBounds_toArray, List.set_cons_zero, List.set_cons_succ]
        refine wpAnyH_done (by kernel_rfl) ?_ _
        go_wp2_with fail
        go_roundw
        case rel => exact ⟨k + 1, by omega, by go_num, O8, L8⟩
        case measure => simp [intOf]; omega
      · obtain rfl : k = an := by omega
        have k0 : ¬ (k : Int) < (k : Int) := by omega
        have hO2 : wr.ownsRow u3.heap.size 54 2 (.slice s1 s2 s3) k ((gsOf ps).flatMap cellsG) := by
          have := hO.out
          rw [List.take_of_length_le (by rw [e1.out]; exact Nat.le_refl _)] at this
          exact this
        obtain ⟨a, c, b, h1, h2, h3, h4⟩ := sl_of_rowG (cells := cellsG) (l := gsOf ps) (fun _ => rfl) (by unfold gsOf; rw [List.length_map, e1.out]) hO2
        injection h1 with h1 h1' h1''
        subst h1 h1' h1''
        have GS : Hid (Gs ⟨s1, s2, s3, b, 0⟩ (gsOf ps) wr) := Lib.hid ⟨h2, h4⟩
        have VW := Lib.hid (G3.out.below hL.out)
        have CW := Lib.hid (A2.out _ _ _ _ _ _ VW.out GS.out)
        have V4 := Lib.hid (V3.out.below hL.out)
        have B4 := Lib.hid (below_of B3.out hL.out)
        obtain ⟨d0, d1, d2, d3, d4, d5, d6⟩ := (Q3.out.below hL.out).cells
        clear hO hO2 h2 h3 h4 A2
        go_upto_region 12 with (go_at_call 13; ((with_reducible refine CW.out.mono ?_); rintro r w9 ⟨⟨G5, rfl, hG5⟩, hb9⟩; have B9 := Lib.hid (below_of (below_of B4.out hb9) (below_alloc w9 (verO M2 G5))); have Q9 := Lib.hid (VerB.new M2 G5 w9); have V9 : Hid (VerB w.heap.size v H (w9.alloc (verO M2 G5))) := Lib.hid ((V4.out.below hb9).below (below_alloc w9 (verO M2 G5))); have G9 := Lib.hid (hG5.below (below_alloc w9 (verO M2 G5))); clear hb9 hG5))
        obtain ⟨p9, hp9⟩ := named w9.heap.size
        obtain ⟨u9, hu9⟩ := named (w9.alloc (verO M2 G5))
        rw [← hu9.out] at B9 Q9 V9 G9
        rw [← hp9.out] at Q9
        rw [← hu9.out, ← hp9.out]
        replace hu9 := Lib.hid trivial
        replace hp9 := Lib.hid trivial
        have SV := Lib.hid (SM.out _ _ G9.out B9.out)
        obtain ⟨f0, f1, f2, f3, f4, f5, f6⟩ := V9.out.cells
        obtain ⟨g0, g1', g2, g3, g4, g5, g6⟩ := Q9.out.cells
        go_wp2_with (first
          | (go_at_call 23; ((with_reducible refine SV.out.mono ?_); rintro r w13 ⟨rfl, hb13⟩; have B13 := Lib.hid (below_of B9.out hb13); clear hb13))
          | (go_at_call 11; ((with_reducible refine (AW.out _).mono ?_); rintro r w14 ⟨rfl, hb14⟩; have B14 := Lib.hid (below_of B13.out hb14); clear hb14)))
        go_returns
        exact ⟨rfl, B14.out⟩
--LAW freshetlaw14.EditAgain again_walk ver:v placeds:ps
--BEGIN
namespace EditAgainProof
open Go.ChangeShapes Go.WideShapes Go.ChangeAt Go.RowKit
open Go.ChangeMaps (open_string shut_string)
theorem own : ownKnob Try.prog.godebug = none := by kernel_rfl
set_option maxRecDepth 100000 in
set_option maxHeartbeats 8000000 in
theorem lifted (os : Os) (started : os.Started) (H : Type) (enc : TypeId × Value → H) :
    ReturnsInHanded {} Try.checked os 8 .any (Rows.editAgainSpec.pre6 enc Try.prog Try.f8 Rows.editAgainRow.domain false) (Rows.editAgainSpec.post enc Try.prog Try.f8 false true false false) := by
  refine returnsInHanded_of_change_sized (C := Try.checked) own started (by kernel_rfl) Try.func8
    (ChangeSpec.witness6 (enc := enc) (C := Try.checked) false ⟨#[], #[.agg #[.int .u64 0, .int .u64 0, .int .u64 0, .slice none 0 0, .slice none 0 0, .slice none 0 0, .slice none 0 0], .slice none 0 0], []⟩ 8 (by kernel_rfl) (by kernel_rfl) (by kernel_rfl) (by kernel_rfl)) ?_
  intro W base args ds gs before hval0 hW _ hsz _
  have hval : ∀ (j : Nat) t v, Try.f8.params[j]? = some t → args[j]? = some v → Value.okWide Try.prog W .any base t v := hval0
  have hW' := hW
  obtain ⟨p, q, hA0, hV, rfl, hfz, hnd⟩ := hW
  have hA : DataW.TrodAll enc Try.prog W 0 (fun _ => true) true Try.f8.params.toList args.toList ds p := hA0
  rw [Try.params8] at hA hval hsz
  obtain ⟨v0, vs0, d0, ds0, p0, q0, hargs, rfl, rfl, h0, r0⟩ := trodAll_cons hA
  obtain ⟨v1, vs1, d1, ds1, p1, q1, rfl, rfl, rfl, h1, r1⟩ := trodAll_cons r0
  obtain ⟨rfl, rfl, rfl⟩ := trodAll_nil r1
  obtain rfl : args = #[v0, v1] := by cases args; simp_all
  obtain ⟨rfl, rfl⟩ := trodVars_none hV
  have k0 := h0
  obtain ⟨v, hh0, rfl, ia0, im0⟩ := open_ver (hval 0 26 v0 rfl rfl) h0 hsz (j := 0) rfl rfl
  have lt0 : ∀ x ∈ p0, x.block < W.heap.size := fun x hx => hW'.lt x (by simp only [List.mem_append]; simp [hx])
  obtain ⟨a1, n1, c1, rfl⟩ := okWide_slice Try.underlying28 (hval 1 28 v1 rfl rfl)
  have k1 := h1
  obtain ⟨fu1, hf1⟩ := h1
  obtain ⟨hd1, ps, hv1, ia1, im1⟩ := open_ps hf1 (fun m hm => by have := List.all_eq_true.1 hsz _ (DataW.weights_mem_each (j := 1) rfl rfl m hm); simpa using this)
  cases hv1
  have lt1 : ∀ x ∈ p1, x.block < W.heap.size := fun x hx => hW'.lt x (by simp only [List.mem_append]; simp [hx])
  clear hA0 hval0
  simp only [List.append_nil] at hW'
  refine (again_walk v hh0 ps hd1 W ia0 im0 ia1 im1).mono fun e W' ⟨he, hg⟩ => ?_
  subst he
  exact ⟨_, rfl, _, _, _, [], _, [], hW', (trodAll_cons_mk (shut_bool Try.underlying4 _) trodAll_mk0), (trodAll_cons_mk (Below.trod laid_out (by kernel_rfl) (of_decide_eq_true (by kernel_rfl)) k0 hg lt0) (trodAll_cons_mk (Below.trod laid_out (by kernel_rfl) (of_decide_eq_true (by kernel_rfl)) k1 hg lt1) trodAll_mk0)), rfl, hg.frame _, fun h => by cases h⟩
theorem holds : Rows.EditAgainSaid :=
  OpenClaim.holds_of_wide 8 Try.f8 rfl rfl rfl rfl rfl rfl rfl ⟨rfl, rfl, rfl, rfl, rfl⟩ rfl rfl rfl rfl rfl (by kernel_rfl) Try.func8 (by kernel_rfl)
    (of_decide_eq_true (by kernel_rfl)) (by unfold Func.isWrapper; first | (rw [if_pos (by decide +kernel)]; kernel_rfl) | (rw [if_neg (by decide +kernel)]; exact ⟨rfl, rfl⟩))
    (fun os started H enc _ => lifted os started H enc)
end EditAgainProof
--END
end Go.Proofs.Ytkkedofbnmjgeaa
