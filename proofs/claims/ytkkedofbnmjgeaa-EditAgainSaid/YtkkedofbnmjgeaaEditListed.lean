/-
  Do an edit's lists stand? Both ways of asking. Sizes; the first version; the law's own bounds. No condition.
-/
import Derived.Test.YtkkedofbnmjgeaaEditSame
namespace Go.Proofs.Ytkkedofbnmjgeaa
set_option maxRecDepth 100000
open Go.RowKit
def ListedP (e : Ed) : Prop := (∀ g ∈ e.gone, LevP g.lev) ∧ ∀ p ∈ e.added, LevP p.lev ∧ MayP p.tb
abbrev edO (e : Ed) (hg ha : Hd) : Obj := .cells #[.int .u64 (e.log : Int), .int .u64 (e.next : Int), .int .u64 (e.seq : Int), .slice hg.a hg.n hg.c, .slice ha.a ha.n ha.c] 30 (0, 0)
/-- An edit in a block of its own. -/
def EdB (p : Nat) (e : Ed) (hg ha : Hd) (w : World) : Prop := w.heap[p]? = some (edO e hg ha)
theorem EdB.lt {p : Nat} {e : Ed} {hg ha : Hd} {w : World} (k : EdB p e hg ha w) : p < w.heap.size := (Array.getElem?_eq_some_iff.1 k).1
theorem EdB.new (e : Ed) (hg ha : Hd) (w : World) : EdB w.heap.size e hg ha (w.alloc (edO e hg ha)) := heap_alloc_new _ _
theorem EdB.below {p : Nat} {e : Ed} {hg ha : Hd} {w w' : World} (k : EdB p e hg ha w) (hb : Below w.heap.size w w') : EdB p e hg ha w' := (hb.block p k.lt).trans k
theorem EdB.cells {p : Nat} {e : Ed} {hg ha : Hd} {w : World} (k : EdB p e hg ha w) : w.cell? ⟨p, 0, none⟩ = some (.int .u64 (e.log : Int)) ∧ w.cell? ⟨p, 1, none⟩ = some (.int .u64 (e.next : Int)) ∧ w.cell? ⟨p, 2, none⟩ = some (.int .u64 (e.seq : Int)) ∧ w.cell? ⟨p, 3, none⟩ = some (.slice hg.a hg.n hg.c) ∧ w.cell? ⟨p, 4, none⟩ = some (.slice ha.a ha.n ha.c) := by
  unfold EdB at k
  simp [World.cell?, k]
abbrev gnO (x : Gn) : Obj := .cells #[.int .i64 x.lev, .int .u64 (x.num : Int)] 54 (0, 0)
abbrev plO (x : Pl) : Obj := .cells #[.int .i64 x.lev, .int .u64 (x.tb.num : Int), .int .i64 x.tb.size, .int .i64 x.tb.rows, .string x.tb.fst, .string x.tb.lst, .int .u64 (x.tb.least : Int), .int .u64 (x.tb.gr : Int)] 52 (0, 0)
set_option maxRecDepth 100000 in
set_option maxHeartbeats 8000000 in
theorem islisted_any {e : Ed} {hg ha : Hd} {w : World} (h : EdAt e hg ha w) : Calls Try.prog 27 #[edV e hg ha] w fun r w' => r = .returned (.bool (tf (ListedP e))) ∧ Below w.heap.size w w' := by
  obtain ⟨T, hT⟩ := named (tf (ListedP e))
  rw [← hT.out]
  replace hT := Lib.hid hT.out
  obtain ⟨ga, gn, gc, gb, go⟩ := hg
  obtain ⟨aa, an, ac, ab, ao⟩ := ha
  have m1 : gc ≤ 9223372036854775807 := h.gone.sl.most
  have m2 : ac ≤ 9223372036854775807 := h.added.sl.most
  have q1 : gn ≤ gc := h.gone.sl.cap
  have q2 : an ≤ ac := h.added.sl.cap
  have e1 : Hid (e.gone.length = gn) := Lib.hid h.gone.len
  have e2 : Hid (e.added.length = an) := Lib.hid h.added.len
  have E0 := Lib.hid (EdB.new e ⟨ga, gn, gc, gb, go⟩ ⟨aa, an, ac, ab, ao⟩ w)
  have B0 := Lib.hid (below_alloc w (edO e ⟨ga, gn, gc, gb, go⟩ ⟨aa, an, ac, ab, ao⟩))
  replace h := Lib.hid h
  go_enter Try.func27, Try.ntmps27
  go_wp2_with fail
  go_loopw [10] (fun i wr => ∃ j : Nat, j ≤ gn ∧ i = .int .i64 (j : Int) ∧ Hid (AllTo (fun g : Gn => LevP g.lev) e.gone j) ∧ Hid (Below (w.alloc (edO e ⟨ga, gn, gc, gb, go⟩ ⟨aa, an, ac, ab, ao⟩)).heap.size (w.alloc (edO e ⟨ga, gn, gc, gb, go⟩ ⟨aa, an, ac, ab, ao⟩)) wr)) (fun i _ => gn - (intOf i).toNat)
  case atStart => exact ⟨0, Nat.zero_le _, rfl, Lib.hid AllTo.zero, Lib.hid (Below.refl _ _)⟩
  case round =>
    obtain ⟨j, hj, rfl, hp, hb⟩ := hrel
    have bw := Lib.hid (below_of B0.out hb.out)
    by_cases hlt : j < gn
    · obtain ⟨x, hx, rfl, hbl, x0, x1⟩ := (h.out.gone.below bw.out).at2x hlt
      replace hx := Lib.hid hx
      have i0 : (j : Int) < (gn : Int) := by omega
      have LC := Lib.hid (fun u => islev_any x.lev u)
      have W2 := Lib.hid (below_of hb.out (below_alloc wr (gnO x)))
      by_cases hv : LevP x.lev
      · rw [decide_eq_true hv] at LC
        have P2 := Lib.hid (hp.out.succ hx.out hv)
        clear hv hp
        go_wp2_with (go_at_call 55; ((with_reducible refine (LC.out _).mono ?_); rintro r w3 ⟨rfl, rfl⟩))
        go_roundw
        case rel => exact ⟨j + 1, by omega, by go_num, P2, W2⟩
        case measure => simp [intOf]; omega
      · rw [decide_eq_false hv] at LC
        have hF : Hid (T = false) := Lib.hid (by rw [hT.out]; exact tf_false (fun k => hv (k.1 x (List.mem_of_getElem? hx.out))))
        clear hv
        go_wp2_with (go_at_call 55; ((with_reducible refine (LC.out _).mono ?_); rintro r w3 ⟨rfl, rfl⟩))
        go_returns
        exact ⟨by rw [hF.out]; rfl, below_of B0.out W2.out⟩
    · have i0 : ¬ (j : Int) < (gn : Int) := by omega
      have hgd : Hid (∀ g ∈ e.gone, LevP g.lev) := Lib.hid (by obtain rfl : j = gn := by omega
                                                               exact hp.out.all e1.out)
      obtain ⟨c0, c1, c2, c3, c4⟩ := (E0.out.below hb.out).cells
      go_wp2_with fail
      go_loopw [22] (fun i wz => ∃ j : Nat, j ≤ an ∧ i = .int .i64 (j : Int) ∧ Hid (AllTo (fun p : Pl => LevP p.lev ∧ MayP p.tb) e.added j) ∧ Hid (Below wr.heap.size wr wz)) (fun i _ => an - (intOf i).toNat)
      case atStart => exact ⟨0, Nat.zero_le _, rfl, Lib.hid AllTo.zero, Lib.hid (Below.refl _ _)⟩
      case round =>
        obtain ⟨k, hk, rfl, hp2, hz⟩ := hrel
        have bz := Lib.hid (below_of bw.out hz.out)
        by_cases hlt2 : k < an
        · obtain ⟨x, hx, rfl, hbl, x0, x1, x2, x3, x4, x5, x6, x7⟩ := (h.out.added.below bz.out).at8x hlt2
          replace hx := Lib.hid hx
          have i1 : (k : Int) < (an : Int) := by omega
          have LC := Lib.hid (fun u => islev_any x.lev u)
          have VC := Lib.hid (fun u => valid_any x.tb u)
          have W2 := Lib.hid (below_of hz.out (below_alloc wr (plO x)))
          by_cases hv : LevP x.lev
          · rw [decide_eq_true hv] at LC
            by_cases hm : MayP x.tb
            · rw [decide_eq_true hm] at VC
              have P2 := Lib.hid (hp2.out.succ hx.out ⟨hv, hm⟩)
              clear hv hm hp2
              go_wp2_with (first
                | (go_at_call 55; ((with_reducible refine (LC.out _).mono ?_); rintro r w3 ⟨rfl, rfl⟩))
                | (go_at_call 56; ((with_reducible refine (VC.out _).mono ?_); rintro r w4 ⟨rfl, hb4⟩; have W4 := Lib.hid (below_of W2.out hb4); clear hb4)))
              go_roundw
              case rel => exact ⟨k + 1, by omega, by go_num, P2, W4⟩
              case measure => simp [intOf]; omega
            · rw [decide_eq_false hm] at VC
              have hF : Hid (T = false) := Lib.hid (by rw [hT.out]; exact tf_false (fun g => hm (g.2 x (List.mem_of_getElem? hx.out)).2))
              clear hv hm
              go_wp2_with (first
                | (go_at_call 55; ((with_reducible refine (LC.out _).mono ?_); rintro r w3 ⟨rfl, rfl⟩))
                | (go_at_call 56; ((with_reducible refine (VC.out _).mono ?_); rintro r w4 ⟨rfl, hb4⟩; have W4 := Lib.hid (below_of W2.out hb4); clear hb4)))
              go_returns
              exact ⟨by rw [hF.out]; rfl, below_of bw.out W4.out⟩
          · rw [decide_eq_false hv] at LC
            have hF : Hid (T = false) := Lib.hid (by rw [hT.out]; exact tf_false (fun g => hv (g.2 x (List.mem_of_getElem? hx.out)).1))
            clear hv
            go_wp2_with (go_at_call 55; ((with_reducible refine (LC.out _).mono ?_); rintro r w3 ⟨rfl, rfl⟩))
            go_returns
            exact ⟨by rw [hF.out]; rfl, below_of bw.out W2.out⟩
        · have i1 : ¬ (k : Int) < (an : Int) := by omega
          have hF : Hid (T = true) := Lib.hid (by
            rw [hT.out]
            obtain rfl : k = an := by omega
            exact tf_true ⟨hgd.out, hp2.out.all e2.out⟩)
          go_wp2_with fail
          go_returns
          exact ⟨by rw [hF.out]; rfl, bz.out⟩
set_option maxRecDepth 100000 in
set_option maxHeartbeats 8000000 in
theorem rlisted_any {e : Ed} {hg ha : Hd} {w : World} (h : EdAt e hg ha w) : Calls Try.prog 32 #[edV e hg ha] w fun r w' => r = .returned (.bool (tf (ListedP e))) ∧ Below w.heap.size w w' := by
  obtain ⟨T, hT⟩ := named (tf (ListedP e))
  rw [← hT.out]
  replace hT := Lib.hid hT.out
  obtain ⟨ga, gn, gc, gb, go⟩ := hg
  obtain ⟨aa, an, ac, ab, ao⟩ := ha
  have m1 : gc ≤ 9223372036854775807 := h.gone.sl.most
  have m2 : ac ≤ 9223372036854775807 := h.added.sl.most
  have q1 : gn ≤ gc := h.gone.sl.cap
  have q2 : an ≤ ac := h.added.sl.cap
  have e1 : Hid (e.gone.length = gn) := Lib.hid h.gone.len
  have e2 : Hid (e.added.length = an) := Lib.hid h.added.len
  have E0 := Lib.hid (EdB.new e ⟨ga, gn, gc, gb, go⟩ ⟨aa, an, ac, ab, ao⟩ w)
  have B0 := Lib.hid (below_alloc w (edO e ⟨ga, gn, gc, gb, go⟩ ⟨aa, an, ac, ab, ao⟩))
  replace h := Lib.hid h
  go_enter Try.func32, Try.ntmps32
  go_wp2_with fail
  go_loopw [3] (fun i wr => ∃ j : Nat, j ≤ gn ∧ i = .int .i64 (j : Int) ∧ Hid (AllTo (fun g : Gn => LevP g.lev) e.gone j) ∧ Hid (Below (w.alloc (edO e ⟨ga, gn, gc, gb, go⟩ ⟨aa, an, ac, ab, ao⟩)).heap.size (w.alloc (edO e ⟨ga, gn, gc, gb, go⟩ ⟨aa, an, ac, ab, ao⟩)) wr)) (fun i _ => gn - (intOf i).toNat)
  case atStart => exact ⟨0, Nat.zero_le _, rfl, Lib.hid AllTo.zero, Lib.hid (Below.refl _ _)⟩
  case round =>
    obtain ⟨j, hj, rfl, hp, hb⟩ := hrel
    have bw := Lib.hid (below_of B0.out hb.out)
    obtain ⟨c0, c1, c2, c3, c4⟩ := (E0.out.below hb.out).cells
    by_cases hlt : j < gn
    · obtain ⟨x, hx, rfl, hbl, x0, x1⟩ := (h.out.gone.below bw.out).at2x hlt
      replace hx := Lib.hid hx
      have i0 : (j : Int) < (gn : Int) := by omega
      by_cases hv : LevP x.lev
      · have f1 : ¬ x.lev < 0 := by have := hv.1; omega
        have f2 : ¬ (3 : Int) < x.lev := by have := hv.2; omega
        have P2 := Lib.hid (hp.out.succ hx.out hv)
        clear hv hp
        go_wp2_with fail
        go_roundw
        case rel => exact ⟨j + 1, by omega, by go_num, P2, hb⟩
        case measure => simp [intOf]; omega
      · have hF : Hid (T = false) := Lib.hid (by rw [hT.out]; exact tf_false (fun k => hv (k.1 x (List.mem_of_getElem? hx.out))))
        by_cases f1 : x.lev < 0
        · clear hv
          go_wp2_with fail
          go_returns
          exact ⟨by rw [hF.out]; rfl, bw.out⟩
        · have f2 : (3 : Int) < x.lev := by unfold LevP at hv; omega
          clear hv
          go_wp2_with fail
          go_returns
          exact ⟨by rw [hF.out]; rfl, bw.out⟩
    · have i0 : ¬ (j : Int) < (gn : Int) := by omega
      have hgd : Hid (∀ g ∈ e.gone, LevP g.lev) := Lib.hid (by obtain rfl : j = gn := by omega
                                                               exact hp.out.all e1.out)
      go_wp2_with fail
      go_loopw [4] (fun i wz => ∃ j : Nat, j ≤ an ∧ i = .int .i64 (j : Int) ∧ Hid (AllTo (fun p : Pl => LevP p.lev ∧ MayP p.tb) e.added j) ∧ Hid (Below wr.heap.size wr wz)) (fun i _ => an - (intOf i).toNat)
      case atStart => exact ⟨0, Nat.zero_le _, rfl, Lib.hid AllTo.zero, Lib.hid (Below.refl _ _)⟩
      case round =>
        obtain ⟨k, hk, rfl, hp2, hz⟩ := hrel
        have bz := Lib.hid (below_of bw.out hz.out)
        obtain ⟨d0, d1, d2, d3, d4⟩ := ((E0.out.below hb.out).below hz.out).cells
        by_cases hlt2 : k < an
        · obtain ⟨x, hx, rfl, hbl, x0, x1, x2, x3, x4, x5, x6, x7⟩ := (h.out.added.below bz.out).at8x hlt2
          replace hx := Lib.hid hx
          have i1 : (k : Int) < (an : Int) := by omega
          have VC := Lib.hid (fun u => rmay_any x.tb u)
          by_cases hv : LevP x.lev
          · have f1 : ¬ x.lev < 0 := by have := hv.1; omega
            have f2 : ¬ (3 : Int) < x.lev := by have := hv.2; omega
            by_cases hm : MayP x.tb
            · rw [decide_eq_true hm] at VC
              have P2 := Lib.hid (hp2.out.succ hx.out ⟨hv, hm⟩)
              clear hv hm hp2
              go_wp2_with (go_at_call 62; ((with_reducible refine (VC.out _).mono ?_); rintro r w4 ⟨rfl, hb4⟩; have W4 := Lib.hid (below_of hz.out hb4); clear hb4))
              go_roundw
              case rel => exact ⟨k + 1, by omega, by go_num, P2, W4⟩
              case measure => simp [intOf]; omega
            · rw [decide_eq_false hm] at VC
              have hF : Hid (T = false) := Lib.hid (by rw [hT.out]; exact tf_false (fun g => hm (g.2 x (List.mem_of_getElem? hx.out)).2))
              clear hv hm
              go_wp2_with (go_at_call 62; ((with_reducible refine (VC.out _).mono ?_); rintro r w4 ⟨rfl, hb4⟩; have W4 := Lib.hid (below_of hz.out hb4); clear hb4))
              go_returns
              exact ⟨by rw [hF.out]; rfl, below_of bw.out W4.out⟩
          · have hF : Hid (T = false) := Lib.hid (by rw [hT.out]; exact tf_false (fun g => hv (g.2 x (List.mem_of_getElem? hx.out)).1))
            by_cases f1 : x.lev < 0
            · clear hv
              go_wp2_with fail
              go_returns
              exact ⟨by rw [hF.out]; rfl, bz.out⟩
            · have f2 : (3 : Int) < x.lev := by unfold LevP at hv; omega
              clear hv
              go_wp2_with fail
              go_returns
              exact ⟨by rw [hF.out]; rfl, bz.out⟩
        · have i1 : ¬ (k : Int) < (an : Int) := by omega
          have hF : Hid (T = true) := Lib.hid (by
            rw [hT.out]
            obtain rfl : k = an := by omega
            exact tf_true ⟨hgd.out, hp2.out.all e2.out⟩)
          go_wp2_with fail
          go_returns
          exact ⟨by rw [hF.out]; rfl, bz.out⟩
/-- The sum of a level's sizes, as the program counts. -/
def sumZ (l : List Mt) : Int := l.foldl (fun s x => wrap64 (s + x.size)) 0
theorem sumZ_succ {l : List Mt} {j : Nat} {x : Mt} (hx : l[j]? = some x) : sumZ (l.take (j + 1)) = wrap64 (sumZ (l.take j) + x.size) := by
  rw [List.take_add_one, hx]
  unfold sumZ
  rw [List.foldl_append]
  rfl
def sizeR (v : Vr) (i : Int) : Int := if LevP i then sumZ (v.lv i.toNat) else 0
/-- The first version. -/
def firstV : Vr := ⟨1, 1, 0, fun _ => []⟩
def noHd : Nat → Hd := fun _ => ⟨none, 0, 0, 0, 0⟩
theorem first_at (w : World) : VrAt firstV noHd w := fun i hi => Ms.nil w
set_option maxRecDepth 100000 in
set_option maxHeartbeats 4000000 in
theorem first_any (w : World) : Calls Try.prog 24 #[] w fun r w' => r = .returned (verV firstV noHd) ∧ Below w.heap.size w w' := by
  have B0 := Lib.hid (below_alloc w (verO firstV noHd))
  go_enter Try.func24, Try.ntmps24
  go_wp2_with fail
  go_returns
  exact ⟨rfl, B0.out⟩
/-- Few tables a level. -/
def FewP (H : Nat → Hd) : Prop := ∀ i, i < 4 → (H i).n ≤ 80
set_option maxRecDepth 100000 in
set_option maxHeartbeats 4000000 in
theorem many_any (v : Vr) (H : Nat → Hd) (w : World) : Calls Try.prog 9 #[verV v H] w fun r w' => r = .returned (.bool (tf (¬ FewP H))) ∧ Below w.heap.size w w' := by
  have B0 := Lib.hid (below_alloc w (verO v H))
  have V0 := Lib.hid (VerB.new v H w)
  obtain ⟨T, hT⟩ := named (tf (¬ FewP H))
  rw [← hT.out]
  replace hT := Lib.hid hT.out
  go_enter Try.func9, Try.ntmps9
  go_wp2_with fail
  go_loopw [3] (fun i wr => ∃ j : Nat, j ≤ 4 ∧ i = .int .i64 (j : Int) ∧ Hid (∀ k, k < j → (H k).n ≤ 80) ∧ Hid (Below (w.alloc (verO v H)).heap.size (w.alloc (verO v H)) wr)) (fun i _ => 4 - (intOf i).toNat)
  case atStart => exact ⟨0, Nat.zero_le _, rfl, Lib.hid (fun k hk => absurd hk (Nat.not_lt_zero k)), Lib.hid (Below.refl _ _)⟩
  case round =>
    obtain ⟨j, hj, rfl, hs, hb⟩ := hrel
    by_cases hlt : j < 4
    · have i0 : (j : Int) < 4 := by omega
      have cl := (V0.out.below hb.out).lev hlt
      by_cases h8 : (80 : Int) < ((H j).n : Int)
      · have hF : Hid (T = true) := Lib.hid (by rw [hT.out]; exact tf_true (fun k => by have := k j hlt; omega))
        go_wp2_with fail
        go_returns
        exact ⟨by rw [hF.out]; rfl, below_of B0.out hb.out⟩
      · have hs2 : Hid (∀ k, k < j + 1 → (H k).n ≤ 80) := Lib.hid (fun k hk => by
          rcases Nat.lt_or_ge k j with h | h
          · exact hs.out k h
          · obtain rfl : k = j := by omega
            omega)
        go_wp2_with fail
        go_roundw
        case rel => exact ⟨j + 1, by omega, by go_num, hs2, hb⟩
        case measure => simp [intOf]; omega
    · have i0 : ¬ (j : Int) < 4 := by omega
      have hF : Hid (T = false) := Lib.hid (by rw [hT.out]; exact tf_false (fun k => k (fun i hi => hs.out i (by omega))))
      go_wp2_with fail
      go_returns
      exact ⟨by rw [hF.out]; rfl, below_of B0.out hb.out⟩
set_option maxRecDepth 100000 in
set_option maxHeartbeats 4000000 in
theorem long_any (e : Ed) (hg ha : Hd) (w : World) : Calls Try.prog 10 #[edV e hg ha] w fun r w' => r = .returned (.bool (tf (¬ (hg.n ≤ 300 ∧ ha.n ≤ 300)))) ∧ Below w.heap.size w w' := by
  have B0 := Lib.hid (below_alloc w (edO e hg ha))
  by_cases h1 : (300 : Int) < (hg.n : Int)
  · rw [tf_true (show ¬ (hg.n ≤ 300 ∧ ha.n ≤ 300) by omega)]
    go_enter Try.func10, Try.ntmps10
    go_wp2_with fail
    go_returns
    exact ⟨rfl, B0.out⟩
  · by_cases h2 : (300 : Int) < (ha.n : Int)
    · rw [tf_true (show ¬ (hg.n ≤ 300 ∧ ha.n ≤ 300) by omega)]
      go_enter Try.func10, Try.ntmps10
      go_wp2_with fail
      go_returns
      exact ⟨rfl, B0.out⟩
    · rw [tf_false (show ¬ ¬ (hg.n ≤ 300 ∧ ha.n ≤ 300) by omega)]
      go_enter Try.func10, Try.ntmps10
      go_wp2_with fail
      go_returns
      exact ⟨rfl, B0.out⟩
end Go.Proofs.Ytkkedofbnmjgeaa
