/-
  The contract of the program's without: copies of the levels without the tables that go. Condition: at most 100 tables a level, 1000 that go.
-/
import Derived.Test.YtnmjfdejgfmoiaaPack10
namespace Go.Proofs.Ytnmjfdejgfmoiaa
set_option maxRecDepth 100000
open Go Go.RowKit
/-- Does the table of level i go? -/
noncomputable def goes (gs : List Gn) (i : Nat) (m : Mt) : Bool := tf ((⟨(i : Int), m.num⟩ : Gn) ∈ gs)
noncomputable def outL (gs : List Gn) (i : Nat) (l : List Mt) : List Mt := l.filter (fun m => !goes gs i m)
noncomputable def inN (gs : List Gn) (i : Nat) (l : List Mt) : Nat := (l.filter (fun m => goes gs i m)).length
/-- What is left behind the levels below i and k tables of level i. -/
noncomputable def lvTo (gs : List Gn) (L : Nat → List Mt) (i k : Nat) : Nat → List Mt := fun j => if j < i then outL gs j (L j) else if j = i then outL gs i ((L i).take k) else []
noncomputable def fdTo (gs : List Gn) (L : Nat → List Mt) : Nat → Nat → Nat
  | 0, k => inN gs 0 ((L 0).take k)
  | i + 1, k => fdTo gs L i (L i).length + inN gs (i + 1) ((L (i + 1)).take k)
theorem take_snoc' {l : List Mt} {k : Nat} {x : Mt} (h : l[k]? = some x) : l.take (k + 1) = l.take k ++ [x] := by rw [List.take_add_one, h]; rfl
theorem lvTo_yes {gs : List Gn} {L : Nat → List Mt} {i k : Nat} {x : Mt} (h : (L i)[k]? = some x) (hg : goes gs i x = true) : lvTo gs L i (k + 1) = lvTo gs L i k := by
  funext j
  unfold lvTo outL
  rw [take_snoc' h, List.filter_append]
  simp [hg]
theorem lvTo_no {gs : List Gn} {L : Nat → List Mt} {i k : Nat} {x : Mt} (h : (L i)[k]? = some x) (hg : goes gs i x = false) : lvTo gs L i (k + 1) = upL (lvTo gs L i k) i (lvTo gs L i k i ++ [x]) := by
  funext j
  unfold upL
  by_cases e : j = i
  · subst e
    rw [if_pos rfl]
    unfold lvTo outL
    rw [take_snoc' h, List.filter_append]
    simp [hg]
  · rw [if_neg e]
    unfold lvTo
    simp [e]
theorem inN_snoc (gs : List Gn) (i : Nat) (l : List Mt) (x : Mt) : inN gs i (l ++ [x]) = inN gs i l + (if goes gs i x = true then 1 else 0) := by
  unfold inN
  rw [List.filter_append, List.length_append]
  by_cases h : goes gs i x = true
  · simp [h]
  · simp [h]
theorem fdTo_step {gs : List Gn} {L : Nat → List Mt} {i k : Nat} {x : Mt} (h : (L i)[k]? = some x) : fdTo gs L i (k + 1) = fdTo gs L i k + (if goes gs i x = true then 1 else 0) := by
  cases i with
  | zero => show inN gs 0 ((L 0).take (k + 1)) = inN gs 0 ((L 0).take k) + _; rw [take_snoc' h, inN_snoc]
  | succ i => show fdTo gs L i (L i).length + inN gs (i + 1) ((L (i + 1)).take (k + 1)) = fdTo gs L i (L i).length + inN gs (i + 1) ((L (i + 1)).take k) + _; rw [take_snoc' h, inN_snoc]; omega
theorem lvTo_next {gs : List Gn} {L : Nat → List Mt} {i n : Nat} (h : (L i).length = n) : lvTo gs L i n = lvTo gs L (i + 1) 0 := by
  funext j
  unfold lvTo
  by_cases h1 : j < i
  · rw [if_pos h1, if_pos (by omega)]
  · rw [if_neg h1]
    by_cases h2 : j = i
    · subst h2
      rw [if_pos rfl, if_pos (by omega), ← h, List.take_length]
    · rw [if_neg h2, if_neg (by omega)]
      by_cases h3 : j = i + 1
      · subst h3; rw [if_pos rfl]; rfl
      · rw [if_neg h3]
theorem fdTo_next {gs : List Gn} {L : Nat → List Mt} {i n : Nat} (h : (L i).length = n) : fdTo gs L (i + 1) 0 = fdTo gs L i n := by
  show fdTo gs L i (L i).length + inN gs (i + 1) ((L (i + 1)).take 0) = _
  rw [h]
  simp [inN]
theorem lvTo_zero (gs : List Gn) (L : Nat → List Mt) : lvTo gs L 0 0 = fun _ => [] := by
  funext j
  unfold lvTo
  rw [if_neg (Nat.not_lt_zero j)]
  split
  · simp [outL]
  · rfl
theorem fdTo_le {gs : List Gn} {L : Nat → List Mt} (h : ∀ i, i < 4 → (L i).length ≤ 100) : ∀ i k, i < 4 → fdTo gs L i k ≤ 100 * (i + 1)
  | 0, k, hi => by
    have h1 := h 0 hi
    have h2 := List.length_filter_le (fun m => goes gs 0 m) ((L 0).take k)
    rw [List.length_take] at h2
    show ((((L 0).take k).filter (fun m => goes gs 0 m)).length) ≤ _
    omega
  | i + 1, k, hi => by
    have h0 := fdTo_le (gs := gs) h i (L i).length (by omega)
    have h1 := h (i + 1) hi
    have h2 := List.length_filter_le (fun m => goes gs (i + 1) m) ((L (i + 1)).take k)
    rw [List.length_take] at h2
    show fdTo gs L i (L i).length + ((((L (i + 1)).take k).filter (fun m => goes gs (i + 1) m)).length) ≤ _
    omega
theorem lvTo_len {gs : List Gn} {L : Nat → List Mt} (h : ∀ i, i < 4 → (L i).length ≤ 100) {i k : Nat} (hi : i < 4) : (lvTo gs L i k i).length ≤ 100 := by
  unfold lvTo
  rw [if_neg (Nat.lt_irrefl i), if_pos rfl]
  have h1 := List.length_filter_le (fun m => !goes gs i m) ((L i).take k)
  rw [List.length_take] at h1
  have := h i hi
  unfold outL
  omega
/-- without under way. -/
structure WoI (gs : List Gn) (Lr : Nat → List Mt) (K : Nat → Hd) (w wr : World) : Prop where
  left : wr.heap[w.heap.size + 1]? = some (lvsO K)
  own : OwnLv (w.heap.size + 3) Lr K wr
  set : GSetAt (w.heap.size + 2) gs.length gs wr
  f : Below w.heap.size w wr
  big : w.heap.size + 3 ≤ wr.heap.size
theorem WoI.below {gs : List Gn} {Lr : Nat → List Mt} {K : Nat → Hd} {w wr u : World} (h : WoI gs Lr K w wr) (hb : Below wr.heap.size wr u) : WoI gs Lr K w u :=
  ⟨(hb.block _ (by have := h.big; omega)).trans h.left, h.own.below hb, h.set.below hb, below_of h.f hb, Nat.le_trans h.big hb.size⟩
theorem WoI.add {gs : List Gn} {Lr : Nat → List Mt} {K : Nat → Hd} {w C w1 : World} {tmp : Obj} (h : WoI gs Lr K w C) {i : Nat} (hi : i < 4) {x : Mt} {g cap : Nat} (hown : w1.ownsRow (w.heap.size + 3) 40 7 (.slice (some ⟨g, 0, none⟩) ((K i).n + 1) cap) ((K i).n + 1) ((Lr i).flatMap cellsM ++ cellsM x))
    (hgrow : (C.alloc tmp).grownBy w1 (Value.slice (K i).a (K i).n (K i).c).ownBlock) (hat : (Value.slice (K i).a (K i).n (K i).c).ownBlock = some g ∨ g = (C.alloc tmp).heap.size) :
    WoI gs (upL Lr i (Lr i ++ [x])) (upH K i ⟨some ⟨g, 0, none⟩, (K i).n + 1, cap, g, 0⟩) w (w1.setCell ⟨w.heap.size + 1, i, none⟩ (.slice (some ⟨g, 0, none⟩) ((K i).n + 1) cap)) ∧ w1.cell? ⟨w.heap.size + 1, i, none⟩ = some (.slice (K i).a (K i).n (K i).c) ∧ w1.frozen? ⟨w.heap.size + 1, i, none⟩ = false := by
  have hF : Fr (w.heap.size + 3) (w.heap.size + 1) C w1 := Fr.grown h.big hgrow (fun r e => (row_of (h.own.row i hi) r e).1)
  have hl : w1.heap[w.heap.size + 1]? = some (lvsO K) := by
    refine (hgrow.block (w.heap.size + 1) (by rw [World.size_alloc]; have := h.big; omega) (fun e => ?_)).trans ((Below.heap_alloc C tmp _ (by have := h.big; omega)).trans h.left)
    have := (row_of (h.own.row i hi) _ e.symm).1
    omega
  have hF2 := hF.set i (.slice (some ⟨g, 0, none⟩) ((K i).n + 1) cap)
  refine ⟨⟨lvs_set hl hi ⟨some ⟨g, 0, none⟩, (K i).n + 1, cap, g, 0⟩, (h.own.add hi hown hgrow hat).put (by omega), h.set.keep (hF2.block _ (by omega) (by omega)), h.f.trans (hF2.below (by omega) (by omega)), Nat.le_trans h.big hF2.size⟩, lvs_cell hl hi, lvs_frozen hl i⟩
theorem infoMt : (Try.prog.info? 40).map (fun i => (i.zero, i.size, i.bytes)) = some (some (.agg #[.int .u64 0, .int .i64 0, .int .i64 0, .string .empty, .string .empty, .int .u64 0, .int .u64 0]), 7, 72) := infoM
theorem bound_m {n : Nat} (h : n ≤ 2000) : n + 1 ≤ maxLen ∧ (n + 1) * 72 ≤ 140737488355328 := by unfold maxLen; omega
theorem gnIn_of {i : Nat} (hi : i < 4) {m : Mt} (hm : m.num ≤ 18446744073709551615) : GnIn ⟨(i : Int), m.num⟩ := ⟨by simp [Lit.wf, IntKind.min, IntKind.max, IntKind.signed, IntKind.bits]; omega, hm⟩
abbrev lvsPut (p : Nat) (K : Nat → Hd) (w : World) : World := (((w.setCell ⟨p, 0, none⟩ (.slice (K 0).a (K 0).n (K 0).c)).setCell ⟨p, 1, none⟩ (.slice (K 1).a (K 1).n (K 1).c)).setCell ⟨p, 2, none⟩ (.slice (K 2).a (K 2).n (K 2).c)).setCell ⟨p, 3, none⟩ (.slice (K 3).a (K 3).n (K 3).c)
theorem lvs_put {p : Nat} {K0 K : Nat → Hd} {w : World} (h : w.heap[p]? = some (lvsO K0)) : (lvsPut p K w).heap[p]? = some (lvsO K) :=
  (heap_setCell_same _ _ _ _ _ _ ((heap_setCell_same _ _ _ _ _ _ ((heap_setCell_same _ _ _ _ _ _ ((heap_setCell_same _ _ _ _ _ _ h).trans rfl)).trans rfl)).trans rfl)).trans rfl
theorem below_lvsPut {B p : Nat} {w V : World} (h : Below B w V) (hp : B ≤ p) (K : Nat → Hd) : Below B w (lvsPut p K V) :=
  (((h.setCell (p := ⟨p, 0, none⟩) hp _).setCell (p := ⟨p, 1, none⟩) hp _).setCell (p := ⟨p, 2, none⟩) hp _).setCell (p := ⟨p, 3, none⟩) hp _
set_option maxRecDepth 100000 in
set_option maxHeartbeats 16000000 in
theorem without_any {G : Nat → Hd} {L : Nat → List Mt} {hg : Hd} {gs : List Gn} {w : World} (hL : LvAtG L G w) (hLI : ∀ i, i < 4 → ∀ x ∈ L i, MtIn x) (hL100 : ∀ i, i < 4 → (L i).length ≤ 100) (h : Gs hg gs w) (hI : ∀ g ∈ gs, GnIn g) (hn : hg.n ≤ 1000) :
    Calls Try.prog 17 #[lvsV G, .slice hg.a hg.n hg.c] w fun r w' => ∃ K : Nat → Hd, r = .returned (.tuple #[lvsV K, .bool (tf (fdTo gs L 4 0 = gs.length))]) ∧ OwnLv (w.heap.size + 3) (lvTo gs L 4 0) K w' ∧ Below w.heap.size w w' ∧ w.heap.size + 3 ≤ w'.heap.size := by
  obtain ⟨ga, gn, gc, gb, go⟩ := hg
  have m1 : gc ≤ 9223372036854775807 := h.sl.most
  have q1 : gn ≤ gc := h.sl.cap
  replace hn : gn ≤ 1000 := hn
  have e1 : Hid (gs.length = gn) := Lib.hid h.len
  have hmm := @run_makeMap Try.prog
  have B0 : Hid (Below w.heap.size w (((w.alloc (lvsO G)).alloc noO).alloc (.map #[] 0))) := Lib.hid ((((below_alloc w _).alloc (by simp) noO)).alloc (by simp; omega) _)
  have S0 : Hid (GSetAt (w.heap.size + 2) 0 (gs.take 0) (((w.alloc (lvsO G)).alloc noO).alloc (.map #[] 0))) := Lib.hid (by
    have := GSetAt.new ((w.alloc (lvsO G)).alloc noO)
    rwa [World.size_alloc, World.size_alloc] at this)
  have N0 : Hid (But (w.heap.size + 2) (((w.alloc (lvsO G)).alloc noO).alloc (.map #[] 0)) (((w.alloc (lvsO G)).alloc noO).alloc (.map #[] 0))) := Lib.hid (But.refl _ _)
  have BX : Hid ((((w.alloc (lvsO G)).alloc noO).alloc (.map #[] 0)).heap[w.heap.size]? = some (lvsO G)) := Lib.hid (by
    rw [heap_alloc_old _ _ (by simp; omega), heap_alloc_old _ _ (by simp)]
    exact heap_alloc_new _ _)
  have LX : Hid ((((w.alloc (lvsO G)).alloc noO).alloc (.map #[] 0)).heap[w.heap.size + 1]? = some noO) := Lib.hid (by
    rw [heap_alloc_old _ _ (by simp)]
    have := heap_alloc_new (w.alloc (lvsO G)) noO
    rwa [World.size_alloc] at this)
  have Z0 : Hid ((((w.alloc (lvsO G)).alloc noO).alloc (.map #[] 0)).heap.size = w.heap.size + 3) := Lib.hid (by simp)
  have lenH : Hid (∀ i, i < 4 → (L i).length = (G i).n) := Lib.hid (fun i hi => (hL i hi).len)
  have VM : Hid (∀ u, Below w.heap.size w u → ∀ i, i < 4 → Ms (G i) (L i) u) := Lib.hid (fun u hu i hi => (hL i hi).below hu)
  have MC : Hid (∀ i, i < 4 → ∀ x ∈ L i, ∀ u, Calls Try.prog 38 #[.agg #[.int .u64 (x.num : Int), .int .i64 x.size, .int .i64 x.rows, .string x.fst, .string x.lst, .int .u64 (x.least : Int), .int .u64 (x.gr : Int)]] u fun e w' => e = .returned (.agg #[.int .u64 (x.num : Int), .int .i64 x.size, .int .i64 x.rows, .string x.fst, .string x.lst, .int .u64 (x.least : Int), .int .u64 (x.gr : Int)]) ∧ Below u.heap.size u w') := Lib.hid (fun i hi x hx u => mcopied_any x (hLI i hi x hx).2.1 (hLI i hi x hx).2.2.1 u)
  have KI : Hid (∀ i, i < 4 → ∀ x ∈ L i, GnIn ⟨(i : Int), x.num⟩) := Lib.hid (fun i hi x hx => gnIn_of hi (hLI i hi x hx).1)
  have hL100 := Lib.hid hL100
  replace h := Lib.hid h
  replace hI := Lib.hid hI
  clear hL hLI
  obtain ⟨T, hT⟩ := named (tf (fdTo gs L 4 0 = gs.length))
  rw [← hT.out]
  replace hT := Lib.hid hT.out
  obtain ⟨ti, hi, hy0, hy1, hy2⟩ := info_parts infoMt
  go_enter Try.func17, Try.ntmps17
  go_wp2_with fail
  go_loopw [19] (fun i wr => ∃ j : Nat, j ≤ gn ∧ i = .int .i64 (j : Int) ∧ Hid (GSetAt (w.heap.size + 2) j (gs.take j) wr) ∧ Hid (But (w.heap.size + 2) (((w.alloc (lvsO G)).alloc noO).alloc (.map #[] 0)) wr)) (fun i _ => gn - (intOf i).toNat)
  case atStart => exact ⟨0, Nat.zero_le _, rfl, S0, N0⟩
  case round =>
    obtain ⟨j, hj, rfl, hs, hb⟩ := hrel
    have bw : Hid (Below w.heap.size w wr) := Lib.hid (B0.out.trans (hb.out.below (by omega) B0.out.size))
    by_cases hlt : j < gn
    · obtain ⟨D, hown, hhas⟩ := hs.out
      obtain ⟨x, hx, rfl, hbl, x0, x1⟩ := (h.out.below bw.out).at2x hlt
      have hxI := Lib.hid (hI.out x (List.mem_of_getElem? hx))
      have hkey := Lib.hid (keyG hxI.out)
      have hnext : Hid (gs.take (j + 1) = gs.take j ++ [x]) := Lib.hid (by rw [List.take_add_one, hx]; rfl)
      replace hown := Lib.hid (hown.alloc (gnO x))
      replace hhas := Lib.hid hhas
      have hb4 := Lib.hid (hb.out.alloc (gnO x))
      have i0 : (j : Int) < (gn : Int) := by omega
      clear hx hs
      go_wp2_with (at_mapUpdate; refine wpList_mapUpdate_own _ rfl _ _ _ 80 rfl 45 81 lawG Try.underlying80 _ (w.heap.size + 2) _ _ rfl hown.out (by unfold maxLen; omega) _ _ _ rfl rfl hkey.out _ [] unitElem_mk ?_; intro w4 hown4 hg4; have S4 : Hid (GSetAt (w.heap.size + 2) (j + 1) (gs.take (j + 1)) w4) := Lib.hid (by rw [hnext.out]; exact GSetAt.put hxI.out hown4 hown.out.isMap hhas.out); have N4 := Lib.hid (hb4.out.trans (But.of_grown hg4)); clear hg4 hown4)
      go_roundw
      case rel => exact ⟨j + 1, by omega, by go_num, S4, N4⟩
      case measure => simp [intOf]; omega
    · obtain rfl : j = gn := by omega
      have i0 : ¬ (j : Int) < (j : Int) := by omega
      have k1 : Hid (wr.heap[w.heap.size]? = some (lvsO G)) := Lib.hid ((hb.out.block w.heap.size (by rw [Z0.out]; omega) (by omega)).trans BX.out)
      have k2 : Hid (wr.heap[w.heap.size + 1]? = some noO) := Lib.hid ((hb.out.block (w.heap.size + 1) (by rw [Z0.out]; omega) (by omega)).trans LX.out)
      have big : Hid (w.heap.size + 3 ≤ wr.heap.size) := Lib.hid (by rw [← Z0.out]; exact hb.out.size)
      have g0 := lvs_cell k1.out (show 0 < 4 by decide)
      have g1 := lvs_cell k1.out (show 1 < 4 by decide)
      have g2 := lvs_cell k1.out (show 2 < 4 by decide)
      have g3 := lvs_cell k1.out (show 3 < 4 by decide)
      have W0 : Hid (WoI gs (lvTo gs L 0 0) noHd w wr) := Lib.hid ⟨k2.out, by rw [lvTo_zero]; exact OwnLv.nil _ _, by have := hs.out; rw [List.take_of_length_le (by rw [e1.out]; exact Nat.le_refl _)] at this; rw [e1.out]; exact this, bw.out, big.out⟩
      have F0 : Hid (fdTo gs L 0 0 = 0) := Lib.hid (by show inN gs 0 ((L 0).take 0) = 0; simp [inN])
      clear hs hb B0 S0 N0 BX LX Z0 h bw k1 k2 big
      go_wp2_with fail
      clear g0 g1 g2 g3
      go_loopw [9, 28] (fun fd i wr => ∃ k : Nat, k ≤ 4 ∧ fd = .int .i64 ((fdTo gs L k 0 : Nat) : Int) ∧ i = .int .i64 (k : Int) ∧ ∃ K, Hid (WoI gs (lvTo gs L k 0) K w wr)) (fun _ i _ => 4 - (intOf i).toNat)
      case atStart => exact ⟨0, Nat.zero_le _, by rw [F0.out]; rfl, rfl, _, W0⟩
      case round =>
        clear W0 F0
        obtain ⟨i, hi4, rfl, rfl, K, hW⟩ := hrel
        by_cases hlt2 : i < 4
        · have j0 : (i : Int) < 4 := by omega
          have IX : ∀ u : World, (Instr.index 24 (.agg #[.slice (G 0).a (G 0).n (G 0).c, .slice (G 1).a (G 1).n (G 1).c, .slice (G 2).a (G 2).n (G 2).c, .slice (G 3).a (G 3).n (G 3).c]) (.int .i64 (i : Int))).run Try.prog u = .ok (.slice (G i).a (G i).n (G i).c) u := fun u => ix_lev G hlt2 u
          have hlen := Lib.hid (lenH.out i hlt2)
          have MCi := Lib.hid (MC.out i hlt2)
          have VMi := Lib.hid (fun u hu => VM.out u hu i hlt2)
          have KIi := Lib.hid (KI.out i hlt2)
          have hnx := Lib.hid (lvTo_next (gs := gs) hlen.out)
          have hfx := Lib.hid (fdTo_next (gs := gs) hlen.out)
          have hfle : Hid (∀ k, fdTo gs L i k ≤ 400) := Lib.hid (fun k => by have := fdTo_le (gs := gs) hL100.out i k hlt2; omega)
          have hlle : Hid (∀ k, (lvTo gs L i k i).length ≤ 100) := Lib.hid (fun k => lvTo_len hL100.out hlt2)
          obtain ⟨⟨ha, hn', hc, hb, ho⟩, hh⟩ := named (G i)
          rw [← hh.out] at IX hlen VMi hnx hfx
          simp only at IX hlen VMi hnx hfx
          replace hh := Lib.hid trivial
          have hcm : hn' ≤ hc ∧ hc ≤ 9223372036854775807 := by
            have := VMi.out wr hW.out.f
            exact ⟨this.sl.cap, this.sl.most⟩
          obtain ⟨hcm1, hcm2⟩ := hcm
          go_wp2_with fail
          clear IX
          go_loopw [9, 34] (fun fd iv wr => ∃ k : Nat, k ≤ hn' ∧ fd = .int .i64 ((fdTo gs L i k : Nat) : Int) ∧ iv = .int .i64 (k : Int) ∧ ∃ K, Hid (WoI gs (lvTo gs L i k) K w wr)) (fun _ iv _ => hn' - (intOf iv).toNat)
          case atStart => exact ⟨0, Nat.zero_le _, rfl, rfl, _, hW⟩
          case round =>
            clear hW
            obtain ⟨k, hkn, rfl, rfl, K, hW⟩ := hrel
            by_cases hltk : k < hn'
            · have k0 : (k : Int) < (hn' : Int) := by omega
              obtain ⟨x, hx, rfl, hbl, m0, m1', m2, m3, m4, m5, m6⟩ := (VMi.out _ hW.out.f).at7x hltk
              have CP := Lib.hid (MCi.out x (List.mem_of_getElem? hx))
              have hxI := KIi.out x (List.mem_of_getElem? hx)
              have hkey := Lib.hid (keyG hxI)
              have hstep := Lib.hid (fdTo_step (gs := gs) hx)
              have hF : fdTo gs L i k ≤ 400 := hfle.out k
              have hle : Hid ((lvTo gs L i k i).length ≤ 100) := Lib.hid (hlle.out k)
              have W1 := Lib.hid (hW.out.below (below_alloc wr (rmO x)))
              obtain ⟨D, hown, hhas⟩ := W1.out.set
              have hT1 : Maps.has D (kG ⟨(i : Int), x.num⟩) = goes gs i x := hhas _ hxI
              replace hown := Lib.hid hown
              replace hhas := Lib.hid trivial
              clear hxI
              cases hgo : goes gs i x with
              | true =>
                rw [hgo] at hT1
                have hn1 := Lib.hid (lvTo_yes hx hgo)
                have hn2 : Hid (fdTo gs L i (k + 1) = fdTo gs L i k + 1) := Lib.hid (by rw [hstep.out, if_pos hgo])
                obtain ⟨F, hFn⟩ := named (fdTo gs L i k)
                rw [← hFn.out] at hF hn2
                rw [← hFn.out]
                have W2 := Lib.hid (W1.out.below (below_alloc (wr.alloc (rmO x)) (.cells #[] 81)))
                clear hx hgo hFn hstep
                go_wp2_with (at_lookup; refine wpList_lookup_own_unit _ rfl _ _ 80 rfl 45 81 lawG Try.underlying80 (zeroS _) (w.heap.size + 2) _ D rfl hown.out _ _ rfl hkey.out ?_)
                go_roundw
                case rel => exact ⟨k + 1, by omega, by rw [hn2.out]; go_num, by go_num, _, by rw [hn1.out]; exact W2⟩
                case measure => simp [intOf]; omega
              | false =>
                rw [hgo] at hT1
                have hn1 := Lib.hid (lvTo_no hx hgo)
                have hn2 : Hid (fdTo gs L i (k + 1) = fdTo gs L i k) := Lib.hid (by rw [hstep.out, if_neg (by rw [hgo]; decide)]; rfl)
                obtain ⟨F, hFn⟩ := named (fdTo gs L i k)
                rw [← hFn.out] at hF hn2
                rw [← hFn.out]
                have hlen1 : Hid ((lvTo gs L i k i).length = (K i).n) := Lib.hid (hW.out.own.n i hlt2)
                obtain ⟨Lr, hLr⟩ := named (lvTo gs L i k)
                rw [← hLr.out] at hn1 hle hW W1 hlen1
                have M1 := Lib.hid (heap_alloc_new wr (rmO x))
                obtain ⟨xn, xs, xr, xf, xl, xm, xg⟩ := x
                simp only at m0 m1' m2 m3 m4 m5 m6 CP hkey
                clear hx hgo hFn hLr hstep
                go_upto_region 17 with (at_lookup; refine wpList_lookup_own_unit _ rfl _ _ 80 rfl 45 81 lawG Try.underlying80 (zeroS _) (w.heap.size + 2) _ D rfl hown.out _ _ rfl hkey.out ?_)
                have W2 := Lib.hid ((W1.out.below (below_alloc (wr.alloc (rmO ⟨xn, xs, xr, xf, xl, xm, xg⟩)) (.cells #[] 81))).below (Below.refl _ _).drew)
                have M2 : Hid (((wr.alloc (rmO ⟨xn, xs, xr, xf, xl, xm, xg⟩)).alloc (.cells #[] 81)).drew.heap[wr.heap.size]? = some (rmO ⟨xn, xs, xr, xf, xl, xm, xg⟩)) := Lib.hid ((Below.heap_alloc (wr.alloc (rmO ⟨xn, xs, xr, xf, xl, xm, xg⟩)) _ _ (by rw [World.size_alloc]; omega)).trans M1.out)
                clear W1 M1
                have HB := Lib.hid (fun r (hr : (Value.slice (K i).a (K i).n (K i).c).ownBlock = some r) => (row_of (hW.out.own.row i hlt2) r hr).2.1)
                obtain ⟨b7, hb7⟩ := named wr.heap.size
                obtain ⟨u7, hu7⟩ := named ((wr.alloc (rmO ⟨xn, xs, xr, xf, xl, xm, xg⟩)).alloc (.cells #[] 81))
                rw [← hu7.out] at W2 M2
                rw [← hb7.out] at M2 HB
                rw [← hu7.out, ← hb7.out]
                replace hu7 := Lib.hid trivial
                replace hb7 := Lib.hid trivial
                have hbd := Lib.hid (bound_m (show (K i).n ≤ 2000 by rw [← hlen1.out]; have := hle.out; omega))
                have O2 := Lib.hid (W2.out.own.row i hlt2)
                have L2 := Lib.hid (lvs_cell W2.out.left hlt2)
                have AD := Lib.hid (fun (C w1 : World) (tmp : Obj) (hC : WoI gs Lr K w C) (g cap : Nat) hown hgrow hat => hC.add (w1 := w1) (tmp := tmp) hlt2 (x := ⟨xn, xs, xr, xf, xl, xm, xg⟩) (g := g) (cap := cap) hown hgrow hat)
                have RW := Lib.hid (fun (C : World) (hC : WoI gs Lr K w C) => (⟨hC.own.row i hlt2, lvs_cell hC.left hlt2⟩ : _ ∧ _))
                obtain ⟨⟨q1', q2', q3', q4', q5'⟩, hq⟩ := named (K i)
                rw [← hq.out] at hbd O2 L2 AD RW HB
                simp only at hbd O2 L2 AD RW HB
                have SS : Hid (∀ u : World, u.cell? ⟨w.heap.size + 1, i, none⟩ = some (.slice q1' q2' q3') → u.heap[b7]? = some (rmO ⟨xn, xs, xr, xf, xl, xm, xg⟩) → (u.cell? ⟨w.heap.size + 1, i, none⟩ = some (.slice q1' q2' q3') ∧ u.cell? ⟨b7, 0, none⟩ = some (.int .u64 (xn : Int)) ∧ u.cell? ⟨b7, 1, none⟩ = some (.int .i64 xs) ∧ u.cell? ⟨b7, 2, none⟩ = some (.int .i64 xr) ∧ u.cell? ⟨b7, 3, none⟩ = some (.string xf) ∧ u.cell? ⟨b7, 4, none⟩ = some (.string xl) ∧ u.cell? ⟨b7, 5, none⟩ = some (.int .u64 (xm : Int)) ∧ u.cell? ⟨b7, 6, none⟩ = some (.int .u64 (xg : Int)))) := Lib.hid (fun u h1 h2 => ⟨h1, rm_cells h2⟩)
                have S0 := Lib.hid (SS.out _ L2.out M2.out)
                clear m0 m1' m2 m3 m4 m5 m6 MC MCi VM VMi lenH hnx hfx hfle hlle KI KIi hle hlen1 hW hown hT1 hkey
                refine wp_region_E 9 (S := (fun u => u.cell? ⟨w.heap.size + 1, i, none⟩ = some (.slice q1' q2' q3') ∧ u.cell? ⟨b7, 0, none⟩ = some (.int .u64 (xn : Int)) ∧ u.cell? ⟨b7, 1, none⟩ = some (.int .i64 xs) ∧ u.cell? ⟨b7, 2, none⟩ = some (.int .i64 xr) ∧ u.cell? ⟨b7, 3, none⟩ = some (.string xf) ∧ u.cell? ⟨b7, 4, none⟩ = some (.string xl) ∧ u.cell? ⟨b7, 5, none⟩ = some (.int .u64 (xm : Int)) ∧ u.cell? ⟨b7, 6, none⟩ = some (.int .u64 (xg : Int)))) (by kernel_rfl) (S0.out) (fun hHeld => ?_)
                refine heldE_take (i := 0) (v := ?_) rfl (by kernel_rfl) (by kernel_rfl) (by kernel_rfl) (fun _ _ _ h => h) (by rfl) (fun w hSw => ?_) (by assumption) ?_; rotate_left 1; focus (((try dsimp only at hSw); first | (go_simp; done) | (go_simp; with_reducible rfl)))
                try simp only [Act.put, List.setIfInBounds_toArray, List.set_cons_zero, List.set_cons_succ]
                refine heldE_take (i := 1) (v := ?_) rfl (by kernel_rfl) (by kernel_rfl) (by kernel_rfl) (fun _ _ _ h => h) (by rfl) (fun w hSw => ?_) (by assumption) ?_; rotate_left 1; focus (((try dsimp only at hSw); first | (go_simp; done) | (go_simp; with_reducible rfl)))
                try simp only [Act.put, List.setIfInBounds_toArray, List.set_cons_zero, List.set_cons_succ]
                refine heldE_take (i := 2) (v := ?_) rfl (by kernel_rfl) (by kernel_rfl) (by kernel_rfl) (fun _ _ _ h => h) (by rfl) (fun w hSw => ?_) (by assumption) ?_; rotate_left 1; focus (((try dsimp only at hSw); first | (go_simp; done) | (go_simp; with_reducible rfl)))
                try simp only [Act.put, List.setIfInBounds_toArray, List.set_cons_zero, List.set_cons_succ]
                refine heldE_take (i := 3) (v := ?_) rfl (by kernel_rfl) (by kernel_rfl) (by kernel_rfl) (fun _ _ _ h => h) (by rfl) (fun w hSw => ?_) (by assumption) ?_; rotate_left 1; focus (((try dsimp only at hSw); first | (go_simp; done) | (go_simp; with_reducible rfl)))
                try simp only [Act.put, List.setIfInBounds_toArray, List.set_cons_zero, List.set_cons_succ]
                refine heldE_take (i := 4) (v := ?_) rfl (by kernel_rfl) (by kernel_rfl) (by kernel_rfl) (fun _ _ _ h => h) (by rfl) (fun w hSw => ?_) (by assumption) ?_; rotate_left 1; focus (((try dsimp only at hSw); first | (go_simp; done) | (go_simp; with_reducible rfl)))
                try simp only [Act.put, List.setIfInBounds_toArray, List.set_cons_zero, List.set_cons_succ]
                refine heldE_call (i := 5) (by kernel_rfl) rfl (by rfl) (fun K hK => ?_)
                go_simp
                refine (CP.out _).mono ?_
                rintro r w6 ⟨rfl, hb6⟩
                have W3 := Lib.hid (W2.out.below hb6)
                have M3 := Lib.hid ((hb6.block b7 (Array.getElem?_eq_some_iff.1 M2.out).1).trans M2.out)
                clear hb6
                refine hK.out _ _ (SS.out _ (RW.out _ W3.out).2 M3.out) (fun hHeld => ?_)
                try simp only [Act.put, List.setIfInBounds_toArray, List.set_cons_zero, List.set_cons_succ]
                refine heldE_call (i := 6) (by kernel_rfl) rfl (by rfl) (fun K hK => ?_)
                go_simp
                refine hK.out _ _ (SS.out _ (RW.out _ (W3.out.below (below_alloc _ _))).2 ((Below.heap_alloc _ _ _ (Array.getElem?_eq_some_iff.1 M3.out).1).trans M3.out)) (fun hHeld => ?_)
                try simp only [Act.put, List.setIfInBounds_toArray, List.set_cons_zero, List.set_cons_succ]
                refine heldE_call (i := 7) (by kernel_rfl) rfl (by rfl) (fun K hK => ?_)
                refine wp_append_lies _ (.tmp 53) (.tmp 56) 23 rfl (w.heap.size + 3) 40 ti (.agg #[.int .u64 0, .int .i64 0, .int .i64 0, .string .empty, .string .empty, .int .u64 0, .int .u64 0]) 7 72 Try.underlying23 hi hy0 hy1 hy2 rfl (by decide) (.slice q1' q2' q3') q2' ((Lr i).flatMap cellsM) (by rfl) ((RW.out _ W3.out).1.alloc _) ⟨w6.heap.size, 0, none⟩ 1 1 (cellsM ⟨xn, xs, xr, xf, xl, xm, xg⟩) (by rfl) rfl (World.news_of_block (heap_alloc_new _ _)) (by have := one_m [⟨xn, xs, xr, xf, xl, xm, xg⟩]; simpa using this) (by decide) hbd.out.1 hbd.out.2 (by rw [World.size_alloc]; have := W3.out.big; omega) _ rfl ?_
                intro g9 cap9 w8 hown8 hgrow8 hat8 _
                have M8 := Lib.hid ((hgrow8.block b7 (by rw [World.size_alloc]; have := (Array.getElem?_eq_some_iff.1 M3.out).1; omega) (fun e => Nat.lt_irrefl _ (HB.out b7 e.symm))).trans ((Below.heap_alloc _ _ _ (Array.getElem?_eq_some_iff.1 M3.out).1).trans M3.out))
                have F8 := AD.out _ _ _ W3.out g9 cap9 hown8 hgrow8 (by rw [World.size_alloc] at hat8 ⊢; exact hat8)
                have W8 := Lib.hid F8.1
                have K8 := Lib.hid F8.2
                clear F8 hown8 hgrow8 hat8
                refine hK.out _ _ (SS.out _ K8.out.1 M8.out) (fun hHeld => ?_)
                try simp only [Act.put, List.setIfInBounds_toArray, List.set_cons_zero, List.set_cons_succ]
                refine heldE_take (i := 8) (v := ?_) rfl (by kernel_rfl) (by kernel_rfl) (by kernel_rfl) (fun _ _ _ h => h) (by rfl) (fun w hSw => ?_) (by assumption) ?_; rotate_left 1; focus (((try dsimp only at hSw); first | (go_simp; done) | (go_simp; with_reducible rfl)))
                try simp only [Act.put, List.setIfInBounds_toArray, List.set_cons_zero, List.set_cons_succ]
                refine heldE_last (by kernel_rfl) rfl (by rfl) (fun K hK => ?_)
                obtain ⟨k8, f8⟩ := K8.out
                go_simp
                refine hK.out _ _ ?_
                try simp only [Act.put, List.setIfInBounds_toArray, List.set_cons_zero, List.set_cons_succ]
                refine wpE_done (by kernel_rfl) ?_ _
                go_wp2_with fail
                go_roundw
                case rel => exact ⟨k + 1, by omega, by rw [hn2.out], by go_num, _, by rw [hn1.out]; exact W8⟩
                case measure => simp [intOf]; omega
            · obtain rfl : k = hn' := by omega
              have k0 : ¬ (k : Int) < (k : Int) := by omega
              go_wp2_with fail
              go_roundw
              case rel => exact ⟨i + 1, by omega, by rw [hfx.out], by go_num, _, by rw [← hnx.out]; exact hW⟩
              case measure => simp [intOf]; omega
        · obtain rfl : i = 4 := by omega
          have j0 : ¬ ((4 : Nat) : Int) < 4 := by omega
          have hz : (((fdTo gs L 4 0 : Nat) : Int) == (j : Int)) = T := by
            rw [hT.out]
            by_cases e : fdTo gs L 4 0 = gs.length
            · rw [tf_true e, e, e1.out, beq_iff_eq]
            · rw [tf_false e, beq_eq_false_iff_ne]
              rw [e1.out] at e
              omega
          obtain ⟨F, hFn⟩ := named (fdTo gs L 4 0)
          rw [← hFn.out] at hz
          rw [← hFn.out]
          replace hFn := Lib.hid trivial
          have g0 := lvs_cell hW.out.left (show 0 < 4 by decide)
          have g1 := lvs_cell hW.out.left (show 1 < 4 by decide)
          have g2 := lvs_cell hW.out.left (show 2 < 4 by decide)
          have g3 := lvs_cell hW.out.left (show 3 < 4 by decide)
          have gf := lvs_frozen hW.out.left
          go_wp2_with fail
          have k3 := lvs_put (K := K) hW.out.left
          have p0 := lvs_cell k3 (show 0 < 4 by decide)
          have p1 := lvs_cell k3 (show 1 < 4 by decide)
          have p2 := lvs_cell k3 (show 2 < 4 by decide)
          have p3 := lvs_cell k3 (show 3 < 4 by decide)
          refine bodyPost_ret (v := .tuple #[lvsV K, .bool T]) (by simp [results, Try.results17, go_sem, p0, p1, p2, p3]) rfl ⟨K, rfl, ?_, below_lvsPut hW.out.f (Nat.le_succ _) K, by simp only [World.size_setCell]; exact hW.out.big⟩
          have hlt : w.heap.size + 1 < w.heap.size + 3 := by omega
          exact (((hW.out.own.put hlt).put hlt).put hlt).put hlt
end Go.Proofs.Ytnmjfdejgfmoiaa
