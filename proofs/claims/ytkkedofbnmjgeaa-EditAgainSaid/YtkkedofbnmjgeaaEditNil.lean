/-
  What goes and what is added where no level has a table: without and insert at empty levels. No condition.
-/
import Derived.Test.YtkkedofbnmjgeaaEditListed
import Derived.Test.YtkkedofbnmjgeaaLaidOut
import Derived.DeepKeys4
import Derived.Test.YtkkedofbnmjgeaaShelf
namespace Go.Proofs.Ytkkedofbnmjgeaa
set_option maxRecDepth 100000
open Go Go.RowKit
/-- A table that goes, as a key. -/
def kG (x : Gn) : Lit := .string (keyBytes [.int .i64 x.lev, .int .u64 (x.num : Int)])
theorem lawG : Maps.Keyed Try.prog 54 := Maps.Keyed.of_law (deep_law_laid laid_out (m := 2) (by omega) (of_decide_eq_true (by kernel_rfl)) (by kernel_rfl) (by rw [Try.underlying54]))
theorem keyG {x : Gn} (h : GnIn x) : keyOf Try.prog 54 (.agg #[.int .i64 x.lev, .int .u64 (x.num : Int)]) = some (kG x) := by
  have kt : Try.prog.keyType 54 = true := by kernel_rfl
  have c1 : Try.prog.cellsOf 54 = 2 := by kernel_rfl
  have c2 : Try.prog.cellsOf 3 = 1 := by kernel_rfl
  have c3 : Try.prog.cellsOf 22 = 1 := by kernel_rfl
  have fm : (Value.agg #[.int .i64 x.lev, .int .u64 (x.num : Int)]).formed Try.prog 54 = true := by simp [Value.formed, Try.underlying54, c1]
  have wn : (Lit.int .u64 (x.num : Int)).wf = true := by have := h.2; simp [Lit.wf, IntKind.min, IntKind.max, IntKind.signed, IntKind.bits]; omega
  obtain ⟨k, hk⟩ : ∃ k, Try.prog.types.size + 1 = k + 1 + 1 := by
    have h0 : 0 < Try.prog.types.size := of_decide_eq_true (by kernel_rfl)
    exact ⟨Try.prog.types.size - 1, by omega⟩
  have kl : Try.prog.keyLits (Try.prog.types.size + 1) 54 [.int .i64 x.lev, .int .u64 (x.num : Int)] = some [.int .i64 x.lev, .int .u64 (x.num : Int)] := by
    rw [hk]
    simp [Program.keyLits, Try.underlying54, Try.underlying3, Try.underlying22, c1, c2, c3, h.1, wn]
  unfold keyOf
  rw [Try.underlying54]
  simp only [kt, fm, Bool.and_self, if_true]
  show (Try.prog.keyLits (Try.prog.types.size + 1) 54 [.int .i64 x.lev, .int .u64 (x.num : Int)]).map _ = _
  rw [kl]
  rfl
abbrev noV : Value := .agg #[.slice none 0 0, .slice none 0 0, .slice none 0 0, .slice none 0 0]
abbrev noO : Obj := .cells #[.slice none 0 0, .slice none 0 0, .slice none 0 0, .slice none 0 0] 24 (0, 0)
abbrev noPut (p : Nat) (w : World) : World := (((w.setCell ⟨p, 0, none⟩ (.slice none 0 0)).setCell ⟨p, 1, none⟩ (.slice none 0 0)).setCell ⟨p, 2, none⟩ (.slice none 0 0)).setCell ⟨p, 3, none⟩ (.slice none 0 0)
theorem no_put {p : Nat} {w : World} (h : w.heap[p]? = some noO) : (noPut p w).heap[p]? = some noO :=
  (heap_setCell_same _ _ _ _ _ _ ((heap_setCell_same _ _ _ _ _ _ ((heap_setCell_same _ _ _ _ _ _ ((heap_setCell_same _ _ _ _ _ _ h).trans rfl)).trans rfl)).trans rfl)).trans rfl
set_option maxRecDepth 100000 in
set_option maxHeartbeats 8000000 in
theorem without_nil {hg : Hd} {gs : List Gn} {w : World} (h : Gs hg gs w) (hI : ∀ g ∈ gs, GnIn g) (hn : hg.n ≤ 1000) : Calls Try.prog 28 #[noV, .slice hg.a hg.n hg.c] w fun r w' => r = .returned (.tuple #[noV, .bool (decide (hg.n = 0))]) ∧ Below w.heap.size w w' := by
  obtain ⟨ga, gn, gc, gb, go⟩ := hg
  have m1 : gc ≤ 9223372036854775807 := h.sl.most
  have q1 : gn ≤ gc := h.sl.cap
  replace hn : gn ≤ 1000 := hn
  have e1 : Hid (gs.length = gn) := Lib.hid h.len
  have hmm := @run_makeMap Try.prog
  have B0 : Hid (Below w.heap.size w (((w.alloc noO).alloc noO).alloc (.map #[] 0))) := Lib.hid ((((below_alloc w noO).alloc (by simp) noO)).alloc (by simp; omega) _)
  have S0 : Hid (((((w.alloc noO).alloc noO).alloc (.map #[] 0))).ownsMap Try.prog 54 (unitElem (H := Unit)) (w.heap.size + 1 + 1) 0 (.map [])) := Lib.hid (by
    have := World.ownsMap_made ((w.alloc noO).alloc noO) Try.prog 54 (unitElem (H := Unit))
    rw [World.size_alloc, World.size_alloc] at this
    exact this)
  replace h := Lib.hid h
  replace hI := Lib.hid hI
  obtain ⟨T, hT⟩ := named (decide (gn = 0))
  show Calls _ _ _ _ fun r w' => r = .returned (.tuple #[noV, .bool (decide (gn = 0))]) ∧ Below w.heap.size w w'
  rw [← hT.out]
  replace hT := Lib.hid hT.out
  have N0 : Hid (But (w.heap.size + 1 + 1) (((w.alloc noO).alloc noO).alloc (.map #[] 0)) (((w.alloc noO).alloc noO).alloc (.map #[] 0))) := Lib.hid (But.refl _ _)
  go_enter Try.func28, Try.ntmps28
  go_wp2_with fail
  go_loopw [19] (fun i wr => ∃ j : Nat, j ≤ gn ∧ i = .int .i64 (j : Int) ∧ Hid (∃ D : DataW Unit, wr.ownsMap Try.prog 54 (unitElem (H := Unit)) (w.heap.size + 1 + 1) j D) ∧ Hid (But (w.heap.size + 1 + 1) (((w.alloc noO).alloc noO).alloc (.map #[] 0)) wr)) (fun i _ => gn - (intOf i).toNat)
  case atStart => exact ⟨0, Nat.zero_le _, rfl, Lib.hid ⟨_, S0.out⟩, N0⟩
  case round =>
    obtain ⟨j, hj, rfl, hs, hb⟩ := hrel
    have bw : Hid (Below w.heap.size w wr) := Lib.hid (B0.out.trans (hb.out.below (by omega) B0.out.size))
    obtain ⟨D, hown⟩ := hs.out
    by_cases hlt : j < gn
    · obtain ⟨x, hx, rfl, hbl, x0, x1⟩ := (h.out.below bw.out).at2x hlt
      have hkey := Lib.hid (keyG (hI.out x (List.mem_of_getElem? hx)))
      replace hown := Lib.hid (hown.alloc (gnO x))
      have i0 : (j : Int) < (gn : Int) := by omega
      clear hx hs
      go_wp2_with (at_mapUpdate; refine wpList_mapUpdate_own _ rfl _ _ _ 98 rfl 54 99 lawG Try.underlying98 _ (w.heap.size + 1 + 1) _ _ rfl hown.out (by unfold maxLen; omega) _ _ _ rfl rfl hkey.out _ [] unitElem_mk ?_; intro w4 hown4 hg4; have S4 : Hid (∃ D : DataW Unit, w4.ownsMap Try.prog 54 (unitElem (H := Unit)) (w.heap.size + 1 + 1) (j + 1) D) := Lib.hid ⟨_, hown4⟩; have N4 := Lib.hid ((hb.out.alloc (gnO x)).trans (But.of_grown hg4)); clear hg4 hown4)
      go_roundw
      case rel => exact ⟨j + 1, by omega, by go_num, S4, N4⟩
      case measure => simp [intOf]; omega
    · have i0 : ¬ (j : Int) < (gn : Int) := by omega
      have k1 : Hid (wr.heap[w.heap.size]? = some noO) := Lib.hid (by
        rw [hb.out.block w.heap.size (by simp; omega) (by omega)]
        rw [heap_alloc_old _ _ (by simp; omega), heap_alloc_old _ _ (by simp)]
        exact heap_alloc_new _ _)
      have k2 : Hid (wr.heap[w.heap.size + 1]? = some noO) := Lib.hid (by
        rw [hb.out.block (w.heap.size + 1) (by simp) (by omega)]
        rw [heap_alloc_old _ _ (by simp)]
        have := heap_alloc_new (w.alloc noO) noO
        rw [World.size_alloc] at this
        exact this)
      have CC : Hid (∀ (u : World) (p : Nat), u.heap[p]? = some noO → u.cell? ⟨p, 0, none⟩ = some (.slice none 0 0) ∧ u.cell? ⟨p, 1, none⟩ = some (.slice none 0 0) ∧ u.cell? ⟨p, 2, none⟩ = some (.slice none 0 0) ∧ u.cell? ⟨p, 3, none⟩ = some (.slice none 0 0)) := Lib.hid (fun u p hu => by simp [World.cell?, hu])
      obtain ⟨c0, c1, c2, c3⟩ := CC.out _ _ k1.out
      obtain ⟨d0, d1, d2, d3⟩ := CC.out _ _ k2.out
      have f2 : ∀ o, wr.frozen? ⟨w.heap.size + 1, o, none⟩ = false := fun o => by simp [World.frozen?, k2.out]
      clear hs hown
      go_wp2_with fail
      go_loopw [9, 28] (fun fd i wz => ∃ k : Nat, k ≤ 4 ∧ fd = .int .i64 0 ∧ i = .int .i64 (k : Int) ∧ wz = wr) (fun _ i _ => 4 - (intOf i).toNat)
      case atStart => exact ⟨0, Nat.zero_le _, rfl, rfl, by first | trivial | rfl⟩
      case round =>
        obtain ⟨k, hk, rfl, rfl, rfl⟩ := hrel
        by_cases hlt2 : k < 4
        · have j0 : (k : Int) < 4 := by omega
          have IX := fun u => ix_lev noHd hlt2 u
          simp only [noHd] at IX
          go_wp2_with fail
          refine wp_loop_rounds 1 ?_
          rw [rounds_succ]
          go_wp2_with fail
          go_roundw
          case rel => exact ⟨k + 1, by omega, rfl, by go_num, by first | trivial | rfl⟩
          case measure => simp [intOf]; omega
        · have j0 : ¬ (k : Int) < 4 := by omega
          have hz : ((0 : Int) == (gn : Int)) = T := by
            rw [hT.out]
            by_cases e : gn = 0
            · rw [e]; rfl
            · rw [decide_eq_false e, beq_eq_false_iff_ne]; omega
          have k3 := no_put k2.out
          obtain ⟨g0, g1, g2, g3⟩ := CC.out _ _ k3
          have b4 : Hid (Below w.heap.size w (noPut (w.heap.size + 1) wr)) := Lib.hid ((((bw.out.setCell (p := ⟨w.heap.size + 1, 0, none⟩) (by simp) _).setCell (p := ⟨w.heap.size + 1, 1, none⟩) (by simp) _).setCell (p := ⟨w.heap.size + 1, 2, none⟩) (by simp) _).setCell (p := ⟨w.heap.size + 1, 3, none⟩) (by simp) _)
          go_wp2_with fail
          refine bodyPost_ret (v := .tuple #[noV, .bool T]) (by simp [results, Try.results28, go_sem, g0, g1, g2, g3]) rfl ⟨rfl, b4.out⟩
set_option maxRecDepth 100000 in
set_option maxHeartbeats 4000000 in
theorem inscmp_none (p : Option Addr) (c : Nat) (fv : Value) (w : World) : Calls Try.prog 80 #[.slice p 0 c, .int .i64 0, .int .i64 0, fv] w fun e w' => e = .returned (.tuple #[]) ∧ w' = w := by
  go_enter Try.func80, Try.ntmps80
  go_wp2_with fail
  refine wp_loop_rounds 1 ?_
  rw [rounds_succ]
  go_wp2_with fail
  go_returns
  exact ⟨rfl, rfl⟩
set_option maxRecDepth 100000 in
set_option maxHeartbeats 4000000 in
theorem pdqcmp_none (p : Option Addr) (c : Nat) (lim : Int) (fv : Value) (w : World) : Calls Try.prog 71 #[.slice p 0 c, .int .i64 0, .int .i64 0, .int .i64 lim, fv] w fun e w' => e = .returned (.tuple #[]) ∧ w' = w := by
  have IC := Lib.hid (fun u => inscmp_none p c fv u)
  go_enter Try.func71, Try.ntmps71
  go_wp2_with fail
  refine wp_loop_rounds 1 ?_
  rw [rounds_succ]
  go_wp2_with (go_at_call 80; ((with_reducible refine (IC.out _).mono ?_); rintro e w1 ⟨rfl, rfl⟩))
  go_returns
  exact ⟨rfl, rfl⟩
set_option maxRecDepth 100000 in
set_option maxHeartbeats 4000000 in
theorem sortf_none (fv : Value) (w : World) : Calls Try.prog 57 #[.slice none 0 0, fv] w fun e w' => e = .returned (.tuple #[]) ∧ w' = w := by
  have LN := Lib.hid (fun w => Try.bits_Len 0 w (by omega) (by omega))
  have PC := Lib.hid (fun l w => pdqcmp_none none 0 l fv w)
  go_enter Try.func57, Try.ntmps57
  go_wp2_with (first
    | (go_at_call 72; ((with_reducible refine (LN.out _).mono ?_); rintro e w1 ⟨rfl, rfl⟩))
    | (go_at_call 71; ((with_reducible refine (PC.out _ _).mono ?_); rintro e w1 ⟨rfl, rfl⟩)))
  go_returns
  exact ⟨rfl, rfl⟩
set_option maxRecDepth 100000 in
set_option maxHeartbeats 8000000 in
/-- insert with nothing to add, at empty levels in block q. -/
theorem insert_nil {q : Nat} {w : World} (hq : w.heap[q]? = some noO) : Calls Try.prog 29 #[.pointer (some ⟨q, 0, none⟩), .slice none 0 0] w fun r w' => r = .returned (.bool true) ∧ Below w.heap.size w w' := by
  have hmm := @run_makeMap Try.prog
  have SC : Hid (∀ u fv, Calls Try.prog 57 #[.slice none 0 0, fv] u fun e w' => e = .returned (.tuple #[]) ∧ w' = u) := Lib.hid (fun u fv => sortf_none fv u)
  have hlt : q < w.heap.size := (Array.getElem?_eq_some_iff.1 hq).1
  have LC : Hid (∀ u, Below w.heap.size w u → ∀ i, i < 4 → u.cell? ⟨q, i, none⟩ = some (.slice none 0 0)) := Lib.hid (fun u hu i hi => by
    have h1 : u.heap[q]? = some noO := (hu.block q hlt).trans hq
    rcases (show i = 0 ∨ i = 1 ∨ i = 2 ∨ i = 3 by omega) with rfl | rfl | rfl | rfl <;> simp [World.cell?, h1])
  have B0 := Lib.hid (below_alloc w (.map #[] 0))
  clear hq hlt
  go_enter Try.func29, Try.ntmps29
  go_wp2_with fail
  go_loopw [19] (fun i wr => ∃ k : Nat, k ≤ 4 ∧ i = .int .i64 (k : Int) ∧ wr = w.alloc (.map #[] 0)) (fun i _ => 4 - (intOf i).toNat)
  case atStart => exact ⟨0, Nat.zero_le _, rfl, by first | trivial | rfl⟩
  case round =>
    obtain ⟨k, hk, rfl, rfl⟩ := hrel
    by_cases hlt2 : k < 4
    · have j0 : (k : Int) < 4 := by omega
      have cl := LC.out _ B0.out k hlt2
      go_wp2_with fail
      refine wp_loop_rounds 1 ?_
      rw [rounds_succ]
      go_wp2_with fail
      go_roundw
      case rel => exact ⟨k + 1, by omega, by go_num, by first | trivial | rfl⟩
      case measure => simp [intOf]; omega
    · have j0 : ¬ (k : Int) < 4 := by omega
      go_wp2_with fail
      refine wp_loop_rounds 1 ?_
      rw [rounds_succ]
      go_wp2_with fail
      go_loopw [75] (fun i wr => ∃ k : Nat, k ≤ 4 ∧ i = .int .i64 (k : Int) ∧ Hid (Below w.heap.size w wr)) (fun i _ => 4 - (intOf i).toNat)
      case atStart => exact ⟨0, Nat.zero_le _, rfl, B0⟩
      case round =>
        obtain ⟨k, hk, rfl, hb⟩ := hrel
        by_cases hlt3 : k < 4
        · have j1 : (k : Int) < 4 := by omega
          have cl := LC.out _ hb.out k hlt3
          by_cases h0 : k = 0
          · have f1 : ((k : Int) == 0) = true := by rw [beq_iff_eq]; omega
            have B2 := Lib.hid (fun q => below_drewN (n := q) hb.out)
            clear h0
            go_upto_region 22 with fail
            go_quiet (fail)
            go_wp2_with (go_at_call 57; ((with_reducible refine (SC.out _ _).mono ?_); rintro r w4 ⟨rfl, rfl⟩))
            go_roundw
            case rel => exact ⟨k + 1, by omega, by go_num, Lib.hid (B2.out _)⟩
            case measure => simp [intOf]; omega
          · have f1 : ((k : Int) == 0) = false := by rw [beq_eq_false_iff_ne]; omega
            have B2 := Lib.hid (fun q => below_drewN (n := q) hb.out)
            clear h0
            go_upto_region 22 with fail
            go_quiet (fail)
            go_wp2_with (go_at_call 57; ((with_reducible refine (SC.out _ _).mono ?_); rintro r w4 ⟨rfl, rfl⟩))
            go_roundw
            case rel => exact ⟨k + 1, by omega, by go_num, Lib.hid (B2.out _)⟩
            case measure => simp [intOf]; omega
        · have j1 : ¬ (k : Int) < 4 := by omega
          go_wp2_with fail
          go_returns
          exact ⟨rfl, hb.out⟩
/-- The first of two that is not zero. -/
def orN (a b : Nat) : Nat := if a = 0 then b else a
set_option maxRecDepth 100000 in
set_option maxHeartbeats 8000000 in
theorem or_any (a b g : Nat) (w : World) (c0 : w.cell? ⟨g, 0, none⟩ = some (.int .u64 (a : Int))) (c1 : w.cell? ⟨g, 1, none⟩ = some (.int .u64 (b : Int))) : Calls Try.prog 30 #[.slice (some ⟨g, 0, none⟩) 2 2] w fun r w' => r = .returned (.int .u64 (orN a b : Int)) ∧ w' = w := by
  unfold orN
  by_cases h0 : a = 0
  · have f0 : ((a : Int) != 0) = false := by rw [bne_eq_false_iff_eq]; omega
    rw [if_pos h0]
    by_cases h1 : b = 0
    · have f1 : ((b : Int) != 0) = false := by rw [bne_eq_false_iff_eq]; omega
      rw [h1]
      clear h0 h1
      go_enter Try.func30, Try.ntmps30
      go_wp2_with fail
      refine wp_loop_rounds 3 ?_
      rw [rounds_succ]
      go_wp2_with fail
      rw [rounds_succ]
      go_wp2_with fail
      rw [rounds_succ]
      go_wp2_with fail
      go_returns
      exact ⟨rfl, rfl⟩
    · have f1 : ((b : Int) != 0) = true := by rw [bne_iff_ne]; omega
      clear h0 h1
      go_enter Try.func30, Try.ntmps30
      go_wp2_with fail
      refine wp_loop_rounds 3 ?_
      rw [rounds_succ]
      go_wp2_with fail
      rw [rounds_succ]
      go_wp2_with fail
      go_returns
      exact ⟨rfl, rfl⟩
  · have f0 : ((a : Int) != 0) = true := by rw [bne_iff_ne]; omega
    rw [if_neg h0]
    clear h0
    go_enter Try.func30, Try.ntmps30
    go_wp2_with fail
    refine wp_loop_rounds 3 ?_
    rw [rounds_succ]
    go_wp2_with fail
    go_returns
    exact ⟨rfl, rfl⟩
end Go.Proofs.Ytkkedofbnmjgeaa
