/-
  The document's At; SamePairs. Condition: at most 1000000 rows.
-/
import Derived.Test.YtkkegdhnkefogaaMergeSmall
import Derived.Test.YtkkegdhnkefogaaBlockRefOrder
import Derived.Test.YtkkegdhnkefogaaSliceArg
import Derived.Test.YtkkegdhnkefogaaUntil
import Derived.Maps.AppendAt
import Derived.Deep.AppendLies
import Derived.Laws.OwnMore
namespace Go.Proofs.Ytkkegdhnkefogaa
set_option maxRecDepth 100000
open Go.RowKit
/-- Pairs as cells. -/
def rowP (l : List (ByteArray × ByteArray)) : List Value := l.flatMap fun x => [.string x.1, .string x.2]
theorem rowP_snoc (l : List (ByteArray × ByteArray)) (x : ByteArray × ByteArray) : rowP (l ++ [x]) = rowP l ++ [.string x.1, .string x.2] := by simp [rowP]
theorem infoPr : (Try.prog.info? 47).map (fun i => (i.zero, i.size, i.bytes)) = some (some (.agg #[.string .empty, .string .empty]), 2, 32) := by kernel_rfl
theorem own_belowM {w w' : World} {base size n : Nat} {e : TypeId} {v : Value} {xs : List Value} (h : w.ownsRow base e size v n xs) (hb : Below w.heap.size w w') : w'.ownsRow base e size v n xs := h.kept (grown_of_below hb) (by cases v.ownBlock <;> simp)
theorem row_shape {w : World} {base size n : Nat} {e : TypeId} {v : Value} {xs : List Value} (h : w.ownsRow base e size v n xs) : ∃ p c, v = .slice p n c := by
  rcases h.2 with ⟨rfl, rfl⟩ | ⟨g, cap, cur, rfl, _⟩
  · exact ⟨none, 0, rfl⟩
  · exact ⟨_, _, rfl⟩
/-- What At answers. -/
def AtD (l : List Rw) (q : Nat) (w : World) (e : Ending) (w' : World) : Prop :=
  (ordR l = false ∧ e = .returned (.tuple #[.slice none 0 0, .int .i64 2]) ∧ Below w.heap.size w w') ∨
  (ordR l = true ∧ ∃ v, e = .returned (.tuple #[v, .int .i64 0]) ∧ w'.ownsRow w.heap.size 47 2 v (atL q l).length (rowP (atL q l)) ∧ Below w.heap.size w w')
theorem AtD.yes {l : List Rw} {q : Nat} {w : World} {e : Ending} {w' : World} (h : AtD l q w e w') (ho : ordR l = true) : ∃ v, e = .returned (.tuple #[v, .int .i64 0]) ∧ w'.ownsRow w.heap.size 47 2 v (atL q l).length (rowP (atL q l)) ∧ Below w.heap.size w w' := by
  rcases h with ⟨h1, _⟩ | ⟨_, h⟩
  · rw [ho] at h1; cases h1
  · exact h
theorem AtD.no {l : List Rw} {q : Nat} {w : World} {e : Ending} {w' : World} (h : AtD l q w e w') (ho : ordR l = false) : e = .returned (.tuple #[.slice none 0 0, .int .i64 2]) ∧ Below w.heap.size w w' := by
  rcases h with ⟨_, h⟩ | ⟨h1, _⟩
  · exact h
  · rw [ho] at h1; cases h1
theorem pairsOf_next {q : Nat} {l : List Rw} {j : Nat} {x : Rw} (hx : l[j]? = some x) (T : Bool) (hT : T = sees q (lastO none (l.take j)) x) :
    pairsOf (selL (sees q) none (l.take (j + 1))) = pairsOf (selL (sees q) none (l.take j)) ++ (if T = true ∧ x.kind = 1 then [(x.key, x.val)] else []) := by
  have e : l.take (j + 1) = l.take j ++ [x] := by rw [List.take_add_one, hx]; rfl
  rw [e, selL_snoc, pairsOf_app, ← hT]
  congr 1
  cases T with
  | false => rfl
  | true =>
    by_cases hk : x.kind = 1
    · simp [pairsOf, hk]
    · simp [pairsOf, hk]
set_option maxRecDepth 100000 in
set_option maxHeartbeats 8000000 in
theorem refat_any {a : Option Addr} {n c b o : Nat} {l : List Rw} {w : World} (h : Rs a n c b o l w) (hn : n ≤ 1000000) (q : Nat) :
    Calls Try.prog 18 #[.slice a n c, .int .u64 (q : Int)] w (AtD l q w) := by
  have m0 := h.most
  have q0 := h.cap
  have hlen := Lib.hid h.len
  have OC := Lib.hid (reforder_any h)
  have h := Lib.hid h
  cases ho : ordR l with
  | false =>
    rw [ho] at OC
    have ho := Lib.hid ho
    go_enter Try.func18, Try.ntmps18
    go_wp2_with (go_at_call 29; ((with_reducible refine OC.out.mono ?_); rintro e w1 ⟨rfl, hb1⟩))
    go_returns
    exact .inl ⟨ho.out, rfl, hb1⟩
  | true =>
    rw [ho] at OC
    have ho := Lib.hid ho
    obtain ⟨i0, hi, hz0, hz1, hz2⟩ := info_parts infoPr
    go_enter Try.func18, Try.ntmps18
    go_wp2_with (go_at_call 29; ((with_reducible refine OC.out.mono ?_); rintro e w1 ⟨rfl, hb1⟩))
    go_loopw [6, 7] (fun ov d wr => ∃ j : Nat, j ≤ n ∧ d = .int .i64 (j : Int) ∧ Hid (wr.ownsRow w.heap.size 47 2 ov (pairsOf (selL (sees q) none (l.take j))).length (rowP (pairsOf (selL (sees q) none (l.take j))))) ∧ Hid (Below w.heap.size w wr)) (fun _ d _ => n - (intOf d).toNat)
    case atStart => exact ⟨0, Nat.zero_le _, rfl, Lib.hid (World.ownsRow_nil _ _ _ _), Lib.hid hb1⟩
    case round =>
      obtain ⟨j, hj, rfl, hrow, hb⟩ := hrel
      by_cases hlt : j < n
      · obtain ⟨x, hx, rfl, x0, x1, x2, x3⟩ := (h.out.below hb.out (Nat.le_refl _)).at4 hlt
        have SC := Lib.hid (sees_any (h.out.below hb.out (Nat.le_refl _)) hx q)
        obtain ⟨T, hT⟩ := named (sees q (lastO none (l.take j)) x)
        rw [← hT.out] at SC
        have hnx := pairsOf_next hx T hT.out
        have hPl : (pairsOf (selL (sees q) none (l.take j))).length ≤ 1000000 := by
          have := atL_len q (l.take j)
          unfold atL at this
          rw [List.length_take] at this
          omega
        obtain ⟨PA, hPA⟩ := named (pairsOf (selL (sees q) none (l.take j)))
        rw [← hPA.out] at hrow hnx hPl
        have hbl : b < wr.heap.size := World.block_lt_of_cell? _ _ x0
        have hbw : b < w.heap.size := (h.out.addr (by omega)).2
        obtain ⟨xk, xs, xi, xv⟩ := x
        simp only at x0 x1 x2 x3 SC hnx
        have j0 : (j : Int) < (n : Int) := by omega
        replace hx := Lib.hid hx
        cases T with
        | false =>
          have hnx2 : Hid (pairsOf (selL (sees q) none (l.take (j + 1))) = PA) := Lib.hid (by rw [hnx]; simp)
          clear hnx
          go_wp2_with (go_at_call 35; ((with_reducible refine SC.out.mono ?_); rintro e w2 ⟨rfl, hb2⟩; have B2 := Lib.hid (below_of hb.out hb2); have R2 := Lib.hid (own_belowM hrow.out hb2); clear hb2))
          go_roundw
          case rel => exact ⟨j + 1, by omega, by go_num, by rw [hnx2.out]; exact R2, B2⟩
          case measure => simp [intOf]; omega
        | true =>
          by_cases hk : xi = 1
          · have hnx2 : Hid (pairsOf (selL (sees q) none (l.take (j + 1))) = PA ++ [(xk, xv)]) := Lib.hid (by rw [hnx, if_pos ⟨rfl, hk⟩])
            have k1 : (xi == 1) = true := by rw [beq_iff_eq]; exact hk
            subst hk
            clear hnx
            go_upto_region 8 with (go_at_call 35; ((with_reducible refine SC.out.mono ?_); rintro e w2 ⟨rfl, hb2⟩; have B2 := Lib.hid (below_of hb.out hb2); have R2 := Lib.hid (own_belowM hrow.out hb2); have y0 := cell_keep hb2 x0; have y2 := cell_keep hb2 x2; have y3 := cell_keep hb2 x3; clear hb2))
            have m2 := Lib.hid (show w2.drew.cell? ⟨b, o + j * 4, none⟩ = some (.string xk) ∧ w2.drew.cell? ⟨b, o + j * 4 + 3, none⟩ = some (.string xv) from ⟨y0, y3⟩)
            have B3 := Lib.hid (B2.out.drew.alloc B2.out.size (.cells #[.string xk, .string xv] 47))
            have m3 := Lib.hid (show (w2.drew.alloc (.cells #[.string xk, .string xv] 47)).cell? ⟨b, o + j * 4, none⟩ = some (.string xk) ∧ (w2.drew.alloc (.cells #[.string xk, .string xv] 47)).cell? ⟨b, o + j * 4 + 3, none⟩ = some (.string xv) from ⟨cell_keep (below_alloc _ _) m2.out.1, cell_keep (below_alloc _ _) m2.out.2⟩)
            have R3 := Lib.hid (own_belowM (show w2.drew.ownsRow w.heap.size 47 2 _ PA.length (rowP PA) from R2.out) (below_alloc w2.drew (.cells #[.string xk, .string xv] 47)))
            have hbo : Hid (∀ v g, (w2.drew.alloc (.cells #[.string xk, .string xv] 47)).ownsRow w.heap.size 47 2 v PA.length (rowP PA) → v.ownBlock = some g → some b ≠ some g) := Lib.hid fun v g hr hg e => by
              have := (World.ownsRow.lt hr g hg).1
              simp only [Option.some.injEq] at e; omega
            clear y0 y2 y3
            refine wp_region_held_drew (S := (fun v => v.cell? ⟨b, o + j * 4, none⟩ = some (.string xk) ∧ v.cell? ⟨b, o + j * 4 + 3, none⟩ = some (.string xv))) (by kernel_rfl) (m2.out) (fun hHeld => ?_)
            refine held_take (i := 0) (v := ?_) rfl (by kernel_rfl) (by kernel_rfl) (by kernel_rfl) (fun _ _ _ h => h) (by rfl) (fun w hSw => ?_) (by assumption) ?_; rotate_left 1; focus (((try dsimp only at hSw); first | (go_simp; done) | (go_simp; with_reducible rfl)))
            try simp only [Act.put, List.setIfInBounds_toArray, List.set_cons_zero, List.set_cons_succ]
            refine held_take (i := 1) (v := ?_) rfl (by kernel_rfl) (by kernel_rfl) (by kernel_rfl) (fun _ _ _ h => h) (by rfl) (fun w hSw => ?_) (by assumption) ?_; rotate_left 1; focus (((try dsimp only at hSw); first | (go_simp; done) | (go_simp; with_reducible rfl)))
            try simp only [Act.put, List.setIfInBounds_toArray, List.set_cons_zero, List.set_cons_succ]
            refine held_take (i := 2) (v := ?_) rfl (by kernel_rfl) (by kernel_rfl) (by kernel_rfl) (fun _ _ _ h => h) (by rfl) (fun w hSw => ?_) (by assumption) ?_; rotate_left 1; focus (((try dsimp only at hSw); first | (go_simp; done) | (go_simp; with_reducible rfl)))
            try simp only [Act.put, List.setIfInBounds_toArray, List.set_cons_zero, List.set_cons_succ]
            refine held_take (i := 3) (v := ?_) rfl (by kernel_rfl) (by kernel_rfl) (by kernel_rfl) (fun _ _ _ h => h) (by rfl) (fun w hSw => ?_) (by assumption) ?_; rotate_left 1; focus (((try dsimp only at hSw); first | (go_simp; done) | (go_simp; with_reducible rfl)))
            try simp only [Act.put, List.setIfInBounds_toArray, List.set_cons_zero, List.set_cons_succ]
            refine held_take (i := 4) (v := ?_) rfl (by kernel_rfl) (by kernel_rfl) (by kernel_rfl) (fun _ _ _ h => h) (by rfl) (fun w hSw => ?_) (by assumption) ?_; rotate_left 1; focus (((try dsimp only at hSw); first | (go_simp; done) | (go_simp; with_reducible rfl)))
            try simp only [Act.put, List.setIfInBounds_toArray, List.set_cons_zero, List.set_cons_succ]
            refine held_take (i := 5) (v := ?_) rfl (by kernel_rfl) (by kernel_rfl) (by kernel_rfl) (fun _ _ _ h => h) (by rfl) (fun w hSw => ?_) (by assumption) ?_; rotate_left 1; focus (((try dsimp only at hSw); first | (go_simp; done) | (go_simp; with_reducible rfl)))
            try simp only [Act.put, List.setIfInBounds_toArray, List.set_cons_zero, List.set_cons_succ]
            refine held_take (i := 6) (v := ?_) rfl (by kernel_rfl) (by kernel_rfl) (by kernel_rfl) (fun _ _ _ h => h) (by rfl) (fun w hSw => ?_) (by assumption) ?_; rotate_left 1; focus (((try dsimp only at hSw); first | (go_simp; done) | (go_simp; with_reducible rfl)))
            try simp only [Act.put, List.setIfInBounds_toArray, List.set_cons_zero, List.set_cons_succ]
            refine held_take (i := 7) (v := ?_) rfl (by kernel_rfl) (by kernel_rfl) (by kernel_rfl) (fun _ _ _ h => h) (by rfl) (fun w hSw => ?_) (by assumption) ?_; rotate_left 1; focus (((try dsimp only at hSw); first | (go_simp; done) | (go_simp; with_reducible rfl)))
            try simp only [Act.put, List.setIfInBounds_toArray, List.set_cons_zero, List.set_cons_succ]
            refine held_take (i := 8) (v := ?_) rfl (by kernel_rfl) (by kernel_rfl) (by kernel_rfl) (fun _ _ _ h => h) (by rfl) (fun w hSw => ?_) (by assumption) ?_; rotate_left 1; focus (((try dsimp only at hSw); first | (go_simp; done) | (go_simp; with_reducible rfl)))
            try simp only [Act.put, List.setIfInBounds_toArray, List.set_cons_zero, List.set_cons_succ]
            refine held_take (i := 9) (v := ?_) rfl (by kernel_rfl) (by kernel_rfl) (by kernel_rfl) (fun _ _ _ h => h) (by rfl) (fun w hSw => ?_) (by assumption) ?_; rotate_left 1; focus (((try dsimp only at hSw); first | (go_simp; done) | (go_simp; with_reducible rfl)))
            try simp only [Act.put, List.setIfInBounds_toArray, List.set_cons_zero, List.set_cons_succ]
            refine held_take (i := 10) (v := ?_) rfl (by kernel_rfl) (by kernel_rfl) (by kernel_rfl) (fun _ _ _ h => h) (by rfl) (fun w hSw => ?_) (by assumption) ?_; rotate_left 1; focus (((try dsimp only at hSw); first | (go_simp; done) | (go_simp; with_reducible rfl)))
            try simp only [Act.put, List.setIfInBounds_toArray, List.set_cons_zero, List.set_cons_succ]
            refine held_take (i := 11) (v := ?_) rfl (by kernel_rfl) (by kernel_rfl) (by kernel_rfl) (fun _ _ _ h => h) (by rfl) (fun w hSw => ?_) (by assumption) ?_; rotate_left 1; focus (((try dsimp only at hSw); first | (go_simp; done) | (go_simp; with_reducible rfl)))
            try simp only [Act.put, List.setIfInBounds_toArray, List.set_cons_zero, List.set_cons_succ]
            refine held_call (i := 12) (by kernel_rfl) rfl (by rfl) (fun K hK => ?_)
            go_simp
            
            refine hK.out _ _ (m3.out) (fun hHeld => ?_)
            try simp only [Act.put, List.setIfInBounds_toArray, List.set_cons_zero, List.set_cons_succ]
            refine held_call (i := 13) (by kernel_rfl) rfl (by rfl) (fun K hK => ?_)
            refine wp_append_own _ (.tmp 29) (.tmp 41) 32 rfl w.heap.size 47 i0 (.agg #[.string .empty, .string .empty]) 2 32 Try.underlying32 hi hz0 hz1 hz2 rfl (by decide) _ PA.length (rowP PA) (by rfl) R3.out ⟨w2.heap.size, 0, none⟩ 1 1 [.string xk, .string xv] (by rfl) rfl (World.news_of_block (heap_alloc_new _ _)) (by simp [Value.oneCell']) (by unfold maxLen; omega) (by omega) B3.out.size ?_
            intro v' w7 hown' hgrow _
            have m4 := Lib.hid (show w7.cell? ⟨b, o + j * 4, none⟩ = some (.string xk) ∧ w7.cell? ⟨b, o + j * 4 + 3, none⟩ = some (.string xv) from ⟨hgrow.cell m3.out.1 (fun e => hbo.out _ _ R3.out e.symm rfl), hgrow.cell m3.out.2 (fun e => hbo.out _ _ R3.out e.symm rfl)⟩)
            have B7 := Lib.hid (B3.out.grown hgrow B3.out.size (fun k hk => (World.ownsRow.lt R3.out k hk).1))
            have R7 : Hid (w7.ownsRow w.heap.size 47 2 v' (PA ++ [(xk, xv)]).length (rowP (PA ++ [(xk, xv)]))) := Lib.hid (by rw [rowP_snoc, List.length_append]; exact hown')
            clear hown' hgrow
            refine hK.out _ _ (m4.out) (fun hHeld => ?_)
            try simp only [Act.put, List.setIfInBounds_toArray, List.set_cons_zero, List.set_cons_succ]
            refine held_take (i := 14) (v := ?_) rfl (by kernel_rfl) (by kernel_rfl) (by kernel_rfl) (fun _ _ _ h => h) (by rfl) (fun w hSw => ?_) (by assumption) ?_; rotate_left 1; focus (((try dsimp only at hSw); first | (go_simp; done) | (go_simp; with_reducible rfl)))
            try simp only [Act.put, List.setIfInBounds_toArray, List.set_cons_zero, List.set_cons_succ]
            refine wpAnyH_done (by kernel_rfl) ?_ _
            go_wp2_with fail
            go_roundw
            case rel => exact ⟨j + 1, by omega, by go_num, by rw [hnx2.out]; exact R7, B7⟩
            case measure => simp [intOf]; omega
          · have hnx2 : Hid (pairsOf (selL (sees q) none (l.take (j + 1))) = PA) := Lib.hid (by rw [hnx, if_neg (fun h => hk h.2), List.append_nil])
            have k1 : (xi == 1) = false := by rw [beq_eq_false_iff_ne]; exact hk
            clear hnx hk
            go_wp2_with (go_at_call 35; ((with_reducible refine SC.out.mono ?_); rintro e w2 ⟨rfl, hb2⟩; have B2 := Lib.hid (below_of hb.out hb2); have R2 := Lib.hid (own_belowM hrow.out hb2); have y2 := cell_keep hb2 x2; clear hb2))
            go_roundw
            case rel => exact ⟨j + 1, by omega, by go_num, by rw [hnx2.out]; exact R2, B2⟩
            case measure => simp [intOf]; omega
      · have hjn : j = n := by omega
        subst hjn
        have j0 : ¬ (j : Int) < (j : Int) := by omega
        obtain ⟨p, q1, rfl⟩ := row_shape hrow.out
        have R9 : Hid (atL q l = pairsOf (selL (sees q) none (l.take j))) := Lib.hid (by unfold atL; rw [← hlen.out, List.take_length])
        go_wp2_with fail
        go_returns
        refine .inr ⟨ho.out, _, rfl, ?_, hb.out⟩
        rw [R9.out]; exact hrow.out
end Go.Proofs.Ytkkegdhnkefogaa
