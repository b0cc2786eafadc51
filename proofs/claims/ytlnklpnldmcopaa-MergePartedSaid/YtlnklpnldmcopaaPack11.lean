/-
  The contract of Merge. Condition: at most 900 lists, of 1000000 rows in all.
-/
import Derived.Test.YtlnklpnldmcopaaPack10
import Derived.Deep.AppendLies
import Derived.Deep.Upon
import Derived.Laws.Slices
import Derived.StillTailTactics
import Derived.Deep.DrawnRows
namespace Go.Proofs.Ytlnklpnldmcopaa
set_option maxRecDepth 100000
open Go.RowKit
def MergeD (L : List (List Rw)) (w : World) (e : Ending) (w' : World) : Prop :=
  (L.all ordR = false ∧ e = .returned (.tuple #[.slice none 0 0, .int .i64 2]) ∧ Below w.heap.size w w') ∨
  (L.all ordR = true ∧ ∃ v, e = .returned (.tuple #[v, .int .i64 0]) ∧ w'.ownsRow w.heap.size 38 4 v (mergeL L).length (rowR (mergeL L)) ∧ Below w.heap.size w w')
theorem all_sorted {L : List (List Rw)} (h : L.all ordR = true) : ∀ l ∈ L, SortedR l := fun l hl => (ordR_sorted l).1 (List.all_eq_true.1 h l hl)
theorem below_drew_in {w w' : World} (h : Below w.drew.heap.size w.drew w') : Below w.heap.size w w' := (Below.refl w.heap.size w).drew.trans h
theorem last_at {M : List Rw} {j : Nat} {x : Rw} (hl : M.length = j + 1) (hx : M[j]? = some x) : ∀ m, M.getLast? = some m → m = x := fun m hm => by
  rw [List.getLast?_eq_getElem?, hl, Nat.add_sub_cancel, hx] at hm
  exact (Option.some.inj hm).symm
set_option maxRecDepth 100000 in
set_option maxHeartbeats 16000000 in
theorem merge_any {p : Option Addr} {n c : Nat} {L : List (List Rw)} {w : World} (h : RL w.heap.size p n c L w) (hn : n ≤ 900) (hsm : ∀ l ∈ L, ∀ x ∈ l, SmallR x) (ht : (L.map List.length).sum ≤ 1000000) :
    Calls Try.prog 14 #[.slice p n c] w (MergeD L w) := by
  obtain ⟨ti, hi, hy0, hy1, hy2⟩ := info_parts info_row
  have hcap := h.cap
  have hmost := h.most
  have hfull : Hid (L.take n = L) := Lib.hid (by rw [← h.len, List.take_length])
  have hlen := Lib.hid h.len
  have h := Lib.hid h
  have ht := Lib.hid ht
  go_enter Try.func14, Try.ntmps14
  go_wp2_with fail
  go_loopw [12] (fun iv wr => ∃ (j : Nat), j ≤ n ∧ iv = .int .i64 (j : Int) ∧ Hid ((L.take j).all ordR = true) ∧ Hid (Below w.heap.size w wr)) (fun iv _ => n - (intOf iv).toNat)
  case atStart => exact ⟨0, Nat.zero_le _, rfl, Lib.hid (by simp), Lib.hid (Below.refl _ _)⟩
  case round =>
    obtain ⟨j, hj, rfl, hA, hB⟩ := hrel
    have hR := Lib.hid (h.out.keep hB.out)
    by_cases hjn : j = n
    · subst hjn
      have i1 : ¬ (j : Int) < (j : Int) := by omega
      have hall : Hid (L.all ordR = true) := Lib.hid (by rw [← hfull.out]; exact hA.out)
      have HC := Lib.hid (headsof_any hR.out hn hB.out.size)
      go_upto_region 9 with (go_at_call 29; ((with_reducible refine HC.out.mono ?_); rintro e w1 ⟨rfl, k, qs, it, q1, q2, q3, q4⟩; have M0 := Lib.hid (MI.start (all_sorted hall.out) hsm ht.out (by have := hlen.out; omega) q1 q2 q3 (hB.out.trans q4)); clear q1 q2 q3 q4))
      clear HC
      generalize wr.heap.size = hp at M0 ⊢
      go_loopw [6] (fun iv u => ∃ m k M qs it, MI (FinL L) w.heap.size hp iv M k qs it w u ∧ totR qs it = m) (fun iv u => leastM fun m => ∃ k M qs it, MI (FinL L) w.heap.size hp iv M k qs it w u ∧ totR qs it = m)
      case atStart => exact ⟨_, _, _, _, _, M0.out.1, rfl⟩
      case round =>
        obtain ⟨k, M, qs, it, H, hm⟩ := leastM_is hrel
        clear hrel
        obtain ⟨a0, c0, g, rfl, R0, _⟩ := rs_of_row H.row
        have hMl : M.length ≤ 1000000 := by have := H.rest; omega
        have H := Lib.hid H
        have hm := Lib.hid hm
        clear R0
        have LC := Lib.hid (hlen_any H.out.hp)
        obtain ⟨nq, hnq⟩ := named qs.length
        rw [← hnq.out] at LC
        by_cases hq0 : nq = 0
        · subst hq0
          have i2 : ¬ (0 : Int) < ((0 : Nat) : Int) := by omega
          have hM : Hid (M = mergeL L) := Lib.hid (by
            have e : qs = [] := List.length_eq_zero_iff.1 hnq.out.symm
            have := H.out.inv
            rw [e] at this
            exact this.eq (all_sorted hall.out))
          go_wp2_with (go_at_call 30; ((with_reducible refine LC.out.mono ?_); rintro e w2 ⟨rfl, rfl⟩))
          go_returns
          exact .inr ⟨hall.out, _, rfl, by rw [← hM.out]; exact H.out.row, H.out.bel⟩
        · obtain ⟨nr, rfl⟩ : ∃ nr, nq = nr + 1 := ⟨nq - 1, by omega⟩
          have i2 : (0 : Int) < ((nr + 1 : Nat) : Int) := by omega
          have i2' : (0 : Int) < (nr : Int) + 1 := by omega
          obtain ⟨b, hb⟩ : ∃ b, qs[0]? = some b := ⟨_, List.getElem?_eq_getElem (by have := hnq.out; omega)⟩
          have TC := take_any H.out.hp (by have := H.out.few; omega) H.out.heap hnq.out.symm hb
          have hsmX := H.out.small b (List.mem_of_getElem? hb) _ (List.mem_cons_self ..)
          obtain ⟨X, hX⟩ := named (it b).hd
          rw [← hX.out] at TC hsmX
          have CC := copied_any X hsmX.1 hsmX.2
          obtain ⟨xk, xs, xi, xv⟩ := X
          replace CC : Hid (∀ u, Calls Try.prog 24 #[.agg #[.string xk, .int .u64 (xs : Int), .int .i64 xi, .string xv]] u fun e w' => e = .returned (.agg #[.string xk, .int .u64 (xs : Int), .int .i64 xi, .string xv]) ∧ Below u.heap.size u w') := Lib.hid CC
          have TC := Lib.hid TC
          have hb := Lib.hid hb
          clear hsmX i2'
          obtain ⟨ml, hml⟩ := named M.length
          rw [← hml.out] at hMl
          have hrow0 := Lib.hid (show (Value.slice a0 M.length c0) = .slice a0 ml c0 by rw [hml.out])
          rw [hrow0.out]
          replace H : Hid (MI (FinL L) w.heap.size hp (.slice a0 ml c0) M k qs it w wr) := Lib.hid (by rw [← hrow0.out]; exact H.out)
          replace hm : Hid (totR qs it = leastM fun m => ∃ k M qs it, MI (FinL L) w.heap.size hp (.slice a0 ml c0) M k qs it w wr ∧ totR qs it = m) := Lib.hid (by rw [← hrow0.out]; exact hm.out)
          go_upto_region 12 with (first
            | (go_at_call 30; ((with_reducible refine LC.out.mono ?_); rintro e w2 ⟨rfl, rfl⟩))
            | (go_at_call 31; ((with_reducible refine TC.out.mono ?_); rintro e w3 ⟨rfl, hd⟩; obtain ⟨qs', it', T3⟩ := H.out.take hb.out hd; have T3 := Lib.hid T3; clear hd)))
          have S4 : Hid (RowAt w3.heap.size ⟨xk, xs, xi, xv⟩ (w3.alloc (.cells #[.string xk, .int .u64 (xs : Int), .int .i64 xi, .string xv] 38))) := Lib.hid (RowAt.new ⟨xk, xs, xi, xv⟩ w3)
          have T4 := Lib.hid (T3.out.below (below_alloc w3 (.cells #[.string xk, .int .u64 (xs : Int), .int .i64 xi, .string xv] 38)))
          clear TC LC
          by_cases hz : ml = 0
          · subst hz
            have hlast : Hid (∀ m, M.getLast? = some m → smpB m (it b).hd = false) := Lib.hid (fun m hm => by
              have e : M = [] := List.length_eq_zero_iff.1 hml.out.symm
              rw [e] at hm; cases hm)
            have hLl : Hid (0 ≤ 1000000) := Lib.hid (by omega)
            refine wp_region_held_drew (S := (fun v => True)) (by kernel_rfl) (trivial) (fun hHeld => ?_)
            refine held_take (i := 0) (v := ?_) rfl (by kernel_rfl) (by kernel_rfl) (by kernel_rfl) (fun _ _ _ h => h) (by rfl) (fun w hSw => ?_) (by assumption) ?_; rotate_left 1; focus (((try dsimp only at hSw); first | (go_simp; done) | (go_simp; with_reducible rfl)))
            try simp only [Act.put, List.setIfInBounds_toArray, List.set_cons_zero, List.set_cons_succ]
            refine held_take (i := 1) (v := ?_) rfl (by kernel_rfl) (by kernel_rfl) (by kernel_rfl) (fun _ _ _ h => h) (by rfl) (fun w hSw => ?_) (by assumption) ?_; rotate_left 1; focus (((try dsimp only at hSw); first | (go_simp; done) | (go_simp; with_reducible rfl)))
            try simp only [Act.put, List.setIfInBounds_toArray, List.set_cons_zero, List.set_cons_succ]
            refine held_take (i := 2) (v := ?_) rfl (by kernel_rfl) (by kernel_rfl) (by kernel_rfl) (fun _ _ _ h => h) (by rfl) (fun w hSw => ?_) (by assumption) ?_; rotate_left 1; focus (((try dsimp only at hSw); first | (go_simp; done) | (go_simp; with_reducible rfl)))
            try simp only [Act.put, List.setIfInBounds_toArray, List.set_cons_zero, List.set_cons_succ]
            refine held_skip (i := 3) rfl (by kernel_rfl) (by kernel_rfl) (by kernel_rfl) (fun _ _ _ h => h) (by rfl) (by assumption) ?_
            try simp only [Act.put, List.setIfInBounds_toArray, List.set_cons_zero, List.set_cons_succ]
            refine held_skip (i := 4) rfl (by kernel_rfl) (by kernel_rfl) (by kernel_rfl) (fun _ _ _ h => h) (by rfl) (by assumption) ?_
            try simp only [Act.put, List.setIfInBounds_toArray, List.set_cons_zero, List.set_cons_succ]
            refine held_skip (i := 5) rfl (by kernel_rfl) (by kernel_rfl) (by kernel_rfl) (fun _ _ _ h => h) (by rfl) (by assumption) ?_
            try simp only [Act.put, List.setIfInBounds_toArray, List.set_cons_zero, List.set_cons_succ]
            refine held_skip (i := 6) rfl (by kernel_rfl) (by kernel_rfl) (by kernel_rfl) (fun _ _ _ h => h) (by rfl) (by assumption) ?_
            try simp only [Act.put, List.setIfInBounds_toArray, List.set_cons_zero, List.set_cons_succ]
            refine held_skip (i := 7) rfl (by kernel_rfl) (by kernel_rfl) (by kernel_rfl) (fun _ _ _ h => h) (by rfl) (by assumption) ?_
            try simp only [Act.put, List.setIfInBounds_toArray, List.set_cons_zero, List.set_cons_succ]
            refine held_skip (i := 8) rfl (by kernel_rfl) (by kernel_rfl) (by kernel_rfl) (fun _ _ _ h => h) (by rfl) (by assumption) ?_
            try simp only [Act.put, List.setIfInBounds_toArray, List.set_cons_zero, List.set_cons_succ]
            refine held_skip (i := 9) rfl (by kernel_rfl) (by kernel_rfl) (by kernel_rfl) (fun _ _ _ h => h) (by rfl) (by assumption) ?_
            try simp only [Act.put, List.setIfInBounds_toArray, List.set_cons_zero, List.set_cons_succ]
            refine held_skip (i := 10) rfl (by kernel_rfl) (by kernel_rfl) (by kernel_rfl) (fun _ _ _ h => h) (by rfl) (by assumption) ?_
            try simp only [Act.put, List.setIfInBounds_toArray, List.set_cons_zero, List.set_cons_succ]
            refine held_take (i := 11) (v := ?_) rfl (by kernel_rfl) (by kernel_rfl) (by kernel_rfl) (fun _ _ _ h => h) (by rfl) (fun w hSw => ?_) (by assumption) ?_; rotate_left 1; focus (((try dsimp only at hSw); first | (go_simp; done) | (go_simp; with_reducible rfl)))
            try simp only [Act.put, List.setIfInBounds_toArray, List.set_cons_zero, List.set_cons_succ]
            refine wpAnyH_done (by kernel_rfl) ?_ _
            have T5 := Lib.hid (T3.out.below (below_alloc w3 (.cells #[.string xk, .int .u64 (xs : Int), .int .i64 xi, .string xv] 38)).drew)
            have S5 : Hid (RowAt w3.heap.size ⟨xk, xs, xi, xv⟩ (w3.alloc (.cells #[.string xk, .int .u64 (xs : Int), .int .i64 xi, .string xv] 38)).drew) := S4
            obtain ⟨⟨b0, b1, b2, b3⟩, b4⟩ := S5.out.cells
            go_wp2_with (first | (go_at_call 24; ((with_reducible refine (CC.out _).mono ?_); rintro e w6 ⟨rfl, hb6⟩; have T6 := Lib.hid (T5.out.below hb6); have row6 : Hid (w6.ownsRow w.heap.size 38 4 (.slice a0 (0) c0) (0) (rowR M)) := Lib.hid (by have := T6.out.row; rw [← hml.out] at this; exact this); have z6 := Lib.hid (T6.out.hp.big); clear hb6)) | (at_builtin; refine wpList_append_own _ rfl _ _ 22 rfl w.heap.size 38 ti (.agg #[.string .empty, .int .u64 0, .int .i64 0, .string .empty]) 4 48 Try.underlying22 hi hy0 hy1 hy2 rfl (by decide) (.slice a0 (0) c0) (0) (rowR M) rfl (row6.out.alloc _) ⟨w6.heap.size, 0, none⟩ 1 1 [.string xk, .int .u64 (xs : Int), .int .i64 xi, .string xv] rfl rfl (World.news_of_block (heap_alloc_new _ _)) (row_one ⟨xk, xs, xi, xv⟩) (by have := hLl.out; unfold maxLen; omega) (by have := hLl.out; omega) (by have := z6.out; rw [World.size_alloc]; omega) ?_; intro v' w7 hown' hgrow _; have I7 := Lib.hid (T6.out.push (v' := v') (w' := w7) hlast.out (by rw [← hX.out, rowR_snoc, List.length_append, ← hml.out]; exact hown') hgrow); clear hown' hgrow))
            go_roundw
            case rel => exact ⟨_, _, _, _, _, I7.out, rfl⟩
            case measure =>
              rw [← hm.out]
              refine Nat.lt_of_le_of_lt (leastM_le ⟨_, _, _, _, I7.out, rfl⟩) ?_
              have := T5.out.cnt
              omega
          · obtain ⟨m0, rfl⟩ : ∃ m0, ml = m0 + 1 := ⟨ml - 1, by omega⟩
            have hLl : Hid (m0 + 1 ≤ 1000000) := Lib.hid hMl
            have iz : ¬ ((m0 : Int) + 1 = 0) := by omega
            have iz2 : ((m0 : Int) + 1 == 0) = false := by rw [beq_eq_false_iff_ne]; omega
            have iw : IntKind.i64.wrap (m0 : Int) = (m0 : Int) := by rw [IntKind.wrap_i64]; omega
            have iw2 : IntKind.i64.wrap ((m0 : Int) + 1 - 1) = (m0 : Int) := by rw [IntKind.wrap_i64]; omega
            have iw3 : (0 : Int) ≤ (m0 : Int) := by omega
            have ib : (m0 : Int) < (m0 : Int) + 1 := by omega
            have hrow4 := T4.out.row
            rw [← hml.out] at hrow4
            obtain ⟨a9, c9, g9, hs9, R9, hgB⟩ := rs_of_row T4.out.row
            obtain ⟨lm, hlm, ha9, q0, q1, q2, q3⟩ := R9.at4 (j := m0) (by have := hml.out; omega)
            subst ha9
            rw [← hml.out] at hs9
            obtain ⟨rfl, rfl⟩ : a0 = some ⟨g9, 0, none⟩ ∧ c0 = c9 := by cases hs9; exact ⟨rfl, rfl⟩
            rw [Nat.zero_add] at q0 q1 q2 q3
            have hlm1 : ∀ m, M.getLast? = some m → m = lm := last_at hml.out.symm hlm
            have hlm2 := List.mem_of_getElem? hlm
            obtain ⟨yk, ys, yi, yv⟩ := lm
            obtain ⟨T, hT⟩ := named (smpB ⟨yk, ys, yi, yv⟩ ⟨xk, xs, xi, xv⟩)
            have CS : Hid (∀ u, Calls Try.prog 32 #[.agg #[.string yk, .int .u64 (ys : Int), .int .i64 yi, .string yv], .agg #[.string xk, .int .u64 (xs : Int), .int .i64 xi, .string xv]] u fun e w' => e = .returned (.bool T) ∧ Below u.heap.size u w') := Lib.hid (by rw [hT.out]; exact same_any ⟨yk, ys, yi, yv⟩ ⟨xk, xs, xi, xv⟩)
            have R9 := Lib.hid R9
            simp only at q0 q1 q2 q3
            obtain ⟨⟨b0, b1, b2, b3⟩, b4⟩ := S4.out.cells
            have C4 := Lib.hid (show (w3.alloc (.cells #[.string xk, .int .u64 (xs : Int), .int .i64 xi, .string xv] 38)).cell? ⟨w3.heap.size, 0, none⟩ = some (.string xk) ∧ (w3.alloc (.cells #[.string xk, .int .u64 (xs : Int), .int .i64 xi, .string xv] 38)).cell? ⟨w3.heap.size, 1, none⟩ = some (.int .u64 (xs : Int)) ∧ (w3.alloc (.cells #[.string xk, .int .u64 (xs : Int), .int .i64 xi, .string xv] 38)).cell? ⟨w3.heap.size, 2, none⟩ = some (.int .i64 xi) ∧ (w3.alloc (.cells #[.string xk, .int .u64 (xs : Int), .int .i64 xi, .string xv] 38)).cell? ⟨w3.heap.size, 3, none⟩ = some (.string xv) ∧ (w3.alloc (.cells #[.string xk, .int .u64 (xs : Int), .int .i64 xi, .string xv] 38)).cell? ⟨g9, m0 * 4, none⟩ = some (.string yk) ∧ (w3.alloc (.cells #[.string xk, .int .u64 (xs : Int), .int .i64 xi, .string xv] 38)).cell? ⟨g9, m0 * 4 + 1, none⟩ = some (.int .u64 (ys : Int)) ∧ (w3.alloc (.cells #[.string xk, .int .u64 (xs : Int), .int .i64 xi, .string xv] 38)).cell? ⟨g9, m0 * 4 + 2, none⟩ = some (.int .i64 yi) ∧ (w3.alloc (.cells #[.string xk, .int .u64 (xs : Int), .int .i64 xi, .string xv] 38)).cell? ⟨g9, m0 * 4 + 3, none⟩ = some (.string yv) from ⟨b0, b1, b2, b3, q0, q1, q2, q3⟩)
            have hC4 : Hid (∀ u, Below (w3.alloc (.cells #[.string xk, .int .u64 (xs : Int), .int .i64 xi, .string xv] 38)).heap.size (w3.alloc (.cells #[.string xk, .int .u64 (xs : Int), .int .i64 xi, .string xv] 38)) u → u.cell? ⟨w3.heap.size, 0, none⟩ = some (.string xk) ∧ u.cell? ⟨w3.heap.size, 1, none⟩ = some (.int .u64 (xs : Int)) ∧ u.cell? ⟨w3.heap.size, 2, none⟩ = some (.int .i64 xi) ∧ u.cell? ⟨w3.heap.size, 3, none⟩ = some (.string xv) ∧ u.cell? ⟨g9, m0 * 4, none⟩ = some (.string yk) ∧ u.cell? ⟨g9, m0 * 4 + 1, none⟩ = some (.int .u64 (ys : Int)) ∧ u.cell? ⟨g9, m0 * 4 + 2, none⟩ = some (.int .i64 yi) ∧ u.cell? ⟨g9, m0 * 4 + 3, none⟩ = some (.string yv)) := Lib.hid (fun u hu => by
              obtain ⟨d0, d1, d2, d3, d4, d5, d6, d7⟩ := C4.out
              exact ⟨cell_keep hu d0, cell_keep hu d1, cell_keep hu d2, cell_keep hu d3, cell_keep hu d4, cell_keep hu d5, cell_keep hu d6, cell_keep hu d7⟩)
            clear hlm hs9 hgB hrow4
            cases T with
            | true =>
              refine wp_region_held_drew (S := (fun u => u.cell? ⟨w3.heap.size, 0, none⟩ = some (.string xk) ∧ u.cell? ⟨w3.heap.size, 1, none⟩ = some (.int .u64 (xs : Int)) ∧ u.cell? ⟨w3.heap.size, 2, none⟩ = some (.int .i64 xi) ∧ u.cell? ⟨w3.heap.size, 3, none⟩ = some (.string xv) ∧ u.cell? ⟨g9, m0 * 4, none⟩ = some (.string yk) ∧ u.cell? ⟨g9, m0 * 4 + 1, none⟩ = some (.int .u64 (ys : Int)) ∧ u.cell? ⟨g9, m0 * 4 + 2, none⟩ = some (.int .i64 yi) ∧ u.cell? ⟨g9, m0 * 4 + 3, none⟩ = some (.string yv))) (by kernel_rfl) (C4.out) (fun hHeld => ?_)
              refine held_take (i := 0) (v := ?_) rfl (by kernel_rfl) (by kernel_rfl) (by kernel_rfl) (fun _ _ _ h => h) (by rfl) (fun w hSw => ?_) (by assumption) ?_; rotate_left 1; focus (((try dsimp only at hSw); first | (go_simp; done) | (go_simp; with_reducible rfl)))
              try simp only [Act.put, List.setIfInBounds_toArray, List.set_cons_zero, List.set_cons_succ]
              refine held_take (i := 1) (v := ?_) rfl (by kernel_rfl) (by kernel_rfl) (by kernel_rfl) (fun _ _ _ h => h) (by rfl) (fun w hSw => ?_) (by assumption) ?_; rotate_left 1; focus (((try dsimp only at hSw); first | (go_simp; done) | (go_simp; with_reducible rfl)))
              try simp only [Act.put, List.setIfInBounds_toArray, List.set_cons_zero, List.set_cons_succ]
              refine held_take (i := 2) (v := ?_) rfl (by kernel_rfl) (by kernel_rfl) (by kernel_rfl) (fun _ _ _ h => h) (by rfl) (fun w hSw => ?_) (by assumption) ?_; rotate_left 1; focus (((try dsimp only at hSw); first | (go_simp; done) | (go_simp; with_reducible rfl)))
              try simp only [Act.put, List.setIfInBounds_toArray, List.set_cons_zero, List.set_cons_succ]
              refine held_take (i := 3) (v := ?_) rfl (by kernel_rfl) (by kernel_rfl) (by kernel_rfl) (fun _ _ _ h => h) (by rfl) (fun w hSw => ?_) (by assumption) ?_; rotate_left 1; focus (((try dsimp only at hSw); first | (go_simp; done) | (go_simp; with_reducible rfl)))
              try simp only [Act.put, List.setIfInBounds_toArray, List.set_cons_zero, List.set_cons_succ]
              refine held_take (i := 4) (v := ?_) rfl (by kernel_rfl) (by kernel_rfl) (by kernel_rfl) (fun _ _ _ h => h) (by rfl) (fun w hSw => ?_) (by assumption) ?_; rotate_left 1; focus (((try dsimp only at hSw); first | (go_simp; done) | (go_simp; with_reducible rfl)))
              try simp only [Act.put, List.setIfInBounds_toArray, List.set_cons_zero, List.set_cons_succ]
              refine held_take (i := 5) (v := ?_) rfl (by kernel_rfl) (by kernel_rfl) (by kernel_rfl) (fun _ _ _ h => h) (by rfl) (fun w hSw => ?_) (by assumption) ?_; rotate_left 1; focus (((try dsimp only at hSw); first | (go_simp; done) | (go_simp; with_reducible rfl)))
              try simp only [Act.put, List.setIfInBounds_toArray, List.set_cons_zero, List.set_cons_succ]
              refine held_take (i := 6) (v := ?_) rfl (by kernel_rfl) (by kernel_rfl) (by kernel_rfl) (fun _ _ _ h => h) (by rfl) (fun w hSw => ?_) (by assumption) ?_; rotate_left 1; focus (((try dsimp only at hSw); first | (go_simp; done) | (go_simp; with_reducible rfl)))
              try simp only [Act.put, List.setIfInBounds_toArray, List.set_cons_zero, List.set_cons_succ]
              refine held_take (i := 7) (v := ?_) rfl (by kernel_rfl) (by kernel_rfl) (by kernel_rfl) (fun _ _ _ h => h) (by rfl) (fun w hSw => ?_) (by assumption) ?_; rotate_left 1; focus (((try dsimp only at hSw); first | (go_simp; done) | (go_simp; with_reducible rfl)))
              try simp only [Act.put, List.setIfInBounds_toArray, List.set_cons_zero, List.set_cons_succ]
              refine held_take (i := 8) (v := ?_) rfl (by kernel_rfl) (by kernel_rfl) (by kernel_rfl) (fun _ _ _ h => h) (by rfl) (fun w hSw => ?_) (by assumption) ?_; rotate_left 1; focus (((try dsimp only at hSw); first | (go_simp; done) | (go_simp; with_reducible rfl)))
              try simp only [Act.put, List.setIfInBounds_toArray, List.set_cons_zero, List.set_cons_succ]
              refine held_call (i := 9) (by kernel_rfl) rfl (by rfl) (fun K hK => ?_)
              go_simp
              refine (CS.out _).mono ?_
              rintro e w5 ⟨rfl, hb5'⟩
              have hb5 := (below_drew_in hb5' : Below (w3.alloc (.cells #[.string xk, .int .u64 (xs : Int), .int .i64 xi, .string xv] 38)).heap.size (w3.alloc (.cells #[.string xk, .int .u64 (xs : Int), .int .i64 xi, .string xv] 38)) w5)
              have I7 := Lib.hid ((T4.out.below hb5).pass hlm2 (by rw [← hX.out]; exact hT.out.symm))
              clear hb5'
              refine hK.out _ _ (hC4.out _ hb5) (fun hHeld => ?_)
              try simp only [Act.put, List.setIfInBounds_toArray, List.set_cons_zero, List.set_cons_succ]
              refine held_take (i := 10) (v := ?_) rfl (by kernel_rfl) (by kernel_rfl) (by kernel_rfl) (fun _ _ _ h => h) (by rfl) (fun w hSw => ?_) (by assumption) ?_; rotate_left 1; focus (((try dsimp only at hSw); first | (go_simp; done) | (go_simp; with_reducible rfl)))
              try simp only [Act.put, List.setIfInBounds_toArray, List.set_cons_zero, List.set_cons_succ]
              refine held_take (i := 11) (v := ?_) rfl (by kernel_rfl) (by kernel_rfl) (by kernel_rfl) (fun _ _ _ h => h) (by rfl) (fun w hSw => ?_) (by assumption) ?_; rotate_left 1; focus (((try dsimp only at hSw); first | (go_simp; done) | (go_simp; with_reducible rfl)))
              try simp only [Act.put, List.setIfInBounds_toArray, List.set_cons_zero, List.set_cons_succ]
              refine wpAnyH_done (by kernel_rfl) ?_ _
              go_wp2_with fail
              go_roundw
              case rel => exact ⟨_, _, _, _, _, I7.out, rfl⟩
              case measure =>
                rw [← hm.out]
                refine Nat.lt_of_le_of_lt (leastM_le ⟨_, _, _, _, I7.out, rfl⟩) ?_
                have := T4.out.cnt
                omega
            | false =>
              have hlast : Hid (∀ m, M.getLast? = some m → smpB m (it b).hd = false) := Lib.hid (fun m hmm => by rw [hlm1 m hmm, ← hX.out]; exact hT.out.symm)
              refine wp_region_held_drew (S := (fun u => u.cell? ⟨w3.heap.size, 0, none⟩ = some (.string xk) ∧ u.cell? ⟨w3.heap.size, 1, none⟩ = some (.int .u64 (xs : Int)) ∧ u.cell? ⟨w3.heap.size, 2, none⟩ = some (.int .i64 xi) ∧ u.cell? ⟨w3.heap.size, 3, none⟩ = some (.string xv) ∧ u.cell? ⟨g9, m0 * 4, none⟩ = some (.string yk) ∧ u.cell? ⟨g9, m0 * 4 + 1, none⟩ = some (.int .u64 (ys : Int)) ∧ u.cell? ⟨g9, m0 * 4 + 2, none⟩ = some (.int .i64 yi) ∧ u.cell? ⟨g9, m0 * 4 + 3, none⟩ = some (.string yv))) (by kernel_rfl) (C4.out) (fun hHeld => ?_)
              refine held_take (i := 0) (v := ?_) rfl (by kernel_rfl) (by kernel_rfl) (by kernel_rfl) (fun _ _ _ h => h) (by rfl) (fun w hSw => ?_) (by assumption) ?_; rotate_left 1; focus (((try dsimp only at hSw); first | (go_simp; done) | (go_simp; with_reducible rfl)))
              try simp only [Act.put, List.setIfInBounds_toArray, List.set_cons_zero, List.set_cons_succ]
              refine held_take (i := 1) (v := ?_) rfl (by kernel_rfl) (by kernel_rfl) (by kernel_rfl) (fun _ _ _ h => h) (by rfl) (fun w hSw => ?_) (by assumption) ?_; rotate_left 1; focus (((try dsimp only at hSw); first | (go_simp; done) | (go_simp; with_reducible rfl)))
              try simp only [Act.put, List.setIfInBounds_toArray, List.set_cons_zero, List.set_cons_succ]
              refine held_take (i := 2) (v := ?_) rfl (by kernel_rfl) (by kernel_rfl) (by kernel_rfl) (fun _ _ _ h => h) (by rfl) (fun w hSw => ?_) (by assumption) ?_; rotate_left 1; focus (((try dsimp only at hSw); first | (go_simp; done) | (go_simp; with_reducible rfl)))
              try simp only [Act.put, List.setIfInBounds_toArray, List.set_cons_zero, List.set_cons_succ]
              refine held_take (i := 3) (v := ?_) rfl (by kernel_rfl) (by kernel_rfl) (by kernel_rfl) (fun _ _ _ h => h) (by rfl) (fun w hSw => ?_) (by assumption) ?_; rotate_left 1; focus (((try dsimp only at hSw); first | (go_simp; done) | (go_simp; with_reducible rfl)))
              try simp only [Act.put, List.setIfInBounds_toArray, List.set_cons_zero, List.set_cons_succ]
              refine held_take (i := 4) (v := ?_) rfl (by kernel_rfl) (by kernel_rfl) (by kernel_rfl) (fun _ _ _ h => h) (by rfl) (fun w hSw => ?_) (by assumption) ?_; rotate_left 1; focus (((try dsimp only at hSw); first | (go_simp; done) | (go_simp; with_reducible rfl)))
              try simp only [Act.put, List.setIfInBounds_toArray, List.set_cons_zero, List.set_cons_succ]
              refine held_take (i := 5) (v := ?_) rfl (by kernel_rfl) (by kernel_rfl) (by kernel_rfl) (fun _ _ _ h => h) (by rfl) (fun w hSw => ?_) (by assumption) ?_; rotate_left 1; focus (((try dsimp only at hSw); first | (go_simp; done) | (go_simp; with_reducible rfl)))
              try simp only [Act.put, List.setIfInBounds_toArray, List.set_cons_zero, List.set_cons_succ]
              refine held_take (i := 6) (v := ?_) rfl (by kernel_rfl) (by kernel_rfl) (by kernel_rfl) (fun _ _ _ h => h) (by rfl) (fun w hSw => ?_) (by assumption) ?_; rotate_left 1; focus (((try dsimp only at hSw); first | (go_simp; done) | (go_simp; with_reducible rfl)))
              try simp only [Act.put, List.setIfInBounds_toArray, List.set_cons_zero, List.set_cons_succ]
              refine held_take (i := 7) (v := ?_) rfl (by kernel_rfl) (by kernel_rfl) (by kernel_rfl) (fun _ _ _ h => h) (by rfl) (fun w hSw => ?_) (by assumption) ?_; rotate_left 1; focus (((try dsimp only at hSw); first | (go_simp; done) | (go_simp; with_reducible rfl)))
              try simp only [Act.put, List.setIfInBounds_toArray, List.set_cons_zero, List.set_cons_succ]
              refine held_take (i := 8) (v := ?_) rfl (by kernel_rfl) (by kernel_rfl) (by kernel_rfl) (fun _ _ _ h => h) (by rfl) (fun w hSw => ?_) (by assumption) ?_; rotate_left 1; focus (((try dsimp only at hSw); first | (go_simp; done) | (go_simp; with_reducible rfl)))
              try simp only [Act.put, List.setIfInBounds_toArray, List.set_cons_zero, List.set_cons_succ]
              refine held_call (i := 9) (by kernel_rfl) rfl (by rfl) (fun K hK => ?_)
              go_simp
              refine (CS.out _).mono ?_
              rintro e w5 ⟨rfl, hb5'⟩
              have hb5 := (below_drew_in hb5' : Below (w3.alloc (.cells #[.string xk, .int .u64 (xs : Int), .int .i64 xi, .string xv] 38)).heap.size (w3.alloc (.cells #[.string xk, .int .u64 (xs : Int), .int .i64 xi, .string xv] 38)) w5)
              have T5 := Lib.hid (T4.out.below hb5)
              obtain ⟨d0, d1, d2, d3, _⟩ := hC4.out _ hb5
              clear hb5'
              refine hK.out _ _ (hC4.out _ hb5) (fun hHeld => ?_)
              try simp only [Act.put, List.setIfInBounds_toArray, List.set_cons_zero, List.set_cons_succ]
              refine held_take (i := 10) (v := ?_) rfl (by kernel_rfl) (by kernel_rfl) (by kernel_rfl) (fun _ _ _ h => h) (by rfl) (fun w hSw => ?_) (by assumption) ?_; rotate_left 1; focus (((try dsimp only at hSw); first | (go_simp; done) | (go_simp; with_reducible rfl)))
              try simp only [Act.put, List.setIfInBounds_toArray, List.set_cons_zero, List.set_cons_succ]
              refine held_take (i := 11) (v := ?_) rfl (by kernel_rfl) (by kernel_rfl) (by kernel_rfl) (fun _ _ _ h => h) (by rfl) (fun w hSw => ?_) (by assumption) ?_; rotate_left 1; focus (((try dsimp only at hSw); first | (go_simp; done) | (go_simp; with_reducible rfl)))
              try simp only [Act.put, List.setIfInBounds_toArray, List.set_cons_zero, List.set_cons_succ]
              refine wpAnyH_done (by kernel_rfl) ?_ _
              clear q0 q1 q2 q3 b0 b1 b2 b3 b4
              go_wp2_with (first | (go_at_call 24; ((with_reducible refine (CC.out _).mono ?_); rintro e w6 ⟨rfl, hb6⟩; have T6 := Lib.hid (T5.out.below hb6); have row6 : Hid (w6.ownsRow w.heap.size 38 4 (.slice (some ⟨g9, 0, none⟩) (m0 + 1) c0) (m0 + 1) (rowR M)) := Lib.hid (by have := T6.out.row; rw [← hml.out] at this; exact this); have z6 := Lib.hid (T6.out.hp.big); clear hb6)) | (at_builtin; refine wpList_append_own _ rfl _ _ 22 rfl w.heap.size 38 ti (.agg #[.string .empty, .int .u64 0, .int .i64 0, .string .empty]) 4 48 Try.underlying22 hi hy0 hy1 hy2 rfl (by decide) (.slice (some ⟨g9, 0, none⟩) (m0 + 1) c0) (m0 + 1) (rowR M) rfl (row6.out.alloc _) ⟨w6.heap.size, 0, none⟩ 1 1 [.string xk, .int .u64 (xs : Int), .int .i64 xi, .string xv] rfl rfl (World.news_of_block (heap_alloc_new _ _)) (row_one ⟨xk, xs, xi, xv⟩) (by have := hLl.out; unfold maxLen; omega) (by have := hLl.out; omega) (by have := z6.out; rw [World.size_alloc]; omega) ?_; intro v' w7 hown' hgrow _; have I7 := Lib.hid (T6.out.push (v' := v') (w' := w7) hlast.out (by rw [← hX.out, rowR_snoc, List.length_append, ← hml.out]; exact hown') hgrow); clear hown' hgrow))
              go_roundw
              case rel => exact ⟨_, _, _, _, _, I7.out, rfl⟩
              case measure =>
                rw [← hm.out]
                refine Nat.lt_of_le_of_lt (leastM_le ⟨_, _, _, _, I7.out, rfl⟩) ?_
                have := T5.out.cnt
                omega
    · have i1 : (j : Int) < (n : Int) := by omega
      have hjl : j < n := by omega
      have jw : wrap64 ((j : Int) + 1) = ((j + 1 : Nat) : Int) := by unfold wrap64; omega
      obtain ⟨l, g, o, a, m, d, b, q, hl, rfl, e1, e2, e3⟩ := hR.out.one hjl
      have OC := order_any e2
      have e2 := Lib.hid e2
      have e3 := Lib.hid e3
      have hsn : Hid ((L.take (j + 1)).all ordR = ((L.take j).all ordR && ordR l)) := Lib.hid (by rw [List.take_add_one, hl]; simp)
      have hlm := Lib.hid (List.mem_of_getElem? hl)
      clear hl
      cases hT : ordR l with
      | true =>
        rw [hT] at OC
        have OC := Lib.hid OC
        have hA2 : Hid ((L.take (j + 1)).all ordR = true) := Lib.hid (by rw [hsn.out, hA.out, hT]; rfl)
        go_wp2_with (go_at_call 18; ((with_reducible refine OC.out.mono ?_); rintro e w2 ⟨rfl, hb2⟩; have B2 : Hid (Below w.heap.size w w2) := Lib.hid (hB.out.trans (hb2.mono hB.out.size)); clear hb2))
        go_roundw
        case rel => exact ⟨j + 1, hjl, by first | rfl | rw [jw], hA2, B2⟩
        case measure => simp [intOf] <;> omega
      | false =>
        rw [hT] at OC
        have OC := Lib.hid OC
        go_wp2_with (go_at_call 18; ((with_reducible refine OC.out.mono ?_); rintro e w2 ⟨rfl, hb2⟩; have B2 : Hid (Below w.heap.size w w2) := Lib.hid (hB.out.trans (hb2.mono hB.out.size)); clear hb2))
        go_returns
        refine .inl ⟨?_, rfl, B2.out⟩
        rw [List.all_eq_false]
        exact ⟨l, hlm.out, by rw [hT]; simp⟩
end Go.Proofs.Ytlnklpnldmcopaa
/-
  The contract of the document's own Merge. Condition: at most 900 lists, of 100000 rows in all.
-/
namespace Go.Proofs.Ytlnklpnldmcopaa
set_option maxRecDepth 100000
open Go.RowKit
def foldL (L : List (List Rw)) (o : List Rw) : List Rw := L.foldl (fun o l => l.foldl addR o) o
theorem foldL_snoc (L : List (List Rw)) (l : List Rw) (o : List Rw) : foldL (L ++ [l]) o = l.foldl addR (foldL L o) := by unfold foldL; rw [List.foldl_append]; rfl
theorem foldl_len : ∀ (l : List Rw) (o : List Rw), (l.foldl addR o).length ≤ o.length + l.length
  | [], _ => Nat.le_refl _
  | x :: l, o => by
    have h1 := foldl_len l (addR o x)
    have h2 := addR_len o x
    show (l.foldl addR (addR o x)).length ≤ _
    simp only [List.length_cons]; omega
theorem foldL_len : ∀ (L : List (List Rw)) (o : List Rw), (foldL L o).length ≤ o.length + (L.map List.length).sum
  | [], o => by simp [foldL]
  | l :: L, o => by
    have h1 := foldL_len L (l.foldl addR o)
    have h2 := foldl_len l o
    show (foldL L (l.foldl addR o)).length ≤ _
    simp only [List.map_cons, List.sum_cons]; omega
theorem sum_take_le : ∀ (L : List (List Rw)) (j : Nat), ((L.take j).map List.length).sum ≤ (L.map List.length).sum
  | [], j => by simp
  | l :: L, 0 => by simp
  | l :: L, j + 1 => by have := sum_take_le L j; simp only [List.take_succ_cons, List.map_cons, List.sum_cons]; omega
theorem sum_at : ∀ {L : List (List Rw)} {j : Nat} {l : List Rw}, L[j]? = some l → ((L.take j).map List.length).sum + l.length ≤ (L.map List.length).sum
  | [], j, l, h => by simp at h
  | a :: L, 0, l, h => by simp at h; subst h; simp
  | a :: L, j + 1, l, h => by have := sum_at (L := L) (j := j) (l := l) (by simpa using h); simp only [List.take_succ_cons, List.map_cons, List.sum_cons]; omega
theorem RL.fix {B : Nat} {p : Option Addr} {n c : Nat} {L : List (List Rw)} {w : World} (h : RL B p n c L w) {j : Nat} (hj : j < n) : ∃ l g o a m d b q, L[j]? = some l ∧ p = some ⟨g, o, none⟩ ∧ ∀ u, Below B w u → u.cell? ⟨g, o + j, none⟩ = some (.slice a m d) ∧ Rs a m d b q l u := by
  obtain ⟨g, o, h1, h2⟩ := h.addr
  obtain ⟨l, hl⟩ : ∃ l, L[j]? = some l := ⟨_, List.getElem?_eq_getElem (by rw [h.len]; exact hj)⟩
  obtain ⟨a, m, d, b, q, e1, e2, e3⟩ := h2 j l hl
  exact ⟨l, g, o, a, m, d, b, q, hl, (h1 (by omega)).1, fun u hu => ⟨(World.cell?_of_block (a := ⟨g, o + j, none⟩) (hu.block g (h1 (by omega)).2)).trans e1, e2.keep (fun h0 => hu.block b (e3 h0)) hu.size⟩⟩
theorem foldl_snoc (l : List Rw) (x : Rw) (o : List Rw) : (l ++ [x]).foldl addR o = addR (l.foldl addR o) x := by rw [List.foldl_append]; rfl
end Go.Proofs.Ytlnklpnldmcopaa
/-
  The contract of the law's many. No condition.
-/
namespace Go.Proofs.Ytlnklpnldmcopaa
set_option maxRecDepth 100000
open Go.RowKit
def manyB (L : List (List Rw)) : Bool := decide (20 < L.length) || L.any fun l => decide (60 < l.length)
theorem many_no {L : List (List Rw)} (h : manyB L = false) : L.length ≤ 20 ∧ ∀ l ∈ L, l.length ≤ 60 := by
  unfold manyB at h
  rw [Bool.or_eq_false_iff] at h
  refine ⟨by simpa using h.1, fun l hl => ?_⟩
  have := List.any_eq_false.1 h.2 l hl
  simpa using this
theorem sum_few : ∀ {L : List (List Rw)} {k : Nat}, (∀ l ∈ L, l.length ≤ k) → (L.map List.length).sum ≤ L.length * k
  | [], k, _ => by simp
  | l :: L, k, h => by
    have h1 := h l (List.mem_cons_self ..)
    have h2 := sum_few (L := L) (k := k) (fun x hx => h x (List.mem_cons_of_mem _ hx))
    simp only [List.map_cons, List.sum_cons, List.length_cons, Nat.add_mul, Nat.one_mul]; omega
end Go.Proofs.Ytlnklpnldmcopaa
/-
  The copy of rows with a mark behind them, and whether it stands (own, kept: the laws of package merge). Condition: at most 1100 rows.
-/
namespace Go.Proofs.Ytlnklpnldmcopaa
set_option maxRecDepth 100000
open Go.RowKit
/-- The mark. -/
def markM : Rw := ⟨⟨#[]⟩, 0, 77, ⟨#[]⟩⟩
theorem markR_takeM (l : List Rw) : (l ++ [markM]).take l.length = l := by simp
theorem markR_atM (l : List Rw) : (l ++ [markM])[l.length]? = some markM := by simp
theorem row_of_rsM {a : Option Addr} {n c b o : Nat} {l : List Rw} {w : World} (h : Rs a n c b o l w) : ∀ j u, (rowR l)[j]? = some u → w.cell? ((⟨b, o, none⟩ : Addr).add j) = some u := by
  intro j u hj
  rw [addr_add]
  have hlt : j < l.length * 4 := by have := (List.getElem?_eq_some_iff.1 hj).1; rwa [rowR_len] at this
  obtain ⟨q, r, hq, hr⟩ : ∃ q r, j = q * 4 + r ∧ r < 4 := ⟨j / 4, j % 4, by omega, Nat.mod_lt _ (by omega)⟩
  subst hq
  have hql : q < l.length := by omega
  obtain ⟨e0, e1, e2, e3⟩ := rowR_at l q (List.getElem?_eq_getElem hql)
  obtain ⟨c0, c1, c2, c3⟩ := h.at' q _ (List.getElem?_eq_getElem hql)
  match r, hr with
  | 0, _ => rw [← hj]; exact c0.trans e0.symm
  | 1, _ => rw [← hj]; exact c1.trans e1.symm
  | 2, _ => rw [← hj]; exact c2.trans e2.symm
  | 3, _ => rw [← hj]; exact c3.trans e3.symm
theorem rowR_oneM (l : List Rw) : ∀ u ∈ rowR l, u.oneCell' = true := by
  intro u hu
  unfold rowR at hu
  obtain ⟨x, _, hx⟩ := List.mem_flatMap.1 hu
  simp only [List.mem_cons, List.not_mem_nil, or_false] at hx
  rcases hx with rfl | rfl | rfl | rfl <;> rfl
/-- 'append(a, b...)' of rows, a the call's own and empty, b a slice of rows, nil or not. -/
theorem wpList_append_rsM {ops : Array Oper} {rest : List Oper} {o : Oper} {a : Act} {Q : Exit → Act → World → Prop} {w : World} (hgd : o.guard = none) (s x : Operand)
    (ho : o.op = .call { callee := .builtin .append, args := #[s, x], argTypes := #[22, 22] })
    (base : Nat) (v : Value) (p : Option Addr) (n c b off : Nat) (l : List Rw) (hs : a.eval s = v) (hx : a.eval x = .slice p n c) (hown : w.ownsRow base 38 4 v 0 []) (hsrc : Rs p n c b off l w) (hn : n ≤ 1000000) (hbase : base ≤ w.heap.size)
    (h : ∀ v' w', w'.ownsRow base 38 4 v' n (rowR l) → w.grownBy w' v.ownBlock → (∃ va vc, v' = .slice va n vc) → wpList Try.prog ops Q rest (a.put o.dst v') w') : wpList Try.prog ops Q (o :: rest) a w := by
  obtain ⟨i0, hi, hz0, hz1, hz2⟩ := info_parts info_row
  have hl := hsrc.len
  have shape : ∀ {v' : Value} {w' : World} {ys : List Value}, w'.ownsRow base 38 4 v' n ys → ∃ va vc, v' = .slice va n vc := fun hr => by
    rcases hr.2 with ⟨e1, e0⟩ | ⟨g', cap, cur, e1, _⟩
    · exact ⟨none, 0, by rw [e1, e0]⟩
    · exact ⟨_, _, e1⟩
  cases p with
  | none =>
    have h0 : n = 0 := by
      rcases Nat.eq_zero_or_pos n with e | e
      · exact e
      · have := (hsrc.addr e).1; cases this
    subst h0
    obtain rfl : l = [] := List.length_eq_zero_iff.1 hl
    have hrun : (Builtin.append_ #[22, 22] o.type #[v, .slice none 0 c]).run Try.prog w = .ok v w := by
      rcases hown.2 with ⟨rfl, _⟩ | ⟨g, cap, cur, rfl, _, _, hle, _⟩
      · exact run_append_nothing w _ _ _ 38 i0 Try.underlying22 hi none 0 0 (Nat.le_refl _) _ (Src.ofNil w Try.underlying22 c)
      · exact run_append_nothing w _ _ _ 38 i0 Try.underlying22 hi _ 0 cap (Nat.zero_le _) _ (Src.ofNil w Try.underlying22 c)
    refine wpList_plain hgd fun K hK => ?_
    unfold Oper.wp
    simp [execOp, ho, resolve, invoke, builtin, hs, hx, hrun, Result.andThen]
    exact hK _ _ (h v w hown ⟨rfl, rfl, rfl, Nat.le_refl _, fun _ _ _ => rfl⟩ (shape hown))
  | some ad =>
    refine wpList_append_own w hgd s x 22 ho base 38 i0 _ 4 48 Try.underlying22 hi hz0 hz1 hz2 rfl (by decide) v 0 [] hs hown ad n c (rowR l) hx (by rw [rowR_len, hl]) ?_ (rowR_oneM l) (by unfold maxLen; omega) (by omega) hbase ?_
    · intro j u hj
      have hlt : j < l.length * 4 := by have := (List.getElem?_eq_some_iff.1 hj).1; rwa [rowR_len] at this
      have := (hsrc.addr (by omega)).1
      simp only [Option.some.injEq] at this
      subst this
      exact row_of_rsM hsrc j u hj
    · intro v' w' h1 h2 h3
      rw [Nat.zero_add, List.nil_append] at h1
      exact h v' w' h1 h2 (shape h1)
/-- What own gives. -/
def OwnRM (n : Nat) (l : List Rw) (w : World) (e : Ending) (w' : World) : Prop :=
  ∃ g c, e = .returned (.slice (some ⟨g, 0, none⟩) n c) ∧ w.heap.size ≤ g ∧ Rs (some ⟨g, 0, none⟩) (n + 1) c g 0 (l ++ [markM]) w' ∧ Below w.heap.size w w'
theorem below_grownRM {B : Nat} {w w1 w2 : World} {r : Option Nat} (h : Below B w w1) (hB : B ≤ w1.heap.size) (hg : w1.grownBy w2 r) (hr : ∀ g, r = some g → B ≤ g) : Below B w w2 :=
  h.trans ⟨hg.os, hg.tape, hg.output, hg.size, fun k hk => hg.block k (by omega) (fun e => by have := hr _ e.symm; omega)⟩
set_option maxRecDepth 100000 in
set_option maxHeartbeats 4000000 in
theorem own_anyM {a : Option Addr} {n c b o : Nat} {l : List Rw} {w : World} (h : Rs a n c b o l w) (hn : n ≤ 1100) :
    Calls Try.prog 8 #[.slice a n c] w (OwnRM n l w) := by
  obtain ⟨i0, hi, hz0, hz1, hz2⟩ := info_parts info_row
  have hcap := h.cap
  have hmost := h.most
  have hlen := Lib.hid h.len
  have HZ : Hid ((w.alloc (.cells #[] 38)).ownsRow w.heap.size 38 4 (.slice (some ⟨w.heap.size, 0, none⟩) 0 0) 0 []) := Lib.hid (by
    have := World.ownsRow_made (base := w.heap.size) (e := 38) (size := 4) w #[] 0 (by simp) (by unfold maxLen; omega) (by simp)
    simpa using this)
  have h1 := Lib.hid (h.below (below_alloc w (.cells #[] 38)) (Nat.le_refl _))
  go_enter Try.func8, Try.ntmps8
  have hsz1 : Hid (w.heap.size ≤ (w.alloc (.cells #[] 38)).heap.size) := Lib.hid (by simp)
  go_upto_region 2 with (at_builtin; refine wpList_append_rsM rfl _ _ rfl w.heap.size (.slice (some ⟨w.heap.size, 0, none⟩) 0 0) a n c b o l (by rfl) (by rfl) HZ.out h1.out (by omega) hsz1.out ?_; intro v1 w2 r1 g1 sh1; obtain ⟨va, vc, rfl⟩ := sh1; have r1 := Lib.hid r1; have g1 := Lib.hid g1)
  have G1 : Hid (Below w.heap.size w w2 ∧ w.heap.size ≤ w2.heap.size) := Lib.hid (by
    have g1 := g1.out
    have hz := g1.size
    exact ⟨below_grownRM (below_alloc _ _) (by simp) g1 (fun g e => by simp [Value.ownBlock] at e; omega), by simp at hz; omega⟩)
  clear HZ h h1 g1 hsz1
  have hbase : Hid (w.heap.size ≤ (w2.alloc (.cells #[.string ⟨#[]⟩, .int .u64 0, .int .i64 77, .string ⟨#[]⟩] 38)).heap.size) := Lib.hid (by have := G1.out.2; simp; omega)
  go_wp2_with (at_builtin; refine wpList_append_lies _ rfl _ _ 22 rfl w.heap.size 38 i0 _ 4 48 Try.underlying22 hi hz0 hz1 hz2 rfl (by decide) (.slice va n vc) n (rowR l) (by rfl) (r1.out.alloc _) ⟨w2.heap.size, 0, none⟩ 1 1 [.string ⟨#[]⟩, .int .u64 0, .int .i64 77, .string ⟨#[]⟩] (by rfl) rfl ?d1 ?d2 (by decide) ?d3 ?d4 hbase.out _ rfl ?_)
  case d1 => exact World.news_of_block (heap_alloc_new _ _)
  case d2 => intro u hu; simp only [List.mem_cons, List.not_mem_nil, or_false] at hu; rcases hu with rfl | rfl | rfl | rfl <;> rfl
  case d3 => unfold maxLen; omega
  case d4 => omega
  intro g cap w3 r3 g3 hat hlt
  have G3 : Hid (Below w.heap.size w w3 ∧ w.heap.size ≤ g) := Lib.hid (by
    obtain ⟨s3, s5⟩ := G1.out
    have hlo : ∀ g, (Value.slice va n vc).ownBlock = some g → w.heap.size ≤ g := fun g e => (World.ownsRow.lt r1.out g e).1
    refine ⟨below_grownRM (s3.alloc (by omega) _) (by simp; omega) g3 (fun g e => by have := hlo g e; omega), ?_⟩
    rcases hat with e | e
    · exact hlo g e
    · rw [e]; first | omega | (simp; omega))
  have W3 : Hid (Rs (some ⟨g, 0, none⟩) (n + 1) cap g 0 (l ++ [markM]) w3) := Lib.hid (by
    have hr : w3.ownsRow w.heap.size 38 4 (.slice (some ⟨g, 0, none⟩) (n + 1) cap) (l ++ [markM]).length (rowR (l ++ [markM])) := by
      rw [List.length_append, hlen.out, rowR_snoc]; exact r3
    obtain ⟨a', c', b', hv, hw, _⟩ := rs_of_row hr
    rw [List.length_append, hlen.out] at hv hw
    simp only [Value.slice.injEq] at hv
    obtain ⟨rfl, _, rfl⟩ := hv
    have hb := (hw.addr (by omega)).1
    simp only [Option.some.injEq, Addr.mk.injEq] at hb
    obtain ⟨rfl, _⟩ := hb
    exact hw)
  clear r3 g3 hat r1 G1 hbase
  have hnc : n ≤ cap := by have := W3.out.cap; omega
  have SL := slr_upto (some ⟨g, 0, none⟩) (n + 1) cap n hnc
  go_wp2_with fail
  go_returns
  exact ⟨g, cap, rfl, G3.out.2, W3.out, G3.out.1⟩
open Classical in
set_option maxRecDepth 100000 in
set_option maxHeartbeats 4000000 in
theorem kept_anyM {n c g : Nat} {a2 : Option Addr} {c2 b2 o2 : Nat} {l : List Rw} {w : World} (h : Rs (some ⟨g, 0, none⟩) (n + 1) c g 0 (l ++ [markM]) w) (h2 : Rs a2 n c2 b2 o2 l w) (hn : n ≤ 1100) :
    Calls Try.prog 12 #[.slice (some ⟨g, 0, none⟩) n c, .slice a2 n c2] w fun e w' => e = .returned (.bool true) ∧ Below w.heap.size w w' := by
  have hlen := h2.len
  have hcap := h.cap
  have hmost := h.most
  have hcap2 := h2.cap
  have hmost2 := h2.most
  have ht : Rs (some ⟨g, 0, none⟩) n c g 0 l w := by have := h.upto (k := n) (by omega); rw [← hlen, markR_takeM] at this; rw [← hlen]; exact this
  have SM := Lib.hid (same_rowsB ht h2)
  have hM : Hid (∀ u, Below w.heap.size w u → u.cell? ⟨g, n * 4 + 2, none⟩ = some (.int .i64 77) ∧ g < u.heap.size) := Lib.hid fun u hu => by
    have hw := h.below hu (Nat.le_refl _)
    have := (hw.at' n markM (by rw [← hlen]; exact markR_atM l)).2.2.1
    rw [Nat.zero_add] at this
    exact ⟨this, (hw.addr (by omega)).2⟩
  have SL : ∀ u, (Instr.slice 22 (.slice (some ⟨g, 0, none⟩) n c) none (some (.int .i64 ((n : Int) + 1))) none).run Try.prog u = .ok (.slice (some ⟨g, 0, none⟩) (n + 1) c) u := fun u => by
    have := slr_upto (some ⟨g, 0, none⟩) n c (n + 1) hcap u
    simpa using this
  have h := Lib.hid h
  have h2 := Lib.hid h2
  clear hlen ht
  go_enter Try.func12, Try.ntmps12
  go_wp2_with fail
  refine SM.out.mono ?_
  rintro e V1 ⟨rfl, q1⟩
  obtain ⟨m1, m2⟩ := hM.out V1 q1
  clear SM
  go_wp2_with fail
  go_returns
  exact ⟨rfl, q1⟩
end Go.Proofs.Ytlnklpnldmcopaa
/-
  Copies of lists of rows, each with a mark behind it. No condition.
-/
namespace Go.Proofs.Ytlnklpnldmcopaa
set_option maxRecDepth 100000
open Go.RowKit
structure OwnL (B : Nat) (v : Value) (vs : List Value) (L : List (List Rw)) (w : World) : Prop where
  row : w.ownsRow B 22 1 v L.length vs
  len : vs.length = L.length
  its : ∀ (j : Nat) l, L[j]? = some l → ∃ g c, vs[j]? = some (.slice (some ⟨g, 0, none⟩) l.length c) ∧ Rs (some ⟨g, 0, none⟩) (l.length + 1) c g 0 (l ++ [markM]) w ∧ v.ownBlock ≠ some g
theorem OwnL.nil (B : Nat) (w : World) : OwnL B (.slice none 0 0) [] [] w := ⟨World.ownsRow_nil _ _ _ _, rfl, fun j l h => by simp at h⟩
theorem OwnL.below {B : Nat} {v : Value} {vs : List Value} {L : List (List Rw)} {w w' : World} (h : OwnL B v vs L w) (hb : Below w.heap.size w w') : OwnL B v vs L w' :=
  ⟨own_below h.row hb, h.len, fun j l hl => by
    obtain ⟨g, c, h1, h2, h3⟩ := h.its j l hl
    exact ⟨g, c, h1, h2.below hb (Nat.le_refl _), h3⟩⟩
/-- One more. -/
theorem OwnL.push {B : Nat} {v : Value} {vs : List Value} {L : List (List Rw)} {w0 w w' : World} (h0 : OwnL B v vs L w0) (hb : Below w0.heap.size w0 w) {l : List Rw} {g c : Nat} (hg : w0.heap.size ≤ g) (hr : Rs (some ⟨g, 0, none⟩) (l.length + 1) c g 0 (l ++ [markM]) w) {tmp : Obj} {g' cap : Nat}
    (hown : w'.ownsRow B 22 1 (.slice (some ⟨g', 0, none⟩) (L.length + 1) cap) (L.length + 1) (vs ++ [.slice (some ⟨g, 0, none⟩) l.length c])) (hgrow : (w.alloc tmp).grownBy w' v.ownBlock) (hat : v.ownBlock = some g' ∨ g' = (w.alloc tmp).heap.size) :
    OwnL B (.slice (some ⟨g', 0, none⟩) (L.length + 1) cap) (vs ++ [.slice (some ⟨g, 0, none⟩) l.length c]) (L ++ [l]) w' := by
  have h := h0.below hb
  have hlt : ∀ k, v.ownBlock = some k → k < w0.heap.size := fun k hk => (World.ownsRow.lt h0.row k hk).2
  have hgl : g < w.heap.size := (hr.addr (Nat.succ_pos _)).2
  have keep : ∀ {x : List Rw} {a c : Nat}, Rs (some ⟨a, 0, none⟩) (x.length + 1) c a 0 (x ++ [markM]) w → v.ownBlock ≠ some a → Rs (some ⟨a, 0, none⟩) (x.length + 1) c a 0 (x ++ [markM]) w' ∧ (Value.slice (some ⟨g', 0, none⟩) (L.length + 1) cap).ownBlock ≠ some a := fun {x a c} h1 h2 => by
    have hal := (h1.addr (Nat.succ_pos _)).2
    have h3 := h1.below (below_alloc w tmp) (Nat.le_refl _)
    refine ⟨h3.keep (fun _ => hgrow.block a (by rw [World.size_alloc]; omega) (fun e => h2 e.symm)) hgrow.size, fun e => ?_⟩
    have e : g' = a := by simpa [Value.ownBlock] using e
    rcases hat with h4 | h4
    · exact h2 (by rw [h4, e])
    · rw [World.size_alloc] at h4; omega
  refine ⟨by rw [List.length_append, List.length_singleton]; exact hown, by simp [h.len], fun j x hx => ?_⟩
  by_cases hj : j < L.length
  · rw [List.getElem?_append_left hj] at hx
    obtain ⟨a, c2, k1, k2, k3⟩ := h.its j x hx
    exact ⟨a, c2, by rw [List.getElem?_append_left (by rw [h.len]; exact hj)]; exact k1, (keep k2 k3).1, (keep k2 k3).2⟩
  · rw [List.getElem?_append_right (by omega)] at hx
    have hj2 : j = L.length := by
      have := (List.getElem?_eq_some_iff.1 hx).1
      simp at this; omega
    subst hj2
    simp at hx
    subst hx
    have hne : v.ownBlock ≠ some g := fun e => by have := hlt g e; omega
    exact ⟨g, c, by rw [List.getElem?_append_right (by rw [h.len]; exact Nat.le_refl _), h.len, Nat.sub_self]; rfl, (keep hr hne).1, (keep hr hne).2⟩
/-- As lists that are handed in. -/
theorem OwnL.rl {B : Nat} {v : Value} {vs : List Value} {L : List (List Rw)} {w : World} (h : OwnL B v vs L w) : ∃ p c, v = .slice p L.length c ∧ RL w.heap.size p L.length c L w := by
  rcases h.row.2 with ⟨rfl, e⟩ | ⟨g, cap, cur, rfl, hg, hb, hn, hm, _⟩
  · have : L = [] := List.length_eq_zero_iff.1 e
    subst this
    exact ⟨none, 0, rfl, rfl, Nat.le_refl _, by omega, 0, 0, fun h0 => absurd h0 (by simp), fun j l hl => by simp at hl⟩
  · refine ⟨_, cap, rfl, rfl, hn, hm, g, 0, fun _ => ⟨rfl, (Array.getElem?_eq_some_iff.1 hb).1⟩, fun j l hl => ?_⟩
    obtain ⟨a, c, k1, k2, _⟩ := h.its j l hl
    have hj := (List.getElem?_eq_some_iff.1 hl).1
    have hu := k2.upto (k := l.length) (by omega)
    rw [markR_takeM] at hu
    refine ⟨_, _, _, a, 0, ?_, hu, fun _ => (k2.addr (Nat.succ_pos _)).2⟩
    rw [Nat.zero_add]
    exact (World.ownsRow.cellAt h.row j (by omega)).trans k1
/-- Where one of them lies. -/
theorem OwnL.one {B : Nat} {p : Option Addr} {n c : Nat} {vs : List Value} {L : List (List Rw)} {w : World} (h : OwnL B (.slice p n c) vs L w) {j : Nat} {l : List Rw} (hl : L[j]? = some l) : ∃ r g d, p = some ⟨r, 0, none⟩ ∧ w.cell? ⟨r, j, none⟩ = some (.slice (some ⟨g, 0, none⟩) l.length d) ∧ Rs (some ⟨g, 0, none⟩) (l.length + 1) d g 0 (l ++ [markM]) w := by
  obtain ⟨a, d, k1, k2, _⟩ := h.its j l hl
  have hj := (List.getElem?_eq_some_iff.1 hl).1
  rcases h.row.2 with ⟨_, e⟩ | ⟨g, cap, cur, e, _⟩
  · omega
  · simp only [Value.slice.injEq] at e
    obtain ⟨rfl, rfl, rfl⟩ := e
    exact ⟨g, a, d, rfl, (World.ownsRow.cellAt h.row j (by omega)).trans k1, k2⟩
theorem MergeD.both {L : List (List Rw)} : ∃ (M : List Rw) (E : Nat), (L.all ordR = true → M = mergeL L ∧ E = 0) ∧ (L.all ordR = false → M = [] ∧ E = 2) ∧ ∀ w e w', MergeD L w e w' → ∃ v, e = .returned (.tuple #[v, .int .i64 (E : Int)]) ∧ w'.ownsRow w.heap.size 38 4 v M.length (rowR M) ∧ Below w.heap.size w w' := by
  cases ho : L.all ordR with
  | true =>
    refine ⟨mergeL L, 0, fun _ => ⟨rfl, rfl⟩, fun e => (by cases e), fun w e w' h => ?_⟩
    rcases h with ⟨h1, _⟩ | ⟨_, h2⟩
    · rw [ho] at h1; cases h1
    · exact h2
  | false =>
    refine ⟨[], 2, fun e => (by cases e), fun _ => ⟨rfl, rfl⟩, fun w e w' h => ?_⟩
    rcases h with ⟨_, h1, h2⟩ | ⟨h1, _⟩
    · exact ⟨_, h1, World.ownsRow_nil _ _ _ _, h2⟩
    · rw [ho] at h1; cases h1
end Go.Proofs.Ytlnklpnldmcopaa
