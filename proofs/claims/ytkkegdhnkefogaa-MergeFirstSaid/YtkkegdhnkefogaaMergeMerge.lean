/-
  The contract of Merge. Condition: at most 900 lists, of 1000000 rows in all.
-/
import Derived.Test.YtkkegdhnkefogaaMergeLoop
import Derived.Test.YtkkegdhnkefogaaMergeCopied
namespace Go.Proofs.Ytkkegdhnkefogaa
set_option maxRecDepth 100000
open Go.RowKit
def MergeD (L : List (List Rw)) (w : World) (e : Ending) (w' : World) : Prop :=
  (L.all ordR = false ∧ e = .returned (.tuple #[.slice none 0 0, .int .i64 2]) ∧ Below w.heap.size w w') ∨
  (L.all ordR = true ∧ ∃ v, e = .returned (.tuple #[v, .int .i64 0]) ∧ w'.ownsRow w.heap.size 42 4 v (mergeL L).length (rowR (mergeL L)) ∧ Below w.heap.size w w')
theorem all_sorted {L : List (List Rw)} (h : L.all ordR = true) : ∀ l ∈ L, SortedR l := fun l hl => (ordR_sorted l).1 (List.all_eq_true.1 h l hl)
theorem below_drew_in {w w' : World} (h : Below w.drew.heap.size w.drew w') : Below w.heap.size w w' := (Below.refl w.heap.size w).drew.trans h
theorem last_at {M : List Rw} {j : Nat} {x : Rw} (hl : M.length = j + 1) (hx : M[j]? = some x) : ∀ m, M.getLast? = some m → m = x := fun m hm => by
  rw [List.getLast?_eq_getElem?, hl, Nat.add_sub_cancel, hx] at hm
  exact (Option.some.inj hm).symm
set_option maxRecDepth 100000 in
set_option maxHeartbeats 16000000 in
theorem merge_any {p : Option Addr} {n c : Nat} {L : List (List Rw)} {w : World} (h : RL w.heap.size p n c L w) (hn : n ≤ 900) (hsm : ∀ l ∈ L, ∀ x ∈ l, SmallR x) (ht : (L.map List.length).sum ≤ 1000000) :
    Calls Try.prog 13 #[.slice p n c] w (MergeD L w) := by
  obtain ⟨ti, hi, hy0, hy1, hy2⟩ := info_parts info_row
  have hcap := h.cap
  have hmost := h.most
  have hfull : Hid (L.take n = L) := Lib.hid (by rw [← h.len, List.take_length])
  have hlen := Lib.hid h.len
  have h := Lib.hid h
  have ht := Lib.hid ht
  go_enter Try.func13, Try.ntmps13
  go_wp2_with fail
  go_loopw [12] (fun iv wr => ∃ (j : Nat), j ≤ n ∧ iv = .int .i64 (j : Int) ∧ Hid ((L.take j).all ordR = true) ∧ Hid (Below w.heap.size w wr)) (fun iv _ => n - (intOf iv).toNat)
  case atStart => exact ⟨0, Nat.zero_le _, rfl, Lib.hid (by simp), Lib.hid (Below.refl _ _)⟩
  case round =>
    obtain ⟨j, hj, rfl, hA, hB⟩ := hrel
    have hR := Lib.hid (h.out.keep hB.out)
    by_cases hjn : j = n
    · subst hjn
      have i1 : ¬ (j : Int) < (j : Int) := by omega
      have hall : Hid (L.all ordR = true) := Lib.hid (by rw [← hfull.out]; exact hA.out)
      have HC := Lib.hid (headsof_any hR.out hn hB.out.size)
      go_upto_region 9 with (go_at_call 24; ((with_reducible refine HC.out.mono ?_); rintro e w1 ⟨rfl, k, qs, it, q1, q2, q3, q4⟩; have M0 := Lib.hid (MI.start (all_sorted hall.out) hsm ht.out (by have := hlen.out; omega) q1 q2 q3 (hB.out.trans q4)); clear q1 q2 q3 q4))
      clear HC
      generalize wr.heap.size = hp at M0 ⊢
      go_loopw [6] (fun iv u => ∃ m k M qs it, MI (FinL L) w.heap.size hp iv M k qs it w u ∧ totR qs it = m) (fun iv u => leastM fun m => ∃ k M qs it, MI (FinL L) w.heap.size hp iv M k qs it w u ∧ totR qs it = m)
      case atStart => exact ⟨_, _, _, _, _, M0.out.1, rfl⟩
      case round =>
        obtain ⟨k, M, qs, it, H, hm⟩ := leastM_is hrel
        clear hrel
        obtain ⟨a0, c0, g, rfl, R0, _⟩ := rs_of_row H.row
        have hMl : M.length ≤ 1000000 := by have := H.rest; omega
        have H := Lib.hid H
        have hm := Lib.hid hm
        clear R0
        have LC := Lib.hid (hlen_any H.out.hp)
        obtain ⟨nq, hnq⟩ := named qs.length
        rw [← hnq.out] at LC
        by_cases hq0 : nq = 0
        · subst hq0
          have i2 : ¬ (0 : Int) < ((0 : Nat) : Int) := by omega
          have hM : Hid (M = mergeL L) := Lib.hid (by
            have e : qs = [] := List.length_eq_zero_iff.1 hnq.out.symm
            have := H.out.inv
            rw [e] at this
            exact this.eq (all_sorted hall.out))
          go_wp2_with (go_at_call 25; ((with_reducible refine LC.out.mono ?_); rintro e w2 ⟨rfl, rfl⟩))
          go_returns
          exact .inr ⟨hall.out, _, rfl, by rw [← hM.out]; exact H.out.row, H.out.bel⟩
        · obtain ⟨nr, rfl⟩ : ∃ nr, nq = nr + 1 := ⟨nq - 1, by omega⟩
          have i2 : (0 : Int) < ((nr + 1 : Nat) : Int) := by omega
          have i2' : (0 : Int) < (nr : Int) + 1 := by omega
          obtain ⟨b, hb⟩ : ∃ b, qs[0]? = some b := ⟨_, List.getElem?_eq_getElem (by have := hnq.out; omega)⟩
          have TC := take_any H.out.hp (by have := H.out.few; omega) H.out.heap hnq.out.symm hb
          have hsmX := H.out.small b (List.mem_of_getElem? hb) _ (List.mem_cons_self ..)
          obtain ⟨X, hX⟩ := named (it b).hd
          rw [← hX.out] at TC hsmX
          have CC := copied_any X hsmX.1 hsmX.2
          obtain ⟨xk, xs, xi, xv⟩ := X
          replace CC : Hid (∀ u, Calls Try.prog 28 #[.agg #[.string xk, .int .u64 (xs : Int), .int .i64 xi, .string xv]] u fun e w' => e = .returned (.agg #[.string xk, .int .u64 (xs : Int), .int .i64 xi, .string xv]) ∧ Below u.heap.size u w') := Lib.hid CC
          have TC := Lib.hid TC
          have hb := Lib.hid hb
          clear hsmX i2'
          obtain ⟨ml, hml⟩ := named M.length
          rw [← hml.out] at hMl
          have hrow0 := Lib.hid (show (Value.slice a0 M.length c0) = .slice a0 ml c0 by rw [hml.out])
          rw [hrow0.out]
          replace H : Hid (MI (FinL L) w.heap.size hp (.slice a0 ml c0) M k qs it w wr) := Lib.hid (by rw [← hrow0.out]; exact H.out)
          replace hm : Hid (totR qs it = leastM fun m => ∃ k M qs it, MI (FinL L) w.heap.size hp (.slice a0 ml c0) M k qs it w wr ∧ totR qs it = m) := Lib.hid (by rw [← hrow0.out]; exact hm.out)
          go_upto_region 12 with (first
            | (go_at_call 25; ((with_reducible refine LC.out.mono ?_); rintro e w2 ⟨rfl, rfl⟩))
            | (go_at_call 26; ((with_reducible refine TC.out.mono ?_); rintro e w3 ⟨rfl, hd⟩; obtain ⟨qs', it', T3⟩ := H.out.take hb.out hd; have T3 := Lib.hid T3; clear hd)))
          have S4 : Hid (RowAt w3.heap.size ⟨xk, xs, xi, xv⟩ (w3.alloc (.cells #[.string xk, .int .u64 (xs : Int), .int .i64 xi, .string xv] 42))) := Lib.hid (RowAt.new ⟨xk, xs, xi, xv⟩ w3)
          have T4 := Lib.hid (T3.out.below (below_alloc w3 (.cells #[.string xk, .int .u64 (xs : Int), .int .i64 xi, .string xv] 42)))
          clear TC LC
          by_cases hz : ml = 0
          · subst hz
            have hlast : Hid (∀ m, M.getLast? = some m → smpB m (it b).hd = false) := Lib.hid (fun m hm => by
              have e : M = [] := List.length_eq_zero_iff.1 hml.out.symm
              rw [e] at hm; cases hm)
            have hLl : Hid (0 ≤ 1000000) := Lib.hid (by omega)
            refine wp_region_held_drew (S := (fun v => True)) (by kernel_rfl) (trivial) (fun hHeld => ?_)
            refine held_take (i := 0) (v := ?_) rfl (by kernel_rfl) (by kernel_rfl) (by kernel_rfl) (fun _ _ _ h => h) (by rfl) (fun w hSw => ?_) (by assumption) ?_; rotate_left 1; focus (((try dsimp only at hSw); first | (go_simp; done) | (go_simp; with_reducible rfl)))
            try simp only [Act.put, List.setIfInBounds_toArray, List.set_cons_zero, List.set_cons_succ]
            refine held_take (i := 1) (v := ?_) rfl (by kernel_rfl) (by kernel_rfl) (by kernel_rfl) (fun _ _ _ h => h) (by rfl) (fun w hSw => ?_) (by assumption) ?_; rotate_left 1; focus (((try dsimp only at hSw); first | (go_simp; done) | (go_simp; with_reducible rfl)))
            try simp only [Act.put, List.setIfInBounds_toArray, List.set_cons_zero, List.set_cons_succ]
            refine held_take (i := 2) (v := ?_) rfl (by kernel_rfl) (by kernel_rfl) (by kernel_rfl) (fun _ _ _ h => h) (by rfl) (fun w hSw => ?_) (by assumption) ?_; rotate_left 1; focus (((try dsimp only at hSw); first | (go_simp; done) | (go_simp; with_reducible rfl)))
            try simp only [Act.put, List.setIfInBounds_toArray, List.set_cons_zero, List.set_cons_succ]
            refine held_skip (i := 3) rfl (by kernel_rfl) (by kernel_rfl) (by kernel_rfl) (fun _ _ _ h => h) (by rfl) (by assumption) ?_
            try simp only [Act.put, List.setIfInBounds_toArray, List.set_cons_zero, List.set_cons_succ]
            refine held_skip (i := 4) rfl (by kernel_rfl) (by kernel_rfl) (by kernel_rfl) (fun _ _ _ h => h) (by rfl) (by assumption) ?_
            try simp only [Act.put, List.setIfInBounds_toArray, List.set_cons_zero, List.set_cons_succ]
            refine held_skip (i := 5) rfl (by kernel_rfl) (by kernel_rfl) (by kernel_rfl) (fun _ _ _ h => h) (by rfl) (by assumption) ?_
            try simp only [Act.put, List.setIfInBounds_toArray, List.set_cons_zero, List.set_cons_succ]
            refine held_skip (i := 6) rfl (by kernel_rfl) (by kernel_rfl) (by kernel_rfl) (fun _ _ _ h => h) (by rfl) (by assumption) ?_
            try simp only [Act.put, List.setIfInBounds_toArray, List.set_cons_zero, List.set_cons_succ]
            refine held_skip (i := 7) rfl (by kernel_rfl) (by kernel_rfl) (by kernel_rfl) (fun _ _ _ h => h) (by rfl) (by assumption) ?_
            try simp only [Act.put, List.setIfInBounds_toArray, List.set_cons_zero, List.set_cons_succ]
            refine held_skip (i := 8) rfl (by kernel_rfl) (by kernel_rfl) (by kernel_rfl) (fun _ _ _ h => h) (by rfl) (by assumption) ?_
            try simp only [Act.put, List.setIfInBounds_toArray, List.set_cons_zero, List.set_cons_succ]
            refine held_skip (i := 9) rfl (by kernel_rfl) (by kernel_rfl) (by kernel_rfl) (fun _ _ _ h => h) (by rfl) (by assumption) ?_
            try simp only [Act.put, List.setIfInBounds_toArray, List.set_cons_zero, List.set_cons_succ]
            refine held_skip (i := 10) rfl (by kernel_rfl) (by kernel_rfl) (by kernel_rfl) (fun _ _ _ h => h) (by rfl) (by assumption) ?_
            try simp only [Act.put, List.setIfInBounds_toArray, List.set_cons_zero, List.set_cons_succ]
            refine held_take (i := 11) (v := ?_) rfl (by kernel_rfl) (by kernel_rfl) (by kernel_rfl) (fun _ _ _ h => h) (by rfl) (fun w hSw => ?_) (by assumption) ?_; rotate_left 1; focus (((try dsimp only at hSw); first | (go_simp; done) | (go_simp; with_reducible rfl)))
            try simp only [Act.put, List.setIfInBounds_toArray, List.set_cons_zero, List.set_cons_succ]
            refine wpAnyH_done (by kernel_rfl) ?_ _
            have T5 := Lib.hid (T3.out.below (below_alloc w3 (.cells #[.string xk, .int .u64 (xs : Int), .int .i64 xi, .string xv] 42)).drew)
            have S5 : Hid (RowAt w3.heap.size ⟨xk, xs, xi, xv⟩ (w3.alloc (.cells #[.string xk, .int .u64 (xs : Int), .int .i64 xi, .string xv] 42)).drew) := S4
            obtain ⟨⟨b0, b1, b2, b3⟩, b4⟩ := S5.out.cells
            go_wp2_with (first | (go_at_call 28; ((with_reducible refine (CC.out _).mono ?_); rintro e w6 ⟨rfl, hb6⟩; have T6 := Lib.hid (T5.out.below hb6); have row6 : Hid (w6.ownsRow w.heap.size 42 4 (.slice a0 (0) c0) (0) (rowR M)) := Lib.hid (by have := T6.out.row; rw [← hml.out] at this; exact this); have z6 := Lib.hid (T6.out.hp.big); clear hb6)) | (at_builtin; refine wpList_append_own _ rfl _ _ 25 rfl w.heap.size 42 ti (.agg #[.string .empty, .int .u64 0, .int .i64 0, .string .empty]) 4 48 Try.underlying25 hi hy0 hy1 hy2 rfl (by decide) (.slice a0 (0) c0) (0) (rowR M) rfl (row6.out.alloc _) ⟨w6.heap.size, 0, none⟩ 1 1 [.string xk, .int .u64 (xs : Int), .int .i64 xi, .string xv] rfl rfl (World.news_of_block (heap_alloc_new _ _)) (row_one ⟨xk, xs, xi, xv⟩) (by have := hLl.out; unfold maxLen; omega) (by have := hLl.out; omega) (by have := z6.out; rw [World.size_alloc]; omega) ?_; intro v' w7 hown' hgrow _; have I7 := Lib.hid (T6.out.push (v' := v') (w' := w7) hlast.out (by rw [← hX.out, rowR_snoc, List.length_append, ← hml.out]; exact hown') hgrow); clear hown' hgrow))
            go_roundw
            case rel => exact ⟨_, _, _, _, _, I7.out, rfl⟩
            case measure =>
              rw [← hm.out]
              refine Nat.lt_of_le_of_lt (leastM_le ⟨_, _, _, _, I7.out, rfl⟩) ?_
              have := T5.out.cnt
              omega
          · obtain ⟨m0, rfl⟩ : ∃ m0, ml = m0 + 1 := ⟨ml - 1, by omega⟩
            have hLl : Hid (m0 + 1 ≤ 1000000) := Lib.hid hMl
            have iz : ¬ ((m0 : Int) + 1 = 0) := by omega
            have iz2 : ((m0 : Int) + 1 == 0) = false := by rw [beq_eq_false_iff_ne]; omega
            have iw : IntKind.i64.wrap (m0 : Int) = (m0 : Int) := by rw [IntKind.wrap_i64]; omega
            have iw2 : IntKind.i64.wrap ((m0 : Int) + 1 - 1) = (m0 : Int) := by rw [IntKind.wrap_i64]; omega
            have iw3 : (0 : Int) ≤ (m0 : Int) := by omega
            have ib : (m0 : Int) < (m0 : Int) + 1 := by omega
            have hrow4 := T4.out.row
            rw [← hml.out] at hrow4
            obtain ⟨a9, c9, g9, hs9, R9, hgB⟩ := rs_of_row T4.out.row
            obtain ⟨lm, hlm, ha9, q0, q1, q2, q3⟩ := R9.at4 (j := m0) (by have := hml.out; omega)
            subst ha9
            rw [← hml.out] at hs9
            obtain ⟨rfl, rfl⟩ : a0 = some ⟨g9, 0, none⟩ ∧ c0 = c9 := by cases hs9; exact ⟨rfl, rfl⟩
            rw [Nat.zero_add] at q0 q1 q2 q3
            have hlm1 : ∀ m, M.getLast? = some m → m = lm := last_at hml.out.symm hlm
            have hlm2 := List.mem_of_getElem? hlm
            obtain ⟨yk, ys, yi, yv⟩ := lm
            obtain ⟨T, hT⟩ := named (smpB ⟨yk, ys, yi, yv⟩ ⟨xk, xs, xi, xv⟩)
            have CS : Hid (∀ u, Calls Try.prog 27 #[.agg #[.string yk, .int .u64 (ys : Int), .int .i64 yi, .string yv], .agg #[.string xk, .int .u64 (xs : Int), .int .i64 xi, .string xv]] u fun e w' => e = .returned (.bool T) ∧ Below u.heap.size u w') := Lib.hid (by rw [hT.out]; exact same_any ⟨yk, ys, yi, yv⟩ ⟨xk, xs, xi, xv⟩)
            have R9 := Lib.hid R9
            simp only at q0 q1 q2 q3
            obtain ⟨⟨b0, b1, b2, b3⟩, b4⟩ := S4.out.cells
            have C4 := Lib.hid (show (w3.alloc (.cells #[.string xk, .int .u64 (xs : Int), .int .i64 xi, .string xv] 42)).cell? ⟨w3.heap.size, 0, none⟩ = some (.string xk) ∧ (w3.alloc (.cells #[.string xk, .int .u64 (xs : Int), .int .i64 xi, .string xv] 42)).cell? ⟨w3.heap.size, 1, none⟩ = some (.int .u64 (xs : Int)) ∧ (w3.alloc (.cells #[.string xk, .int .u64 (xs : Int), .int .i64 xi, .string xv] 42)).cell? ⟨w3.heap.size, 2, none⟩ = some (.int .i64 xi) ∧ (w3.alloc (.cells #[.string xk, .int .u64 (xs : Int), .int .i64 xi, .string xv] 42)).cell? ⟨w3.heap.size, 3, none⟩ = some (.string xv) ∧ (w3.alloc (.cells #[.string xk, .int .u64 (xs : Int), .int .i64 xi, .string xv] 42)).cell? ⟨g9, m0 * 4, none⟩ = some (.string yk) ∧ (w3.alloc (.cells #[.string xk, .int .u64 (xs : Int), .int .i64 xi, .string xv] 42)).cell? ⟨g9, m0 * 4 + 1, none⟩ = some (.int .u64 (ys : Int)) ∧ (w3.alloc (.cells #[.string xk, .int .u64 (xs : Int), .int .i64 xi, .string xv] 42)).cell? ⟨g9, m0 * 4 + 2, none⟩ = some (.int .i64 yi) ∧ (w3.alloc (.cells #[.string xk, .int .u64 (xs : Int), .int .i64 xi, .string xv] 42)).cell? ⟨g9, m0 * 4 + 3, none⟩ = some (.string yv) from ⟨b0, b1, b2, b3, q0, q1, q2, q3⟩)
            have hC4 : Hid (∀ u, Below (w3.alloc (.cells #[.string xk, .int .u64 (xs : Int), .int .i64 xi, .string xv] 42)).heap.size (w3.alloc (.cells #[.string xk, .int .u64 (xs : Int), .int .i64 xi, .string xv] 42)) u → u.cell? ⟨w3.heap.size, 0, none⟩ = some (.string xk) ∧ u.cell? ⟨w3.heap.size, 1, none⟩ = some (.int .u64 (xs : Int)) ∧ u.cell? ⟨w3.heap.size, 2, none⟩ = some (.int .i64 xi) ∧ u.cell? ⟨w3.heap.size, 3, none⟩ = some (.string xv) ∧ u.cell? ⟨g9, m0 * 4, none⟩ = some (.string yk) ∧ u.cell? ⟨g9, m0 * 4 + 1, none⟩ = some (.int .u64 (ys : Int)) ∧ u.cell? ⟨g9, m0 * 4 + 2, none⟩ = some (.int .i64 yi) ∧ u.cell? ⟨g9, m0 * 4 + 3, none⟩ = some (.string yv)) := Lib.hid (fun u hu => by
              obtain ⟨d0, d1, d2, d3, d4, d5, d6, d7⟩ := C4.out
              exact ⟨cell_keep hu d0, cell_keep hu d1, cell_keep hu d2, cell_keep hu d3, cell_keep hu d4, cell_keep hu d5, cell_keep hu d6, cell_keep hu d7⟩)
            clear hlm hs9 hgB hrow4
            cases T with
            | true =>
              refine wp_region_held_drew (S := (fun u => u.cell? ⟨w3.heap.size, 0, none⟩ = some (.string xk) ∧ u.cell? ⟨w3.heap.size, 1, none⟩ = some (.int .u64 (xs : Int)) ∧ u.cell? ⟨w3.heap.size, 2, none⟩ = some (.int .i64 xi) ∧ u.cell? ⟨w3.heap.size, 3, none⟩ = some (.string xv) ∧ u.cell? ⟨g9, m0 * 4, none⟩ = some (.string yk) ∧ u.cell? ⟨g9, m0 * 4 + 1, none⟩ = some (.int .u64 (ys : Int)) ∧ u.cell? ⟨g9, m0 * 4 + 2, none⟩ = some (.int .i64 yi) ∧ u.cell? ⟨g9, m0 * 4 + 3, none⟩ = some (.string yv))) (by kernel_rfl) (C4.out) (fun hHeld => ?_)
              refine held_take (i := 0) (v := ?_) rfl (by kernel_rfl) (by kernel_rfl) (by kernel_rfl) (fun _ _ _ h => h) (by rfl) (fun w hSw => ?_) (by assumption) ?_; rotate_left 1; focus (((try dsimp only at hSw); first | (go_simp; done) | (go_simp; with_reducible rfl)))
              try simp only [Act.put, List.setIfInBounds_toArray, List.set_cons_zero, List.set_cons_succ]
              refine held_take (i := 1) (v := ?_) rfl (by kernel_rfl) (by kernel_rfl) (by kernel_rfl) (fun _ _ _ h => h) (by rfl) (fun w hSw => ?_) (by assumption) ?_; rotate_left 1; focus (((try dsimp only at hSw); first | (go_simp; done) | (go_simp; with_reducible rfl)))
              try simp only [Act.put, List.setIfInBounds_toArray, List.set_cons_zero, List.set_cons_succ]
              refine held_take (i := 2) (v := ?_) rfl (by kernel_rfl) (by kernel_rfl) (by kernel_rfl) (fun _ _ _ h => h) (by rfl) (fun w hSw => ?_) (by assumption) ?_; rotate_left 1; focus (((try dsimp only at hSw); first | (go_simp; done) | (go_simp; with_reducible rfl)))
              try simp only [Act.put, List.setIfInBounds_toArray, List.set_cons_zero, List.set_cons_succ]
              refine held_take (i := 3) (v := ?_) rfl (by kernel_rfl) (by kernel_rfl) (by kernel_rfl) (fun _ _ _ h => h) (by rfl) (fun w hSw => ?_) (by assumption) ?_; rotate_left 1; focus (((try dsimp only at hSw); first | (go_simp; done) | (go_simp; with_reducible rfl)))
              try simp only [Act.put, List.setIfInBounds_toArray, List.set_cons_zero, List.set_cons_succ]
              refine held_take (i := 4) (v := ?_) rfl (by kernel_rfl) (by kernel_rfl) (by kernel_rfl) (fun _ _ _ h => h) (by rfl) (fun w hSw => ?_) (by assumption) ?_; rotate_left 1; focus (((try dsimp only at hSw); first | (go_simp; done) | (go_simp; with_reducible rfl)))
              try simp only [Act.put, List.setIfInBounds_toArray, List.set_cons_zero, List.set_cons_succ]
              refine held_take (i := 5) (v := ?_) rfl (by kernel_rfl) (by kernel_rfl) (by kernel_rfl) (fun _ _ _ h => h) (by rfl) (fun w hSw => ?_) (by assumption) ?_; rotate_left 1; focus (((try dsimp only at hSw); first | (go_simp; done) | (go_simp; with_reducible rfl)))
              try simp only [Act.put, List.setIfInBounds_toArray, List.set_cons_zero, List.set_cons_succ]
              refine held_take (i := 6) (v := ?_) rfl (by kernel_rfl) (by kernel_rfl) (by kernel_rfl) (fun _ _ _ h => h) (by rfl) (fun w hSw => ?_) (by assumption) ?_; rotate_left 1; focus (((try dsimp only at hSw); first | (go_simp; done) | (go_simp; with_reducible rfl)))
              try simp only [Act.put, List.setIfInBounds_toArray, List.set_cons_zero, List.set_cons_succ]
              refine held_take (i := 7) (v := ?_) rfl (by kernel_rfl) (by kernel_rfl) (by kernel_rfl) (fun _ _ _ h => h) (by rfl) (fun w hSw => ?_) (by assumption) ?_; rotate_left 1; focus (((try dsimp only at hSw); first | (go_simp; done) | (go_simp; with_reducible rfl)))
              try simp only [Act.put, List.setIfInBounds_toArray, List.set_cons_zero, List.set_cons_succ]
              refine held_take (i := 8) (v := ?_) rfl (by kernel_rfl) (by kernel_rfl) (by kernel_rfl) (fun _ _ _ h => h) (by rfl) (fun w hSw => ?_) (by assumption) ?_; rotate_left 1; focus (((try dsimp only at hSw); first | (go_simp; done) | (go_simp; with_reducible rfl)))
              try simp only [Act.put, List.setIfInBounds_toArray, List.set_cons_zero, List.set_cons_succ]
              refine held_call (i := 9) (by kernel_rfl) rfl (by rfl) (fun K hK => ?_)
              go_simp
              refine (CS.out _).mono ?_
              rintro e w5 ⟨rfl, hb5'⟩
              have hb5 := (below_drew_in hb5' : Below (w3.alloc (.cells #[.string xk, .int .u64 (xs : Int), .int .i64 xi, .string xv] 42)).heap.size (w3.alloc (.cells #[.string xk, .int .u64 (xs : Int), .int .i64 xi, .string xv] 42)) w5)
              have I7 := Lib.hid ((T4.out.below hb5).pass hlm2 (by rw [← hX.out]; exact hT.out.symm))
              clear hb5'
              refine hK.out _ _ (hC4.out _ hb5) (fun hHeld => ?_)
              try simp only [Act.put, List.setIfInBounds_toArray, List.set_cons_zero, List.set_cons_succ]
              refine held_take (i := 10) (v := ?_) rfl (by kernel_rfl) (by kernel_rfl) (by kernel_rfl) (fun _ _ _ h => h) (by rfl) (fun w hSw => ?_) (by assumption) ?_; rotate_left 1; focus (((try dsimp only at hSw); first | (go_simp; done) | (go_simp; with_reducible rfl)))
              try simp only [Act.put, List.setIfInBounds_toArray, List.set_cons_zero, List.set_cons_succ]
              refine held_take (i := 11) (v := ?_) rfl (by kernel_rfl) (by kernel_rfl) (by kernel_rfl) (fun _ _ _ h => h) (by rfl) (fun w hSw => ?_) (by assumption) ?_; rotate_left 1; focus (((try dsimp only at hSw); first | (go_simp; done) | (go_simp; with_reducible rfl)))
              try simp only [Act.put, List.setIfInBounds_toArray, List.set_cons_zero, List.set_cons_succ]
              refine wpAnyH_done (by kernel_rfl) ?_ _
              go_wp2_with fail
              go_roundw
              case rel => exact ⟨_, _, _, _, _, I7.out, rfl⟩
              case measure =>
                rw [← hm.out]
                refine Nat.lt_of_le_of_lt (leastM_le ⟨_, _, _, _, I7.out, rfl⟩) ?_
                have := T4.out.cnt
                omega
            | false =>
              have hlast : Hid (∀ m, M.getLast? = some m → smpB m (it b).hd = false) := Lib.hid (fun m hmm => by rw [hlm1 m hmm, ← hX.out]; exact hT.out.symm)
              refine wp_region_held_drew (S := (fun u => u.cell? ⟨w3.heap.size, 0, none⟩ = some (.string xk) ∧ u.cell? ⟨w3.heap.size, 1, none⟩ = some (.int .u64 (xs : Int)) ∧ u.cell? ⟨w3.heap.size, 2, none⟩ = some (.int .i64 xi) ∧ u.cell? ⟨w3.heap.size, 3, none⟩ = some (.string xv) ∧ u.cell? ⟨g9, m0 * 4, none⟩ = some (.string yk) ∧ u.cell? ⟨g9, m0 * 4 + 1, none⟩ = some (.int .u64 (ys : Int)) ∧ u.cell? ⟨g9, m0 * 4 + 2, none⟩ = some (.int .i64 yi) ∧ u.cell? ⟨g9, m0 * 4 + 3, none⟩ = some (.string yv))) (by kernel_rfl) (C4.out) (fun hHeld => ?_)
              refine held_take (i := 0) (v := ?_) rfl (by kernel_rfl) (by kernel_rfl) (by kernel_rfl) (fun _ _ _ h => h) (by rfl) (fun w hSw => ?_) (by assumption) ?_; rotate_left 1; focus (((try dsimp only at hSw); first | (go_simp; done) | (go_simp; with_reducible rfl)))
              try simp only [Act.put, List.setIfInBounds_toArray, List.set_cons_zero, List.set_cons_succ]
              refine held_take (i := 1) (v := ?_) rfl (by kernel_rfl) (by kernel_rfl) (by kernel_rfl) (fun _ _ _ h => h) (by rfl) (fun w hSw => ?_) (by assumption) ?_; rotate_left 1; focus (((try dsimp only at hSw); first | (go_simp; done) | (go_simp; with_reducible rfl)))
              try simp only [Act.put, List.setIfInBounds_toArray, List.set_cons_zero, List.set_cons_succ]
              refine held_take (i := 2) (v := ?_) rfl (by kernel_rfl) (by kernel_rfl) (by kernel_rfl) (fun _ _ _ h => h) (by rfl) (fun w hSw => ?_) (by assumption) ?_; rotate_left 1; focus (((try dsimp only at hSw); first | (go_simp; done) | (go_simp; with_reducible rfl)))
              try simp only [Act.put, List.setIfInBounds_toArray, List.set_cons_zero, List.set_cons_succ]
              refine held_take (i := 3) (v := ?_) rfl (by kernel_rfl) (by kernel_rfl) (by kernel_rfl) (fun _ _ _ h => h) (by rfl) (fun w hSw => ?_) (by assumption) ?_; rotate_left 1; focus (((try dsimp only at hSw); first | (go_simp; done) | (go_simp; with_reducible rfl)))
              try simp only [Act.put, List.setIfInBounds_toArray, List.set_cons_zero, List.set_cons_succ]
              refine held_take (i := 4) (v := ?_) rfl (by kernel_rfl) (by kernel_rfl) (by kernel_rfl) (fun _ _ _ h => h) (by rfl) (fun w hSw => ?_) (by assumption) ?_; rotate_left 1; focus (((try dsimp only at hSw); first | (go_simp; done) | (go_simp; with_reducible rfl)))
              try simp only [Act.put, List.setIfInBounds_toArray, List.set_cons_zero, List.set_cons_succ]
              refine held_take (i := 5) (v := ?_) rfl (by kernel_rfl) (by kernel_rfl) (by kernel_rfl) (fun _ _ _ h => h) (by rfl) (fun w hSw => ?_) (by assumption) ?_; rotate_left 1; focus (((try dsimp only at hSw); first | (go_simp; done) | (go_simp; with_reducible rfl)))
              try simp only [Act.put, List.setIfInBounds_toArray, List.set_cons_zero, List.set_cons_succ]
              refine held_take (i := 6) (v := ?_) rfl (by kernel_rfl) (by kernel_rfl) (by kernel_rfl) (fun _ _ _ h => h) (by rfl) (fun w hSw => ?_) (by assumption) ?_; rotate_left 1; focus (((try dsimp only at hSw); first | (go_simp; done) | (go_simp; with_reducible rfl)))
              try simp only [Act.put, List.setIfInBounds_toArray, List.set_cons_zero, List.set_cons_succ]
              refine held_take (i := 7) (v := ?_) rfl (by kernel_rfl) (by kernel_rfl) (by kernel_rfl) (fun _ _ _ h => h) (by rfl) (fun w hSw => ?_) (by assumption) ?_; rotate_left 1; focus (((try dsimp only at hSw); first | (go_simp; done) | (go_simp; with_reducible rfl)))
              try simp only [Act.put, List.setIfInBounds_toArray, List.set_cons_zero, List.set_cons_succ]
              refine held_take (i := 8) (v := ?_) rfl (by kernel_rfl) (by kernel_rfl) (by kernel_rfl) (fun _ _ _ h => h) (by rfl) (fun w hSw => ?_) (by assumption) ?_; rotate_left 1; focus (((try dsimp only at hSw); first | (go_simp; done) | (go_simp; with_reducible rfl)))
              try simp only [Act.put, List.setIfInBounds_toArray, List.set_cons_zero, List.set_cons_succ]
              refine held_call (i := 9) (by kernel_rfl) rfl (by rfl) (fun K hK => ?_)
              go_simp
              refine (CS.out _).mono ?_
              rintro e w5 ⟨rfl, hb5'⟩
              have hb5 := (below_drew_in hb5' : Below (w3.alloc (.cells #[.string xk, .int .u64 (xs : Int), .int .i64 xi, .string xv] 42)).heap.size (w3.alloc (.cells #[.string xk, .int .u64 (xs : Int), .int .i64 xi, .string xv] 42)) w5)
              have T5 := Lib.hid (T4.out.below hb5)
              obtain ⟨d0, d1, d2, d3, _⟩ := hC4.out _ hb5
              clear hb5'
              refine hK.out _ _ (hC4.out _ hb5) (fun hHeld => ?_)
              try simp only [Act.put, List.setIfInBounds_toArray, List.set_cons_zero, List.set_cons_succ]
              refine held_take (i := 10) (v := ?_) rfl (by kernel_rfl) (by kernel_rfl) (by kernel_rfl) (fun _ _ _ h => h) (by rfl) (fun w hSw => ?_) (by assumption) ?_; rotate_left 1; focus (((try dsimp only at hSw); first | (go_simp; done) | (go_simp; with_reducible rfl)))
              try simp only [Act.put, List.setIfInBounds_toArray, List.set_cons_zero, List.set_cons_succ]
              refine held_take (i := 11) (v := ?_) rfl (by kernel_rfl) (by kernel_rfl) (by kernel_rfl) (fun _ _ _ h => h) (by rfl) (fun w hSw => ?_) (by assumption) ?_; rotate_left 1; focus (((try dsimp only at hSw); first | (go_simp; done) | (go_simp; with_reducible rfl)))
              try simp only [Act.put, List.setIfInBounds_toArray, List.set_cons_zero, List.set_cons_succ]
              refine wpAnyH_done (by kernel_rfl) ?_ _
              clear q0 q1 q2 q3 b0 b1 b2 b3 b4
              go_wp2_with (first | (go_at_call 28; ((with_reducible refine (CC.out _).mono ?_); rintro e w6 ⟨rfl, hb6⟩; have T6 := Lib.hid (T5.out.below hb6); have row6 : Hid (w6.ownsRow w.heap.size 42 4 (.slice (some ⟨g9, 0, none⟩) (m0 + 1) c0) (m0 + 1) (rowR M)) := Lib.hid (by have := T6.out.row; rw [← hml.out] at this; exact this); have z6 := Lib.hid (T6.out.hp.big); clear hb6)) | (at_builtin; refine wpList_append_own _ rfl _ _ 25 rfl w.heap.size 42 ti (.agg #[.string .empty, .int .u64 0, .int .i64 0, .string .empty]) 4 48 Try.underlying25 hi hy0 hy1 hy2 rfl (by decide) (.slice (some ⟨g9, 0, none⟩) (m0 + 1) c0) (m0 + 1) (rowR M) rfl (row6.out.alloc _) ⟨w6.heap.size, 0, none⟩ 1 1 [.string xk, .int .u64 (xs : Int), .int .i64 xi, .string xv] rfl rfl (World.news_of_block (heap_alloc_new _ _)) (row_one ⟨xk, xs, xi, xv⟩) (by have := hLl.out; unfold maxLen; omega) (by have := hLl.out; omega) (by have := z6.out; rw [World.size_alloc]; omega) ?_; intro v' w7 hown' hgrow _; have I7 := Lib.hid (T6.out.push (v' := v') (w' := w7) hlast.out (by rw [← hX.out, rowR_snoc, List.length_append, ← hml.out]; exact hown') hgrow); clear hown' hgrow))
              go_roundw
              case rel => exact ⟨_, _, _, _, _, I7.out, rfl⟩
              case measure =>
                rw [← hm.out]
                refine Nat.lt_of_le_of_lt (leastM_le ⟨_, _, _, _, I7.out, rfl⟩) ?_
                have := T5.out.cnt
                omega
    · have i1 : (j : Int) < (n : Int) := by omega
      have hjl : j < n := by omega
      have jw : wrap64 ((j : Int) + 1) = ((j + 1 : Nat) : Int) := by unfold wrap64; omega
      obtain ⟨l, g, o, a, m, d, b, q, hl, rfl, e1, e2, e3⟩ := hR.out.one hjl
      have OC := order_any e2
      have e2 := Lib.hid e2
      have e3 := Lib.hid e3
      have hsn : Hid ((L.take (j + 1)).all ordR = ((L.take j).all ordR && ordR l)) := Lib.hid (by rw [List.take_add_one, hl]; simp)
      have hlm := Lib.hid (List.mem_of_getElem? hl)
      clear hl
      cases hT : ordR l with
      | true =>
        rw [hT] at OC
        have OC := Lib.hid OC
        have hA2 : Hid ((L.take (j + 1)).all ordR = true) := Lib.hid (by rw [hsn.out, hA.out, hT]; rfl)
        go_wp2_with (go_at_call 23; ((with_reducible refine OC.out.mono ?_); rintro e w2 ⟨rfl, hb2⟩; have B2 : Hid (Below w.heap.size w w2) := Lib.hid (hB.out.trans (hb2.mono hB.out.size)); clear hb2))
        go_roundw
        case rel => exact ⟨j + 1, hjl, by first | rfl | rw [jw], hA2, B2⟩
        case measure => simp [intOf] <;> omega
      | false =>
        rw [hT] at OC
        have OC := Lib.hid OC
        go_wp2_with (go_at_call 23; ((with_reducible refine OC.out.mono ?_); rintro e w2 ⟨rfl, hb2⟩; have B2 : Hid (Below w.heap.size w w2) := Lib.hid (hB.out.trans (hb2.mono hB.out.size)); clear hb2))
        go_returns
        refine .inl ⟨?_, rfl, B2.out⟩
        rw [List.all_eq_false]
        exact ⟨l, hlm.out, by rw [hT]; simp⟩
end Go.Proofs.Ytkkegdhnkefogaa
