/-
  The contracts of visible and of upToPut. Condition: at most 1000000 rows.
-/
import Derived.Test.YtlnklpnldmcopaaPack9
import Derived.ArgAppend
import Derived.Deep.AppendLies
import Derived.Deep.QuietTactic
import Derived.Test.YtlnklpnldmcopaaShelf
import Derived.Handy
import Derived.Deep.DrawnRows
import Derived.Deep.RegionHeld
import Derived.Deep.RegionWith
namespace Go.Proofs.Ytlnklpnldmcopaa
set_option maxRecDepth 100000
open Go.RowKit
/-- Rows in a slice that is either all there is of the first row, or the call's own. -/
def SeenD (B b o : Nat) (z : Rw) (L : List Rw) (v : Value) (w : World) : Prop := (v = .slice (some ⟨b, o, none⟩) 1 1 ∧ L = [z]) ∨ w.ownsRow B 38 4 v L.length (rowR L)
/-- Some slice of just these rows. -/
def SomeR (b0 : Nat) (L : List Rw) (w : World) (e : Ending) (w' : World) : Prop := ∃ a c b o, e = .returned (.slice a L.length c) ∧ Rs a L.length c b o L w' ∧ (b = b0 ∨ w.heap.size ≤ b) ∧ Below w.heap.size w w'
theorem row_cells {b o : Nat} {x : Rw} {w : World} (h0 : w.cell? ⟨b, o, none⟩ = some (.string x.key)) (h1 : w.cell? ⟨b, o + 1, none⟩ = some (.int .u64 (x.seq : Int))) (h2 : w.cell? ⟨b, o + 2, none⟩ = some (.int .i64 x.kind)) (h3 : w.cell? ⟨b, o + 3, none⟩ = some (.string x.val)) :
    ∀ bb, some (⟨b, o, none⟩ : Addr) = some bb → ∀ j u, [Value.string x.key, .int .u64 (x.seq : Int), .int .i64 x.kind, .string x.val][j]? = some u → w.cell? (bb.add j) = some u := by
  intro bb hbb j u hu
  obtain rfl := Option.some.inj hbb
  rw [addr_plus]
  match j, hu with
  | 0, hu => simp only [List.getElem?_cons_zero, Option.some.injEq] at hu; subst hu; exact h0
  | 1, hu => simp at hu; subst hu; exact h1
  | 2, hu => simp at hu; subst hu; exact h2
  | 3, hu => simp at hu; subst hu; exact h3
  | j + 4, hu => simp at hu
theorem slr_first (b o c : Nat) (hc : 1 ≤ c) (u : World) : (Instr.slice 22 (.slice (some ⟨b, o, none⟩) c c) none (some (.int .i64 1)) (some (.int .i64 1))).run Try.prog u = .ok (.slice (some ⟨b, o, none⟩) 1 1) u := by
  rw [run_slice_hm u 22 (some ⟨b, o, none⟩) c c (by kernel_rfl) .i64 .i64 1 1 (by omega) (by omega) (by omega), size_rowB]
  simp [Result.andThen, sliced, Addr.add]
theorem rt_of_rowM {w : World} {B : Nat} {v : Value} {l : List Rw} (h : w.ownsRow B 38 4 v l.length (rowR l)) : ∃ a c b, v = .slice a l.length c ∧ Rs a l.length c b 0 l w ∧ (0 < l.length → B ≤ b) := by
  obtain ⟨a, c, b, h1, h2, h3⟩ := rs_of_row h
  exact ⟨a, c, b, h1, h2, h3⟩
theorem own_lower {w : World} {B B' n size : Nat} {e : TypeId} {v : Value} {xs : List Value} (h : w.ownsRow B e size v n xs) (hB : B' ≤ B) : w.ownsRow B' e size v n xs := by
  refine ⟨h.1, ?_⟩
  rcases h.2 with h2 | ⟨g, cap, cur, h2, h3, h4⟩
  · exact .inl h2
  · exact .inr ⟨g, cap, cur, h2, Nat.le_trans hB h3, h4⟩
theorem SeenD.below {B b o : Nat} {z : Rw} {L : List Rw} {v : Value} {w w' : World} (h : SeenD B b o z L v w) (hb : Below w.heap.size w w') : SeenD B b o z L v w' := by
  rcases h with h | h
  · exact .inl h
  · exact .inr (own_below h hb)
set_option maxRecDepth 100000 in
set_option maxHeartbeats 8000000 in
theorem visible_any {b o c r : Nat} {R : List Rw} {w : World} (h : Rs (some ⟨b, o, none⟩) r c b o R w) (hc : c = r) (hr : 1 ≤ r) (hr2 : r ≤ 1000000) {K : List UInt8} (hone : OneKey K R) {g m cc d : Nat} {ga : Option Addr} {D : List Nat} (hD : SlOf 1 cellsU ga m cc g d D w) (hm : m ≤ 1000000) (hs : D.Pairwise (· ≤ ·)) (hmax : topM ∈ D) (hq : ∀ x ∈ R, x.seq ≤ topM) :
    Calls Try.prog 22 #[.slice (some ⟨b, o, none⟩) r c, .slice ga m cc] w (SomeR b (selL (need D) none R) w) := by
  subst hc
  have m0 := h.most
  have hlen := Lib.hid h.len
  obtain ⟨z, hz, _, z0, z1, z2, z3⟩ := h.at4 (show 0 < c by omega)
  have hzb := (h.addr (by omega)).2
  have hfirst : Hid (selL (need D) none (R.take 1) = [z]) := Lib.hid (by
    have e : R.take 1 = [z] := by
      cases R with
      | nil => simp at hz
      | cons x r => simp at hz; subst hz; rfl
    rw [e, selL, if_pos]
    · rfl
    · unfold need
      exact List.any_eq_true.2 ⟨topM, hmax, by unfold sees; simp; exact hq z (List.mem_of_getElem? hz)⟩)
  have hD := Lib.hid hD
  have h := Lib.hid h
  have hs := Lib.hid hs
  have hone := Lib.hid hone
  have SL1 := slr_first b o c (by omega)
  obtain ⟨ti, hi, hy0, hy1, hy2⟩ := info_parts info_row
  go_enter Try.func22, Try.ntmps22
  go_wp2_with fail
  go_loopw [5, 6] (fun sv iv wr => ∃ j : Nat, j + 1 ≤ c ∧ iv = .int .i64 ((j : Int) + 1) ∧ Hid (SeenD w.heap.size b o z (selL (need D) none (R.take (j + 1))) sv wr) ∧ Hid (Below w.heap.size w wr)) (fun _ iv _ => c - (intOf iv).toNat)
  case atStart => exact ⟨0, by omega, rfl, Lib.hid (.inl ⟨rfl, hfirst.out⟩), Lib.hid (Below.refl _ _)⟩
  case round =>
    obtain ⟨j, hic, rfl, hS, hb⟩ := hrel
    by_cases hlt : j + 1 < c
    · obtain ⟨x, hx, _, x0, x1, x2, x3⟩ := (h.out.below hb.out (Nat.le_refl _)).at4 (show j < c by omega)
      obtain ⟨y, hy, _, y0, y1, y2, y3⟩ := (h.out.below hb.out (Nat.le_refl _)).at4 hlt
      have i1 : (j : Int) + 1 < (c : Int) := by omega
      have i0 : (j : Int) < (c : Int) := by omega
      have i2 : j < c := by omega
      have i3 : (0 : Int) ≤ (j : Int) + 1 := by omega
      have wr1 : wrap64 ((j : Int) + 1 - 1) = (j : Int) := by unfold wrap64; omega
      have wr2 : (j : Int) + 1 - 1 = (j : Int) := by omega
      have wr3 : wrap64 (j : Int) = (j : Int) := by unfold wrap64; omega
      have wr4 : IntKind.i64.wrap (j : Int) = (j : Int) := by simp [IntKind.wrap_i64]; omega
      have wr5 : IntKind.i64.wrap ((j : Int) + 1 - 1) = (j : Int) := by rw [wr2, wr4]
      have hkey : x.key.toList = y.key.toList := (hone.out.key x (List.mem_of_getElem? hx)).trans (hone.out.key y (List.mem_of_getElem? hy)).symm
      have LC := Lib.hid (look_any (hD.out.below hb.out (Nat.le_refl _)) (by omega) y.seq hs.out hmax (hq y (List.mem_of_getElem? hy)))
      have hnx : Hid (∀ T, T = need D (some x) y → selL (need D) none (R.take (j + 1 + 1)) = selL (need D) none (R.take (j + 1)) ++ (if T = true then [y] else [])) := Lib.hid (fun T hT => by
        have e : R.take (j + 1 + 1) = R.take (j + 1) ++ [y] := by rw [List.take_add_one, hy]; rfl
        rw [e, selL_snoc, lastO_take hx, hT])
      have hLl : Hid ((selL (need D) none (R.take (j + 1))).length ≤ 1000000) := Lib.hid (by
        have := (selL_sub (need D) none (R.take (j + 1))).length_le
        rw [List.length_take] at this; omega)
      obtain ⟨L, hLn⟩ := named (selL (need D) none (R.take (j + 1)))
      rw [← hLn.out] at hS hnx hLl
      have hneed : Hid (∀ (p mv : Nat), D[p]? = some mv → y.seq ≤ mv → (∀ (t : Nat) z, t < p → D[t]? = some z → z < y.seq) → need D (some x) y = decide (mv < x.seq)) := Lib.hid (fun p mv hp h1 h2 => need_least hkey hs.out hp h1 h2)
      have hwb := Lib.hid (show b < wr.heap.size from World.block_lt_of_cell? _ _ x0)
      clear hx hy hkey
      obtain ⟨xk, xs, xi, xv⟩ := x
      obtain ⟨yk, ys, yi, yv⟩ := y
      simp only at x0 x1 x2 x3 y0 y1 y2 y3 LC hnx hneed
      go_upto_region 6 with (go_at_call 38; ((with_reducible refine LC.out.mono ?_); rintro e w2 ⟨p, T, mv, rfl, hp, hpx, hplo, hb2⟩; have B2 := Lib.hid (below_of hb.out hb2); have S2 := Lib.hid (hS.out.below hb2); have x1' := cell_keep hb2 x1; have y0' := cell_keep hb2 y0; have y1' := cell_keep hb2 y1; have y2' := cell_keep hb2 y2; have y3' := cell_keep hb2 y3; clear hb2))
      have hnd := hneed.out p mv hp hpx hplo
      have hpm : p < m := by have := (List.getElem?_eq_some_iff.1 hp).1; rw [hD.out.len] at this; exact this
      obtain ⟨mv', hmv', rfl, d0⟩ := (hD.out.below B2.out (Nat.le_refl _)).at1 hpm
      obtain rfl : mv' = mv := by rw [hp] at hmv'; exact (Option.some.inj hmv').symm
      have hmc := hD.out.cap
      have hmm := hD.out.most
      have p1 : (p : Int) < (m : Int) := by omega
      have m2 := Lib.hid (show w2.drew.cell? ⟨g, d + p, none⟩ = some (.int .u64 (mv' : Int)) ∧ w2.drew.cell? ⟨b, o + j * 4 + 1, none⟩ = some (.int .u64 (xs : Int)) from ⟨d0, x1'⟩)
      have S3 : Hid (SeenD w.heap.size b o z L u5 w2.drew) := Lib.hid (S2.out.below (Below.refl _ w2).drew)
      have B3 := Lib.hid B2.out.drew
      have Y3 : Hid (w2.drew.cell? ⟨b, o + (j + 1) * 4, none⟩ = some (.string yk) ∧ w2.drew.cell? ⟨b, o + (j + 1) * 4 + 1, none⟩ = some (.int .u64 (ys : Int)) ∧ w2.drew.cell? ⟨b, o + (j + 1) * 4 + 2, none⟩ = some (.int .i64 yi) ∧ w2.drew.cell? ⟨b, o + (j + 1) * 4 + 3, none⟩ = some (.string yv)) := Lib.hid ⟨y0', y1', y2', y3'⟩
      clear x0 x1 x2 x3 y0 y1 y2 y3 x1' y0' y1' y2' y3' d0 hneed hp hmv' hpx hplo S2 B2 LC
      by_cases hlt2 : mv' < xs
      · have hT : need D (some ⟨xk, xs, xi, xv⟩) ⟨yk, ys, yi, yv⟩ = true := by rw [hnd]; exact decide_eq_true hlt2
        have hn2 : Hid (selL (need D) none (R.take (j + 1 + 1)) = L ++ [⟨yk, ys, yi, yv⟩]) := Lib.hid (by rw [hnx.out true hT.symm, if_pos rfl])
        have k2 : (mv' : Int) < (xs : Int) := by omega
        clear hnd hT hnx
        go_upto_region 6 with fail
        refine wp_region_held_drew (S := (fun v => v.cell? ⟨g, d + p, none⟩ = some (.int .u64 (mv' : Int)) ∧ v.cell? ⟨b, o + j * 4 + 1, none⟩ = some (.int .u64 (xs : Int)))) (by kernel_rfl) (m2.out) (fun hHeld => ?_)
        refine held_take (i := 0) (v := ?_) rfl (by kernel_rfl) (by kernel_rfl) (by kernel_rfl) (fun _ _ _ h => h) (by rfl) (fun w hSw => ?_) (by assumption) ?_; rotate_left 1; focus (((try dsimp only at hSw); first | (go_simp; done) | (go_simp; with_reducible rfl)))
        try simp only [Act.put, List.setIfInBounds_toArray, List.set_cons_zero, List.set_cons_succ]
        refine held_take (i := 1) (v := ?_) rfl (by kernel_rfl) (by kernel_rfl) (by kernel_rfl) (fun _ _ _ h => h) (by rfl) (fun w hSw => ?_) (by assumption) ?_; rotate_left 1; focus (((try dsimp only at hSw); first | (go_simp; done) | (go_simp; with_reducible rfl)))
        try simp only [Act.put, List.setIfInBounds_toArray, List.set_cons_zero, List.set_cons_succ]
        refine held_take (i := 2) (v := ?_) rfl (by kernel_rfl) (by kernel_rfl) (by kernel_rfl) (fun _ _ _ h => h) (by rfl) (fun w hSw => ?_) (by assumption) ?_; rotate_left 1; focus (((try dsimp only at hSw); first | (go_simp; done) | (go_simp; with_reducible rfl)))
        try simp only [Act.put, List.setIfInBounds_toArray, List.set_cons_zero, List.set_cons_succ]
        refine held_take (i := 3) (v := ?_) rfl (by kernel_rfl) (by kernel_rfl) (by kernel_rfl) (fun _ _ _ h => h) (by rfl) (fun w hSw => ?_) (by assumption) ?_; rotate_left 1; focus (((try dsimp only at hSw); first | (go_simp; done) | (go_simp; with_reducible rfl)))
        try simp only [Act.put, List.setIfInBounds_toArray, List.set_cons_zero, List.set_cons_succ]
        refine held_take (i := 4) (v := ?_) rfl (by kernel_rfl) (by kernel_rfl) (by kernel_rfl) (fun _ _ _ h => h) (by rfl) (fun w hSw => ?_) (by assumption) ?_; rotate_left 1; focus (((try dsimp only at hSw); first | (go_simp; done) | (go_simp; with_reducible rfl)))
        try simp only [Act.put, List.setIfInBounds_toArray, List.set_cons_zero, List.set_cons_succ]
        refine held_take (i := 5) (v := ?_) rfl (by kernel_rfl) (by kernel_rfl) (by kernel_rfl) (fun _ _ _ h => h) (by rfl) (fun w hSw => ?_) (by assumption) ?_; rotate_left 1; focus (((try dsimp only at hSw); first | (go_simp; done) | (go_simp; with_reducible rfl)))
        try simp only [Act.put, List.setIfInBounds_toArray, List.set_cons_zero, List.set_cons_succ]
        refine held_take (i := 6) (v := ?_) rfl (by kernel_rfl) (by kernel_rfl) (by kernel_rfl) (fun _ _ _ h => h) (by rfl) (fun w hSw => ?_) (by assumption) ?_; rotate_left 1; focus (((try dsimp only at hSw); first | (go_simp; done) | (go_simp; with_reducible rfl)))
        try simp only [Act.put, List.setIfInBounds_toArray, List.set_cons_zero, List.set_cons_succ]
        refine held_take (i := 7) (v := ?_) rfl (by kernel_rfl) (by kernel_rfl) (by kernel_rfl) (fun _ _ _ h => h) (by rfl) (fun w hSw => ?_) (by assumption) ?_; rotate_left 1; focus (((try dsimp only at hSw); first | (go_simp; done) | (go_simp; with_reducible rfl)))
        try simp only [Act.put, List.setIfInBounds_toArray, List.set_cons_zero, List.set_cons_succ]
        refine held_take (i := 8) (v := ?_) rfl (by kernel_rfl) (by kernel_rfl) (by kernel_rfl) (fun _ _ _ h => h) (by rfl) (fun w hSw => ?_) (by assumption) ?_; rotate_left 1; focus (((try dsimp only at hSw); first | (go_simp; done) | (go_simp; with_reducible rfl)))
        try simp only [Act.put, List.setIfInBounds_toArray, List.set_cons_zero, List.set_cons_succ]
        refine held_take (i := 9) (v := ?_) rfl (by kernel_rfl) (by kernel_rfl) (by kernel_rfl) (fun _ _ _ h => h) (by rfl) (fun w hSw => ?_) (by assumption) ?_; rotate_left 1; focus (((try dsimp only at hSw); first | (go_simp; done) | (go_simp; with_reducible rfl)))
        try simp only [Act.put, List.setIfInBounds_toArray, List.set_cons_zero, List.set_cons_succ]
        refine held_take (i := 10) (v := ?_) rfl (by kernel_rfl) (by kernel_rfl) (by kernel_rfl) (fun _ _ _ h => h) (by rfl) (fun w hSw => ?_) (by assumption) ?_; rotate_left 1; focus (((try dsimp only at hSw); first | (go_simp; done) | (go_simp; with_reducible rfl)))
        try simp only [Act.put, List.setIfInBounds_toArray, List.set_cons_zero, List.set_cons_succ]
        refine wpAnyH_done (by kernel_rfl) ?_ _
        obtain ⟨yc0, yc1, yc2, yc3⟩ := Y3.out
        have B4 := Lib.hid (below_of B3.out (below_alloc w2.drew (.cells #[.string yk, .int .u64 (ys : Int), .int .i64 yi, .string yv] 38)))
        have Z4 := Lib.hid (h.out.below B4.out (Nat.le_refl _))
        rcases S3.out with ⟨rfl, hLz⟩ | hrow
        · obtain ⟨z', hz', _, za, zb, zc, zd⟩ := Z4.out.at4 (show 0 < c by omega)
          obtain rfl : z' = z := by rw [hz] at hz'; exact (Option.some.inj hz').symm
          rw [Nat.zero_mul, Nat.add_zero] at za zb zc zd
          have RC := Lib.hid (row_cells za zb zc zd)
          clear za zb zc zd hz'
          go_wp2_with (at_builtin; refine wpList_append_grows _ rfl _ _ 22 rfl 38 ti (.agg #[.string .empty, .int .u64 0, .int .i64 0, .string .empty]) 4 48 Try.underlying22 hi hy0 hy1 hy2 rfl (by decide) (some ⟨b, o, none⟩) 1 1 [.string z'.key, .int .u64 (z'.seq : Int), .int .i64 z'.kind, .string z'.val] rfl (fun e => by cases e) rfl RC.out ⟨w2.heap.size, 0, none⟩ 1 1 [.string yk, .int .u64 (ys : Int), .int .i64 yi, .string yv] rfl rfl (World.news_of_block (heap_alloc_new _ _)) (row_one ⟨yk, ys, yi, yv⟩) (by omega) (by unfold maxLen; omega) (by omega) ?_; intro v' w5 hown' hgrow; have B5 := Lib.hid (B4.out.grown hgrow B4.out.size (fun k hk => by cases hk)); have R5 : Hid (SeenD w.heap.size b o z' (L ++ [⟨yk, ys, yi, yv⟩]) v' w5) := Lib.hid (.inr (by rw [hLz]; exact own_lower hown' B4.out.size)); clear hown' hgrow)
          go_roundw
          case rel => exact ⟨j + 1, by omega, by go_num, by rw [hn2.out]; exact R5, B5⟩
          case measure => simp [intOf] <;> omega
        · have hrow4 := Lib.hid (own_below hrow (below_alloc w2.drew (.cells #[.string yk, .int .u64 (ys : Int), .int .i64 yi, .string yv] 38)))
          clear hrow
          go_wp2_with (at_builtin; refine wpList_append_own _ rfl _ _ 22 rfl w.heap.size 38 ti (.agg #[.string .empty, .int .u64 0, .int .i64 0, .string .empty]) 4 48 Try.underlying22 hi hy0 hy1 hy2 rfl (by decide) u5 L.length (rowR L) rfl hrow4.out ⟨w2.heap.size, 0, none⟩ 1 1 [.string yk, .int .u64 (ys : Int), .int .i64 yi, .string yv] rfl rfl (World.news_of_block (heap_alloc_new _ _)) (row_one ⟨yk, ys, yi, yv⟩) (by have := hLl.out; unfold maxLen; omega) (by have := hLl.out; omega) B4.out.size ?_; intro v' w5 hown' hgrow _; have B5 := Lib.hid (B4.out.grown hgrow B4.out.size (fun k hk => (World.ownsRow.lt hrow4.out k hk).1)); have R5 : Hid (SeenD w.heap.size b o z (L ++ [⟨yk, ys, yi, yv⟩]) v' w5) := Lib.hid (.inr (by rw [rowR_snoc, List.length_append]; exact hown')); clear hown' hgrow)
          go_roundw
          case rel => exact ⟨j + 1, by omega, by go_num, by rw [hn2.out]; exact R5, B5⟩
          case measure => simp [intOf] <;> omega
      · have hT : need D (some ⟨xk, xs, xi, xv⟩) ⟨yk, ys, yi, yv⟩ = false := by rw [hnd]; exact decide_eq_false hlt2
        have hn2 : Hid (selL (need D) none (R.take (j + 1 + 1)) = L) := Lib.hid (by rw [hnx.out false hT.symm, if_neg (by simp), List.append_nil])
        have k2 : ¬ (mv' : Int) < (xs : Int) := by omega
        clear hnd hT hnx
        go_upto_region 6 with fail
        refine wp_region_held_drew (S := (fun v => v.cell? ⟨g, d + p, none⟩ = some (.int .u64 (mv' : Int)) ∧ v.cell? ⟨b, o + j * 4 + 1, none⟩ = some (.int .u64 (xs : Int)))) (by kernel_rfl) (m2.out) (fun hHeld => ?_)
        refine held_take (i := 0) (v := ?_) rfl (by kernel_rfl) (by kernel_rfl) (by kernel_rfl) (fun _ _ _ h => h) (by rfl) (fun w hSw => ?_) (by assumption) ?_; rotate_left 1; focus (((try dsimp only at hSw); first | (go_simp; done) | (go_simp; with_reducible rfl)))
        try simp only [Act.put, List.setIfInBounds_toArray, List.set_cons_zero, List.set_cons_succ]
        refine held_take (i := 1) (v := ?_) rfl (by kernel_rfl) (by kernel_rfl) (by kernel_rfl) (fun _ _ _ h => h) (by rfl) (fun w hSw => ?_) (by assumption) ?_; rotate_left 1; focus (((try dsimp only at hSw); first | (go_simp; done) | (go_simp; with_reducible rfl)))
        try simp only [Act.put, List.setIfInBounds_toArray, List.set_cons_zero, List.set_cons_succ]
        refine held_take (i := 2) (v := ?_) rfl (by kernel_rfl) (by kernel_rfl) (by kernel_rfl) (fun _ _ _ h => h) (by rfl) (fun w hSw => ?_) (by assumption) ?_; rotate_left 1; focus (((try dsimp only at hSw); first | (go_simp; done) | (go_simp; with_reducible rfl)))
        try simp only [Act.put, List.setIfInBounds_toArray, List.set_cons_zero, List.set_cons_succ]
        refine held_take (i := 3) (v := ?_) rfl (by kernel_rfl) (by kernel_rfl) (by kernel_rfl) (fun _ _ _ h => h) (by rfl) (fun w hSw => ?_) (by assumption) ?_; rotate_left 1; focus (((try dsimp only at hSw); first | (go_simp; done) | (go_simp; with_reducible rfl)))
        try simp only [Act.put, List.setIfInBounds_toArray, List.set_cons_zero, List.set_cons_succ]
        refine held_take (i := 4) (v := ?_) rfl (by kernel_rfl) (by kernel_rfl) (by kernel_rfl) (fun _ _ _ h => h) (by rfl) (fun w hSw => ?_) (by assumption) ?_; rotate_left 1; focus (((try dsimp only at hSw); first | (go_simp; done) | (go_simp; with_reducible rfl)))
        try simp only [Act.put, List.setIfInBounds_toArray, List.set_cons_zero, List.set_cons_succ]
        refine held_take (i := 5) (v := ?_) rfl (by kernel_rfl) (by kernel_rfl) (by kernel_rfl) (fun _ _ _ h => h) (by rfl) (fun w hSw => ?_) (by assumption) ?_; rotate_left 1; focus (((try dsimp only at hSw); first | (go_simp; done) | (go_simp; with_reducible rfl)))
        try simp only [Act.put, List.setIfInBounds_toArray, List.set_cons_zero, List.set_cons_succ]
        refine held_take (i := 6) (v := ?_) rfl (by kernel_rfl) (by kernel_rfl) (by kernel_rfl) (fun _ _ _ h => h) (by rfl) (fun w hSw => ?_) (by assumption) ?_; rotate_left 1; focus (((try dsimp only at hSw); first | (go_simp; done) | (go_simp; with_reducible rfl)))
        try simp only [Act.put, List.setIfInBounds_toArray, List.set_cons_zero, List.set_cons_succ]
        refine held_take (i := 7) (v := ?_) rfl (by kernel_rfl) (by kernel_rfl) (by kernel_rfl) (fun _ _ _ h => h) (by rfl) (fun w hSw => ?_) (by assumption) ?_; rotate_left 1; focus (((try dsimp only at hSw); first | (go_simp; done) | (go_simp; with_reducible rfl)))
        try simp only [Act.put, List.setIfInBounds_toArray, List.set_cons_zero, List.set_cons_succ]
        refine held_take (i := 8) (v := ?_) rfl (by kernel_rfl) (by kernel_rfl) (by kernel_rfl) (fun _ _ _ h => h) (by rfl) (fun w hSw => ?_) (by assumption) ?_; rotate_left 1; focus (((try dsimp only at hSw); first | (go_simp; done) | (go_simp; with_reducible rfl)))
        try simp only [Act.put, List.setIfInBounds_toArray, List.set_cons_zero, List.set_cons_succ]
        refine held_take (i := 9) (v := ?_) rfl (by kernel_rfl) (by kernel_rfl) (by kernel_rfl) (fun _ _ _ h => h) (by rfl) (fun w hSw => ?_) (by assumption) ?_; rotate_left 1; focus (((try dsimp only at hSw); first | (go_simp; done) | (go_simp; with_reducible rfl)))
        try simp only [Act.put, List.setIfInBounds_toArray, List.set_cons_zero, List.set_cons_succ]
        refine held_take (i := 10) (v := ?_) rfl (by kernel_rfl) (by kernel_rfl) (by kernel_rfl) (fun _ _ _ h => h) (by rfl) (fun w hSw => ?_) (by assumption) ?_; rotate_left 1; focus (((try dsimp only at hSw); first | (go_simp; done) | (go_simp; with_reducible rfl)))
        try simp only [Act.put, List.setIfInBounds_toArray, List.set_cons_zero, List.set_cons_succ]
        refine wpAnyH_done (by kernel_rfl) ?_ _
        go_wp2_with fail
        go_roundw
        case rel => exact ⟨j + 1, by omega, by go_num, by rw [hn2.out]; exact S3, B3⟩
        case measure => simp [intOf] <;> omega
    · have hin : j + 1 = c := by omega
      have i1 : ¬ (j : Int) + 1 < (c : Int) := by omega
      have hall : Hid (selL (need D) none (R.take (j + 1)) = selL (need D) none R) := Lib.hid (by rw [hin, ← hlen.out, List.take_length])
      have hpos : Hid (0 < (selL (need D) none (R.take (j + 1))).length) := Lib.hid (by
        have e : R.take (j + 1) = [z] ++ (R.take (j + 1)).drop 1 := by
          cases R with
          | nil => simp at hz
          | cons x r => simp at hz; subst hz; rfl
        have e1 : R.take 1 = [z] := by
          cases R with
          | nil => simp at hz
          | cons x r => simp at hz; subst hz; rfl
        rw [e, selL_app, ← e1, hfirst.out]; simp)
      rcases hS.out with ⟨rfl, hL⟩ | hrow
      · have hL2 : Hid (selL (need D) none R = [z]) := Lib.hid (by rw [← hall.out, hL])
        have hRz := (h.out.below hb.out (Nat.le_refl _)).upto (k := 1) (by omega)
        have hRz2 : Hid (Rs (some ⟨b, o, none⟩) 1 1 b o [z] wr) := Lib.hid (by
          have e : R.take 1 = [z] := by
            cases R with
            | nil => simp at hz
            | cons x r => simp at hz; subst hz; rfl
          rw [e] at hRz
          exact ⟨hRz.len, Nat.le_refl _, by omega, hRz.addr, hRz.at'⟩)
        clear hS hL
        go_wp2_with fail
        go_returns
        refine ⟨some ⟨b, o, none⟩, 1, b, o, ?_, ?_, .inl rfl, hb.out⟩
        · rw [hL2.out]; rfl
        · rw [hL2.out]; exact hRz2.out
      · rw [hall.out] at hrow
        obtain ⟨a2, c2, b2, rfl, hr3, hn3⟩ := rt_of_rowM hrow
        have hr3 := Lib.hid hr3
        have hn3 := Lib.hid hn3
        clear hS
        go_wp2_with fail
        go_returns
        refine ⟨a2, c2, b2, 0, rfl, hr3.out, .inr (hn3.out ?_), hb.out⟩
        rw [← hall.out]
        exact hpos.out
set_option maxRecDepth 100000 in
set_option maxHeartbeats 4000000 in
theorem upto_any {a : Option Addr} {n c b o : Nat} {L : List Rw} {w : World} (h : Rs a n c b o L w) :
    Calls Try.prog 23 #[.slice a n c] w fun e w' => e = .returned (.slice a (upL L).length c) ∧ Rs a (upL L).length c b o (upL L) w' ∧ Below w.heap.size w w' := by
  have m0 := h.most
  have q0 := h.cap
  have hlen := Lib.hid h.len
  have h := Lib.hid h
  go_enter Try.func23, Try.ntmps23
  go_wp2_with fail
  go_loopw [3] (fun kv wr => ∃ k : Nat, k ≤ n ∧ kv = .int .i64 (k : Int) ∧ Hid (∀ (i : Nat) x, k ≤ i → L[i]? = some x → isPut x = false) ∧ Hid (Below w.heap.size w wr)) (fun kv _ => (intOf kv).toNat)
  case atStart => exact ⟨n, Nat.le_refl _, rfl, Lib.hid (fun i x hi hx => absurd (List.getElem?_eq_some_iff.1 hx).1 (by rw [hlen.out]; omega)), Lib.hid (Below.refl _ _)⟩
  case round =>
    obtain ⟨k, hk, rfl, hno, hb⟩ := hrel
    have fin : Hid ((∀ (i : Nat) x, k = i + 1 → L[i]? = some x → isPut x = true) → upL L = L.take k) := Lib.hid (fun h2 => upL_take (by rw [hlen.out]; exact hk) hno.out h2)
    cases k with
    | zero =>
      have e := fin.out (fun i x hi => by omega)
      have e2 : Hid (upL L = []) := Lib.hid (by rw [e]; rfl)
      have SL := slr_upto a n c 0 (Nat.zero_le _)
      have hR := Lib.hid ((h.out.below hb.out (Nat.le_refl _)).upto (k := 0) (Nat.zero_le _))
      clear fin
      rw [show ((0 : Nat) : Int) = 0 from rfl] at SL ⊢
      go_wp2_with fail
      go_returns
      rw [e2.out]
      exact ⟨rfl, hR.out, hb.out⟩
    | succ i =>
      obtain ⟨x, hx, rfl, x0, x1, x2, x3⟩ := (h.out.below hb.out (Nat.le_refl _)).at4 (show i < n by omega)
      have i1 : (0 : Int) < (i : Int) + 1 := by omega
      have i2 : (i : Int) < (n : Int) := by omega
      have i3 : i < n := by omega
      have wr1 : wrap64 ((i : Int) + 1 - 1) = (i : Int) := by unfold wrap64; omega
      have wr2 : (i : Int) + 1 - 1 = (i : Int) := by omega
      have wr3 : wrap64 (i : Int) = (i : Int) := by unfold wrap64; omega
      rw [show ((i + 1 : Nat) : Int) = (i : Int) + 1 from rfl]
      by_cases hp : x.kind = 1
      · have e := fin.out (fun i' y hi hy => by
          obtain rfl : i' = i := by omega
          rw [hx] at hy; cases hy
          unfold isPut; rw [decide_eq_true hp])
        have e2 : Hid (upL L = L.take (i + 1)) := Lib.hid e
        have hl : Hid ((upL L).length = i + 1) := Lib.hid (by rw [e, List.length_take, hlen.out]; omega)
        have SL := slr_upto (some ⟨b, o, none⟩) n c (i + 1) (by omega)
        rw [show ((i + 1 : Nat) : Int) = (i : Int) + 1 from rfl] at SL
        have hR := Lib.hid ((h.out.below hb.out (Nat.le_refl _)).upto (k := i + 1) (by omega))
        obtain ⟨xk, xs, xi, xv⟩ := x
        simp only at x0 x1 x2 x3 hp
        subst hp
        have k1 : ((1 : Int) != 1) = false := rfl
        have k2 : ((1 : Int) == 1) = true := rfl
        clear fin e hx
        go_wp2_with fail
        go_returns
        rw [hl.out]
        refine ⟨rfl, ?_, hb.out⟩
        rw [e2.out]; exact hR.out
      · have hno2 : Hid (∀ (i' : Nat) y, i ≤ i' → L[i']? = some y → isPut y = false) := Lib.hid (fun i' y hi hy => by
          rcases Nat.eq_or_lt_of_le hi with e | e
          · subst e; rw [hx] at hy; cases hy; unfold isPut; rw [decide_eq_false hp]
          · exact hno.out i' y (by omega) hy)
        obtain ⟨xk, xs, xi, xv⟩ := x
        simp only at x0 x1 x2 x3 hp
        have k1 : (xi != 1) = true := by rw [bne_iff_ne]; exact hp
        have k2 : (xi == 1) = false := by rw [beq_eq_false_iff_ne]; exact hp
        clear fin hx hp
        go_wp2_with fail
        go_roundw
        case rel => exact ⟨i, by omega, by first | rfl | go_num, hno2, hb⟩
        case measure => simp [intOf] <;> omega
end Go.Proofs.Ytlnklpnldmcopaa
/-
  What stands in a round of Merge's loop. No condition.
-/
namespace Go.Proofs.Ytlnklpnldmcopaa
set_option maxRecDepth 100000
open Go.RowKit
def totR (ps : List Nat) (it : Nat → It) : Nat := (ps.map fun b => (rowsI (it b)).length).sum
theorem totR_perm {ps qs : List Nat} {it : Nat → It} (h : ps.Perm qs) : totR ps it = totR qs it := (h.map _).sum_nat
theorem totR_cons (b : Nat) (ps : List Nat) (it : Nat → It) : totR (b :: ps) it = (rowsI (it b)).length + totR ps it := by simp [totR]
theorem totR_congr {ps : List Nat} {it it2 : Nat → It} (h : ∀ b ∈ ps, it2 b = it b) : totR ps it2 = totR ps it := by
  unfold totR
  congr 1
  exact List.map_congr_left fun b hb => by rw [h b hb]
def SmallR (x : Rw) : Prop := x.key.size ≤ 281474976710656 ∧ x.val.size ≤ 281474976710656
theorem itemsL_mem : ∀ {k : Nat} {L : List (List Rw)} {i : It}, i ∈ itemsL k L → rowsI i ∈ L
  | k, [], i, h => by simp [itemsL] at h
  | k, [] :: L, i, h => by rw [itemsL] at h; exact List.mem_cons_of_mem _ (itemsL_mem h)
  | k, (x :: r) :: L, i, h => by
    rw [itemsL] at h
    rcases List.mem_cons.1 h with rfl | h
    · exact List.mem_cons_self ..
    · exact List.mem_cons_of_mem _ (itemsL_mem h)
theorem itemsL_tot : ∀ (k : Nat) (L : List (List Rw)), ((itemsL k L).map fun i => (rowsI i).length).sum = (L.map List.length).sum
  | k, [] => rfl
  | k, [] :: L => by rw [itemsL, itemsL_tot k L]; simp
  | k, (x :: r) :: L => by rw [itemsL, List.map_cons, List.sum_cons, itemsL_tot (k + 1) L, List.map_cons, List.sum_cons]; rfl
/-- A row of its own stands where only the heap and its lists are written. -/
theorem own_else {w w' : World} {B n size : Nat} {e : TypeId} {v : Value} {xs : List Value} (h : w.ownsRow B e size v n xs) (he : ElseM w w') (h1 : e ≠ 73) (h2 : e ≠ 76) (h3 : e ≠ 79) : w'.ownsRow B e size v n xs := by
  refine ⟨h.1, ?_⟩
  rcases h.2 with h4 | ⟨g, cap, cur, q1, q2, q3, q4⟩
  · exact .inl h4
  · exact .inr ⟨g, cap, cur, q1, q2, he.2 _ _ _ _ q3 h1 h2 h3, q4⟩
/-- The rows that are made one so far, and the heap. -/
structure MI (P : Rw → Prop) (B hp : Nat) (v : Value) (M : List Rw) (k : Nat) (qs : List Nat) (it : Nat → It) (w wr : World) : Prop where
  row : wr.ownsRow B 38 4 v M.length (rowR M)
  hp : Hp B hp k qs it wr
  heap : HeapP (fun a b => ltI (it a) (it b)) qs.length 0 qs
  inv : MInv P M qs it
  bel : Below B w wr
  rest : totR qs it + M.length ≤ 1000000
  few : qs.length ≤ 900
  small : ∀ b ∈ qs, ∀ x ∈ rowsI (it b), SmallR x
/-- Behind take. -/
structure MT (P : Rw → Prop) (B hp : Nat) (v : Value) (M : List Rw) (qs0 : List Nat) (it0 : Nat → It) (b : Nat) (k : Nat) (qs : List Nat) (it : Nat → It) (w wr : World) : Prop where
  row : wr.ownsRow B 38 4 v M.length (rowR M)
  hp : Hp B hp k qs it wr
  heap : HeapP (fun a b => ltI (it a) (it b)) qs.length 0 qs
  bel : Below B w wr
  rest : totR qs it + M.length + 1 ≤ 1000000
  few : qs.length ≤ 900
  small : ∀ b ∈ qs, ∀ x ∈ rowsI (it b), SmallR x
  old : MInv P M qs0 it0
  inn : b ∈ qs0
  min : ∀ c ∈ qs0, ltI (it0 c) (it0 b) = false
  took : Took qs0 it0 b qs it
  one : SmallR (it0 b).hd
  cnt : totR qs it + 1 = totR qs0 it0
theorem MI.take {P : Rw → Prop} {B hp : Nat} {v : Value} {M : List Rw} {k : Nat} {qs : List Nat} {it : Nat → It} {w wr w' : World} (h : MI P B hp v M k qs it w wr) {b : Nat} (hb : qs[0]? = some b) (ht : TakeD B hp k qs it b wr w') : ∃ qs' it', MT P B hp v M qs it b k qs' it' w w' := by
  obtain ⟨hE, hB, hc⟩ := ht
  have hbm : b ∈ qs := List.mem_of_getElem? hb
  have hr := own_else h.row hE (by decide) (by decide) (by decide)
  have hmin : ∀ c ∈ qs, ltI (it c) (it b) = false := fun c hcm => by
    obtain ⟨i, hi⟩ := List.mem_iff_getElem?.1 hcm
    have hlt := (List.getElem?_eq_some_iff.1 hi).1
    have := HeapP.min (ordI it) h.heap i hlt
    rw [List.getD_eq_getElem?_getD, List.getD_eq_getElem?_getD, hi, hb] at this
    exact this
  have hone := h.small b hbm _ (List.mem_cons_self ..)
  have hrest := h.rest
  have hnd := h.hp.nodup
  rcases hc with ⟨htl, qs', p1, p2, p3⟩ | ⟨y, tl, htl, qs', p1, p2, p3⟩
  · have hnb : b ∉ qs' := (List.nodup_cons.1 (p1.nodup_iff.2 hnd)).1
    have htot := totR_perm (it := it) p1
    rw [totR_cons, show (rowsI (it b)).length = 1 by rw [rowsI, htl]; rfl] at htot
    have hmem : ∀ c, c ∈ qs' → c ∈ qs := fun c hcm => p1.mem_iff.1 (List.mem_cons_of_mem _ hcm)
    refine ⟨qs', it, hr, p3, p2, h.bel.trans hB, by omega, ?_, fun c hcm => h.small c (hmem c hcm), h.inv, hbm, hmin, ⟨fun c => ⟨fun hcm => ⟨hmem c hcm, fun e => absurd (e ▸ hcm) hnb⟩, fun ⟨h1, h2⟩ => ?_⟩, fun c _ _ => rfl, fun hcm => absurd hcm hnb⟩, hone, by omega⟩
    · have := p1.length_eq
      have := h.few
      simp at *; omega
    · rcases List.mem_cons.1 (p1.mem_iff.2 h1) with e | e
      · exact absurd htl (h2 e)
      · exact e
  · have e0 : ∀ c, c ≠ b → (if c = b then (⟨(it b).num, y, tl⟩ : It) else it c) = it c := fun c hne => if_neg hne
    have hmem : ∀ c, c ∈ qs' ↔ c ∈ qs := fun c => p1.mem_iff
    have htot : totR qs' (fun c => if c = b then (⟨(it b).num, y, tl⟩ : It) else it c) + 1 = totR qs it := by
      obtain ⟨rs, hrs⟩ : ∃ rs, qs = b :: rs := by
        cases qs with
        | nil => cases hbm
        | cons a r => simp at hb; subst hb; exact ⟨r, rfl⟩
      rw [totR_perm p1, hrs, totR_cons, totR_cons]
      have hn : b ∉ rs := by rw [hrs] at hnd; exact (List.nodup_cons.1 hnd).1
      rw [totR_congr (ps := rs) (it := it) (fun c hc => e0 c (fun e => hn (e ▸ hc)))]
      simp only [if_pos, rowsI, htl, List.length_cons]
      omega
    refine ⟨qs', _, hr, p3, p2, h.bel.trans hB, by omega, by rw [p1.length_eq]; exact h.few, fun c hcm x hx => ?_, h.inv, hbm, hmin, ⟨fun c => ⟨fun hcm => ⟨(hmem c).1 hcm, fun _ e => by rw [htl] at e; cases e⟩, fun h1 => (hmem c).2 h1.1⟩, fun c _ hne => e0 c hne, fun _ => ?_⟩, hone, htot⟩
    · by_cases e : c = b
      · subst e
        simp only [if_pos] at hx
        refine h.small c hbm x ?_
        show x ∈ (it c).hd :: (it c).tl
        rw [htl]; exact List.mem_cons_of_mem _ hx
      · simp only [if_neg e] at hx
        exact h.small c ((hmem c).1 hcm) x hx
    · show (if b = b then (⟨(it b).num, y, tl⟩ : It) else it b).num = (it b).num ∧ rowsI (if b = b then (⟨(it b).num, y, tl⟩ : It) else it b) = (it b).tl
      rw [if_pos rfl]
      exact ⟨rfl, htl.symm⟩
theorem MT.below {P : Rw → Prop} {B hp : Nat} {v : Value} {M : List Rw} {qs0 : List Nat} {it0 : Nat → It} {b k : Nat} {qs : List Nat} {it : Nat → It} {w wr w' : World} (h : MT P B hp v M qs0 it0 b k qs it w wr) (hb : Below wr.heap.size wr w') : MT P B hp v M qs0 it0 b k qs it w w' :=
  ⟨own_below h.row hb, h.hp.below hb, h.heap, h.bel.trans (hb.mono h.hp.big), h.rest, h.few, h.small, h.old, h.inn, h.min, h.took, h.one, h.cnt⟩
theorem MT.pass {P : Rw → Prop} {B hp : Nat} {v : Value} {M : List Rw} {qs0 : List Nat} {it0 : Nat → It} {b k : Nat} {qs : List Nat} {it : Nat → It} {w wr : World} (h : MT P B hp v M qs0 it0 b k qs it w wr) {m : Rw} (hm : m ∈ M) (hs : smpB m (it0 b).hd = true) : MI P B hp v M k qs it w wr :=
  ⟨h.row, h.hp, h.heap, h.old.pass h.took hm hs, h.bel, by have := h.rest; omega, h.few, h.small⟩
theorem MT.push {P : Rw → Prop} {B hp : Nat} {v v' : Value} {M : List Rw} {qs0 : List Nat} {it0 : Nat → It} {b k : Nat} {qs : List Nat} {it : Nat → It} {w wr w' : World} {tmp : Obj} (h : MT P B hp v M qs0 it0 b k qs it w wr) (hs : ∀ m, M.getLast? = some m → smpB m (it0 b).hd = false) (hr : w'.ownsRow B 38 4 v' (M ++ [(it0 b).hd]).length (rowR (M ++ [(it0 b).hd]))) (hg : (wr.alloc tmp).grownBy w' v.ownBlock) : MI P B hp v' (M ++ [(it0 b).hd]) k qs it w w' := by
  have hv : ∀ r, v.ownBlock = some r → B ≤ r ∧ ∃ cs, (wr.alloc tmp).heap[r]? = some (.cells cs 38 (0, 0)) := own_block (h.row.alloc tmp)
  have hbe : Below B (wr.alloc tmp) w' := ⟨hg.os, hg.tape, hg.output, hg.size, fun c hc => hg.block c (by rw [World.size_alloc]; have := h.hp.big; omega) (fun e => by have := (hv _ e.symm).1; omega)⟩
  have hbe2 : Below B wr w' := ((below_alloc wr tmp).mono h.hp.big).trans hbe
  have hk : ∀ (c : Nat) (cs : Array Value) (t : TypeId) (m : Nat × Nat), wr.heap[c]? = some (.cells cs t m) → t ≠ 38 → w'.heap[c]? = some (.cells cs t m) := fun c cs t m hc ht => by
    have hlt := (Array.getElem?_eq_some_iff.1 hc).1
    have h1 : (wr.alloc tmp).heap[c]? = some (.cells cs t m) := ((below_alloc wr tmp).block c hlt).trans hc
    refine (hg.block c (by rw [World.size_alloc]; omega) (fun e => ?_)).trans h1
    obtain ⟨_, cs', hc'⟩ := hv _ e.symm
    rw [h1] at hc'; cases hc'; exact ht rfl
  refine ⟨hr, h.hp.keepR hbe2 hk, h.heap, h.old.push h.took h.inn h.min hs, h.bel.trans hbe2, ?_, h.few, h.small⟩
  have := h.rest
  simp; omega
theorem MI.start {L : List (List Rw)} (hs : ∀ l ∈ L, SortedR l) (hsm : ∀ l ∈ L, ∀ x ∈ l, SmallR x) (ht : (L.map List.length).sum ≤ 1000000) (hl : L.length ≤ 900) {B hp k : Nat} {qs : List Nat} {it : Nat → It} {w wr : World} (h1 : Hp B hp k qs it wr) (h2 : HeapP (fun a b => ltI (it a) (it b)) qs.length 0 qs) (h3 : ∃ bs : List Nat, qs.Perm bs ∧ bs.map it = itemsL 0 L) (h4 : Below B w wr) : MI (FinL L) B hp (.slice none 0 0) [] k qs it w wr ∧ totR qs it ≤ 1000000 := by
  obtain ⟨bs, p1, p2⟩ := h3
  have htot : totR qs it = (L.map List.length).sum := by
    rw [totR_perm p1, ← itemsL_tot 0 L, ← p2]
    simp [totR, Function.comp_def]
  have hlen : qs.length ≤ L.length := by
    have := congrArg List.length p2
    rw [List.length_map] at this
    rw [p1.length_eq, this]; exact itemsL_len 0 L
  refine ⟨⟨World.ownsRow_nil _ _ _ _, h1, h2, MInv.start hs p2 p1, h4, by simp; omega, by omega, fun b hb x hx => ?_⟩, by omega⟩
  have : it b ∈ itemsL 0 L := by rw [← p2]; exact List.mem_map_of_mem (p1.mem_iff.1 hb)
  exact hsm _ (itemsL_mem this) x hx
theorem least_is {p : Nat → Prop} : ∀ {n : Nat}, p n → ∃ m, p m ∧ ∀ k, p k → m ≤ k := fun {n} h => by
  induction n using Nat.strongRecOn with
  | ind n ih =>
    by_cases e : ∃ k, k < n ∧ p k
    · obtain ⟨k, h1, h2⟩ := e
      exact ih k h1 h2
    · exact ⟨n, h, fun k hk => Nat.le_of_not_lt fun hl => e ⟨k, hl, hk⟩⟩
/-- The least number of which something holds. -/
noncomputable def leastM (p : Nat → Prop) : Nat := open Classical in if h : ∃ m, p m ∧ ∀ k, p k → m ≤ k then Classical.choose h else 0
theorem leastM_is {p : Nat → Prop} (h : ∃ m, p m) : p (leastM p) := by
  obtain ⟨n, h⟩ := h
  have e := least_is h
  unfold leastM
  rw [dif_pos e]
  exact (Classical.choose_spec e).1
theorem leastM_le {p : Nat → Prop} {m : Nat} (h : p m) : leastM p ≤ m := by
  have e := least_is h
  unfold leastM
  rw [dif_pos e]
  exact (Classical.choose_spec e).2 m h
end Go.Proofs.Ytlnklpnldmcopaa
/-
  The contract of the program's copied (package merge). Condition: texts of less than 2^48 bytes.
-/
namespace Go.Proofs.Ytlnklpnldmcopaa
set_option maxRecDepth 100000
open Go.RowKit
theorem clone_str (s : ByteArray) (hs : s.size ≤ 281474976710656) (w : World) : Calls Try.prog 39 #[.string s] w fun e w' => e = .returned (.string s) ∧ Below w.heap.size w w' := by
  have C := fun u => Lib.hid (Try.stringslite_Clone s u hs)
  clear hs
  go_enter Try.func39, Try.ntmps39
  go_wp2_with fail
  refine (C _).out.mono ?_
  rintro e w' ⟨rfl, hb⟩
  go_wp2_with fail
  go_returns
  exact ⟨rfl, hb⟩
/-- The two boxes of copied: the argument's and the result's. -/
structure Cpy (w : World) (xk xv : ByteArray) (xs : Nat) (xi : Int) (v : World) : Prop where
  arg : RowAt w.heap.size ⟨xk, xs, xi, xv⟩ v
  res : RowAt (w.heap.size + 1) ⟨⟨#[]⟩, 0, 0, ⟨#[]⟩⟩ v
  blw : Below w.heap.size w v
theorem Cpy.below {w : World} {xk xv : ByteArray} {xs : Nat} {xi : Int} {v v' : World} (h : Cpy w xk xv xs xi v) (hb : Below v.heap.size v v') : Cpy w xk xv xs xi v' := ⟨h.arg.below hb, h.res.below hb, below_of h.blw hb⟩
theorem Cpy.new (w : World) (xk xv : ByteArray) (xs : Nat) (xi : Int) : Cpy w xk xv xs xi ((w.alloc (.cells #[.string xk, .int .u64 (xs : Int), .int .i64 xi, .string xv] 38)).alloc (.cells #[.string ⟨#[]⟩, .int .u64 0, .int .i64 0, .string ⟨#[]⟩] 38)) := by
  refine ⟨(RowAt.new ⟨xk, xs, xi, xv⟩ w).below (below_alloc _ _), ?_, (below_alloc _ _).alloc (by simp) _⟩
  have := RowAt.new ⟨⟨#[]⟩, 0, 0, ⟨#[]⟩⟩ (w.alloc (.cells #[.string xk, .int .u64 (xs : Int), .int .i64 xi, .string xv] 38))
  rw [World.size_alloc] at this
  exact this
theorem Cpy.cells {w : World} {xk xv : ByteArray} {xs : Nat} {xi : Int} {v : World} (h : Cpy w xk xv xs xi v) : (v.cell? ⟨w.heap.size, 0, none⟩ = some (.string xk) ∧ v.cell? ⟨w.heap.size, 1, none⟩ = some (.int .u64 (xs : Int)) ∧ v.cell? ⟨w.heap.size, 2, none⟩ = some (.int .i64 xi) ∧ v.cell? ⟨w.heap.size, 3, none⟩ = some (.string xv)) ∧ (∀ o, v.frozen? ⟨w.heap.size, o, none⟩ = false) ∧
    v.cell? ⟨w.heap.size + 1, 0, none⟩ = some (.string ⟨#[]⟩) ∧ v.cell? ⟨w.heap.size + 1, 1, none⟩ = some (.int .u64 0) ∧ v.cell? ⟨w.heap.size + 1, 2, none⟩ = some (.int .i64 0) ∧ v.cell? ⟨w.heap.size + 1, 3, none⟩ = some (.string ⟨#[]⟩) ∧ ∀ o, v.frozen? ⟨w.heap.size + 1, o, none⟩ = false := by
  obtain ⟨h1, h2⟩ := h.arg.cells
  obtain ⟨⟨k0, k1, k2, k3⟩, k4⟩ := h.res.cells
  exact ⟨h1, h2, k0, k1, k2, k3, k4⟩
set_option maxRecDepth 100000 in
set_option maxHeartbeats 8000000 in
theorem copied_any (x : Rw) (hk : x.key.size ≤ 281474976710656) (hv : x.val.size ≤ 281474976710656) (w : World) :
    Calls Try.prog 24 #[rowV x] w fun e w' => e = .returned (rowV x) ∧ Below w.heap.size w w' := by
  have C1 := Lib.hid (clone_str x.key hk)
  have C2 := Lib.hid (clone_str x.val hv)
  obtain ⟨xk, xs, xi, xv⟩ := x
  simp only at C1 C2
  have D := Cpy.new w xk xv xs xi
  clear hk hv
  go_enter Try.func24, Try.ntmps24
  go_wp2_with fail
  generalize (w.alloc (.cells #[.string xk, .int .u64 (xs : Int), .int .i64 xi, .string xv] 38)).alloc (.cells #[.string ⟨#[]⟩, .int .u64 0, .int .i64 0, .string ⟨#[]⟩] 38) = W0 at *
  obtain ⟨⟨a0, a1, a2, a3⟩, a4, b0, b1, b2, b3, b4⟩ := D.cells
  have D1 : Cpy w xk xv xs xi W0.drew := ⟨D.arg, D.res, D.blw.drew⟩
  go_region_with (go_at_call 39; (first | ((with_reducible refine (C1.out _).mono ?_); rintro e w1 ⟨rfl, hb⟩; have d := Cpy.below (by assumption) hb; obtain ⟨⟨c0, c1, c2, c3⟩, c4, d0, d1, d2, d3, d4⟩ := d.cells) | ((with_reducible refine (C2.out _).mono ?_); rintro e w1 ⟨rfl, hb⟩; have d := Cpy.below (by assumption) hb; obtain ⟨⟨c0, c1, c2, c3⟩, c4, d0, d1, d2, d3, d4⟩ := d.cells) | fail "no arm"))
  all_goals (
    go_wp2_with fail
    refine bodyPost_ret (v := rowV ⟨xk, xs, xi, xv⟩) (by simp [results, Try.results24, go_sem, c0, c1, c2, c3, d0, d1, d2, d3]) rfl ⟨rfl, ?_⟩
    exact ((((((d.blw.setCell (p := ⟨w.heap.size, 0, none⟩) (Nat.le_refl _) _).setCell (p := ⟨w.heap.size, 3, none⟩) (Nat.le_refl _) _).setCell (p := ⟨w.heap.size + 1, 0, none⟩) (Nat.le_succ _) _).setCell (p := ⟨w.heap.size + 1, 1, none⟩) (Nat.le_succ _) _).setCell (p := ⟨w.heap.size + 1, 2, none⟩) (Nat.le_succ _) _).setCell (p := ⟨w.heap.size + 1, 3, none⟩) (Nat.le_succ _) _))
end Go.Proofs.Ytlnklpnldmcopaa
