/-
  MemPlays: a table, under any script of calls, answers and tells all as the document says, whatever the heights, and leaves what it is handed unchanged. No condition.
-/
import Derived.Test.YtdgbafpnfkedeaaPack6
import Derived.Deep.CutBlock
namespace Go.Proofs.Ytdgbafpnfkedeaa
set_option maxRecDepth 100000
open Go.RowKit
attribute [local go_sem] eq_node ne_node eq_list eq_table
theorem gave_rs {l : List Rw} {w w' : World} {e : Ending} (h : GaveR l w e w') : ∃ a c b, e = .returned (.slice a l.length c) ∧ Rs a l.length c b 0 l w' ∧ Below w.heap.size w w' := by
  obtain ⟨v, rfl, h2, h3⟩ := h
  obtain ⟨a, c, b, rfl, hr, _⟩ := rs_of_row h2
  exact ⟨a, c, b, rfl, hr, h3⟩
theorem box7 {v : World} {N : Nat} {x0 x1 x2 x3 x4 x5 x6 : Value} {T : TypeId} (h : v.heap[N]? = some (.cells #[x0, x1, x2, x3, x4, x5, x6] T (0, 0))) : v.cell? ⟨N, 0, none⟩ = some x0 ∧ v.cell? ⟨N, 1, none⟩ = some x1 ∧ v.cell? ⟨N, 2, none⟩ = some x2 ∧ v.cell? ⟨N, 3, none⟩ = some x3 ∧ v.cell? ⟨N, 4, none⟩ = some x4 ∧ v.cell? ⟨N, 5, none⟩ = some x5 ∧ v.cell? ⟨N, 6, none⟩ = some x6 := by
  refine ⟨?_, ?_, ?_, ?_, ?_, ?_, ?_⟩ <;> (unfold World.cell?; rw [h]; rfl)
/-- The script's walk so far: the table, and the document's rows. -/
structure PlI (base p : Nat) (k : Nat) (a : Option Addr) (n c b o : Nat) (R : List Rw) (w0 w : World) : Prop where
  tb : Tb base [(p, R)] w
  rt : Rt a n c b o R w
  len : R.length ≤ 64 * k
  bel : Below base w0 w
/-- Four stores into an own row of structs. -/
theorem own_set4 {w : World} {B g m cap : Nat} {e : TypeId} {xs : List Value} (h : w.ownsRow B e 4 (.slice (some ⟨g, 0, none⟩) m cap) m xs) (j : Nat) (u0 u1 u2 u3 : Value) :
    (∃ ys, ((((w.setCell ⟨g, j, none⟩ u0).setCell ⟨g, j + 1, none⟩ u1).setCell ⟨g, j + 2, none⟩ u2).setCell ⟨g, j + 3, none⟩ u3).ownsRow B e 4 (.slice (some ⟨g, 0, none⟩) m cap) m ys) ∧ But g w ((((w.setCell ⟨g, j, none⟩ u0).setCell ⟨g, j + 1, none⟩ u1).setCell ⟨g, j + 2, none⟩ u2).setCell ⟨g, j + 3, none⟩ u3) := by
  have h1 := (World.ownsRow.stored h j u0).1
  have h2 := (World.ownsRow.stored h1 (j + 1) u1).1
  have h3 := (World.ownsRow.stored h2 (j + 2) u2).1
  have h4 := (World.ownsRow.stored h3 (j + 3) u3).1
  exact ⟨⟨_, h4⟩, (((but_set g j u0 w).trans (but_set g (j + 1) u1 _)).trans (but_set g (j + 2) u2 _)).trans (but_set g (j + 3) u3 _)⟩
theorem own_typed {w : World} {B size m cap : Nat} {e : TypeId} {q : Option Addr} {xs : List Value} (h : w.ownsRow B e size (.slice q m cap) m xs) (hm : 0 < m) : ∃ g cs, q = some ⟨g, 0, none⟩ ∧ B ≤ g ∧ w.heap[g]? = some (.cells cs e (0, 0)) := by
  rcases h.2 with ⟨_, h0⟩ | ⟨g, c, cur, hv, hg, hb, _⟩
  · omega
  · simp only [Value.slice.injEq] at hv
    exact ⟨g, cur, hv.1, hg, hb⟩
theorem own_cell {w : World} {B size g m cap : Nat} {e : TypeId} {xs : List Value} (h : w.ownsRow B e size (.slice (some ⟨g, 0, none⟩) m cap) m xs) {j : Nat} (hj : j < m * size) : ∃ u, w.cell? ⟨g, j, none⟩ = some u := by
  rw [World.ownsRow.cellAt h j hj]
  exact ⟨_, List.getElem?_eq_getElem (by rw [h.1]; exact hj)⟩
/-- The cells of writes in a slice, as append reads them. -/
theorem ws_src {a : Option Addr} {n c b o : Nat} {l : List Wr} {w : World} (h : Ws a n c b o l w) : ∀ p, a = some p → ∀ j u, (rowW l)[j]? = some u → w.cell? (p.add j) = some u := by
  intro p hp j u hu
  have hj := (List.getElem?_eq_some_iff.1 hu).1
  rw [rowW_len, h.len] at hj
  obtain ⟨rfl, _⟩ : p = ⟨b, o, none⟩ ∧ True := by
    have := (h.addr (by omega)).1
    rw [hp] at this
    exact ⟨by simpa using this, trivial⟩
  rw [add_off]
  obtain ⟨i, m, rfl, hm⟩ : ∃ i m, j = i * 3 + m ∧ m < 3 := ⟨j / 3, j % 3, by omega, Nat.mod_lt _ (by omega)⟩
  obtain ⟨x, hx⟩ : ∃ x, l[i]? = some x := ⟨_, List.getElem?_eq_getElem (by rw [h.len]; omega)⟩
  obtain ⟨e0, e1, e2⟩ := rowW_at l i hx
  obtain ⟨f0, f1, f2⟩ := h.at' i x hx
  obtain rfl | rfl | rfl : m = 0 ∨ m = 1 ∨ m = 2 := by omega
  · rw [Nat.add_zero, e0] at hu; rw [Nat.add_zero, f0, hu]
  · rw [e1] at hu; rw [show o + (i * 3 + 1) = o + i * 3 + 1 by omega, f1, hu]
  · rw [e2] at hu; rw [show o + (i * 3 + 2) = o + i * 3 + 2 by omega, f2, hu]
theorem own_but {w w' : World} {B size n : Nat} {e : TypeId} {v : Value} {xs : List Value} (h : w.ownsRow B e size v n xs) {g : Nat} {cs : Array Value} {T : TypeId} (hg : w.heap[g]? = some (.cells cs T (0, 0))) (hT : T ≠ e) (hb : But g w w') : w'.ownsRow B e size v n xs := by
  refine ⟨h.1, ?_⟩
  rcases h.2 with e' | ⟨k, cap, cur, e', a, b, c⟩
  · exact .inl e'
  · exact .inr ⟨k, cap, cur, e', a, (hb.block k (Array.getElem?_eq_some_iff.1 b).1 (fun e3 => by
      subst e3
      rw [b] at hg
      simp only [Option.some.injEq, Obj.cells.injEq] at hg
      exact hT hg.2.1.symm)).trans b, c⟩
theorem own_else4 {w w' : World} {B size n : Nat} {e : TypeId} {v : Value} {xs : List Value} (h : w.ownsRow B e size v n xs) (h1 : e ≠ 71) (h2 : e ≠ 97) (h3 : e ≠ 54) (he : Else4 w w') : w'.ownsRow B e size v n xs := by
  refine ⟨h.1, ?_⟩
  rcases h.2 with e' | ⟨k, cap, cur, e', a, b, c⟩
  · exact .inl e'
  · exact .inr ⟨k, cap, cur, e', a, (typed_else4 he b h1 h2 h3).trans b, c⟩
theorem own_set3 {w : World} {B g m cap : Nat} {e : TypeId} {xs : List Value} (h : w.ownsRow B e 3 (.slice (some ⟨g, 0, none⟩) m cap) m xs) (j : Nat) (u0 u1 u2 : Value) :
    (∃ ys, (((w.setCell ⟨g, j, none⟩ u0).setCell ⟨g, j + 1, none⟩ u1).setCell ⟨g, j + 2, none⟩ u2).ownsRow B e 3 (.slice (some ⟨g, 0, none⟩) m cap) m ys) ∧ But g w (((w.setCell ⟨g, j, none⟩ u0).setCell ⟨g, j + 1, none⟩ u1).setCell ⟨g, j + 2, none⟩ u2) := by
  have h1 := (World.ownsRow.stored h j u0).1
  have h2 := (World.ownsRow.stored h1 (j + 1) u1).1
  have h3 := (World.ownsRow.stored h2 (j + 2) u2).1
  exact ⟨⟨_, h3⟩, ((but_set g j u0 w).trans (but_set g (j + 1) u1 _)).trans (but_set g (j + 2) u2 _)⟩
/-- A batch with writes of its own, in a box. -/
def CpAt (V : World) (seq n : Nat) (ws : List Wr) (p : Value) (u : World) : Prop := ∃ gb qa qc, p = .pointer (some ⟨gb, 0, none⟩) ∧ u.heap[gb]? = some (.cells #[.int .u64 (seq : Int), .slice qa n qc] 31 (0, 0)) ∧ V.heap.size ≤ gb ∧ u.ownsRow V.heap.size 41 3 (.slice qa n qc) n (rowW ws) ∧ Below V.heap.size V u
theorem PlI.but {base p k : Nat} {a : Option Addr} {n c b o : Nat} {R : List Rw} {w0 w w' : World} (h : PlI base p k a n c b o R w0 w) {g : Nat} {cs : Array Value} {T : TypeId} (hg : w.heap[g]? = some (.cells cs T (0, 0))) (h1 : T ≠ 71) (h2 : T ≠ 97) (h3 : T ≠ 54) (hne : 0 < n → b ≠ g) (hbg : base ≤ g) (hb : But g w w') (hw : base ≤ w0.heap.size := by exact Nat.le_refl _) : PlI base p k a n c b o R w0 w' :=
  ⟨h.tb.but hg h1 h2 h3 hb, h.rt.but hne hb, h.len, h.bel.trans (hb.below hbg (Nat.le_trans hw h.bel.size))⟩
theorem PlI.grow {base p k : Nat} {a : Option Addr} {n c b o : Nat} {R : List Rw} {w0 w w' : World} (h : PlI base p k a n c b o R w0 w) (hb : Below w.heap.size w w') (hw : base ≤ w0.heap.size := by exact Nat.le_refl _) : PlI base p k a n c b o R w0 w' :=
  ⟨h.tb.grow hb, h.rt.below hb, h.len, h.bel.trans (hb.mono (Nat.le_trans hw h.bel.size))⟩
theorem PlI.next {base p k : Nat} {a : Option Addr} {n c b o : Nat} {R : List Rw} {w0 w : World} (h : PlI base p k a n c b o R w0 w) : PlI base p (k + 1) a n c b o R w0 w :=
  ⟨h.tb, h.rt, by have := h.len; omega, h.bel⟩
set_option maxRecDepth 100000 in
set_option maxHeartbeats 8000000 in
theorem plays_main (a0 : Option Addr) (n0 c0 b0 o0 : Nat) (ops : List MOp) (w : World) (h0 : SlOf 7 cellsM a0 n0 c0 b0 o0 ops w) (hv : ∀ v ∈ ops, MOpAt v w) :
    Calls Try.prog 3 #[.slice a0 n0 c0] w fun e w' => e = .returned (.bool true) ∧ Below w.heap.size w w' := by
  have hlen := h0.len
  have hcap := h0.cap
  have hmost := h0.most
  have AW := fun u => Lib.hid (awake_mem u)
  have LG := Lib.hid (long_any h0 hv)
  have NW := Lib.hid (new_tb (Tb.nil w.heap.size w) (Nat.le_refl _))
  have h0 := Lib.hid h0
  have hv := Lib.hid hv
  go_enter Try.func3, Try.ntmps3
  go_upto_region 1 with fail
  go_wp2_with (first
    | (go_at_call 8; ((with_reducible refine LG.out.mono ?_); rintro e w1 ⟨B, rfl, hB, hw⟩; obtain rfl := hw.symm; clear LG))
    | (go_at_call 9; ((with_reducible refine (AW _).out.mono ?_); rintro e w3 ⟨rfl, B3⟩; have B3 := Lib.hid B3))
    | (go_at_call 10; ((with_reducible refine NW.out.mono ?_); rintro e w3 ⟨p, rfl, T3, B3⟩; have T3 := Lib.hid T3; have B3 := Lib.hid B3; clear NW))
    | fail "no arm")
  all_goals first
    | (go_returns; exact ⟨rfl, B3.out⟩)
    | skip
  obtain ⟨hn, hvn⟩ : n0 ≤ 60 ∧ ∀ v ∈ ops, v.bt.n ≤ 70 := hB (by cases B <;> simp_all)
  have hvn := Lib.hid hvn
  have Q3 : Hid (PlI w.heap.size p 0 none 0 0 0 0 [] w w3) := Lib.hid ⟨T3.out, Rt.none w3, by simp, B3.out⟩
  clear hB
  go_loopw [4, 5] (fun s v wr => ∃ j a n c b o R, j ≤ n0 ∧ s = .slice a n c ∧ v = .int .i64 (j : Int) ∧ PlI w.heap.size p j a n c b o R w wr) (fun _ v _ => n0 - (intOf v).toNat)
  case atStart => exact ⟨0, none, 0, 0, 0, 0, [], Nat.zero_le _, rfl, rfl, Q3.out⟩
  case round =>
    clear T3 B3 Q3
    obtain ⟨j, a, n, c, b, o, R, hj, rfl, rfl, hP⟩ := hrel
    by_cases hlt : j < n0
    · obtain ⟨x, hx⟩ : ∃ x, ops[j]? = some x := ⟨_, List.getElem?_eq_getElem (by rw [hlen]; exact hlt)⟩
      have i1 : (j : Int) < (n0 : Int) := by omega
      have h0r := h0.out.below hP.bel (Nat.le_refl _)
      have ha := (h0r.addr (by omega)).1
      subst ha
      obtain ⟨x0, x1, x2, x3, x4, x5, x6⟩ := mop_at h0r hx
      have hxv := hv.out x (List.mem_of_getElem? hx)
      have hxn := hvn.out x (List.mem_of_getElem? hx)
      have hPc := hP.rt.rs.cap
      have hPm := hP.rt.rs.most
      have hPl := Lib.hid hP.rt.rs.len
      have hPk := hP.len
      have hj1 := Lib.hid hlt
      clear h0r hx
      obtain ⟨act, ⟨xq, xa, xn, xc, xb, xo, xw⟩, ya, yn, yc, yb, yo, yl, xf, xt, xat⟩ := x
      simp only at x0 x1 x2 x3 x4 x5 x6 hxv hxn
      have A1 := Lib.hid (below_alloc wr (.cells #[.int .i64 act, .int .u64 (xq : Int), .slice xa xn xc, .slice ya yn yc, .string xf, .string xt, .int .u64 (xat : Int)] 34))
      have N1 := Lib.hid (heap_alloc_new wr (.cells #[.int .i64 act, .int .u64 (xq : Int), .slice xa xn xc, .slice ya yn yc, .string xf, .string xt, .int .u64 (xat : Int)] 34))
      have P1 : Hid (PlI w.heap.size p j a n c b o R w (wr.alloc (.cells #[.int .i64 act, .int .u64 (xq : Int), .slice xa xn xc, .slice ya yn yc, .string xf, .string xt, .int .u64 (xat : Int)] 34))) := Lib.hid ⟨hP.tb.grow A1.out, hP.rt.below A1.out, hP.len, hP.bel.trans (A1.out.mono hP.bel.size)⟩
      have hxv := Lib.hid hxv
      have hPk := Lib.hid hPk
      have hsw := Lib.hid (show w.heap.size ≤ wr.heap.size from hP.bel.size)
      clear hP
      go_upto_block 2 with fail
      generalize wr.alloc (.cells #[.int .i64 act, .int .u64 (xq : Int), .slice xa xn xc, .slice ya yn yc, .string xf, .string xt, .int .u64 (xat : Int)] 34) = V at A1 N1 P1 ⊢
      obtain ⟨z0, z1, z2, z3, z4, z5, z6⟩ := box7 N1.out
      clear x0 x1 x2 x3 x4 x5 x6
      go_cut [4] from 33 to 132 (fun s wc => ∃ a n c b o R, s = .slice a n c ∧ PlI w.heap.size p (j + 1) a n c b o R w wc)
      case first =>
        by_cases q1 : act = 1
        · subst q1
          have hWx := hxv.out.1.2
          have hnil := Lib.hid hxv.out.2.2.2
          have hwl : Hid ((rowW xw).length = xn * 3) := Lib.hid (by rw [rowW_len, hWx.len])
          have hx70 : Hid (xn ≤ 70) := Lib.hid hxn
          have WSR : Hid (∀ u, Below V.heap.size V u → ∀ p, xa = some p → ∀ i v, (rowW xw)[i]? = some v → u.cell? (p.add i) = some v) := Lib.hid fun u hu => ws_src (hWx.below (P1.out.bel.trans (hu.mono P1.out.bel.size)) (Nat.le_refl _))
          have SX : Hid (∀ u, Below V.heap.size V u → (u.cell? ⟨wr.heap.size, 1, none⟩ = some (.int .u64 (xq : Int)) ∧ u.cell? ⟨wr.heap.size, 2, none⟩ = some (.slice xa xn xc)) ∧ Hid (Below V.heap.size V u)) := Lib.hid fun u hu => by
            obtain ⟨_, k1, k2, _⟩ := box7 ((hu.block _ (Array.getElem?_eq_some_iff.1 N1.out).1).trans N1.out)
            exact ⟨⟨k1, k2⟩, Lib.hid hu⟩
          have hWx := Lib.hid hWx
          clear hxn z0 z1 z2 z3 z4 z5 z6
          go_upto_region 11 with fail
          go_cut [7] from 35 to 43 (fun v wc => CpAt V xq xn xw v wc)
          case first =>
            refine wp_region_held_drew (S := (fun v => (v.cell? ⟨wr.heap.size, 1, none⟩ = some (.int .u64 (xq : Int)) ∧ v.cell? ⟨wr.heap.size, 2, none⟩ = some (.slice xa xn xc)) ∧ Hid (Below V.heap.size V v))) (by kernel_rfl) (SX.out _ (Below.refl _ V).drew) (fun hHeld => ?_)
            refine held_take (i := 0) (v := ?_) rfl (by kernel_rfl) (by kernel_rfl) (by kernel_rfl) (fun _ _ _ h => h) (by rfl) (fun w hSw => ?_) (by assumption) ?_; rotate_left 1; focus (((try dsimp only at hSw); first | (go_simp; done) | (go_simp; with_reducible rfl)))
            try simp only [Act.put, List.setIfInBounds_toArray, List.set_cons_zero, List.set_cons_succ]
            refine held_take (i := 1) (v := ?_) rfl (by kernel_rfl) (by kernel_rfl) (by kernel_rfl) (fun _ _ _ h => h) (by rfl) (fun w hSw => ?_) (by assumption) ?_; rotate_left 1; focus (((try dsimp only at hSw); first | (go_simp; done) | (go_simp; with_reducible rfl)))
            try simp only [Act.put, List.setIfInBounds_toArray, List.set_cons_zero, List.set_cons_succ]
            refine held_take (i := 2) (v := ?_) rfl (by kernel_rfl) (by kernel_rfl) (by kernel_rfl) (fun _ _ _ h => h) (by rfl) (fun w hSw => ?_) (by assumption) ?_; rotate_left 1; focus (((try dsimp only at hSw); first | (go_simp; done) | (go_simp; with_reducible rfl)))
            try simp only [Act.put, List.setIfInBounds_toArray, List.set_cons_zero, List.set_cons_succ]
            refine held_take (i := 4) (v := ?_) rfl (by kernel_rfl) (by kernel_rfl) (by kernel_rfl) (fun _ _ _ h => h) (by rfl) (fun w hSw => ?_) (by assumption) ?_; rotate_left 1; focus (((try dsimp only at hSw); first | (go_simp; done) | (go_simp; with_reducible rfl)))
            try simp only [Act.put, List.setIfInBounds_toArray, List.set_cons_zero, List.set_cons_succ]
            refine held_take (i := 5) (v := ?_) rfl (by kernel_rfl) (by kernel_rfl) (by kernel_rfl) (fun _ _ _ h => h) (by rfl) (fun w hSw => ?_) (by assumption) ?_; rotate_left 1; focus (((try dsimp only at hSw); first | (go_simp; done) | (go_simp; with_reducible rfl)))
            try simp only [Act.put, List.setIfInBounds_toArray, List.set_cons_zero, List.set_cons_succ]
            refine held_take (i := 6) (v := ?_) rfl (by kernel_rfl) (by kernel_rfl) (by kernel_rfl) (fun _ _ _ h => h) (by rfl) (fun w hSw => ?_) (by assumption) ?_; rotate_left 1; focus (((try dsimp only at hSw); first | (go_simp; done) | (go_simp; with_reducible rfl)))
            try simp only [Act.put, List.setIfInBounds_toArray, List.set_cons_zero, List.set_cons_succ]
            refine held_two (i := 3) (j := 9) (by kernel_rfl) rfl rfl (by rfl) (by rfl) (fun K hK => ?_) (fun K hK => ?_)
            · go_simp
              have B1 := Lib.hid (below_of (Below.refl _ V).drew (below_alloc V.drew (.cells #[] 41)))
              have H1 := Lib.hid (show (V.drew.alloc (.cells #[] 41)).ownsRow V.heap.size 41 3 (.slice (some ⟨V.heap.size, 0, none⟩) 0 0) 0 [] from row_zero (heap_alloc_new V.drew (.cells #[] 41)) (Nat.le_refl _))
              refine hK.out _ _ (SX.out _ B1.out) (fun hHeld => ?_)
              try simp only [Act.put, List.setIfInBounds_toArray, List.set_cons_zero, List.set_cons_succ]
              refine held_two (i := 7) (j := 9) (by kernel_rfl) rfl rfl (by rfl) (by rfl) (fun K hK => ?_) (fun K hK => ?_)
              · refine wp_append_src (.tmp 38) (.tmp 41) 29 rfl V.heap.size 41 3 40 (.agg #[.int .i64 0, .string .empty, .string .empty]) Try.underlying29 info_write rfl (by decide) (by decide) _ 0 [] xa xn xc (rowW xw) H1.out hnil.out hwl.out (WSR.out _ B1.out) rfl rfl (rowW_one xw) (by omega) (by have := hx70.out; omega) B1.out.size ?_
                intro v2 u2 own2 grow2 sh2
                obtain ⟨qa, qc, rfl⟩ := sh2
                rw [Nat.zero_add, List.nil_append] at own2
                rw [Nat.zero_add]
                have B2 := Lib.hid (B1.out.grown grow2 B1.out.size (fun k hk => by cases hk; exact Nat.le_refl _))
                have own2 := Lib.hid own2
                clear grow2
                refine hK.out _ _ (SX.out _ B2.out) (fun hHeld => ?_)
                try simp only [Act.put, List.setIfInBounds_toArray, List.set_cons_zero, List.set_cons_succ]
                refine held_take (i := 8) (v := ?_) rfl (by kernel_rfl) (by kernel_rfl) (by kernel_rfl) (fun _ _ _ h => h) (by rfl) (fun w hSw => ?_) (by assumption) ?_; rotate_left 1; focus (((try dsimp only at hSw); first | (go_simp; done) | (go_simp; with_reducible rfl)))
                try simp only [Act.put, List.setIfInBounds_toArray, List.set_cons_zero, List.set_cons_succ]
                refine held_call (i := 9) (by kernel_rfl) rfl (by rfl) (fun K hK => ?_)
                go_simp
                refine hK.out _ _ (SX.out _ (below_of B2.out (below_alloc u2 (.cells #[.int .u64 0, .slice none 0 0] 31)))) (fun hHeld => ?_)
                try simp only [Act.put, List.setIfInBounds_toArray, List.set_cons_zero, List.set_cons_succ]
                refine held_call (i := 10) (by kernel_rfl) rfl (by rfl) (fun K hK => ?_)
                go_simp
                refine hK.out _ _ (SX.out _ (below_of B2.out (below_alloc u2 (.cells #[.int .u64 (xq : Int), .slice qa xn qc] 31)))) (fun hHeld => ?_)
                try simp only [Act.put, List.setIfInBounds_toArray, List.set_cons_zero, List.set_cons_succ]
                refine wpAnyH_done (by kernel_rfl) ?_ _
                go_wp2_with fail
                go_meet
                exact ⟨u2.heap.size, qa, qc, rfl, heap_alloc_new _ _, B2.out.size, own_below own2.out (below_alloc _ _), below_of B2.out (below_alloc _ _)⟩
              · go_simp
                have B2 := Lib.hid (below_of B1.out (below_alloc _ (.cells #[.int .u64 0, .slice none 0 0] 31)))
                have H2 := Lib.hid (own_below H1.out (below_alloc _ (.cells #[.int .u64 0, .slice none 0 0] 31)))
                have N2 := Lib.hid (show ((V.drew.alloc (.cells #[] 41)).alloc (.cells #[.int .u64 0, .slice none 0 0] 31)).heap[V.heap.size + 1]? = some (.cells #[.int .u64 0, .slice none 0 0] 31 (0, 0)) by have := heap_alloc_new (V.drew.alloc (.cells #[] 41)) (.cells #[.int .u64 0, .slice none 0 0] 31); rw [World.size_alloc] at this; exact this)
                refine hK.out _ _ (SX.out _ B2.out) (fun hHeld => ?_)
                try simp only [Act.put, List.setIfInBounds_toArray, List.set_cons_zero, List.set_cons_succ]
                refine held_call (i := 7) (by kernel_rfl) rfl (by rfl) (fun K hK => ?_)
                refine wp_append_src (.tmp 38) (.tmp 41) 29 rfl V.heap.size 41 3 40 (.agg #[.int .i64 0, .string .empty, .string .empty]) Try.underlying29 info_write rfl (by decide) (by decide) _ 0 [] xa xn xc (rowW xw) H2.out hnil.out hwl.out (WSR.out _ B2.out) rfl rfl (rowW_one xw) (by omega) (by have := hx70.out; omega) B2.out.size ?_
                intro v3 u3 own3 grow3 sh3
                obtain ⟨qa, qc, rfl⟩ := sh3
                rw [Nat.zero_add, List.nil_append] at own3
                rw [Nat.zero_add]
                have B3 := Lib.hid (B2.out.grown grow3 B2.out.size (fun k hk => by cases hk; first | exact Nat.le_refl _ | exact Nat.le_succ _))
                have N3 := Lib.hid ((grow3.block _ (Array.getElem?_eq_some_iff.1 N2.out).1 (fun e => by have e3 : some (V.heap.size + 1) = some V.heap.size := e; simp only [Option.some.injEq] at e3; omega)).trans N2.out)
                have own3 := Lib.hid own3
                obtain ⟨c0', c1'⟩ := pair_box N3.out
                have cf' : ∀ i, u3.frozen? ⟨(V.heap.size + 1), i, none⟩ = false := fun i => by have := N3.out; simp [World.frozen?, this]
                clear grow3
                refine hK.out _ _ (SX.out _ B3.out) (fun hHeld => ?_)
                try simp only [Act.put, List.setIfInBounds_toArray, List.set_cons_zero, List.set_cons_succ]
                refine held_take (i := 8) (v := ?_) rfl (by kernel_rfl) (by kernel_rfl) (by kernel_rfl) (fun _ _ _ h => h) (by rfl) (fun w hSw => ?_) (by assumption) ?_; rotate_left 1; focus (((try dsimp only at hSw); first | (go_simp; done) | (go_simp; with_reducible rfl)))
                try simp only [Act.put, List.setIfInBounds_toArray, List.set_cons_zero, List.set_cons_succ]
                refine held_call (i := 10) (by kernel_rfl) rfl (by rfl) (fun K hK => ?_)
                go_simp
                have M4 := Lib.hid ((but_set (V.heap.size + 1) 0 (.int .u64 (xq : Int)) u3).trans (but_set (V.heap.size + 1) 1 (.slice qa xn qc) _))
                have B4 := Lib.hid (B3.out.trans (M4.out.below (by omega) B3.out.size))
                refine hK.out _ _ (SX.out _ B4.out) (fun hHeld => ?_)
                try simp only [Act.put, List.setIfInBounds_toArray, List.set_cons_zero, List.set_cons_succ]
                refine wpAnyH_done (by kernel_rfl) ?_ _
                go_wp2_with fail
                go_meet
                exact ⟨(V.heap.size + 1), qa, qc, rfl, heap_setCell_same _ _ 1 _ _ (.slice qa xn qc) (heap_setCell_same _ _ 0 _ _ (.int .u64 (xq : Int)) N3.out), by omega, own_but own3.out N3.out (by decide) M4.out, B4.out⟩
            · go_simp
              have B1 := Lib.hid (below_of (Below.refl _ V).drew (below_alloc V.drew (.cells #[.int .u64 0, .slice none 0 0] 31)))
              have N1' := Lib.hid (show (V.drew.alloc (.cells #[.int .u64 0, .slice none 0 0] 31)).heap[V.heap.size]? = some (.cells #[.int .u64 0, .slice none 0 0] 31 (0, 0)) from heap_alloc_new V.drew (.cells #[.int .u64 0, .slice none 0 0] 31))
              refine hK.out _ _ (SX.out _ B1.out) (fun hHeld => ?_)
              try simp only [Act.put, List.setIfInBounds_toArray, List.set_cons_zero, List.set_cons_succ]
              refine held_call (i := 3) (by kernel_rfl) rfl (by rfl) (fun K hK => ?_)
              go_simp
              have B2 := Lib.hid (below_of B1.out (below_alloc _ (.cells #[] 41)))
              have N2 := Lib.hid (((below_alloc (V.drew.alloc (.cells #[.int .u64 0, .slice none 0 0] 31)) (.cells #[] 41)).block _ (Array.getElem?_eq_some_iff.1 N1'.out).1).trans N1'.out)
              have H2 := Lib.hid (show ((V.drew.alloc (.cells #[.int .u64 0, .slice none 0 0] 31)).alloc (.cells #[] 41)).ownsRow V.heap.size 41 3 (.slice (some ⟨V.heap.size + 1, 0, none⟩) 0 0) 0 [] from row_zero (by have := heap_alloc_new (V.drew.alloc (.cells #[.int .u64 0, .slice none 0 0] 31)) (.cells #[] 41); rw [World.size_alloc] at this; exact this) (Nat.le_succ _))
              refine hK.out _ _ (SX.out _ B2.out) (fun hHeld => ?_)
              try simp only [Act.put, List.setIfInBounds_toArray, List.set_cons_zero, List.set_cons_succ]
              refine held_call (i := 7) (by kernel_rfl) rfl (by rfl) (fun K hK => ?_)
              refine wp_append_src (.tmp 38) (.tmp 41) 29 rfl V.heap.size 41 3 40 (.agg #[.int .i64 0, .string .empty, .string .empty]) Try.underlying29 info_write rfl (by decide) (by decide) _ 0 [] xa xn xc (rowW xw) H2.out hnil.out hwl.out (WSR.out _ B2.out) rfl rfl (rowW_one xw) (by omega) (by have := hx70.out; omega) B2.out.size ?_
              intro v3 u3 own3 grow3 sh3
              obtain ⟨qa, qc, rfl⟩ := sh3
              rw [Nat.zero_add, List.nil_append] at own3
              rw [Nat.zero_add]
              have B3 := Lib.hid (B2.out.grown grow3 B2.out.size (fun k hk => by cases hk; first | exact Nat.le_refl _ | exact Nat.le_succ _))
              have N3 := Lib.hid ((grow3.block _ (Array.getElem?_eq_some_iff.1 N2.out).1 (fun e => by have e3 : some V.heap.size = some (V.heap.size + 1) := e; simp only [Option.some.injEq] at e3; omega)).trans N2.out)
              have own3 := Lib.hid own3
              obtain ⟨c0', c1'⟩ := pair_box N3.out
              have cf' : ∀ i, u3.frozen? ⟨V.heap.size, i, none⟩ = false := fun i => by have := N3.out; simp [World.frozen?, this]
              clear grow3
              refine hK.out _ _ (SX.out _ B3.out) (fun hHeld => ?_)
              try simp only [Act.put, List.setIfInBounds_toArray, List.set_cons_zero, List.set_cons_succ]
              refine held_take (i := 8) (v := ?_) rfl (by kernel_rfl) (by kernel_rfl) (by kernel_rfl) (fun _ _ _ h => h) (by rfl) (fun w hSw => ?_) (by assumption) ?_; rotate_left 1; focus (((try dsimp only at hSw); first | (go_simp; done) | (go_simp; with_reducible rfl)))
              try simp only [Act.put, List.setIfInBounds_toArray, List.set_cons_zero, List.set_cons_succ]
              refine held_call (i := 10) (by kernel_rfl) rfl (by rfl) (fun K hK => ?_)
              go_simp
              have M4 := Lib.hid ((but_set V.heap.size 0 (.int .u64 (xq : Int)) u3).trans (but_set V.heap.size 1 (.slice qa xn qc) _))
              have B4 := Lib.hid (B3.out.trans (M4.out.below (by omega) B3.out.size))
              refine hK.out _ _ (SX.out _ B4.out) (fun hHeld => ?_)
              try simp only [Act.put, List.setIfInBounds_toArray, List.set_cons_zero, List.set_cons_succ]
              refine wpAnyH_done (by kernel_rfl) ?_ _
              go_wp2_with fail
              go_meet
              exact ⟨V.heap.size, qa, qc, rfl, heap_setCell_same _ _ 1 _ _ (.slice qa xn qc) (heap_setCell_same _ _ 0 _ _ (.int .u64 (xq : Int)) N3.out), by omega, own_but own3.out N3.out (by decide) M4.out, B4.out⟩
          case rest =>
            obtain ⟨gb, qa, qc, rfl, NB, hgb, OW, B2⟩ := hcut
            have hxw : Hid (xw.length = xn) := Lib.hid hWx.out.len
            have WA : Hid (∀ u, Below w.heap.size w u → Ws xa xn xc xb xo xw u) := Lib.hid fun u hu => hWx.out.below hu (Nat.le_refl _)
            have CW : Hid (∀ u, u.ownsRow V.heap.size 41 3 (.slice qa xn qc) xn (rowW xw) → ∃ gq, Ws qa xn qc gq 0 xw u) := Lib.hid fun u h => by
              obtain ⟨a2, c2, b2, hv2, hw2, _⟩ := ws_of_row (l := xw) (by rw [hxw.out]; exact h) hWx.out.fit
              rw [hxw.out] at hv2 hw2
              simp only [Value.slice.injEq] at hv2
              obtain ⟨rfl, _, rfl⟩ := hv2
              exact ⟨b2, hw2⟩
            have P2 := Lib.hid (P1.out.grow B2)
            have B2 := Lib.hid B2
            have OW := Lib.hid OW
            have NB := Lib.hid NB
            have N2 := Lib.hid ((B2.out.block _ (Array.getElem?_eq_some_iff.1 N1.out).1).trans N1.out)
            obtain ⟨z0, z1, z2, z3, z4, z5, z6⟩ := box7 N2.out
            have hqc : xn ≤ qc ∧ qc ≤ 9223372036854775807 := by
              obtain ⟨gq, hw⟩ := CW.out wc OW.out
              exact ⟨hw.cap, hw.most⟩
            obtain ⟨hq1, hq2⟩ := hqc
            have RA := Lib.hid (add_ref P2.out.rt (by have := hPk.out; have := hPl.out; have := hj1.out; omega) (seq := xq) (WA.out wc P2.out.bel))
            obtain ⟨F, hF⟩ := named (addR R xq xw).2
            obtain ⟨R', hR'⟩ := named (addR R xq xw).1
            rw [← hF.out, ← hR'.out] at RA
            have hRl : Hid (R'.length ≤ 64 * (j + 1)) := Lib.hid (by have := addR_len R xq xw; rw [← hR'.out] at this; have := hPk.out; omega)
            go_upto_region 13 with (go_at_call 11; ((with_reducible refine RA.out.mono ?_); rintro e w3 ⟨a', n', c', b', o', rfl, hrt, hb3⟩; have RT := Lib.hid hrt; have B3 := Lib.hid hb3; clear hrt hb3 RA z0 z1 z2 z3 z4 z5 z6))
            have P3 := Lib.hid (P2.out.grow B3.out)
            have O3 := Lib.hid (own_below OW.out B3.out)
            have NB3 := Lib.hid ((B3.out.block _ (Array.getElem?_eq_some_iff.1 NB.out).1).trans NB.out)
            have N3 := Lib.hid ((B3.out.block _ (Array.getElem?_eq_some_iff.1 N2.out).1).trans N2.out)
            obtain ⟨z0, z1, z2, z3, z4, z5, z6⟩ := box7 N3.out
            obtain ⟨y0, y1⟩ := pair_box NB3.out
            obtain ⟨gq, hcw⟩ := CW.out w3 O3.out
            have AD := add_any P3.out.tb P3.out.bel.size (i := 0) rfl (by have := hPk.out; have := hj1.out; omega) (seq := xq) hcw (fun u hu _ => hxv.out.2.1.below (P3.out.bel.trans hu) (Nat.le_refl _))
            rw [← hF.out, ← hR'.out] at AD
            have AD := Lib.hid (show Calls Try.prog 12 #[.pointer (some ⟨p, 0, none⟩), .agg #[.int .u64 (xq : Int), .slice qa xn qc], .slice ya yn yc] w3 fun e w' => e = .returned (.int .i64 F) ∧ Tb w.heap.size [(p, R')] w' ∧ Below w.heap.size w3 w' ∧ Else4 w3 w' from AD)
            have SM : Hid (∀ u, u.ownsRow V.heap.size 41 3 (.slice qa xn qc) xn (rowW xw) → Below w.heap.size w u → Calls Try.prog 13 #[.agg #[.int .u64 (xq : Int), .slice qa xn qc], .agg #[.int .u64 (xq : Int), .slice xa xn xc]] u fun e w' => e = .returned (.bool true) ∧ Below u.heap.size u w') := Lib.hid fun u h hu => by
              obtain ⟨g2, h2⟩ := CW.out u h
              exact (refsame_any (s1 := xq) (s2 := xq) h2 (WA.out u hu)).mono fun e w' h => ⟨h.1.trans (by simp), h.2⟩
            have hr1 := RT.out.rs.cap
            have hr2 := RT.out.rs.most
            clear hcw hF hR'
            go_upto_region 15 with (first
              | (go_at_call 12; ((with_reducible refine AD.out.mono ?_); rintro e w4 ⟨rfl, T4, B4, E4⟩; have S4 := Lib.hid B4.size; have RT4 := Lib.hid (RT.out.else4 E4 B4.size); have O4 := Lib.hid (own_else4 O3.out (by decide) (by decide) (by decide) E4); have NB4 := Lib.hid ((typed_else4 E4 NB3.out (by decide) (by decide) (by decide)).trans NB3.out); have N4 := Lib.hid ((typed_else4 E4 N3.out (by decide) (by decide) (by decide)).trans N3.out); have T4 := Lib.hid T4; have B4 := Lib.hid (P3.out.bel.trans B4); clear AD E4 z0 z1 z2 z3 z4 z5 z6 y0 y1; obtain ⟨z0, z1, z2, z3, z4, z5, z6⟩ := box7 N4.out; obtain ⟨y0, y1⟩ := pair_box NB4.out; have SM4 := Lib.hid (SM.out w4 O4.out B4.out)))
              | (go_at_call 13; ((with_reducible refine SM4.out.mono ?_); rintro e w5 ⟨rfl, b5⟩; have O5 := Lib.hid (own_below O4.out b5); have NB5 := Lib.hid ((b5.block _ (Array.getElem?_eq_some_iff.1 NB4.out).1).trans NB4.out); have P5 : Hid (PlI w.heap.size p (j + 1) a' n' c' b' o' R' w w5) := Lib.hid ⟨T4.out.grow b5, RT4.out.below b5, hRl.out, B4.out.trans (b5.mono B4.out.size)⟩; clear b5 SM4 z0 z1 z2 z3 z4 z5 z6 y0 y1))
              | fail "no arm")
            have hsV : Hid (w.heap.size ≤ V.heap.size) := Lib.hid P1.out.bel.size
            clear SM RT RT4 T4 B4 O3 O4 NB3 NB4 N3 N4 P3 P2 S4
            go_wp2_with fail
            go_loopw [10] (fun v wq => ∃ k xs, k ≤ xn ∧ v = .int .i64 (k : Int) ∧ wq.ownsRow V.heap.size 41 3 (.slice qa xn qc) xn xs ∧ wq.heap[gb]? = some (.cells #[.int .u64 (xq : Int), .slice qa xn qc] 31 (0, 0)) ∧ PlI w.heap.size p (j + 1) a' n' c' b' o' R' w wq) (fun v _ => xn - (intOf v).toNat)
            case atStart => exact ⟨0, _, Nat.zero_le _, rfl, O5.out, NB5.out, P5.out⟩
            case round =>
              clear O5 NB5 P5
              obtain ⟨k, xs, hk, rfl, H7, NB7, P7⟩ := hrel
              obtain ⟨y0, y1⟩ := pair_box NB7
              by_cases hkm : k < xn
              · obtain ⟨g, cs, rfl, hgV, hgt⟩ := own_typed H7 (by omega)
                obtain ⟨u0, e0⟩ := own_cell H7 (j := k * 3) (by omega)
                obtain ⟨u1, e1⟩ := own_cell H7 (j := k * 3 + 1) (by omega)
                obtain ⟨u2, e2⟩ := own_cell H7 (j := k * 3 + 2) (by omega)
                have yf := World.ownsRow.frozenAt H7
                have i2 : (k : Int) < (xn : Int) := by omega
                have F7 : Hid (∀ v0 v1 v2, (∃ ys, (((wr.setCell ⟨g, k * 3, none⟩ v0).setCell ⟨g, k * 3 + 1, none⟩ v1).setCell ⟨g, k * 3 + 2, none⟩ v2).ownsRow V.heap.size 41 3 (.slice (some ⟨g, 0, none⟩) xn qc) xn ys) ∧ (((wr.setCell ⟨g, k * 3, none⟩ v0).setCell ⟨g, k * 3 + 1, none⟩ v1).setCell ⟨g, k * 3 + 2, none⟩ v2).heap[gb]? = some (.cells #[.int .u64 (xq : Int), .slice (some ⟨g, 0, none⟩) xn qc] 31 (0, 0)) ∧ PlI w.heap.size p (j + 1) a' n' c' b' o' R' w (((wr.setCell ⟨g, k * 3, none⟩ v0).setCell ⟨g, k * 3 + 1, none⟩ v1).setCell ⟨g, k * 3 + 2, none⟩ v2)) := Lib.hid fun v0 v1 v2 => by
                  obtain ⟨h1, h2⟩ := own_set3 H7 (k * 3) v0 v1 v2
                  have hne : gb ≠ g := fun e => by
                    rw [e, hgt] at NB7
                    simp only [Option.some.injEq, Obj.cells.injEq] at NB7
                    exact absurd NB7.2.1 (by decide)
                  refine ⟨h1, (h2.block gb (Array.getElem?_eq_some_iff.1 NB7).1 hne).trans NB7, P7.but hgt (by decide) (by decide) (by decide) (fun h0 e => ?_) (Nat.le_trans hsV.out hgV) h2⟩
                  obtain ⟨cs2, hc2⟩ := P7.rt.typ h0
                  rw [e, hgt] at hc2
                  simp only [Option.some.injEq, Obj.cells.injEq] at hc2
                  exact absurd hc2.2.1 (by decide)
                clear H7 P7 hgt NB7
                go_wp2_with fail
                go_roundw
                case rel => exact ⟨k + 1, (F7.out _ _ _).1.choose, by omega, by go_num, (F7.out _ _ _).1.choose_spec, (F7.out _ _ _).2.1, (F7.out _ _ _).2.2⟩
                case measure => simp [intOf]; omega
              · have i2 : ¬ ((k : Int) < (xn : Int)) := by omega
                have P7 := Lib.hid P7
                clear H7 NB7
                go_wp2_with fail
                go_meet
                exact ⟨a', n', c', b', o', R', rfl, P7.out⟩
        · have f1 : (act == 1) = false := by rw [beq_eq_false_iff_ne]; exact q1
          by_cases q2 : act = 2
          · subst q2
            have hso := P1.out.tb.sort (i := 0) rfl
            have GE0 := get_any (P1.out.tb.q (i := 0) rfl (by have := hPk.out; have := hj1.out; omega)) xf xat
            obtain ⟨oo, hoo⟩ := named (getR R xf xat)
            have GR0 : Hid (∀ u, Below V.heap.size V u → Calls Try.prog 15 #[.slice a n c, .string xf, .int .u64 (xat : Int)] u fun e w' => e = .returned (verV oo) ∧ Below u.heap.size u w') := Lib.hid fun u hu => by
              have := get_ref (P1.out.rt.below hu).rs xf xat
              rwa [← getR_find hso, ← hoo.out] at this
            rw [← hoo.out] at GE0
            obtain ⟨y, ok, hy⟩ : ∃ (y : Rw) (ok : Bool), verV oo = .tuple #[.agg #[.string y.key, .int .u64 (y.seq : Int), .int .i64 y.kind, .string y.val], .bool ok] := by
              cases oo with
              | none => exact ⟨zeroR, false, rfl⟩
              | some x => exact ⟨x, true, rfl⟩
            rw [hy] at GE0 GR0
            obtain ⟨yk, ys, yi, yv⟩ := y
            have NEQ := fun u => neq_rw yk yk ys ys yi yi yv yv false (by simp) u
            have GE := Lib.hid GE0
            clear hso GE0 hy hoo
            go_upto_region 22 with (go_at_call 14; ((with_reducible refine GE.out.mono ?_); rintro e w3 ⟨rfl, B3⟩; have B3 := Lib.hid B3; clear GE z0 z1 z2 z3 z4 z5 z6))
            have K3 := Lib.hid (below_of B3.out (below_alloc w3 (.cells #[.string yk, .int .u64 (ys : Int), .int .i64 yi, .string yv] 43)))
            have r3 := Lib.hid (RowAt.new ⟨yk, ys, yi, yv⟩ w3)
            generalize w3.alloc (.cells #[.string yk, .int .u64 (ys : Int), .int .i64 yi, .string yv] 43) = V3 at K3 r3 ⊢
            obtain ⟨z0, z1, z2, z3, z4, z5, z6⟩ := box7 ((K3.out.block _ (Array.getElem?_eq_some_iff.1 N1.out).1).trans N1.out)
            have GR := Lib.hid (GR0.out V3 K3.out)
            go_upto_region 23 with (go_at_call 15; ((with_reducible refine GR.out.mono ?_); rintro e w4 ⟨rfl, B4⟩; have B4 := Lib.hid B4; clear GR GR0))
            have K4 := Lib.hid (below_of (below_of K3.out B4.out) (below_alloc w4 (.cells #[.string yk, .int .u64 (ys : Int), .int .i64 yi, .string yv] 43)))
            have r3 := Lib.hid ((r3.out.below B4.out).below (below_alloc w4 (.cells #[.string yk, .int .u64 (ys : Int), .int .i64 yi, .string yv] 43)))
            have r4 := Lib.hid (RowAt.new ⟨yk, ys, yi, yv⟩ w4)
            generalize w4.alloc (.cells #[.string yk, .int .u64 (ys : Int), .int .i64 yi, .string yv] 43) = V4 at K4 r3 r4 ⊢
            obtain ⟨⟨a0', a1', a2', a3'⟩, _⟩ := r3.out.cells
            obtain ⟨⟨b0', b1', b2', b3'⟩, _⟩ := r4.out.cells
            cases ok <;> (
              go_wp2_with fail
              go_meet
              exact ⟨a, n, c, b, o, R, rfl, ⟨P1.out.tb.grow K4.out, P1.out.rt.below K4.out, (by have := P1.out.len; omega), P1.out.bel.trans (K4.out.mono P1.out.bel.size)⟩⟩)
          · have f2 : (act == 2) = false := by rw [beq_eq_false_iff_ne]; exact q2
            by_cases q3 : act = 3
            · subst q3
              obtain ⟨L, l, t1, t2, t3⟩ := P1.out.tb.at (i := 0) rfl
              have hso := P1.out.tb.sort (i := 0) rfl
              have hsq : ∀ x ∈ R, x.seq ≤ 18446744073709551615 := fun x hx => (short_in (P1.out.tb.short (i := 0) rfl x hx)).2.2
              have RG := Lib.hid (range_some t1 t2 t3 (by have := hPk.out; have := hj1.out; omega) xf xt hxv.out.2.2.1)
              have RF : Hid (∀ u, Below V.heap.size V u → Calls Try.prog 18 #[.slice a n c, .string xf, .string xt] u (GaveR (rngR R xf xt) u)) := Lib.hid fun u hu => by
                rw [rng_filter hso hsq]
                exact range_ref (P1.out.rt.below hu).rs (by have := hPk.out; have := hPl.out; have := hj1.out; omega) xf xt
              obtain ⟨D, hD⟩ := named (rngR R xf xt)
              rw [← hD.out] at RG RF
              clear hD t1 t2 t3 hso hsq
              go_upto_region 27 with (go_at_call 16; ((with_reducible refine RG.out.mono ?_); rintro e w4 ⟨v4, rfl, h4, hb4⟩; obtain ⟨a4, c4, rfl⟩ := ownsRow_slice h4; have B4 := Lib.hid hb4; have H4 := Lib.hid h4; clear RG h4 hb4 z0 z1 z2 z3 z4 z5 z6))
              obtain ⟨z0, z1, z2, z3, z4, z5, z6⟩ := box7 ((B4.out.block _ (Array.getElem?_eq_some_iff.1 N1.out).1).trans N1.out)
              obtain ⟨m, hm⟩ := named D.length
              have SR : Hid (∀ u a' c' b', u.ownsRow V.heap.size 43 4 (.slice a4 m c4) m (rowR D) → Rs a' D.length c' b' 0 D u → Calls Try.prog 17 #[.slice a4 m c4, .slice a' D.length c'] u fun e w' => e = .returned (.bool true) ∧ Below u.heap.size u w') := Lib.hid fun u a' c' b' h1 h2 => by
                rw [hm.out] at h1 ⊢
                obtain ⟨a5, c5, b5, hv5, hr, _⟩ := rs_of_row h1
                simp only [Value.slice.injEq] at hv5
                obtain ⟨rfl, _, rfl⟩ := hv5
                exact (samerows_any hr h2).mono fun e w' h => ⟨h.1.trans (by simp), h.2⟩
              have RF4 := Lib.hid (RF.out w4 B4.out)
              rw [← hm.out] at H4 ⊢
              have hm3 : m ≤ c4 ∧ c4 ≤ 9223372036854775807 := by
                rcases H4.out.2 with ⟨e, _⟩ | ⟨g, cap, cur, e, _, _, h1, h2, _⟩
                · simp only [Value.slice.injEq] at e; omega
                · simp only [Value.slice.injEq] at e; unfold maxLen at h2; omega
              obtain ⟨hm4, hm5⟩ := hm3
              clear RF hm
              go_upto_region 29 with (first
                | (go_at_call 18; ((with_reducible refine RF4.out.mono ?_); rintro e w5 hd; obtain ⟨a5, c5, b5, rfl, r5, hb5⟩ := gave_rs hd; have B5 := Lib.hid (below_of B4.out hb5); have H5 := Lib.hid (own_below H4.out hb5); have S5 := Lib.hid (SR.out _ _ _ _ H5.out r5); clear hd hb5 r5 RF4))
                | (go_at_call 17; ((with_reducible refine S5.out.mono ?_); rintro e w6 ⟨rfl, hb6⟩; have B6 := Lib.hid (below_of B5.out hb6); have H6 := Lib.hid (own_below H5.out hb6); clear hb6 S5))
                | fail "no arm")
              have P6 := Lib.hid (P1.out.grow B6.out)
              have hbV : Hid (0 < n → b < V.heap.size) := Lib.hid fun h0 => (P1.out.rt.rs.addr h0).2
              have hsV : Hid (w.heap.size ≤ V.heap.size) := Lib.hid P1.out.bel.size
              clear H4 H5 B4 B5 z0 z1 z2 z3 z4 z5 z6 SR
              go_wp2_with fail
              go_loopw [16] (fun v wq => ∃ k xs, k ≤ m ∧ v = .int .i64 (k : Int) ∧ wq.ownsRow V.heap.size 43 4 (.slice a4 m c4) m xs ∧ PlI w.heap.size p j a n c b o R w wq) (fun v _ => m - (intOf v).toNat)
              case atStart => exact ⟨0, _, Nat.zero_le _, rfl, H6.out, P6.out⟩
              case round =>
                clear H6 P6
                obtain ⟨k, xs, hk, rfl, H7, P7⟩ := hrel
                by_cases hkm : k < m
                · obtain ⟨g, cs, rfl, hgV, hgt⟩ := own_typed H7 (by omega)
                  obtain ⟨u0, y0⟩ := own_cell H7 (j := k * 4) (by omega)
                  obtain ⟨u1, y1⟩ := own_cell H7 (j := k * 4 + 1) (by omega)
                  obtain ⟨u2, y2⟩ := own_cell H7 (j := k * 4 + 2) (by omega)
                  obtain ⟨u3, y3⟩ := own_cell H7 (j := k * 4 + 3) (by omega)
                  have yf := World.ownsRow.frozenAt H7
                  have i2 : (k : Int) < (m : Int) := by omega
                  have F7 : Hid (∀ v0 v1 v2 v3, (∃ ys, ((((wr.setCell ⟨g, k * 4, none⟩ v0).setCell ⟨g, k * 4 + 1, none⟩ v1).setCell ⟨g, k * 4 + 2, none⟩ v2).setCell ⟨g, k * 4 + 3, none⟩ v3).ownsRow V.heap.size 43 4 (.slice (some ⟨g, 0, none⟩) m c4) m ys) ∧ PlI w.heap.size p j a n c b o R w ((((wr.setCell ⟨g, k * 4, none⟩ v0).setCell ⟨g, k * 4 + 1, none⟩ v1).setCell ⟨g, k * 4 + 2, none⟩ v2).setCell ⟨g, k * 4 + 3, none⟩ v3)) := Lib.hid fun v0 v1 v2 v3 => by
                    obtain ⟨h1, h2⟩ := own_set4 H7 (k * 4) v0 v1 v2 v3
                    exact ⟨h1, P7.but hgt (by decide) (by decide) (by decide) (fun h0 => by have := hbV.out h0; omega) (Nat.le_trans hsV.out hgV) h2⟩
                  clear H7 P7 hgt
                  go_wp2_with fail
                  go_roundw
                  case rel => exact ⟨k + 1, (F7.out _ _ _ _).1.choose, by omega, by go_num, (F7.out _ _ _ _).1.choose_spec, (F7.out _ _ _ _).2⟩
                  case measure => simp [intOf]; omega
                · have i2 : ¬ ((k : Int) < (m : Int)) := by omega
                  have P7 := Lib.hid P7
                  clear H7
                  go_wp2_with fail
                  go_meet
                  exact ⟨a, n, c, b, o, R, rfl, P7.out.next⟩
            · have f3 : (act == 3) = false := by rw [beq_eq_false_iff_ne]; exact q3
              go_wp2_with fail
              go_meet
              exact ⟨a, n, c, b, o, R, rfl, ⟨P1.out.tb, P1.out.rt, by have := P1.out.len; omega, P1.out.bel⟩⟩
      case rest =>
        obtain ⟨a', n', c', b', o', R', rfl, hP'⟩ := hcut
        have TL := Lib.hid (tells_any (hP'.tb.q (i := 0) rfl (by have := hP'.len; have := hj1.out; omega)) hP'.rt.rs (by have := hP'.len; have := hP'.rt.rs.len; have := hj1.out; omega) (hP'.tb.short (i := 0) rfl))
        have hc' := hP'.rt.rs.cap
        have hm' := hP'.rt.rs.most
        have hP' := Lib.hid hP'
        go_wp2_with (go_at_call 19; ((with_reducible refine TL.out.mono ?_); rintro e w5 ⟨rfl, B5⟩; have P5 : Hid (PlI w.heap.size p (j + 1) a' n' c' b' o' R' w w5) := Lib.hid ⟨hP'.out.tb.grow B5, hP'.out.rt.below B5, hP'.out.len, hP'.out.bel.trans (B5.mono hP'.out.bel.size)⟩; clear B5 TL))
        go_roundw
        case rel => exact ⟨j + 1, a', n', c', b', o', R', by have := hj1.out; omega, rfl, by go_num, P5.out⟩
        case measure => have := hj1.out; simp [intOf]; omega
    · have hjN : j = n0 := by omega
      subst hjN
      have i1 : ¬ ((j : Int) < (j : Int)) := by omega
      have hc' := hP.rt.rs.cap
      have hm' := hP.rt.rs.most
      have hl' := Lib.hid hP.rt.rs.len
      have RO := Lib.hid (rows_tab (hP.tb.q (i := 0) rfl (by have := hP.len; omega)))
      have SR : Hid (∀ u a2 c2 b2, Below wr.heap.size wr u → Rs a2 n c2 b2 0 R u → Calls Try.prog 17 #[.slice a2 n c2, .slice a n c] u fun e w' => e = .returned (.bool true) ∧ Below u.heap.size u w') := Lib.hid fun u a2 c2 b2 hu h2 => (samerows_any h2 (hP.rt.below hu).rs).mono fun e w' h => ⟨h.1.trans (by simp), h.2⟩
      have hB := Lib.hid hP.bel
      have hs := Lib.hid hP.bel.size
      clear hP
      go_wp2_with (first
        | (go_at_call 20; ((with_reducible refine RO.out.mono ?_); rintro e w5 hd; obtain ⟨a5, c5, b5, rfl, r5, hb5⟩ := gave_rs hd; rw [hl'.out] at r5 ⊢; have Q5 := Lib.hid hb5; have S5 := Lib.hid (SR.out _ _ _ _ hb5 r5); clear hd hb5 r5 RO))
        | (go_at_call 17; ((with_reducible refine S5.out.mono ?_); rintro e w6 ⟨rfl, hb6⟩; have Q6 := Lib.hid (below_of Q5.out hb6); clear hb6 S5))
        | (go_at_call 9; ((with_reducible refine (AW _).out.mono ?_); rintro e w7 ⟨rfl, B7⟩; have Q7 := Lib.hid (below_of Q6.out B7); clear B7))
        | fail "no arm")
      go_returns
      exact ⟨rfl, hB.out.trans (Q7.out.mono hs.out)⟩
theorem plays_walk (a0 : Option Addr) (n0 c0 b0 o0 : Nat) (ops : List MOp) (w : World) (h0 : SlOf 7 cellsM a0 n0 c0 b0 o0 ops w ∧ ∀ v ∈ ops, MOpAt v w) :
    Calls Try.prog 3 #[.slice a0 n0 c0] w fun e w' => e = .returned (.bool true) ∧ Below w.heap.size w w' := plays_main a0 n0 c0 b0 o0 ops w h0.1 h0.2
--LAW freshetlaw09.MemPlays plays_walk memops:l
--BEGIN
namespace MemPlaysProof
open Go.ChangeShapes Go.WideShapes Go.ChangeAt Go.RowKit
open Go.ChangeMaps (open_string shut_string)
theorem own : ownKnob Try.prog.godebug = none := by kernel_rfl
set_option maxRecDepth 100000 in
theorem lifted (os : Os) (started : os.Started) (H : Type) (enc : TypeId × Value → H) :
    ReturnsInHanded {} Try.checked os 3 .any (Rows.memPlaysSpec.pre6 enc Try.prog Try.f3 Rows.memPlaysRow.domain false) (Rows.memPlaysSpec.post enc Try.prog Try.f3 false true false false) := by
  refine returnsInHanded_of_change_sized (C := Try.checked) own started (by kernel_rfl) Try.func3
    (ChangeSpec.witness6 (enc := enc) (C := Try.checked) false ⟨#[], #[.slice none 0 0], []⟩ 8 (by kernel_rfl) (by kernel_rfl) (by kernel_rfl) (by kernel_rfl)) ?_
  intro W base args ds gs before hval0 hW _ hsz _
  have hval : ∀ (j : Nat) t v, Try.f3.params[j]? = some t → args[j]? = some v → Value.okWide Try.prog W .any base t v := hval0
  have hW' := hW
  obtain ⟨p, q, hA0, hV, rfl, hfz, hnd⟩ := hW
  have hA : DataW.TrodAll enc Try.prog W 0 (fun _ => true) true Try.f3.params.toList args.toList ds p := hA0
  rw [Try.params3] at hA hval hsz
  obtain ⟨v0, vs0, d0, ds0, p0, q0, hargs, rfl, rfl, h0, r0⟩ := trodAll_cons hA
  obtain ⟨rfl, rfl, rfl⟩ := trodAll_nil r0
  obtain rfl : args = #[v0] := by cases args; simp_all
  obtain ⟨rfl, rfl⟩ := trodVars_none hV
  obtain ⟨a0, n0, c0, rfl⟩ := okWide_slice Try.underlying22 (hval 0 22 v0 rfl rfl)
  have k0 := h0
  obtain ⟨fu0, hf0⟩ := h0
  obtain ⟨b0, o0, l, ia0⟩ := open_memops hf0 hsz (j := 0) rfl rfl
  have lt0 : ∀ x ∈ p0, x.block < W.heap.size := fun x hx => hW'.lt x (by simp only [List.mem_append]; simp [hx])
  clear hA0 hval0
  simp only [List.append_nil] at hW'
  refine (plays_walk a0 n0 c0 b0 o0 l W ia0).mono fun e W' ⟨he, hg⟩ => ?_
  subst he
  exact ⟨_, rfl, _, _, _, [], _, [], hW', (trodAll_cons_mk (shut_bool Try.underlying4 _) trodAll_mk0), (trodAll_cons_mk (Below.trod laid_out (by kernel_rfl) (of_decide_eq_true (by kernel_rfl)) k0 hg lt0) trodAll_mk0), rfl, hg.frame _, fun h => by cases h⟩
theorem holds : Rows.MemPlaysSaid :=
  OpenClaim.holds_of_wide 3 Try.f3 rfl rfl rfl rfl rfl rfl rfl ⟨rfl, rfl, rfl, rfl, rfl⟩ rfl rfl rfl rfl rfl (by kernel_rfl) Try.func3 (by kernel_rfl)
    (of_decide_eq_true (by kernel_rfl)) (by unfold Func.isWrapper; first | (rw [if_pos (by decide +kernel)]; kernel_rfl) | (rw [if_neg (by decide +kernel)]; exact ⟨rfl, rfl⟩))
    (fun os started H enc _ => lifted os started H enc)
end MemPlaysProof
--END
end Go.Proofs.Ytdgbafpnfkedeaa
