/-
  The contract of the table's Add. Condition: at most 900000 rows.
-/
import Derived.Test.YtdgbafpnfkedeaaPack4
import Derived.Laws.OwnMore
import Derived.Deep.AppendLies
import Derived.Deep.Upon
namespace Go.Proofs.Ytdgbafpnfkedeaa
set_option maxRecDepth 100000
open Go.RowKit
attribute [local go_sem] eq_node ne_node eq_list eq_table
theorem set_same {α : Type} {l : List α} {i : Nat} {x : α} (h : l[i]? = some x) : l.set i x = l := by
  apply List.ext_getElem?
  intro j
  by_cases hj : j = i
  · subst hj
    rw [List.getElem?_set_self (List.getElem?_eq_some_iff.1 h).1, h]
  · rw [List.getElem?_set_ne (Ne.symm hj)]
theorem thr_get (R : List Rw) (k : ByteArray) (q : Nat) : thr R k q = match getR R k q with | some y => decide (y.seq = q) | none => false := by
  unfold thr getR
  cases hd : R.drop (plc R k q) with
  | nil =>
    have : R[plc R k q]? = none := by rw [List.getElem?_eq_none_iff]; exact List.drop_eq_nil_iff.1 hd
    rw [this]
  | cons y r =>
    have : R[plc R k q]? = some y := by
      have := congrArg (fun t => t[0]?) hd
      simpa using this
    rw [this]
    dsimp only
    by_cases e : y.key.toList = k.toList
    · rw [if_pos e]; simp [e]
    · rw [if_neg e]; simp [e]
theorem take_next {xs : List Rw} {j : Nat} {x : Rw} (h : xs[j]? = some x) (R : List Rw) : insR (insAll R (xs.take j)) x = insAll R (xs.take (j + 1)) := by
  rw [List.take_add_one, h]
  exact (insAll_snoc _ _ _).symm
theorem below_then {base : Nat} {w w1 w2 w3 : World} (h1 : Below base w w1) (h2 : Below w1.heap.size w1 w2) (hb : base ≤ w.heap.size) (h3 : Below base w2 w3) : Below base w w3 := (h1.trans (h2.mono (Nat.le_trans hb h1.size))).trans h3
theorem row_set4 {b g : Nat} {x : Rw} {W : World} (h : RowAt b x W) (hne : b ≠ g) (y : Rw) : RowAt b x ((((W.setCell ⟨g, 0, none⟩ (.string y.key)).setCell ⟨g, 1, none⟩ (.int .u64 (y.seq : Int))).setCell ⟨g, 2, none⟩ (.int .i64 y.kind)).setCell ⟨g, 3, none⟩ (.string y.val)) := by
  have e : ∀ (V : World) (o : Nat) (v : Value), RowAt b x V → RowAt b x (V.setCell ⟨g, o, none⟩ v) := fun V o v hV => (Below.heap_setCell V ⟨g, o, none⟩ v b hne).trans hV
  exact e _ _ _ (e _ _ _ (e _ _ _ (e _ _ _ h)))
theorem rs_else4 {a : Option Addr} {n c b o : Nat} {l : List Rw} {w w' : World} (h : Rs a n c b o l w) (hc : 0 < n → Typed w b 43) (he : Else4 w w') (hs : w.heap.size ≤ w'.heap.size) : Rs a n c b o l w' :=
  h.keep (fun h0 => typed_else4 he (hc h0).choose_spec (by decide) (by decide) (by decide)) hs
/-- What stands while places are looked up. -/
structure AdI (w0 : World) (p L : Nat) (R : List Rw) (rb : Nat) (x : Rw) (v : World) : Prop where
  tab : TabAt p (some ⟨L, 0, none⟩) R v
  row : RowAt rb x v
  bel : Below w0.heap.size w0 v
theorem AdI.grow {w0 : World} {p L : Nat} {R : List Rw} {rb : Nat} {x : Rw} {v v' : World} (h : AdI w0 p L R rb x v) (hb : Below v.heap.size v v') : AdI w0 p L R rb x v' := ⟨h.tab.grow hb, h.row.below hb, below_of h.bel hb⟩
theorem AdI.set4 {w0 : World} {p L : Nat} {R : List Rw} {rb g : Nat} {x z : Rw} {v : World} (h : AdI w0 p L R rb x v) (hg : RowAt g z v) (hw : w0.heap.size ≤ g) (hne : rb ≠ g) (y : Rw) : AdI w0 p L R rb x ((((v.setCell ⟨g, 0, none⟩ (.string y.key)).setCell ⟨g, 1, none⟩ (.int .u64 (y.seq : Int))).setCell ⟨g, 2, none⟩ (.int .i64 y.kind)).setCell ⟨g, 3, none⟩ (.string y.val)) := by
  have hp : p ≠ g := fun e => by
    have h1 := h.tab
    unfold TabAt at h1
    unfold RowAt at hg
    rw [e, hg] at h1
    simp only [Option.some.injEq, Obj.cells.injEq] at h1
    exact absurd h1.2.1 (by decide)
  have e : ∀ (V : World) (o : Nat) (u : Value), TabAt p (some ⟨L, 0, none⟩) R V → TabAt p (some ⟨L, 0, none⟩) R (V.setCell ⟨g, o, none⟩ u) := fun V o u hV => (Below.heap_setCell V ⟨g, o, none⟩ u p hp).trans hV
  exact ⟨e _ _ _ (e _ _ _ (e _ _ _ (e _ _ _ h.tab))), row_set4 h.row hne y, below_set4 h.bel hw y⟩
theorem AdI.s {w0 : World} {p L : Nat} {R : List Rw} {rb : Nat} {x : Rw} {v : World} (h : AdI w0 p L R rb x v) : (v.cell? ⟨p, 0, none⟩ = some (.pointer (some ⟨L, 0, none⟩)) ∧ v.cell? ⟨rb, 0, none⟩ = some (.string x.key) ∧ v.cell? ⟨rb, 1, none⟩ = some (.int .u64 (x.seq : Int))) ∧ Hid (AdI w0 p L R rb x v) := ⟨⟨h.tab.cells.1, h.row.cells.1.1, h.row.cells.1.2.1⟩, Lib.hid h⟩
set_option maxHeartbeats 8000000 in
theorem add_bad {base : Nat} {ts : List (Nat × List Rw)} {w : World} (h : Tb base ts w) {i p : Nat} {R : List Rw} (hi : ts[i]? = some (p, R)) {seq : Nat} {a : Option Addr} {n c b o : Nat} {ws : List Wr} (hw : Ws a n c b o ws w) (hv : Value) (hc : chkB seq ws ≠ 0) :
    Calls Try.prog 12 #[.pointer (some ⟨p, 0, none⟩), batchV seq a n c, hv] w fun e w' => e = .returned (.int .i64 (addR R seq ws).2) ∧ Tb base (ts.set i (p, (addR R seq ws).1)) w' ∧ Below w.heap.size w w' := by
  rw [addR_bad hc, set_same hi]
  have W0 := Lib.hid (below_alloc w (.cells #[.int .u64 (seq : Int), .slice a n c] 31))
  obtain ⟨b0, b1⟩ := box_batch w seq (.slice a n c)
  have CK := check_any (seq := seq) (hw.below W0.out (Nat.le_refl _))
  obtain ⟨L, l, hT, _, _⟩ := (h.grow W0.out).at hi
  obtain ⟨c0, _, _, _⟩ := hT.cells
  obtain ⟨C, hC⟩ := named (chkB seq ws)
  rw [← hC.out] at CK hc ⊢
  have q1 : (C != 0) = true := by simpa using hc
  have CK := Lib.hid CK
  have h := Lib.hid h
  clear hT hw hC hi
  go_enter Try.func12, Try.ntmps12
  go_wp2_with (go_at_call 31; ((with_reducible refine CK.out.mono ?_); rintro e w2 ⟨rfl, hb2⟩; have B2 := Lib.hid (below_of W0.out hb2); clear hb2 CK))
  go_returns
  exact ⟨rfl, h.out.grow B2.out, B2.out⟩
set_option maxHeartbeats 8000000 in
theorem add_good {base : Nat} {ts : List (Nat × List Rw)} {w : World} (h : Tb base ts w) (hb : base ≤ w.heap.size) {i p : Nat} {R : List Rw} (hi : ts[i]? = some (p, R)) (hn : R.length ≤ 900000) {seq : Nat} {a : Option Addr} {n c b o : Nat} {ws : List Wr} (hw : Ws a n c b o ws w) {a1 : Option Addr} {n1 c1 b1 o1 : Nat} {hs : List Int}
    (hk : ∀ w', Below base w w' → Else4 w w' → SlOf 1 cellsI a1 n1 c1 b1 o1 hs w') (hc : chkB seq ws = 0) :
    Calls Try.prog 12 #[.pointer (some ⟨p, 0, none⟩), batchV seq a n c, .slice a1 n1 c1] w fun e w' => e = .returned (.int .i64 (addR R seq ws).2) ∧ Tb base (ts.set i (p, (addR R seq ws).1)) w' ∧ Below base w w' ∧ Else4 w w' := by
  have W0 := Lib.hid (below_alloc w (.cells #[.int .u64 (seq : Int), .slice a n c] 31))
  obtain ⟨b0, b1'⟩ := box_batch w seq (.slice a n c)
  have CK := check_any (seq := seq) (hw.below W0.out (Nat.le_refl _))
  rw [hc] at CK
  have CK := Lib.hid CK
  have RO : Hid (∀ u, Below (w.alloc (.cells #[.int .u64 (seq : Int), .slice a n c] 31)).heap.size (w.alloc (.cells #[.int .u64 (seq : Int), .slice a n c] 31)) u → Calls Try.prog 32 #[batchV seq a n c] u (RowsB seq ws u) ∧ u.cell? ⟨w.heap.size, 0, none⟩ = some (.int .u64 (seq : Int)) ∧ u.cell? ⟨w.heap.size, 1, none⟩ = some (.slice a n c)) := Lib.hid fun u hu =>
    ⟨rows_any ((hw.below W0.out (Nat.le_refl _)).below hu (Nat.le_refl _)), (hu.cell (p := ⟨w.heap.size, 0, none⟩) (by rw [World.size_alloc]; exact Nat.lt_succ_self _)).trans b0, (hu.cell (p := ⟨w.heap.size, 1, none⟩) (by rw [World.size_alloc]; exact Nat.lt_succ_self _)).trans b1'⟩
  obtain ⟨L, l, hTp, hLs, hRl⟩ := h.at hi
  obtain ⟨c0, _, _, _⟩ := (hTp.grow W0.out).cells
  have hTp := Lib.hid hTp
  have hLs := Lib.hid hLs
  have hRl := Lib.hid hRl
  have h1k : 1 ≤ n1 ∨ n1 = 0 := by omega
  have sl0 := hk w (Below.refl _ _) (Else4.refl _)
  have mh := sl0.most
  have ch := sl0.cap
  have h := Lib.hid h
  replace hk := Lib.hid hk
  have hsort := Lib.hid (h.out.sort hi)
  have hshort := Lib.hid (rowsFrom_short hc)
  clear sl0
  go_enter Try.func12, Try.ntmps12
  go_upto_region 6 with (go_at_call 31; ((with_reducible refine CK.out.mono ?_); rintro e w2 ⟨rfl, hb2⟩; have B2 := Lib.hid (below_of W0.out hb2); obtain ⟨ro, r0, r1⟩ := RO.out _ hb2; have RO2 := Lib.hid ro; clear hb2 CK ro))
  go_wp2_with (go_at_call 32; ((with_reducible refine RO2.out.mono ?_); rintro e w3 hd; obtain ⟨ra, N, rc, rb, rfl, hR, hT, hb3⟩ := rs_of_rows hd; have B3 := Lib.hid (below_of B2.out hb3); have HR := Lib.hid hR; have HT := Lib.hid hT; have rm := hR.most; have rcp := hR.cap; clear hb3 hd hR hT RO2 r0 r1 RO))
  have eX : rowsB seq ws = rowsFrom seq ws := by unfold rowsB; rw [if_pos hc]
  rw [eX] at HR
  have hX64 : (rowsFrom seq ws).length ≤ 64 := by rw [rowsFrom_len]; exact (chkB_ok hc).2.2.2.1
  obtain ⟨X, hX⟩ := named (rowsFrom seq ws)
  rw [← hX.out] at HR hshort hX64
  have hNX : N = X.length := HR.out.len.symm
  have hN64 : N ≤ 64 := by omega
  have hpw : p < w.heap.size := (Array.getElem?_eq_some_iff.1 hTp.out).1
  have VE : Hid (∀ (k : ByteArray) (q : Nat) u, Below w.heap.size w u → Calls Try.prog 33 #[.func (.func 34) #[.pointer (some ⟨L, 0, none⟩)] #[], .string k, .int .u64 (q : Int)] u fun e w' => e = .returned (verV (getR R k q)) ∧ Below u.heap.size u w') := Lib.hid fun k q u hu => version_any (hLs.out.grow hu) hRl.out (by omega) k q
  replace hc := Lib.hid hc
  replace hi := Lib.hid hi
  replace hb := Lib.hid hb
  replace hNX := Lib.hid hNX
  replace hX64 := Lib.hid hX64
  clear eX
  go_loopw [34] (fun v wr => ∃ j : Nat, j ≤ N ∧ v = .int .i64 (j : Int) ∧ (∀ (m : Nat) (x : Rw), m < j → X[m]? = some x → thr R x.key x.seq = false) ∧ Below w3.heap.size w3 wr) (fun v _ => N - (intOf v).toNat)
  case atStart => exact ⟨0, Nat.zero_le _, rfl, fun m x hm => absurd hm (Nat.not_lt_zero _), Below.refl _ _⟩
  case round =>
    obtain ⟨j, hj, rfl, hfr, hB⟩ := hrel
    have hfr := Lib.hid hfr
    by_cases hlt : j < N
    · obtain ⟨x, hx, rfl, x0, x1, x2, x3⟩ := (HR.out.below hB (Nat.le_refl _)).at4 hlt
      rw [Nat.zero_add] at x0 x1 x2 x3
      obtain ⟨xk, xs, xi, xv⟩ := x
      simp only at x0 x1 x2 x3
      have hx := Lib.hid hx
      have DV := Lib.hid (below_of (below_of B3.out hB) (below_alloc wr (.cells #[.string xk, .int .u64 (xs : Int), .int .i64 xi, .string xv] 43)))
      have D3 := Lib.hid (below_of hB (below_alloc wr (.cells #[.string xk, .int .u64 (xs : Int), .int .i64 xi, .string xv] 43)))
      have RV := Lib.hid (RowAt.new ⟨xk, xs, xi, xv⟩ wr)
      have VE := Lib.hid (VE.out xk xs)
      have i1 : (j : Int) < (N : Int) := by omega
      have hsz : wr.heap.size ≥ w3.heap.size := hB.size
      have hpr : p < wr.heap.size := by have := (below_of B3.out hB).size; omega
      have hVs := World.size_alloc wr (.cells #[.string xk, .int .u64 (xs : Int), .int .i64 xi, .string xv] 43)
      go_upto_region 10 with fail
      have cV := (hTp.out.grow DV.out).cells.1
      generalize wr.alloc (.cells #[.string xk, .int .u64 (xs : Int), .int .i64 xi, .string xv] 43) = V at DV D3 RV hVs cV ⊢
      have gn1 : ¬ p = V.heap.size := by omega
      have gn2 : ¬ wr.heap.size = V.heap.size := by omega
      have gn3 : Hid (wr.heap.size ≠ V.heap.size) := Lib.hid (by omega)
      have gl1 : p < V.heap.size := by omega
      have gl2 : wr.heap.size < V.heap.size := by omega
      have gm1 : ¬ V.heap.size = p := by omega
      have gm2 : ¬ V.heap.size = wr.heap.size := by omega
      have hsz3 : w3.heap.size ≤ V.heap.size := by omega
      replace hVs := Lib.hid hVs
      obtain ⟨⟨z0, z1, z2, z3⟩, _⟩ := RV.out.cells
      have I0 : Hid (AdI w3 p L R wr.heap.size ⟨xk, xs, xi, xv⟩ V.drew) := Lib.hid ⟨(hTp.out.grow DV.out).grow (Below.refl _ V).drew, RV.out.below (Below.refl _ V).drew, D3.out.drew⟩
      clear x0 x1 x2 x3 c0
      cases hg : getR R xk xs with
      | none =>
        replace hg := Lib.hid hg
        have VC : Hid (∀ u, Below w3.heap.size w3 u → Calls Try.prog 33 #[.func (.func 34) #[.pointer (some ⟨L, 0, none⟩)] #[], .string xk, .int .u64 (xs : Int)] u fun e w' => e = .returned (.tuple #[.agg #[.string ⟨#[]⟩, .int .u64 0, .int .i64 0, .string ⟨#[]⟩], .bool false]) ∧ Below u.heap.size u w') := Lib.hid fun u hu => (VE.out u (below_of B3.out hu)).mono fun e w' hp => ⟨by rw [hp.1, hg.out]; rfl, hp.2⟩
        go_cut [11, 12] from 38 to 50 (fun r ok wc => ok = .bool false ∧ ∃ g, r = .pointer (some ⟨g, 0, none⟩) ∧ RowAt g zeroR wc ∧ RowAt wr.heap.size ⟨xk, xs, xi, xv⟩ wc ∧ Below w3.heap.size w3 wc)
        case first =>
          refine wp_region_held_drew (S := (fun v => (v.cell? ⟨p, 0, none⟩ = some (.pointer (some ⟨L, 0, none⟩)) ∧ v.cell? ⟨wr.heap.size, 0, none⟩ = some (.string xk) ∧ v.cell? ⟨wr.heap.size, 1, none⟩ = some (.int .u64 (xs : Int))) ∧ Hid (AdI w3 p L R wr.heap.size ⟨xk, xs, xi, xv⟩ v))) (by kernel_rfl) (I0.out.s) (fun hHeld => ?_)
          refine held_take (i := 0) (v := ?_) rfl (by kernel_rfl) (by kernel_rfl) (by kernel_rfl) (fun _ _ _ h => h) (by rfl) (fun w hSw => ?_) (by assumption) ?_; rotate_left 1; focus (((try dsimp only at hSw); first | (go_simp; done) | (go_simp; with_reducible rfl)))
          try simp only [Act.put, List.setIfInBounds_toArray, List.set_cons_zero, List.set_cons_succ]
          refine held_take (i := 1) (v := ?_) rfl (by kernel_rfl) (by kernel_rfl) (by kernel_rfl) (fun _ _ _ h => h) (by rfl) (fun w hSw => ?_) (by assumption) ?_; rotate_left 1; focus (((try dsimp only at hSw); first | (go_simp; done) | (go_simp; with_reducible rfl)))
          try simp only [Act.put, List.setIfInBounds_toArray, List.set_cons_zero, List.set_cons_succ]
          refine held_take (i := 2) (v := ?_) rfl (by kernel_rfl) (by kernel_rfl) (by kernel_rfl) (fun _ _ _ h => h) (by rfl) (fun w hSw => ?_) (by assumption) ?_; rotate_left 1; focus (((try dsimp only at hSw); first | (go_simp; done) | (go_simp; with_reducible rfl)))
          try simp only [Act.put, List.setIfInBounds_toArray, List.set_cons_zero, List.set_cons_succ]
          refine held_take (i := 3) (v := ?_) rfl (by kernel_rfl) (by kernel_rfl) (by kernel_rfl) (fun _ _ _ h => h) (by rfl) (fun w hSw => ?_) (by assumption) ?_; rotate_left 1; focus (((try dsimp only at hSw); first | (go_simp; done) | (go_simp; with_reducible rfl)))
          try simp only [Act.put, List.setIfInBounds_toArray, List.set_cons_zero, List.set_cons_succ]
          refine held_take (i := 4) (v := ?_) rfl (by kernel_rfl) (by kernel_rfl) (by kernel_rfl) (fun _ _ _ h => h) (by rfl) (fun w hSw => ?_) (by assumption) ?_; rotate_left 1; focus (((try dsimp only at hSw); first | (go_simp; done) | (go_simp; with_reducible rfl)))
          try simp only [Act.put, List.setIfInBounds_toArray, List.set_cons_zero, List.set_cons_succ]
          refine held_take (i := 5) (v := ?_) rfl (by kernel_rfl) (by kernel_rfl) (by kernel_rfl) (fun _ _ _ h => h) (by rfl) (fun w hSw => ?_) (by assumption) ?_; rotate_left 1; focus (((try dsimp only at hSw); first | (go_simp; done) | (go_simp; with_reducible rfl)))
          try simp only [Act.put, List.setIfInBounds_toArray, List.set_cons_zero, List.set_cons_succ]
          refine held_take (i := 6) (v := ?_) rfl (by kernel_rfl) (by kernel_rfl) (by kernel_rfl) (fun _ _ _ h => h) (by rfl) (fun w hSw => ?_) (by assumption) ?_; rotate_left 1; focus (((try dsimp only at hSw); first | (go_simp; done) | (go_simp; with_reducible rfl)))
          try simp only [Act.put, List.setIfInBounds_toArray, List.set_cons_zero, List.set_cons_succ]
          refine held_take (i := 7) (v := ?_) rfl (by kernel_rfl) (by kernel_rfl) (by kernel_rfl) (fun _ _ _ h => h) (by rfl) (fun w hSw => ?_) (by assumption) ?_; rotate_left 1; focus (((try dsimp only at hSw); first | (go_simp; done) | (go_simp; with_reducible rfl)))
          try simp only [Act.put, List.setIfInBounds_toArray, List.set_cons_zero, List.set_cons_succ]
          refine held_take (i := 8) (v := ?_) rfl (by kernel_rfl) (by kernel_rfl) (by kernel_rfl) (fun _ _ _ h => h) (by rfl) (fun w hSw => ?_) (by assumption) ?_; rotate_left 1; focus (((try dsimp only at hSw); first | (go_simp; done) | (go_simp; with_reducible rfl)))
          try simp only [Act.put, List.setIfInBounds_toArray, List.set_cons_zero, List.set_cons_succ]
          refine held_two (i := 9) (j := 13) (by kernel_rfl) rfl rfl (by rfl) (by rfl) (fun K hK => ?_) (fun K hK => ?_)
          · go_simp
            (go_at_call 33; ((with_reducible refine (VC.out _ hHeld.2.out.bel).mono ?_); rintro e w5 ⟨rfl, hb5⟩))
            have I5 := Lib.hid (hHeld.2.out.grow hb5)
            clear hHeld hb5
            refine hK.out _ _ (I5.out.s) (fun hHeld => ?_)
            try simp only [Act.put, List.setIfInBounds_toArray, List.set_cons_zero, List.set_cons_succ]
            refine held_take (i := 10) (v := ?_) rfl (by kernel_rfl) (by kernel_rfl) (by kernel_rfl) (fun _ _ _ h => h) (by rfl) (fun w hSw => ?_) (by assumption) ?_; rotate_left 1; focus (((try dsimp only at hSw); first | (go_simp; done) | (go_simp; with_reducible rfl)))
            try simp only [Act.put, List.setIfInBounds_toArray, List.set_cons_zero, List.set_cons_succ]
            refine held_take (i := 11) (v := ?_) rfl (by kernel_rfl) (by kernel_rfl) (by kernel_rfl) (fun _ _ _ h => h) (by rfl) (fun w hSw => ?_) (by assumption) ?_; rotate_left 1; focus (((try dsimp only at hSw); first | (go_simp; done) | (go_simp; with_reducible rfl)))
            try simp only [Act.put, List.setIfInBounds_toArray, List.set_cons_zero, List.set_cons_succ]
            refine held_take (i := 12) (v := ?_) rfl (by kernel_rfl) (by kernel_rfl) (by kernel_rfl) (fun _ _ _ h => h) (by rfl) (fun w hSw => ?_) (by assumption) ?_; rotate_left 1; focus (((try dsimp only at hSw); first | (go_simp; done) | (go_simp; with_reducible rfl)))
            try simp only [Act.put, List.setIfInBounds_toArray, List.set_cons_zero, List.set_cons_succ]
            refine held_call (i := 13) (by kernel_rfl) rfl (by rfl) (fun K hK => ?_)
            go_simp
            have I6 := Lib.hid (I5.out.grow (below_alloc w5 (.cells #[.string ⟨#[]⟩, .int .u64 0, .int .i64 0, .string ⟨#[]⟩] 43)))
            refine hK.out _ _ (I6.out.s) (fun hHeld => ?_)
            try simp only [Act.put, List.setIfInBounds_toArray, List.set_cons_zero, List.set_cons_succ]
            refine held_call (i := 14) (by kernel_rfl) rfl (by rfl) (fun K hK => ?_)
            go_simp
            refine hK.out _ _ ((I5.out.grow (below_alloc w5 _)).s) (fun hHeld => ?_)
            try simp only [Act.put, List.setIfInBounds_toArray, List.set_cons_zero, List.set_cons_succ]
            refine held_take (i := 15) (v := ?_) rfl (by kernel_rfl) (by kernel_rfl) (by kernel_rfl) (fun _ _ _ h => h) (by rfl) (fun w hSw => ?_) (by assumption) ?_; rotate_left 1; focus (((try dsimp only at hSw); first | (go_simp; done) | (go_simp; with_reducible rfl)))
            try simp only [Act.put, List.setIfInBounds_toArray, List.set_cons_zero, List.set_cons_succ]
            refine wpAnyH_done (by kernel_rfl) ?_ _
            go_wp2_with fail
            go_meet
            exact ⟨rfl, _, rfl, RowAt.new zeroR w5, hHeld.2.out.row, hHeld.2.out.bel⟩
          · go_simp
            have I5 := Lib.hid (hHeld.2.out.grow (below_alloc _ (.cells #[.string ⟨#[]⟩, .int .u64 0, .int .i64 0, .string ⟨#[]⟩] 43)))
            have Z5 := Lib.hid (show RowAt V.heap.size zeroR (V.drew.alloc (.cells #[.string ⟨#[]⟩, .int .u64 0, .int .i64 0, .string ⟨#[]⟩] 43)) from RowAt.new zeroR V.drew)
            refine hK.out _ _ (I5.out.s) (fun hHeld => ?_)
            try simp only [Act.put, List.setIfInBounds_toArray, List.set_cons_zero, List.set_cons_succ]
            refine held_call (i := 9) (by kernel_rfl) rfl (by rfl) (fun K hK => ?_)
            go_simp
            (go_at_call 33; ((with_reducible refine (VC.out _ hHeld.2.out.bel).mono ?_); rintro e w5 ⟨rfl, hb5⟩))
            have I6 := Lib.hid (hHeld.2.out.grow hb5)
            have Z6 := Lib.hid (Z5.out.below hb5)
            clear hHeld hb5 I5 Z5
            obtain ⟨⟨v0, v1, v2, v3⟩, v4⟩ := Z6.out.cells
            refine hK.out _ _ (I6.out.s) (fun hHeld => ?_)
            try simp only [Act.put, List.setIfInBounds_toArray, List.set_cons_zero, List.set_cons_succ]
            refine held_take (i := 10) (v := ?_) rfl (by kernel_rfl) (by kernel_rfl) (by kernel_rfl) (fun _ _ _ h => h) (by rfl) (fun w hSw => ?_) (by assumption) ?_; rotate_left 1; focus (((try dsimp only at hSw); first | (go_simp; done) | (go_simp; with_reducible rfl)))
            try simp only [Act.put, List.setIfInBounds_toArray, List.set_cons_zero, List.set_cons_succ]
            refine held_take (i := 11) (v := ?_) rfl (by kernel_rfl) (by kernel_rfl) (by kernel_rfl) (fun _ _ _ h => h) (by rfl) (fun w hSw => ?_) (by assumption) ?_; rotate_left 1; focus (((try dsimp only at hSw); first | (go_simp; done) | (go_simp; with_reducible rfl)))
            try simp only [Act.put, List.setIfInBounds_toArray, List.set_cons_zero, List.set_cons_succ]
            refine held_take (i := 12) (v := ?_) rfl (by kernel_rfl) (by kernel_rfl) (by kernel_rfl) (fun _ _ _ h => h) (by rfl) (fun w hSw => ?_) (by assumption) ?_; rotate_left 1; focus (((try dsimp only at hSw); first | (go_simp; done) | (go_simp; with_reducible rfl)))
            try simp only [Act.put, List.setIfInBounds_toArray, List.set_cons_zero, List.set_cons_succ]
            refine held_call (i := 14) (by kernel_rfl) rfl (by rfl) (fun K hK => ?_)
            go_simp
            refine hK.out _ _ ((I6.out.set4 Z6.out hsz3 gn3.out zeroR).s) (fun hHeld => ?_)
            try simp only [Act.put, List.setIfInBounds_toArray, List.set_cons_zero, List.set_cons_succ]
            refine held_take (i := 15) (v := ?_) rfl (by kernel_rfl) (by kernel_rfl) (by kernel_rfl) (fun _ _ _ h => h) (by rfl) (fun w hSw => ?_) (by assumption) ?_; rotate_left 1; focus (((try dsimp only at hSw); first | (go_simp; done) | (go_simp; with_reducible rfl)))
            try simp only [Act.put, List.setIfInBounds_toArray, List.set_cons_zero, List.set_cons_succ]
            refine wpAnyH_done (by kernel_rfl) ?_ _
            go_wp2_with fail
            go_meet
            exact ⟨rfl, _, rfl, RowAt.set4 Z6.out zeroR, hHeld.2.out.row, hHeld.2.out.bel⟩
        case rest =>
          obtain ⟨rfl, g, rfl, rg, X5, B5⟩ := hcut
          obtain ⟨⟨y0, y1, y2, y3⟩, _⟩ := rg.cells
          obtain ⟨⟨u0, u1, u2, u3⟩, _⟩ := X5.cells
          have B5 := Lib.hid B5
          clear VC rg X5
          have tj : Hid (thr R xk xs = false) := Lib.hid (by rw [thr_get, hg.out])
          go_wp2_with fail
          go_roundw
          case rel => exact ⟨j + 1, by omega, by go_num, fun m y hm hy => by
            by_cases hmj : m < j
            · exact hfr.out m y hmj hy
            · obtain rfl : m = j := by omega
              rw [hx.out] at hy
              cases hy
              exact tj.out, B5.out⟩
          case measure => simp [intOf]; omega
      | some y =>
        obtain ⟨yk, ys, yi, yv⟩ := y
        replace hg := Lib.hid hg
        have VC : Hid (∀ u, Below w3.heap.size w3 u → Calls Try.prog 33 #[.func (.func 34) #[.pointer (some ⟨L, 0, none⟩)] #[], .string xk, .int .u64 (xs : Int)] u fun e w' => e = .returned (.tuple #[.agg #[.string yk, .int .u64 (ys : Int), .int .i64 yi, .string yv], .bool true]) ∧ Below u.heap.size u w') := Lib.hid fun u hu => (VE.out u (below_of B3.out hu)).mono fun e w' hp => ⟨by rw [hp.1, hg.out]; rfl, hp.2⟩
        go_cut [11, 12] from 38 to 50 (fun r ok wc => ok = .bool true ∧ ∃ g, r = .pointer (some ⟨g, 0, none⟩) ∧ RowAt g ⟨yk, ys, yi, yv⟩ wc ∧ RowAt wr.heap.size ⟨xk, xs, xi, xv⟩ wc ∧ Below w3.heap.size w3 wc)
        case first =>
          refine wp_region_held_drew (S := (fun v => (v.cell? ⟨p, 0, none⟩ = some (.pointer (some ⟨L, 0, none⟩)) ∧ v.cell? ⟨wr.heap.size, 0, none⟩ = some (.string xk) ∧ v.cell? ⟨wr.heap.size, 1, none⟩ = some (.int .u64 (xs : Int))) ∧ Hid (AdI w3 p L R wr.heap.size ⟨xk, xs, xi, xv⟩ v))) (by kernel_rfl) (I0.out.s) (fun hHeld => ?_)
          refine held_take (i := 0) (v := ?_) rfl (by kernel_rfl) (by kernel_rfl) (by kernel_rfl) (fun _ _ _ h => h) (by rfl) (fun w hSw => ?_) (by assumption) ?_; rotate_left 1; focus (((try dsimp only at hSw); first | (go_simp; done) | (go_simp; with_reducible rfl)))
          try simp only [Act.put, List.setIfInBounds_toArray, List.set_cons_zero, List.set_cons_succ]
          refine held_take (i := 1) (v := ?_) rfl (by kernel_rfl) (by kernel_rfl) (by kernel_rfl) (fun _ _ _ h => h) (by rfl) (fun w hSw => ?_) (by assumption) ?_; rotate_left 1; focus (((try dsimp only at hSw); first | (go_simp; done) | (go_simp; with_reducible rfl)))
          try simp only [Act.put, List.setIfInBounds_toArray, List.set_cons_zero, List.set_cons_succ]
          refine held_take (i := 2) (v := ?_) rfl (by kernel_rfl) (by kernel_rfl) (by kernel_rfl) (fun _ _ _ h => h) (by rfl) (fun w hSw => ?_) (by assumption) ?_; rotate_left 1; focus (((try dsimp only at hSw); first | (go_simp; done) | (go_simp; with_reducible rfl)))
          try simp only [Act.put, List.setIfInBounds_toArray, List.set_cons_zero, List.set_cons_succ]
          refine held_take (i := 3) (v := ?_) rfl (by kernel_rfl) (by kernel_rfl) (by kernel_rfl) (fun _ _ _ h => h) (by rfl) (fun w hSw => ?_) (by assumption) ?_; rotate_left 1; focus (((try dsimp only at hSw); first | (go_simp; done) | (go_simp; with_reducible rfl)))
          try simp only [Act.put, List.setIfInBounds_toArray, List.set_cons_zero, List.set_cons_succ]
          refine held_take (i := 4) (v := ?_) rfl (by kernel_rfl) (by kernel_rfl) (by kernel_rfl) (fun _ _ _ h => h) (by rfl) (fun w hSw => ?_) (by assumption) ?_; rotate_left 1; focus (((try dsimp only at hSw); first | (go_simp; done) | (go_simp; with_reducible rfl)))
          try simp only [Act.put, List.setIfInBounds_toArray, List.set_cons_zero, List.set_cons_succ]
          refine held_take (i := 5) (v := ?_) rfl (by kernel_rfl) (by kernel_rfl) (by kernel_rfl) (fun _ _ _ h => h) (by rfl) (fun w hSw => ?_) (by assumption) ?_; rotate_left 1; focus (((try dsimp only at hSw); first | (go_simp; done) | (go_simp; with_reducible rfl)))
          try simp only [Act.put, List.setIfInBounds_toArray, List.set_cons_zero, List.set_cons_succ]
          refine held_take (i := 6) (v := ?_) rfl (by kernel_rfl) (by kernel_rfl) (by kernel_rfl) (fun _ _ _ h => h) (by rfl) (fun w hSw => ?_) (by assumption) ?_; rotate_left 1; focus (((try dsimp only at hSw); first | (go_simp; done) | (go_simp; with_reducible rfl)))
          try simp only [Act.put, List.setIfInBounds_toArray, List.set_cons_zero, List.set_cons_succ]
          refine held_take (i := 7) (v := ?_) rfl (by kernel_rfl) (by kernel_rfl) (by kernel_rfl) (fun _ _ _ h => h) (by rfl) (fun w hSw => ?_) (by assumption) ?_; rotate_left 1; focus (((try dsimp only at hSw); first | (go_simp; done) | (go_simp; with_reducible rfl)))
          try simp only [Act.put, List.setIfInBounds_toArray, List.set_cons_zero, List.set_cons_succ]
          refine held_take (i := 8) (v := ?_) rfl (by kernel_rfl) (by kernel_rfl) (by kernel_rfl) (fun _ _ _ h => h) (by rfl) (fun w hSw => ?_) (by assumption) ?_; rotate_left 1; focus (((try dsimp only at hSw); first | (go_simp; done) | (go_simp; with_reducible rfl)))
          try simp only [Act.put, List.setIfInBounds_toArray, List.set_cons_zero, List.set_cons_succ]
          refine held_two (i := 9) (j := 13) (by kernel_rfl) rfl rfl (by rfl) (by rfl) (fun K hK => ?_) (fun K hK => ?_)
          · go_simp
            (go_at_call 33; ((with_reducible refine (VC.out _ hHeld.2.out.bel).mono ?_); rintro e w5 ⟨rfl, hb5⟩))
            have I5 := Lib.hid (hHeld.2.out.grow hb5)
            clear hHeld hb5
            refine hK.out _ _ (I5.out.s) (fun hHeld => ?_)
            try simp only [Act.put, List.setIfInBounds_toArray, List.set_cons_zero, List.set_cons_succ]
            refine held_take (i := 10) (v := ?_) rfl (by kernel_rfl) (by kernel_rfl) (by kernel_rfl) (fun _ _ _ h => h) (by rfl) (fun w hSw => ?_) (by assumption) ?_; rotate_left 1; focus (((try dsimp only at hSw); first | (go_simp; done) | (go_simp; with_reducible rfl)))
            try simp only [Act.put, List.setIfInBounds_toArray, List.set_cons_zero, List.set_cons_succ]
            refine held_take (i := 11) (v := ?_) rfl (by kernel_rfl) (by kernel_rfl) (by kernel_rfl) (fun _ _ _ h => h) (by rfl) (fun w hSw => ?_) (by assumption) ?_; rotate_left 1; focus (((try dsimp only at hSw); first | (go_simp; done) | (go_simp; with_reducible rfl)))
            try simp only [Act.put, List.setIfInBounds_toArray, List.set_cons_zero, List.set_cons_succ]
            refine held_take (i := 12) (v := ?_) rfl (by kernel_rfl) (by kernel_rfl) (by kernel_rfl) (fun _ _ _ h => h) (by rfl) (fun w hSw => ?_) (by assumption) ?_; rotate_left 1; focus (((try dsimp only at hSw); first | (go_simp; done) | (go_simp; with_reducible rfl)))
            try simp only [Act.put, List.setIfInBounds_toArray, List.set_cons_zero, List.set_cons_succ]
            refine held_call (i := 13) (by kernel_rfl) rfl (by rfl) (fun K hK => ?_)
            go_simp
            have I6 := Lib.hid (I5.out.grow (below_alloc w5 (.cells #[.string ⟨#[]⟩, .int .u64 0, .int .i64 0, .string ⟨#[]⟩] 43)))
            refine hK.out _ _ (I6.out.s) (fun hHeld => ?_)
            try simp only [Act.put, List.setIfInBounds_toArray, List.set_cons_zero, List.set_cons_succ]
            refine held_call (i := 14) (by kernel_rfl) rfl (by rfl) (fun K hK => ?_)
            go_simp
            refine hK.out _ _ ((I5.out.grow (below_alloc w5 _)).s) (fun hHeld => ?_)
            try simp only [Act.put, List.setIfInBounds_toArray, List.set_cons_zero, List.set_cons_succ]
            refine held_take (i := 15) (v := ?_) rfl (by kernel_rfl) (by kernel_rfl) (by kernel_rfl) (fun _ _ _ h => h) (by rfl) (fun w hSw => ?_) (by assumption) ?_; rotate_left 1; focus (((try dsimp only at hSw); first | (go_simp; done) | (go_simp; with_reducible rfl)))
            try simp only [Act.put, List.setIfInBounds_toArray, List.set_cons_zero, List.set_cons_succ]
            refine wpAnyH_done (by kernel_rfl) ?_ _
            go_wp2_with fail
            go_meet
            exact ⟨rfl, _, rfl, RowAt.new ⟨yk, ys, yi, yv⟩ w5, hHeld.2.out.row, hHeld.2.out.bel⟩
          · go_simp
            have I5 := Lib.hid (hHeld.2.out.grow (below_alloc _ (.cells #[.string ⟨#[]⟩, .int .u64 0, .int .i64 0, .string ⟨#[]⟩] 43)))
            have Z5 := Lib.hid (show RowAt V.heap.size zeroR (V.drew.alloc (.cells #[.string ⟨#[]⟩, .int .u64 0, .int .i64 0, .string ⟨#[]⟩] 43)) from RowAt.new zeroR V.drew)
            refine hK.out _ _ (I5.out.s) (fun hHeld => ?_)
            try simp only [Act.put, List.setIfInBounds_toArray, List.set_cons_zero, List.set_cons_succ]
            refine held_call (i := 9) (by kernel_rfl) rfl (by rfl) (fun K hK => ?_)
            go_simp
            (go_at_call 33; ((with_reducible refine (VC.out _ hHeld.2.out.bel).mono ?_); rintro e w5 ⟨rfl, hb5⟩))
            have I6 := Lib.hid (hHeld.2.out.grow hb5)
            have Z6 := Lib.hid (Z5.out.below hb5)
            clear hHeld hb5 I5 Z5
            obtain ⟨⟨v0, v1, v2, v3⟩, v4⟩ := Z6.out.cells
            refine hK.out _ _ (I6.out.s) (fun hHeld => ?_)
            try simp only [Act.put, List.setIfInBounds_toArray, List.set_cons_zero, List.set_cons_succ]
            refine held_take (i := 10) (v := ?_) rfl (by kernel_rfl) (by kernel_rfl) (by kernel_rfl) (fun _ _ _ h => h) (by rfl) (fun w hSw => ?_) (by assumption) ?_; rotate_left 1; focus (((try dsimp only at hSw); first | (go_simp; done) | (go_simp; with_reducible rfl)))
            try simp only [Act.put, List.setIfInBounds_toArray, List.set_cons_zero, List.set_cons_succ]
            refine held_take (i := 11) (v := ?_) rfl (by kernel_rfl) (by kernel_rfl) (by kernel_rfl) (fun _ _ _ h => h) (by rfl) (fun w hSw => ?_) (by assumption) ?_; rotate_left 1; focus (((try dsimp only at hSw); first | (go_simp; done) | (go_simp; with_reducible rfl)))
            try simp only [Act.put, List.setIfInBounds_toArray, List.set_cons_zero, List.set_cons_succ]
            refine held_take (i := 12) (v := ?_) rfl (by kernel_rfl) (by kernel_rfl) (by kernel_rfl) (fun _ _ _ h => h) (by rfl) (fun w hSw => ?_) (by assumption) ?_; rotate_left 1; focus (((try dsimp only at hSw); first | (go_simp; done) | (go_simp; with_reducible rfl)))
            try simp only [Act.put, List.setIfInBounds_toArray, List.set_cons_zero, List.set_cons_succ]
            refine held_call (i := 14) (by kernel_rfl) rfl (by rfl) (fun K hK => ?_)
            go_simp
            refine hK.out _ _ ((I6.out.set4 Z6.out hsz3 gn3.out ⟨yk, ys, yi, yv⟩).s) (fun hHeld => ?_)
            try simp only [Act.put, List.setIfInBounds_toArray, List.set_cons_zero, List.set_cons_succ]
            refine held_take (i := 15) (v := ?_) rfl (by kernel_rfl) (by kernel_rfl) (by kernel_rfl) (fun _ _ _ h => h) (by rfl) (fun w hSw => ?_) (by assumption) ?_; rotate_left 1; focus (((try dsimp only at hSw); first | (go_simp; done) | (go_simp; with_reducible rfl)))
            try simp only [Act.put, List.setIfInBounds_toArray, List.set_cons_zero, List.set_cons_succ]
            refine wpAnyH_done (by kernel_rfl) ?_ _
            go_wp2_with fail
            go_meet
            exact ⟨rfl, _, rfl, RowAt.set4 Z6.out ⟨yk, ys, yi, yv⟩, hHeld.2.out.row, hHeld.2.out.bel⟩
        case rest =>
          obtain ⟨rfl, g, rfl, rg, X5, B5⟩ := hcut
          obtain ⟨⟨y0, y1, y2, y3⟩, _⟩ := rg.cells
          obtain ⟨⟨u0, u1, u2, u3⟩, _⟩ := X5.cells
          have B5 := Lib.hid B5
          clear VC rg X5
          by_cases hq : ys = xs
          · have tj := Lib.hid (show thr R xk xs = true by rw [thr_get, hg.out]; simp [hq])
            have q1 : ((ys : Int) == (xs : Int)) = true := by rw [beq_iff_eq]; omega
            have q2 : (ys : Int) = (xs : Int) := by omega
            subst hq
            go_wp2_with fail
            go_returns
            rw [addR_taken hc.out (x := ⟨xk, ys, xi, xv⟩) (by rw [← hX.out]; exact List.mem_of_getElem? hx.out) tj.out, set_same hi.out]
            have B6 := below_of B3.out B5.out
            exact ⟨rfl, h.out.grow B6, ⟨B6.os, B6.tape, B6.output, B6.size, fun k hk' => B6.block k (Nat.lt_of_lt_of_le hk' hb.out)⟩, Else4.of_below B6 (Nat.le_refl _)⟩
          · have tj := Lib.hid (show thr R xk xs = false by rw [thr_get, hg.out]; simp [hq])
            have q1 : ((ys : Int) == (xs : Int)) = false := by rw [beq_eq_false_iff_ne]; omega
            have q2 : ¬ (ys : Int) = (xs : Int) := by omega
            go_wp2_with fail
            go_roundw
            case rel => exact ⟨j + 1, by omega, by go_num, fun m y hm hy => by
              by_cases hmj : m < j
              · exact hfr.out m y hmj hy
              · obtain rfl : m = j := by omega
                rw [hx.out] at hy
                cases hy
                exact tj.out, B5.out⟩
            case measure => simp [intOf]; omega
    · have hjN : j = N := by omega
      subst hjN
      have i1 : ¬ ((j : Int) < (j : Int)) := by omega
      have hfa : Hid (∀ x ∈ X, thr R x.key x.seq = false) := Lib.hid fun x hx => by
        obtain ⟨m, hm⟩ := List.getElem?_of_mem hx
        exact hfr.out m x (by have := (List.getElem?_eq_some_iff.1 hm).1; rw [hNX.out]; exact this) hm
      have hap : Hid (Apart (X ++ R)) := Lib.hid (by rw [hX.out]; exact free_apart hsort.out (by rw [← hX.out]; exact hfa.out))
      have hgood : Hid (addR R seq ws = (insAll R X, 0)) := Lib.hid (by rw [hX.out]; exact addR_good hc.out (by rw [← hX.out]; exact hfa.out))
      have Tw : Tb base (ts.set i (p, insAll R (X.take 0))) wr := by
        rw [List.take_zero, show insAll R [] = R from rfl, set_same hi.out]
        exact h.out.grow (below_of B3.out hB)
      have Bw : Below base w wr := (below_of B3.out hB).mono hb.out
      have Ew : Else4 w3 wr := Else4.of_below hB (Nat.le_refl _)
      have Sw : w3.heap.size ≤ wr.heap.size := hB.size
      have E3 : Hid (Else4 w w3) := Lib.hid (Else4.of_below B3.out (Nat.le_refl _))
      have Tw := Lib.hid Tw
      have Bw := Lib.hid Bw
      have Ew := Lib.hid Ew
      have Sw := Lib.hid Sw
      obtain ⟨N, hjN⟩ := named j
      rw [← hjN.out] at HR HT rcp hN64 hNX ⊢
      clear hB hj hlt i1 hfr hjN
      go_wp2_with fail
      go_loopw [62] (fun v wq => ∃ j : Nat, j ≤ N ∧ v = .int .i64 (j : Int) ∧ Tb base (ts.set i (p, insAll R (X.take j))) wq ∧ Below base w wq ∧ Else4 w3 wq ∧ w3.heap.size ≤ wq.heap.size) (fun v _ => N - (intOf v).toNat)
      case atStart => exact ⟨0, Nat.zero_le _, rfl, Tw.out, Bw.out, Ew.out, Sw.out⟩
      case round =>
        clear Tw Bw Ew Sw
        obtain ⟨j, hj, rfl, T0, B0, E0, S0⟩ := hrel
        by_cases hlt : j < N
        · obtain ⟨x, hx, rfl, x0, x1, x2, x3⟩ := (rs_else4 HR.out (fun h0 => ⟨_, (HT.out h0).2.choose_spec.1⟩) E0 S0).at4 hlt
          rw [Nat.zero_add] at x0 x1 x2 x3
          have hfree := insAll_free hsort.out hap.out hx
          have hlen : (insAll R (X.take j)).length ≤ 1000000 := by rw [insAll_len, List.length_take]; have := hX64.out; omega
          have hil := (List.getElem?_eq_some_iff.1 hi.out).1
          have IN := Lib.hid fun (H : Int) => tb_insert (T0.grow (below_alloc wr (.cells #[.string x.key, .int .u64 (x.seq : Int), .int .i64 x.kind, .string x.val] 43))) (by rw [World.size_alloc]; have := B0.size; have := hb.out; omega) (List.getElem?_set_self hil) hlen x (hshort.out x (List.mem_of_getElem? hx)) hfree.2 H
          obtain ⟨xk, xs, xi, xv⟩ := x
          simp only at x0 x1 x2 x3
          have hx := Lib.hid hx
          have T0 := Lib.hid T0
          have B0' := B0
          have E0' := E0
          have B0 := Lib.hid B0
          have E0 := Lib.hid E0
          have S0 := Lib.hid S0
          have i1 : (j : Int) < (N : Int) := by omega
          clear hfree hlen hil
          by_cases hh : j < n1
          · have i2 : (j : Int) < (n1 : Int) := by omega
            have sl := hk.out wr B0.out (Else4.trans E3.out E0.out B3.out.size)
            have hbl := (sl.addr (by omega)).2
            obtain ⟨H, hH, rfl, y0⟩ := num_at sl hh
            have y1 : (wr.alloc (.cells #[.string xk, .int .u64 (xs : Int), .int .i64 xi, .string xv] 43)).cell? ⟨b1, o1 + j, none⟩ = some (.int .i64 H) := ((below_alloc wr (.cells #[.string xk, .int .u64 (xs : Int), .int .i64 xi, .string xv] 43)).cell (p := ⟨b1, o1 + j, none⟩) hbl).trans y0
            have e1 : ¬ b1 = wr.heap.size := by omega
            clear sl
            clear B0' E0'
            go_wp2_with (go_at_call 35; ((with_reducible refine (IN.out _).mono ?_); rintro e w5 ⟨rfl, T5, B5, E5⟩; have T5 := Lib.hid T5; have B5 := Lib.hid B5; have E5 := Lib.hid E5; clear IN))
            go_roundw
            case rel => exact ⟨j + 1, by omega, by go_num, by have := T5.out; rw [List.set_set, take_next hx.out] at this; exact this, below_then B0.out (below_alloc _ _) hb.out B5.out, Else4.trans (Else4.trans E0.out (Else4.of_below (below_alloc _ _) (Nat.le_refl _)) S0.out) E5.out (by rw [World.size_alloc]; have := S0.out; omega), by have := B5.out.size; rw [World.size_alloc] at this; have := S0.out; omega⟩
            case measure => simp [intOf]; omega
          · have i2 : ¬ ((j : Int) < (n1 : Int)) := by omega
            clear B0' E0'
            go_wp2_with (go_at_call 35; ((with_reducible refine (IN.out _).mono ?_); rintro e w5 ⟨rfl, T5, B5, E5⟩; have T5 := Lib.hid T5; have B5 := Lib.hid B5; have E5 := Lib.hid E5; clear IN))
            go_roundw
            case rel => exact ⟨j + 1, by omega, by go_num, by have := T5.out; rw [List.set_set, take_next hx.out] at this; exact this, below_then B0.out (below_alloc _ _) hb.out B5.out, Else4.trans (Else4.trans E0.out (Else4.of_below (below_alloc _ _) (Nat.le_refl _)) S0.out) E5.out (by rw [World.size_alloc]; have := S0.out; omega), by have := B5.out.size; rw [World.size_alloc] at this; have := S0.out; omega⟩
            case measure => simp [intOf]; omega
        · have hjN : j = N := by omega
          have i1 : ¬ ((j : Int) < (N : Int)) := by omega
          have T0 := Lib.hid T0
          have B0 := Lib.hid B0
          have E0 := Lib.hid E0
          have S0 := Lib.hid S0
          have fin : Hid (X.take j = X) := Lib.hid (List.take_of_length_le (by have := hNX.out; omega))
          go_wp2_with fail
          go_returns
          rw [hgood.out]
          have := T0.out
          rw [fin.out] at this
          exact ⟨rfl, this, B0.out, Else4.trans E3.out E0.out B3.out.size⟩
theorem add_any {base : Nat} {ts : List (Nat × List Rw)} {w : World} (h : Tb base ts w) (hb : base ≤ w.heap.size) {i p : Nat} {R : List Rw} (hi : ts[i]? = some (p, R)) (hn : R.length ≤ 900000) {seq : Nat} {a : Option Addr} {n c b o : Nat} {ws : List Wr} (hw : Ws a n c b o ws w) {a1 : Option Addr} {n1 c1 b1 o1 : Nat} {hs : List Int}
    (hk : ∀ w', Below base w w' → Else4 w w' → SlOf 1 cellsI a1 n1 c1 b1 o1 hs w') :
    Calls Try.prog 12 #[.pointer (some ⟨p, 0, none⟩), batchV seq a n c, .slice a1 n1 c1] w fun e w' => e = .returned (.int .i64 (addR R seq ws).2) ∧ Tb base (ts.set i (p, (addR R seq ws).1)) w' ∧ Below base w w' ∧ Else4 w w' := by
  by_cases hc : chkB seq ws = 0
  · exact add_good h hb hi hn hw hk hc
  · exact (add_bad h hi hw _ hc).mono fun e w' hd => ⟨hd.1, hd.2.1, hd.2.2.mono hb, Else4.of_below hd.2.2 (Nat.le_refl _)⟩
end Go.Proofs.Ytdgbafpnfkedeaa
/-
  What a key has at a number, as the first row that fits; tables of batches whose numbers follow each other, added in any order. No condition.
-/
namespace Go.Proofs.Ytdgbafpnfkedeaa
set_option maxRecDepth 100000
open Go.RowKit
/-- Does a row tell of a key at a number? -/
def atR (k : ByteArray) (a : Nat) (x : Rw) : Bool := decide (x.key.toList = k.toList ∧ x.seq ≤ a)
theorem getR_find {R : List Rw} (hs : SortedR R) (k : ByteArray) (a : Nat) : getR R k a = R.find? (atR k a) := by
  have e : R.find? (atR k a) = (R.drop (plc R k a)).find? (atR k a) := by
    conv => lhs; rw [← List.take_append_drop (plc R k a) R]
    rw [List.find?_append]
    have : (R.take (plc R k a)).find? (atR k a) = none := by
      rw [List.find?_eq_none]
      intro x hx
      have h1 := plc_front hx
      unfold atR
      rw [decide_eq_true_eq]
      rintro ⟨h2, h3⟩
      unfold ahd at h1
      rw [if_pos h2, decide_eq_true_eq] at h1
      omega
    rw [this]; rfl
  rw [e]
  have hd : SortedR (R.drop (plc R k a)) := List.Pairwise.sublist (List.drop_sublist _ _) hs
  have hb := fun x hx => plc_back hs (k := k) (q := a) (x := x) hx
  unfold getR
  cases h : R.drop (plc R k a) with
  | nil => rfl
  | cons x r =>
    rw [h] at hd hb
    dsimp only
    have hx := hb x (List.mem_cons_self ..)
    unfold ahd at hx
    by_cases hk : x.key.toList = k.toList
    · rw [if_pos hk] at hx ⊢
      rw [decide_eq_false_iff_not] at hx
      rw [List.find?_cons, show atR k a x = true by unfold atR; rw [decide_eq_true_eq]; exact ⟨hk, by omega⟩]
    · rw [if_neg hk] at hx ⊢
      symm
      rw [List.find?_eq_none]
      intro y hy hp
      unfold atR at hp
      rw [decide_eq_true_eq] at hp
      rw [← less_before] at hx
      have hl := less_tot hx hk
      rcases List.mem_cons.1 hy with rfl | hy
      · exact hk hp.1
      · have := (List.pairwise_cons.1 (keys_up hd)).1 y hy
        rw [hp.1, hl] at this
        cases this
theorem getR_filter {R : List Rw} (hs : SortedR R) (k : ByteArray) (a : Nat) : getR R k a = (R.filter (atR k a)).head? := by rw [getR_find hs, List.head?_filter]
theorem getR_some {R : List Rw} (hs : SortedR R) {k : ByteArray} {a : Nat} {x : Rw} (h : getR R k a = some x) : x.key.toList = k.toList ∧ x.seq ≤ a := by
  rw [getR_find hs] at h
  have := List.find?_some h
  unfold atR at this
  rwa [decide_eq_true_eq] at this
/-- The number of a batch, where they follow each other from 1 on. -/
def seqAt (ls : List (List Wr)) (i : Nat) : Nat := 1 + ((ls.take i).map List.length).sum
def wrsAt (ls : List (List Wr)) (i : Nat) : List Wr := ls.getD i []
def batAt (ls : List (List Wr)) (i : Nat) : List Rw := rowsFrom (seqAt ls i) (wrsAt ls i)
def tabOf (ls : List (List Wr)) (is : List Nat) : List Rw := is.foldl (fun R i => (addR R (seqAt ls i) (wrsAt ls i)).1) []
theorem seqAt_succ (ls : List (List Wr)) {i : Nat} (hi : i < ls.length) : seqAt ls (i + 1) = seqAt ls i + (wrsAt ls i).length := by
  unfold seqAt wrsAt
  rw [List.take_add_one, List.getElem?_eq_getElem hi, List.getD_eq_getElem?_getD, List.getElem?_eq_getElem hi, List.map_append, List.sum_append]
  simp only [Option.toList_some, List.map_cons, List.map_nil, List.sum_cons, List.sum_nil, Option.getD_some]
  omega
theorem seqAt_mono (ls : List (List Wr)) : ∀ {i k : Nat}, i ≤ k → k ≤ ls.length → seqAt ls i ≤ seqAt ls k := by
  intro i k hik hk
  induction k with
  | zero => have : i = 0 := by omega
            subst this; exact Nat.le_refl _
  | succ k ih =>
    by_cases h : i = k + 1
    · subst h; exact Nat.le_refl _
    · have h1 := ih (by omega) (by omega)
      rw [seqAt_succ ls (by omega)]
      omega
theorem batAt_seq {ls : List (List Wr)} {i : Nat} (hi : i < ls.length) {x : Rw} (h : x ∈ batAt ls i) : seqAt ls i ≤ x.seq ∧ x.seq < seqAt ls (i + 1) := by
  obtain ⟨j, hj⟩ := List.getElem?_of_mem h
  have h1 := rowsFrom_seq hj
  have h2 := (List.getElem?_eq_some_iff.1 hj).1
  unfold batAt at h2
  rw [rowsFrom_len] at h2
  rw [seqAt_succ ls hi]
  omega
/-- All batches may be. -/
def GoodL (ls : List (List Wr)) : Prop := ∀ i, i < ls.length → chkB (seqAt ls i) (wrsAt ls i) = 0
theorem tabOf_snoc (ls : List (List Wr)) (is : List Nat) (i : Nat) : tabOf ls (is ++ [i]) = (addR (tabOf ls is) (seqAt ls i) (wrsAt ls i)).1 := by unfold tabOf; rw [List.foldl_append]; rfl
theorem tabOf_sorted (ls : List (List Wr)) (is : List Nat) : SortedR (tabOf ls is) := by
  suffices ∀ (is : List Nat) (R : List Rw), SortedR R → SortedR (is.foldl (fun R i => (addR R (seqAt ls i) (wrsAt ls i)).1) R) from this is [] List.Pairwise.nil
  intro is
  induction is with
  | nil => intro R h; exact h
  | cons v r ih => intro R h; exact ih _ (addR_sorted h _ _)
theorem tabOf_len (ls : List (List Wr)) (is : List Nat) : (tabOf ls is).length ≤ 64 * is.length := by
  suffices ∀ (is : List Nat) (R : List Rw), (is.foldl (fun R i => (addR R (seqAt ls i) (wrsAt ls i)).1) R).length ≤ R.length + 64 * is.length by have := this is []; simpa [tabOf] using this
  intro is
  induction is with
  | nil => intro R; simp
  | cons v r ih =>
    intro R
    rw [List.foldl_cons, List.length_cons]
    have := ih (addR R (seqAt ls v) (wrsAt ls v)).1
    have := addR_len R (seqAt ls v) (wrsAt ls v)
    omega
theorem tab_step {ls : List (List Wr)} (hg : GoodL ls) {is : List Nat} (hp : (tabOf ls is).Perm (is.flatMap (batAt ls))) (hb : ∀ k ∈ is, k < ls.length) {i : Nat} (hi : i < ls.length) (hn : i ∉ is) :
    addR (tabOf ls is) (seqAt ls i) (wrsAt ls i) = (insAll (tabOf ls is) (batAt ls i), 0) := by
  refine addR_good (hg i hi) fun x hx => thr_free (tabOf_sorted ls is) fun y hy hs => ?_
  obtain ⟨k, hk, hyk⟩ := List.mem_flatMap.1 (hp.mem_iff.1 hy)
  have h1 := batAt_seq hi (x := x) hx
  have h2 := batAt_seq (hb k hk) hyk
  have h3 := hs.2
  have hne : i ≠ k := fun e => hn (e ▸ hk)
  have hkl := hb k hk
  rcases Nat.lt_or_gt_of_ne hne with h | h
  · have := seqAt_mono ls (i := i + 1) (k := k) (by omega) (by omega); omega
  · have := seqAt_mono ls (i := k + 1) (k := i) (by omega) (by omega); omega
theorem tab_perm {ls : List (List Wr)} (hg : GoodL ls) : ∀ (is : List Nat), is.Nodup → (∀ k ∈ is, k < ls.length) → (tabOf ls is).Perm (is.flatMap (batAt ls)) := by
  intro is
  suffices ∀ (js : List Nat) (is : List Nat), is = js.reverse → is.Nodup → (∀ k ∈ is, k < ls.length) → (tabOf ls is).Perm (is.flatMap (batAt ls)) from this is.reverse is (by simp)
  intro js
  induction js with
  | nil => intro is e _ _; subst e; exact List.Perm.refl _
  | cons i r ih =>
    intro is e hnd hb
    subst e
    rw [List.reverse_cons] at *
    rw [List.nodup_append] at hnd
    have hb' : ∀ k ∈ r.reverse, k < ls.length := fun k hk => hb k (List.mem_append_left _ hk)
    have hp := ih r.reverse rfl hnd.1 hb'
    have hi : i ∉ r.reverse := fun h => hnd.2.2 i h i (by simp) rfl
    rw [tabOf_snoc, tab_step hg hp hb' (hb i (by simp)) hi, List.flatMap_append]
    refine (insAll_perm _ _).trans ?_
    refine (List.perm_append_comm).trans ?_
    refine List.Perm.append hp ?_
    simp
/-- The same batches, the other way round. -/
theorem tab_back {ls : List (List Wr)} (hg : GoodL ls) {m : Nat} (hm : m ≤ ls.length) : tabOf ls (List.range m).reverse = tabOf ls (List.range m) := by
  have hb : ∀ k ∈ List.range m, k < ls.length := fun k hk => by have := List.mem_range.1 hk; omega
  refine sorted_unique (tabOf_sorted _ _) (tabOf_sorted _ _) ?_
  refine (tab_perm hg _ ((List.reverse_perm _).nodup_iff.2 List.nodup_range) (fun k hk => hb k (List.mem_reverse.1 hk))).trans ?_
  refine List.Perm.trans ?_ (tab_perm hg _ List.nodup_range hb).symm
  exact List.Perm.flatMap_right _ (List.reverse_perm _)
theorem tab_at {ls : List (List Wr)} (hg : GoodL ls) {n m : Nat} (hn : n ≤ m) (hm : m ≤ ls.length) (k : ByteArray) : getR (tabOf ls (List.range m)) k (seqAt ls n - 1) = getR (tabOf ls (List.range n)) k (seqAt ls n - 1) := by
  rw [getR_filter (tabOf_sorted _ _), getR_filter (tabOf_sorted _ _)]
  congr 1
  refine sorted_unique ((tabOf_sorted _ _).filter _) ((tabOf_sorted _ _).filter _) ?_
  have h1 := (tab_perm hg _ (List.nodup_range (n := m)) (fun k hk => by have := List.mem_range.1 hk; omega)).filter (atR k (seqAt ls n - 1))
  have h2 := (tab_perm hg _ (List.nodup_range (n := n)) (fun k hk => by have := List.mem_range.1 hk; omega)).filter (atR k (seqAt ls n - 1))
  refine h1.trans (List.Perm.trans ?_ h2.symm)
  obtain ⟨d, rfl⟩ : ∃ d, m = n + d := ⟨m - n, by omega⟩
  rw [List.range_add, List.flatMap_append, List.filter_append]
  have : (((List.range d).map (n + ·)).flatMap (batAt ls)).filter (atR k (seqAt ls n - 1)) = [] := by
    rw [List.filter_eq_nil_iff]
    intro x hx hp
    obtain ⟨i, hi, hxi⟩ := List.mem_flatMap.1 hx
    obtain ⟨j, hj, rfl⟩ := List.mem_map.1 hi
    have hjd := List.mem_range.1 hj
    have h1 := batAt_seq (i := n + j) (by omega) hxi
    have h2 := seqAt_mono ls (i := n) (k := n + j) (by omega) (by omega)
    have h3 : 1 ≤ seqAt ls n := by unfold seqAt; omega
    unfold atR at hp
    rw [decide_eq_true_eq] at hp
    omega
  rw [this, List.append_nil]
theorem tab_top {ls : List (List Wr)} (hg : GoodL ls) {n : Nat} (hn : n ≤ ls.length) (k : ByteArray) (a : Nat) (ha : seqAt ls n - 1 ≤ a) : getR (tabOf ls (List.range n)) k a = getR (tabOf ls (List.range n)) k (seqAt ls n - 1) := by
  rw [getR_filter (tabOf_sorted _ _), getR_filter (tabOf_sorted _ _)]
  congr 1
  refine List.filter_congr fun x hx => ?_
  obtain ⟨i, hi, hxi⟩ := List.mem_flatMap.1 ((tab_perm hg _ List.nodup_range (fun k hk => by have := List.mem_range.1 hk; omega)).mem_iff.1 hx)
  have hin := List.mem_range.1 hi
  have h1 := batAt_seq (i := i) (by omega) hxi
  have h2 := seqAt_mono ls (i := i + 1) (k := n) (by omega) (by omega)
  unfold atR
  congr 1
  exact propext ⟨fun h => ⟨h.1, by omega⟩, fun h => ⟨h.1, by omega⟩⟩
end Go.Proofs.Ytdgbafpnfkedeaa
/-
  The answer that the document fixes (awake). No condition.
-/
namespace Go.Proofs.Ytdgbafpnfkedeaa
set_option maxRecDepth 100000
open Go.RowKit
def ra1 : Rw := ⟨⟨#[97]⟩, 1, 1, ⟨#[120]⟩⟩
def rb2 : Rw := ⟨⟨#[98]⟩, 2, 1, ⟨#[121]⟩⟩
def ra3 : Rw := ⟨⟨#[97]⟩, 3, 2, ⟨#[]⟩⟩
def awA : List Wr := [⟨1, ⟨#[97]⟩, ⟨#[120]⟩⟩, ⟨1, ⟨#[98]⟩, ⟨#[121]⟩⟩]
def awB : List Wr := [⟨2, ⟨#[97]⟩, ⟨#[]⟩⟩]
theorem mw1 : addR [] 1 awA = ([ra1, rb2], 0) := by
  have h : rowsFrom 1 awA = [ra1, rb2] := rfl
  unfold addR
  rw [h]
  simp [insAll, thr, insR, plc, ahd, ra1, rb2, awA, Lib.toList_data, bytesBefore]
  decide
theorem mw2 : addR [ra1, rb2] 3 awB = ([ra3, ra1, rb2], 0) := by
  have h : rowsFrom 3 awB = [ra3] := rfl
  unfold addR
  rw [h]
  simp [insAll, thr, insR, plc, ahd, ra1, rb2, ra3, awB, Lib.toList_data]
  decide
theorem mw3 : getR [ra3, ra1, rb2] ⟨#[97]⟩ 2 = some ra1 := by
  simp [getR, plc, ahd, ra1, rb2, ra3, Lib.toList_data]
theorem mw4 : roomR [ra3, ra1, rb2] = 53 ∧ lsR [ra3, ra1, rb2] = 1 ∧ grR [ra3, ra1, rb2] = 3 := by decide
theorem ws_A (g : Nat) (V : World) (hV : V.heap[g]? = some (.cells #[.int .i64 1, .string ⟨#[97]⟩, .string ⟨#[120]⟩, .int .i64 1, .string ⟨#[98]⟩, .string ⟨#[121]⟩] 41 (0, 0))) : Ws (some ⟨g, 0, none⟩) 2 2 g 0 awA V := by
  refine ⟨rfl, Nat.le_refl _, by omega, fun _ => ⟨rfl, (Array.getElem?_eq_some_iff.1 hV).1⟩, fun j x hx => ?_, fun x hx => ?_⟩
  · match j, hx with
    | 0, hx => cases hx; exact ⟨by simp [World.cell?, hV], by simp [World.cell?, hV], by simp [World.cell?, hV]⟩
    | 1, hx => cases hx; exact ⟨by simp [World.cell?, hV], by simp [World.cell?, hV], by simp [World.cell?, hV]⟩
  · unfold awA at hx
    simp only [List.mem_cons, List.not_mem_nil, or_false] at hx
    rcases hx with rfl | rfl <;> exact ⟨by decide, by decide⟩
theorem ws_B (g : Nat) (V : World) (hV : V.heap[g]? = some (.cells #[.int .i64 2, .string ⟨#[97]⟩, .string ⟨#[]⟩] 41 (0, 0))) : Ws (some ⟨g, 0, none⟩) 1 1 g 0 awB V := by
  refine ⟨rfl, Nat.le_refl _, by omega, fun _ => ⟨rfl, (Array.getElem?_eq_some_iff.1 hV).1⟩, fun j x hx => ?_, fun x hx => ?_⟩
  · match j, hx with
    | 0, hx => cases hx; exact ⟨by simp [World.cell?, hV], by simp [World.cell?, hV], by simp [World.cell?, hV]⟩
  · unfold awB at hx
    simp only [List.mem_cons, List.not_mem_nil, or_false] at hx
    rcases hx with rfl
    exact ⟨by decide, by decide⟩
/-- A slice of ints that nobody handed over. -/
theorem sl_nil (w : World) : SlOf 1 cellsI none 0 0 0 0 [] w := ⟨rfl, Nat.le_refl _, by omega, fun h => absurd h (by omega), fun j x hx => by simp at hx⟩
theorem sl_one (g : Nat) (x : Int) {V : World} (hV : V.heap[g]? = some (.cells #[.int .i64 x] 3 (0, 0))) {w' : World} (he : Else4 V w') (hs : V.heap.size ≤ w'.heap.size) : SlOf 1 cellsI (some ⟨g, 0, none⟩) 1 1 g 0 [x] w' := by
  have hV' : w'.heap[g]? = some (.cells #[.int .i64 x] 3 (0, 0)) := (typed_else4 he hV (by decide) (by decide) (by decide)).trans hV
  refine ⟨rfl, Nat.le_refl _, by omega, fun _ => ⟨rfl, (Array.getElem?_eq_some_iff.1 hV').1⟩, fun j y hy m u hu => ?_⟩
  match j, hy with
  | 0, hy =>
    cases hy
    match m, hu with
    | 0, hu => cases hu; simp [World.cell?, hV']
set_option maxRecDepth 100000 in
set_option maxHeartbeats 4000000 in
theorem awake_mem (w : World) : Calls Try.prog 9 #[] w fun e w' => e = .returned (.bool true) ∧ Below w.heap.size w w' := by
  have NW := Lib.hid (new_tb (Tb.nil w.heap.size w) (Nat.le_refl _))
  go_enter Try.func9, Try.ntmps9
  go_upto_region 2 with (go_at_call 10; ((with_reducible refine NW.out.mono ?_); rintro e w1 ⟨p, rfl, T1, B1⟩; have T1 := Lib.hid T1; have B1 := Lib.hid B1; clear NW))
  have S1 := B1.out.size
  have A1 := add_any (T1.out.grow (below_alloc w1 (.cells #[.int .i64 1, .string ⟨#[97]⟩, .string ⟨#[120]⟩, .int .i64 1, .string ⟨#[98]⟩, .string ⟨#[121]⟩] 41))) (by rw [World.size_alloc]; omega) (i := 0) (p := p) (R := []) rfl (by simp) (seq := 1) (ws_A w1.heap.size _ (heap_alloc_new _ _)) (fun w' _ _ => sl_nil w')
  rw [mw1] at A1
  have A1 : Hid (Calls Try.prog 12 #[.pointer (some ⟨p, 0, none⟩), .agg #[.int .u64 1, .slice (some ⟨w1.heap.size, 0, none⟩) 2 2], .slice none 0 0] (w1.alloc (.cells #[.int .i64 1, .string ⟨#[97]⟩, .string ⟨#[120]⟩, .int .i64 1, .string ⟨#[98]⟩, .string ⟨#[121]⟩] 41)) fun e w' => e = .returned (.int .i64 0) ∧ Tb w.heap.size [(p, [ra1, rb2])] w' ∧ Below w.heap.size (w1.alloc (.cells #[.int .i64 1, .string ⟨#[97]⟩, .string ⟨#[120]⟩, .int .i64 1, .string ⟨#[98]⟩, .string ⟨#[121]⟩] 41)) w') := Lib.hid (A1.mono fun e w' h => ⟨h.1, h.2.1, h.2.2.1⟩)
  go_upto_region 3 with (go_at_call 12; ((with_reducible refine A1.out.mono ?_); rintro e w2 ⟨rfl, T2, B2⟩; have T2 := Lib.hid T2; have B2 := Lib.hid ((B1.out.trans ((below_alloc w1 (.cells #[.int .i64 1, .string ⟨#[97]⟩, .string ⟨#[120]⟩, .int .i64 1, .string ⟨#[98]⟩, .string ⟨#[121]⟩] 41)).mono S1)).trans B2); clear A1))
  have S2 := B2.out.size
  clear T1 B1 S1
  have A2 := add_any (T2.out.grow (below_of (below_alloc w2 (.cells #[.int .i64 2, .string ⟨#[97]⟩, .string ⟨#[]⟩] 41)) (below_alloc _ (.cells #[.int .i64 5] 3)))) (by rw [World.size_alloc, World.size_alloc]; omega) (i := 0) (p := p) (R := [ra1, rb2]) rfl (by simp) (seq := 3) (ws_B w2.heap.size _ (((below_alloc (w2.alloc (.cells #[.int .i64 2, .string ⟨#[97]⟩, .string ⟨#[]⟩] 41)) (.cells #[.int .i64 5] 3)).block _ (by rw [World.size_alloc]; omega)).trans (heap_alloc_new w2 (.cells #[.int .i64 2, .string ⟨#[97]⟩, .string ⟨#[]⟩] 41)))) (fun w' hb he => sl_one (w2.heap.size + 1) 5 (V := (w2.alloc (.cells #[.int .i64 2, .string ⟨#[97]⟩, .string ⟨#[]⟩] 41)).alloc (.cells #[.int .i64 5] 3)) (by have := heap_alloc_new (w2.alloc (.cells #[.int .i64 2, .string ⟨#[97]⟩, .string ⟨#[]⟩] 41)) (.cells #[.int .i64 5] 3); rw [World.size_alloc] at this; exact this) he hb.size)
  rw [mw2] at A2
  have A2 : Hid (Calls Try.prog 12 #[.pointer (some ⟨p, 0, none⟩), .agg #[.int .u64 3, .slice (some ⟨w2.heap.size, 0, none⟩) 1 1], .slice (some ⟨w2.heap.size + 1, 0, none⟩) 1 1] ((w2.alloc (.cells #[.int .i64 2, .string ⟨#[97]⟩, .string ⟨#[]⟩] 41)).alloc (.cells #[.int .i64 5] 3)) fun e w' => e = .returned (.int .i64 0) ∧ Tb w.heap.size [(p, [ra3, ra1, rb2])] w' ∧ Below w.heap.size ((w2.alloc (.cells #[.int .i64 2, .string ⟨#[97]⟩, .string ⟨#[]⟩] 41)).alloc (.cells #[.int .i64 5] 3)) w') := Lib.hid (A2.mono fun e w' h => ⟨h.1, h.2.1, h.2.2.1⟩)
  go_upto_region 4 with (go_at_call 12; ((with_reducible refine A2.out.mono ?_); rintro e w3 ⟨rfl, T3, B3⟩; have T3 := Lib.hid T3; have B3 := Lib.hid ((B2.out.trans ((below_of (below_alloc w2 (.cells #[.int .i64 2, .string ⟨#[97]⟩, .string ⟨#[]⟩] 41)) (below_alloc _ (.cells #[.int .i64 5] 3))).mono S2)).trans B3); clear A2))
  have S3 := B3.out.size
  clear T2 B2 S2
  have G3 := get_any (T3.out.q (i := 0) rfl (by simp)) ⟨#[97]⟩ 2
  rw [mw3] at G3
  have G3 : Hid (Calls Try.prog 14 #[.pointer (some ⟨p, 0, none⟩), .string ⟨#[97]⟩, .int .u64 2] w3 fun e w' => e = .returned (.tuple #[.agg #[.string ⟨#[97]⟩, .int .u64 1, .int .i64 1, .string ⟨#[120]⟩], .bool true]) ∧ Below w3.heap.size w3 w') := Lib.hid G3
  go_upto_region 5 with (go_at_call 14; ((with_reducible refine G3.out.mono ?_); rintro e w4 ⟨rfl, B4⟩; have B4 := Lib.hid B4; clear G3))
  have K4 : Hid (∀ o, TabQ (some ⟨p, 0, none⟩) [ra3, ra1, rb2] (w4.alloc o)) := Lib.hid fun o => (T3.out.grow (below_of B4.out (below_alloc w4 o))).q (i := 0) rfl (by simp)
  have RM : Hid (∀ o, Calls Try.prog 24 #[.pointer (some ⟨p, 0, none⟩)] (w4.alloc o) fun e w' => e = .returned (.int .i64 53) ∧ w' = w4.alloc o) := Lib.hid fun o => by have := room_any (K4.out o); rw [mw4.1] at this; exact this
  have LM : Hid (∀ o, Calls Try.prog 26 #[.pointer (some ⟨p, 0, none⟩)] (w4.alloc o) fun e w' => e = .returned (.int .u64 1) ∧ w' = w4.alloc o) := Lib.hid fun o => by have := least_any (K4.out o); rw [mw4.2.1] at this; exact this
  have GM : Hid (∀ o, Calls Try.prog 27 #[.pointer (some ⟨p, 0, none⟩)] (w4.alloc o) fun e w' => e = .returned (.int .u64 3) ∧ w' = w4.alloc o) := Lib.hid fun o => by have := greatest_any (K4.out o); rw [mw4.2.2] at this; exact this
  clear K4 T3
  go_wp2_with (first
    | (go_at_call 24; ((with_reducible refine (RM.out _).mono ?_); rintro e w5 ⟨rfl, rfl⟩))
    | (go_at_call 26; ((with_reducible refine (LM.out _).mono ?_); rintro e w5 ⟨rfl, rfl⟩))
    | (go_at_call 27; ((with_reducible refine (GM.out _).mono ?_); rintro e w5 ⟨rfl, rfl⟩))
    | fail "no arm")
  go_returns
  exact ⟨rfl, (B3.out.trans (B4.out.mono S3)).trans ((below_alloc w4 _).mono (by have := B4.out.size; omega))⟩
end Go.Proofs.Ytdgbafpnfkedeaa
/-
  'append(a, b...)': a the call's own row, b another row, nil or not: one law for whatever element. No condition.
-/
namespace Go.Proofs.Ytdgbafpnfkedeaa
set_option maxRecDepth 100000
open Go.RowKit
theorem wp_append_two {P : Program} {o : Oper} {a : Act} {w : World} {K : Act → World → Prop} {Q : Exit → Act → World → Prop} (s x : Operand) (t : TypeId)
    (ho : o.op = .call { callee := .builtin .append, args := #[s, x], argTypes := #[t, t] }) (B B' : Nat) (e : TypeId) (size bytes : Nat) (z : Value) (ht : P.underlying t = some (.slice e))
    (hinf : (P.info? e).map (fun i => (i.zero, i.size, i.bytes)) = some (some z, size, bytes)) (hzs : z.cells.size = size) (hsz : 0 < size) (hby : bytes ≤ 64)
    (v : Value) (k : Nat) (xs : List Value) (sv : Value) (n : Nat) (ys : List Value) (hown : w.ownsRow B e size v k xs) (hsrc : w.ownsRow B' e size sv n ys) (hs : a.eval s = v) (hx : a.eval x = sv) (h1 : ∀ u ∈ ys, u.oneCell' = true) (hk : k ≤ 1048576) (hn : n ≤ 1048576) (hB : B ≤ w.heap.size)
    (h : ∀ v' w', w'.ownsRow B e size v' (k + n) (xs ++ ys) → w.grownBy w' v.ownBlock → (∃ va vc, v' = .slice va (k + n) vc) → K (a.put o.dst v') w') : o.wp P a w K Q := by
  obtain ⟨i0, hi, hz0, hz1, hz2⟩ := info_parts hinf
  have shape : ∀ {v' : Value} {w' : World} {l : List Value}, w'.ownsRow B e size v' (k + n) l → ∃ va vc, v' = .slice va (k + n) vc := fun hr => by
    rcases hr.2 with ⟨e1, e0⟩ | ⟨g', cap, cur, e1, _⟩
    · exact ⟨none, 0, by rw [e1, e0]⟩
    · exact ⟨_, _, e1⟩
  rcases hsrc.2 with ⟨rfl, rfl⟩ | ⟨g, cap, cur, rfl, hg, hb, hle, hm, hcs, htk⟩
  · have hy : ys = [] := List.length_eq_zero_iff.1 (by simpa using hsrc.1)
    subst hy
    have hrun : (Builtin.append_ #[t, t] o.type #[v, .slice none 0 0]).run P w = .ok v w := by
      rcases hown.2 with ⟨rfl, _⟩ | ⟨g, cap, cur, rfl, _, _, hle, _⟩
      · exact run_append_nothing w _ _ _ e i0 ht hi none 0 0 (Nat.le_refl _) _ (Src.ofNil w ht 0)
      · exact run_append_nothing w _ _ _ e i0 ht hi _ k cap hle _ (Src.ofNil w ht 0)
    have h2 : w.ownsRow B e size v (k + 0) (xs ++ []) := by rw [Nat.add_zero, List.append_nil]; exact hown
    unfold Oper.wp
    simp [execOp, ho, resolve, invoke, builtin, hs, hx, hrun, Result.andThen]
    exact h v w h2 ⟨rfl, rfl, rfl, Nat.le_refl _, fun _ _ _ => rfl⟩ (shape h2)
  · have hb2 : (k + n) * bytes ≤ 140737488355328 := Nat.le_trans (Nat.mul_le_mul_left (k + n) hby) (by omega)
    exact wp_append_own w s x t ho B e i0 z size bytes ht hi hz0 hz1 hz2 hzs hsz v k xs hs hown ⟨g, 0, none⟩ n cap ys hx hsrc.1 (fun j u hj => World.ownsRow.cells hsrc (g := g) rfl j u hj) h1 (by unfold maxLen; omega) hb2 hB fun v' w' a1 a2 _ => h v' w' a1 a2 (shape a1)
theorem wpList_append_two {P : Program} {ops : Array Oper} {rest : List Oper} {o : Oper} {a : Act} {w : World} {Q : Exit → Act → World → Prop} (hgd : o.guard = none) (s x : Operand) (t : TypeId)
    (ho : o.op = .call { callee := .builtin .append, args := #[s, x], argTypes := #[t, t] }) (B B' : Nat) (e : TypeId) (size bytes : Nat) (z : Value) (ht : P.underlying t = some (.slice e))
    (hinf : (P.info? e).map (fun i => (i.zero, i.size, i.bytes)) = some (some z, size, bytes)) (hzs : z.cells.size = size) (hsz : 0 < size) (hby : bytes ≤ 64)
    (v : Value) (k : Nat) (xs : List Value) (sv : Value) (n : Nat) (ys : List Value) (hown : w.ownsRow B e size v k xs) (hsrc : w.ownsRow B' e size sv n ys) (hs : a.eval s = v) (hx : a.eval x = sv) (h1 : ∀ u ∈ ys, u.oneCell' = true) (hk : k ≤ 1048576) (hn : n ≤ 1048576) (hB : B ≤ w.heap.size)
    (h : ∀ v' w', w'.ownsRow B e size v' (k + n) (xs ++ ys) → w.grownBy w' v.ownBlock → (∃ va vc, v' = .slice va (k + n) vc) → wpList P ops Q rest (a.put o.dst v') w') : wpList P ops Q (o :: rest) a w :=
  wpList_plain hgd fun _ hK => wp_append_two s x t ho B B' e size bytes z ht hinf hzs hsz hby v k xs sv n ys hown hsrc hs hx h1 hk hn hB fun v' w' a1 a2 a3 => hK _ _ (h v' w' a1 a2 a3)
theorem step_append_two {P : Program} {ops : Array Oper} {o : Oper} {a : Act} {w : World} {K : Act → World → Prop} {Q : Exit → Act → World → Prop} {E : Prop} (hgd : o.guard = none) (s x : Operand) (t : TypeId)
    (ho : o.op = .call { callee := .builtin .append, args := #[s, x], argTypes := #[t, t] }) (B B' : Nat) (e : TypeId) (size bytes : Nat) (z : Value) (ht : P.underlying t = some (.slice e))
    (hinf : (P.info? e).map (fun i => (i.zero, i.size, i.bytes)) = some (some z, size, bytes)) (hzs : z.cells.size = size) (hsz : 0 < size) (hby : bytes ≤ 64)
    (v : Value) (k : Nat) (xs : List Value) (sv : Value) (n : Nat) (ys : List Value) (hown : w.ownsRow B e size v k xs) (hsrc : w.ownsRow B' e size sv n ys) (hs : a.eval s = v) (hx : a.eval x = sv) (h1 : ∀ u ∈ ys, u.oneCell' = true) (hk : k ≤ 1048576) (hn : n ≤ 1048576) (hB : B ≤ w.heap.size)
    (h : ∀ v' w', w'.ownsRow B e size v' (k + n) (xs ++ ys) → w.grownBy w' v.ownBlock → (∃ va vc, v' = .slice va (k + n) vc) → K (a.put o.dst v') w') :
    if Region.wanted o (yielded ops a.tmps) = true then Oper.wp P o a w K Q else E := by
  have hw : Region.wanted o (yielded ops a.tmps) = true := by simp [Region.wanted, hgd]
  rw [if_pos hw]
  exact wp_append_two s x t ho B B' e size bytes z ht hinf hzs hsz hby v k xs sv n ys hown hsrc hs hx h1 hk hn hB h
/-- A block of one element is an own row. -/
theorem row_single {w : World} {g B size : Nat} {e : TypeId} {cs : Array Value} (h : w.heap[g]? = some (.cells cs e (0, 0))) (hs : cs.size = size) (hB : B ≤ g) : w.ownsRow B e size (.slice (some ⟨g, 0, none⟩) 1 1) 1 cs.toList := by
  refine ⟨by simp [hs], .inr ⟨g, 1, cs, rfl, hB, h, Nat.le_refl _, by unfold maxLen; omega, by omega, ?_⟩⟩
  rw [List.take_of_length_le (by simp; omega)]
end Go.Proofs.Ytdgbafpnfkedeaa
/-
  The contract of the document's Check. No condition.
-/
namespace Go.Proofs.Ytdgbafpnfkedeaa
set_option maxRecDepth 100000
open Go.RowKit
theorem Wr.long_no {x : Wr} (h : x.long = false) : x.key.size ≤ 520 ∧ x.val.size ≤ 2048 := by
  unfold Wr.long at h
  simp only [Bool.or_eq_false_iff, decide_eq_false_iff_not] at h
  omega
theorem empty_iff (s : ByteArray) : s = ByteArray.empty ↔ s.size = 0 := by
  constructor
  · intro h; rw [h]; rfl
  · intro h
    apply ByteArray.ext
    exact Array.eq_empty_of_size_eq_zero h
set_option maxRecDepth 100000 in
set_option maxHeartbeats 2000000 in
theorem refcheck_arg {seq : Nat} {a : Option Addr} {n c : Nat} (w : World) (hE : n = 0 ∨ seq < 1 ∨ 72057594037927872 < seq) :
    Calls Try.prog 21 #[batchV seq a n c] w fun e w' => e = .returned (.int .i64 2) ∧ Below w.heap.size w w' := by
  obtain ⟨c0, c1⟩ := box_batch w seq (.slice a n c)
  go_enter Try.func21, Try.ntmps21
  go_wp2
  all_goals first
    | (exfalso; omega)
    | (go_returns; exact ⟨rfl, below_alloc _ _⟩)
set_option maxRecDepth 100000 in
set_option maxHeartbeats 4000000 in
theorem refcheck_main {seq : Nat} {a : Option Addr} {n c b o : Nat} {l : List Wr} {w : World} (h : Ws a n c b o l w) (h0 : n ≠ 0) (h1 : 1 ≤ seq) (h2 : seq ≤ 72057594037927872) :
    Calls Try.prog 21 #[batchV seq a n c] w fun e w' => e = .returned (.int .i64 (chkB seq l)) ∧ Below w.heap.size w w' := by
  obtain ⟨c0, c1⟩ := box_batch w seq (.slice a n c)
  have K := Lib.hid (below_alloc w (.cells #[.int .u64 (seq : Int), .slice a n c] 31))
  have E0 := Lib.hid (heap_alloc_new w (.cells #[.int .u64 (seq : Int), .slice a n c] 31))
  have hcap := h.cap
  have hmost := h.most
  have hE := Lib.hid (chkB_end (seq := seq) (l := l) (by rw [h.len]; omega))
  have hbad := Lib.hid (fun hb : l.any Wr.bad = true => chkB_bad (seq := seq) hb)
  have hlen := Lib.hid h.len
  obtain ⟨R, hR⟩ := named (chkB seq l)
  rw [← hR.out] at hE hbad ⊢
  rw [hlen.out] at hE
  have h := Lib.hid h
  clear hR
  have q0 : ((n : Int) == 0) = false := by simp; omega
  have q1 : decide ((seq : Int) < 1) = false := by rw [decide_eq_false_iff_not]; omega
  have q2 : decide ((72057594037927872 : Int) < (seq : Int)) = false := by rw [decide_eq_false_iff_not]; omega
  go_enter Try.func21, Try.ntmps21
  go_wp2_with fail
  generalize w.alloc (.cells #[.int .u64 (seq : Int), .slice a n c] 31) = W at *
  go_loopw [3] (fun i wr => ∃ j : Nat, j ≤ n ∧ i = .int .i64 (j : Int) ∧ (l.take j).any Wr.bad = false ∧ Below w.heap.size w wr ∧ wr.heap[w.heap.size]? = some (.cells #[.int .u64 (seq : Int), .slice a n c] 31 (0, 0))) (fun i _ => n - (intOf i).toNat)
  case atStart => exact ⟨0, Nat.zero_le _, rfl, by simp, K.out, E0.out⟩
  case round =>
    clear c0 c1 K E0
    obtain ⟨j, hj, rfl, hany, hb, hblk⟩ := hrel
    have c0 : wr.cell? ⟨w.heap.size, 0, none⟩ = some (.int .u64 (seq : Int)) := by simp [World.cell?, hblk]
    have c1 : wr.cell? ⟨w.heap.size, 1, none⟩ = some (.slice a n c) := by simp [World.cell?, hblk]
    have hlt0 := (Array.getElem?_eq_some_iff.1 hblk).1
    have hblk := Lib.hid hblk
    have hb := Lib.hid hb
    have hany := Lib.hid hany
    by_cases hlt : j < n
    · obtain ⟨x, hx, rfl, e0, e1, e2⟩ := (h.out.keep (w' := wr) (fun h0 => hb.out.block b (h.out.addr h0).2) hb.out.size).at3 hlt
      have hx := Lib.hid hx
      obtain ⟨xk, xs, xv⟩ := x
      simp only at e0 e1 e2
      have hlb := World.block_lt_of_cell? _ _ e0
      have hB : Wr.bad ⟨xk, xs, xv⟩ = true ↔ ((xk ≠ 1 ∧ xk ≠ 2) ∨ xs.size = 0 ∨ (xk = 2 ∧ xv.size ≠ 0)) := by
        unfold Wr.bad
        simp only [Bool.or_eq_true, Bool.and_eq_true, bne_iff_ne, beq_iff_eq]
      have take1 : Hid (l.take (j + 1) = l.take j ++ [⟨xk, xs, xv⟩]) := Lib.hid (by rw [List.take_add_one, hx.out]; rfl)
      have BD : Hid (Wr.bad ⟨xk, xs, xv⟩ = true → R = 2) := Lib.hid fun hq => hbad.out (List.any_eq_true.2 ⟨_, List.mem_of_getElem? hx.out, hq⟩)
      have GD : Hid (¬ Wr.bad ⟨xk, xs, xv⟩ = true → (l.take (j + 1)).any Wr.bad = false) := Lib.hid fun hq => by rw [take1.out, List.any_append, hany.out]; simp [Bool.not_eq_true _ ▸ hq]
      have hB := Lib.hid hB
      have KB : Hid (∀ cs, Below w.heap.size w (wr.alloc (.cells cs 41)) ∧ (wr.alloc (.cells cs 41)).heap[w.heap.size]? = some (.cells #[.int .u64 (seq : Int), .slice (some ⟨b, o, none⟩) n c] 31 (0, 0))) := Lib.hid fun cs => ⟨hb.out.alloc hb.out.size _, (show (wr.alloc (.cells cs 41)).heap[w.heap.size]? = wr.heap[w.heap.size]? from by first | exact heap_alloc_old wr _ hlt0 | exact heap_alloc_old wr _ _ hlt0 | exact heap_alloc_old _ hlt0).trans hblk.out⟩
      go_wp2_with fail
      all_goals first
        | (go_returns
           have hB := hB.out
           simp only [empty_iff, beq_iff_eq, beq_eq_false_iff_ne, ne_eq] at *
           have hR2 := BD.out (hB.2 (by omega))
           exact ⟨by rw [hR2]; rfl, (KB.out _).1⟩)
        | (refine ⟨⟨j + 1, by omega, by go_num, GD.out (fun hq => ?_), (KB.out _).1, (KB.out _).2⟩, ?_⟩
           · have hB := hB.out.1 hq
             simp only [empty_iff, beq_eq_false_iff_ne, ne_eq] at *
             omega
           · simp [intOf]; omega)
    · have hjn : j = n := by omega
      subst hjn
      have ht : l.take j = l := by rw [← hlen.out, List.take_length]
      have hR0 := hE.out (by have := hany.out; rwa [ht] at this)
      have hR0 := Lib.hid hR0
      have R3 : Hid (64 < j ∨ l.any Wr.long = true → R = 3) := Lib.hid fun hq => by
        rw [hR0.out]; unfold sofar; rw [if_pos]; rcases hq with hq | hq
        · exact .inl (by simpa using hq)
        · exact .inr hq
      have RZ : Hid (¬ 64 < j → l.any Wr.long = false → R = 0) := Lib.hid fun hq hq2 => by
        rw [hR0.out]; unfold sofar; rw [if_neg]; simp [hq, hq2]
      clear hany hE hbad
      by_cases h64 : 64 < j
      · have d64 : decide ((64 : Int) < (j : Int)) = true := by rw [decide_eq_true_eq]; omega
        have hR3 := R3.out (.inl h64)
        subst hR3
        go_wp2_with fail
        go_returns
        exact ⟨rfl, hb.out⟩
      · have d64 : decide ((64 : Int) < (j : Int)) = false := by rw [decide_eq_false_iff_not]; omega
        go_wp2_with fail
        go_loopw [5] (fun i wq => ∃ k : Nat, k ≤ j ∧ i = .int .i64 (k : Int) ∧ (l.take k).any Wr.long = false ∧ Below w.heap.size w wq ∧ wq.heap[w.heap.size]? = some (.cells #[.int .u64 (seq : Int), .slice a j c] 31 (0, 0))) (fun i _ => j - (intOf i).toNat)
        case atStart => exact ⟨0, Nat.zero_le _, rfl, by simp, hb.out, hblk.out⟩
        case round =>
          clear c0 c1 hb hblk hlt0
          obtain ⟨k, hk, rfl, hlong, hb, hblk⟩ := hrel
          have c1 : wr.cell? ⟨w.heap.size, 1, none⟩ = some (.slice a j c) := by simp [World.cell?, hblk]
          have hblk := Lib.hid hblk
          have hb := Lib.hid hb
          have hlong := Lib.hid hlong
          by_cases hlt : k < j
          · obtain ⟨x, hx, rfl, e0, e1, e2⟩ := (h.out.keep (w' := wr) (fun h0 => hb.out.block b (h.out.addr h0).2) hb.out.size).at3 hlt
            have hx := Lib.hid hx
            obtain ⟨xk, xs, xv⟩ := x
            simp only at e0 e1 e2
            have take1 : Hid (l.take (k + 1) = l.take k ++ [⟨xk, xs, xv⟩]) := Lib.hid (by rw [List.take_add_one, hx.out]; rfl)
            by_cases hq : Wr.long ⟨xk, xs, xv⟩ = true
            · have hR3 := R3.out (.inr (List.any_eq_true.2 ⟨_, List.mem_of_getElem? hx.out, hq⟩))
              have hq2 : 520 < xs.size ∨ (xs.size ≤ 520 ∧ 2048 < xv.size) := by
                unfold Wr.long at hq
                simp only [Bool.or_eq_true, decide_eq_true_eq] at hq
                omega
              subst hR3
              clear hq
              rcases hq2 with g1 | ⟨g1, g2⟩
              · have d1 : decide ((520 : Int) < (xs.size : Int)) = true := by rw [decide_eq_true_eq]; omega
                go_wp2_with fail
                go_returns
                exact ⟨rfl, hb.out⟩
              · have d1 : decide ((520 : Int) < (xs.size : Int)) = false := by rw [decide_eq_false_iff_not]; omega
                have d2 : decide ((2048 : Int) < (xv.size : Int)) = true := by rw [decide_eq_true_eq]; omega
                go_wp2_with fail
                go_returns
                exact ⟨rfl, hb.out⟩
            · have hl := Wr.long_no (by simpa using hq : Wr.long ⟨xk, xs, xv⟩ = false)
              simp only at hl
              have d1 : decide ((520 : Int) < (xs.size : Int)) = false := by rw [decide_eq_false_iff_not]; omega
              have d2 : decide ((2048 : Int) < (xv.size : Int)) = false := by rw [decide_eq_false_iff_not]; omega
              have any1 : Hid ((l.take (k + 1)).any Wr.long = false) := Lib.hid (by rw [take1.out, List.any_append, hlong.out]; simpa using hq)
              clear hq
              go_wp2_with fail
              go_roundw
              case rel => exact ⟨k + 1, by omega, by go_num, any1.out, hb.out, hblk.out⟩
              case measure => simp [intOf]; omega
          · have hkj : k = j := by omega
            subst hkj
            have hRz := RZ.out h64 (by have := hlong.out; rwa [ht] at this)
            subst hRz
            go_wp2_with fail
            go_returns
            exact ⟨rfl, hb.out⟩
theorem refcheck_any {seq : Nat} {a : Option Addr} {n c b o : Nat} {l : List Wr} {w : World} (h : Ws a n c b o l w) :
    Calls Try.prog 21 #[batchV seq a n c] w fun e w' => e = .returned (.int .i64 (chkB seq l)) ∧ Below w.heap.size w w' := by
  by_cases hE : n = 0 ∨ seq < 1 ∨ 72057594037927872 < seq
  · rw [chkB_arg (by rw [h.len]; exact hE)]
    exact refcheck_arg w hE
  · exact refcheck_main h (by omega) (by omega) (by omega)
end Go.Proofs.Ytdgbafpnfkedeaa
/-
  The contracts of the document's Same, SameRows and Next. No condition.
-/
namespace Go.Proofs.Ytdgbafpnfkedeaa
set_option maxRecDepth 100000
open Go.RowKit
/-- Two boxed arguments. -/
theorem box_two (w : World) (s1 s2 : Nat) (v1 v2 : Value) :
    Below w.heap.size w ((w.alloc (.cells #[.int .u64 (s1 : Int), v1] 31)).alloc (.cells #[.int .u64 (s2 : Int), v2] 31)) ∧
    ((w.alloc (.cells #[.int .u64 (s1 : Int), v1] 31)).alloc (.cells #[.int .u64 (s2 : Int), v2] 31)).heap[w.heap.size]? = some (.cells #[.int .u64 (s1 : Int), v1] 31 (0, 0)) ∧
    ((w.alloc (.cells #[.int .u64 (s1 : Int), v1] 31)).alloc (.cells #[.int .u64 (s2 : Int), v2] 31)).heap[w.heap.size + 1]? = some (.cells #[.int .u64 (s2 : Int), v2] 31 (0, 0)) := by
  refine ⟨(below_alloc _ _).alloc (by simp) _, (Lib.alloc_old _ _ _ (by simp)).trans (heap_alloc_new _ _), ?_⟩
  have := heap_alloc_new (w.alloc (.cells #[.int .u64 (s1 : Int), v1] 31)) (.cells #[.int .u64 (s2 : Int), v2] 31)
  simpa using this
theorem pair_cells {v : World} {N : Nat} {x0 x1 : Value} {T : TypeId} (h : v.heap[N]? = some (.cells #[x0, x1] T (0, 0))) : v.cell? ⟨N, 0, none⟩ = some x0 ∧ v.cell? ⟨N, 1, none⟩ = some x1 :=
  ⟨by simp [World.cell?, h], by simp [World.cell?, h]⟩
open Classical in
set_option maxRecDepth 100000 in
set_option maxHeartbeats 4000000 in
theorem refsame_any {s1 s2 : Nat} {p1 p2 : Option Addr} {n1 c1 b1 o1 n2 c2 b2 o2 : Nat} {l1 l2 : List Wr} {w : World} (h1 : Ws p1 n1 c1 b1 o1 l1 w) (h2 : Ws p2 n2 c2 b2 o2 l2 w) :
    Calls Try.prog 13 #[batchV s1 p1 n1 c1, batchV s2 p2 n2 c2] w fun e w' => e = .returned (.bool (decide (s1 = s2 ∧ l1 = l2))) ∧ Below w.heap.size w w' := by
  obtain ⟨K, E0, E1⟩ := box_two w s1 s2 (.slice p1 n1 c1) (.slice p2 n2 c2)
  have m1 := h1.most
  have m2 := h2.most
  have q1 := h1.cap
  have q2 := h2.cap
  obtain ⟨x0, x1⟩ := pair_cells E0
  obtain ⟨y0, y1⟩ := pair_cells E1
  have K := Lib.hid K
  by_cases hs : s1 = s2
  · subst hs
    have g1 : (((s1 : Nat) : Int) != ((s1 : Nat) : Int)) = false := by rw [bne_eq_false_iff_eq]
    have hd : decide (s1 = s1 ∧ l1 = l2) = decide (l1 = l2) := by congr 1; simp
    rw [hd]
    by_cases hn : n1 = n2
    · subst hn
      have g2 : (((n1 : Nat) : Int) != ((n1 : Nat) : Int)) = false := by rw [bne_eq_false_iff_eq]
      obtain ⟨R, hR⟩ := named (decide (l1 = l2))
      rw [← hR.out]
      have e1 := Lib.hid h1.len
      have e2 := Lib.hid h2.len
      have h1 := Lib.hid h1
      have h2 := Lib.hid h2
      have E0 := Lib.hid E0
      have E1 := Lib.hid E1
      go_enter Try.func13, Try.ntmps13
      go_wp2_with fail
      generalize (w.alloc (.cells #[.int .u64 (s1 : Int), .slice p1 n1 c1] 31)).alloc (.cells #[.int .u64 (s1 : Int), .slice p2 n1 c2] 31) = V0 at *
      clear x0 x1 y0 y1
      go_loopw [5] (fun i wr => ∃ j : Nat, j ≤ n1 ∧ i = .int .i64 (j : Int) ∧ l1.take j = l2.take j ∧ Below w.heap.size w wr ∧ wr.heap[w.heap.size]? = some (.cells #[.int .u64 (s1 : Int), .slice p1 n1 c1] 31 (0, 0)) ∧ wr.heap[w.heap.size + 1]? = some (.cells #[.int .u64 (s1 : Int), .slice p2 n1 c2] 31 (0, 0))) (fun i _ => n1 - (intOf i).toNat)
      case atStart => exact ⟨0, Nat.zero_le _, rfl, rfl, K.out, E0.out, E1.out⟩
      case round =>
        clear K E0 E1
        obtain ⟨j, hj, rfl, ht, hb, E0, E1⟩ := hrel
        obtain ⟨x0, x1⟩ := pair_cells E0
        obtain ⟨y0, y1⟩ := pair_cells E1
        have E0 := Lib.hid E0
        have E1 := Lib.hid E1
        by_cases hlt : j < n1
        · obtain ⟨x, hx, rfl, a0, a1, a2⟩ := (h1.out.below hb (Nat.le_refl _)).at3 hlt
          obtain ⟨y, hy, rfl, d0, d1, d2⟩ := (h2.out.below hb (Nat.le_refl _)).at3 hlt
          obtain ⟨xk, xs, xv⟩ := x
          obtain ⟨yk, ys, yv⟩ := y
          simp only at a0 a1 a2 d0 d1 d2
          have hx := Lib.hid hx
          have hy := Lib.hid hy
          have ht := Lib.hid ht
          have hb := Lib.hid hb
          by_cases hxy : (⟨xk, xs, xv⟩ : Wr) = ⟨yk, ys, yv⟩
          · have NEQ : ∀ u : World, (binOp .neq 41 (.agg #[.int .i64 xk, .string xs, .string xv]) (.agg #[.int .i64 yk, .string ys, .string yv])).run Try.prog u = .ok (.bool false) u := fun u => neq_wr _ _ _ _ _ _ _ (by simp [hxy]) u
            have ht2 : Hid (l1.take (j + 1) = l2.take (j + 1)) := Lib.hid (by rw [List.take_add_one, List.take_add_one, ht.out, hx.out, hy.out, hxy])
            clear hxy ht
            go_upto_region 6 with fail
            go_quiet (fail)
            go_wp2_with fail
            go_roundw
            case rel => exact ⟨j + 1, by omega, by go_num, ht2.out, below_drewN hb.out, E0.out, E1.out⟩
            case measure => simp [intOf]; omega
          · have NEQ : ∀ u : World, (binOp .neq 41 (.agg #[.int .i64 xk, .string xs, .string xv]) (.agg #[.int .i64 yk, .string ys, .string yv])).run Try.prog u = .ok (.bool true) u := fun u => neq_wr _ _ _ _ _ _ _ (by simpa using hxy) u
            have hR0 : R = false := by
              rw [hR.out, decide_eq_false_iff_not]
              intro e
              have h1 := hx.out
              rw [e, hy.out] at h1
              exact hxy (Option.some.inj h1).symm
            subst hR0
            clear hxy ht
            go_upto_region 6 with fail
            go_quiet (fail)
            go_wp2_with fail
            go_returns
            exact ⟨rfl, below_drewN hb.out⟩
        · have hjn : j = n1 := by omega
          subst hjn
          have hR1 : R = true := by
            rw [hR.out, decide_eq_true_eq]
            rw [← e1.out, List.take_length] at ht
            rw [ht, e1.out, ← e2.out, List.take_length]
          subst hR1
          go_wp2_with fail
          go_returns
          exact ⟨rfl, hb⟩
    · have hR : decide (l1 = l2) = false := by
        rw [decide_eq_false_iff_not]
        intro e
        rw [e] at h1
        exact hn (h1.len.symm.trans h2.len)
      rw [hR]
      have g2 : (((n1 : Nat) : Int) != ((n2 : Nat) : Int)) = true := by rw [bne_iff_ne]; omega
      clear h1 h2 E0 E1 hR hd
      go_enter Try.func13, Try.ntmps13
      go_wp2_with fail
      go_returns
      exact ⟨rfl, K.out⟩
  · have hd : decide (s1 = s2 ∧ l1 = l2) = false := by rw [decide_eq_false_iff_not]; exact fun h => hs h.1
    rw [hd]
    have g1 : (((s1 : Nat) : Int) != ((s2 : Nat) : Int)) = true := by rw [bne_iff_ne]; omega
    clear h1 h2 hd E0 E1
    go_enter Try.func13, Try.ntmps13
    go_wp2_with fail
    go_returns
    exact ⟨rfl, K.out⟩
set_option maxRecDepth 100000 in
set_option maxHeartbeats 2000000 in
theorem refnext_any {seq : Nat} {a : Option Addr} {n c b o : Nat} {l : List Wr} {w : World} (h : Ws a n c b o l w) :
    Calls Try.prog 22 #[batchV seq a n c] w fun e w' => e = .returned (.int .u64 (nextB seq l : Int)) ∧ Below w.heap.size w w' := by
  obtain ⟨c0, c1⟩ := box_batch w seq (.slice a n c)
  have K := Lib.hid (below_alloc w (.cells #[.int .u64 (seq : Int), .slice a n c] 31))
  have C := Lib.hid (refcheck_any (seq := seq) (h.below K.out (Nat.le_refl _)))
  have hlen := h.len
  obtain ⟨R, hR⟩ := named (chkB seq l)
  by_cases q : R = 0
  · have hc : chkB seq l = 0 := by rw [← hR.out]; exact q
    obtain ⟨_, k1, k2, k3, _⟩ := chkB_ok hc
    have hn : nextB seq l = seq + n := by unfold nextB; rw [if_pos hc, hlen]
    rw [hc] at C
    rw [hn]
    have w1' : IntKind.u64.wrap (n : Int) = (n : Int) := wrap_u64_nat (by omega)
    have w2' : IntKind.u64.wrap ((seq : Int) + (n : Int)) = ((seq + n : Nat) : Int) := by have := wrap_u64_nat (n := seq + n) (by omega); rw [← this]; congr 1
    have hW : (w.alloc (.cells #[.int .u64 (seq : Int), .slice a n c] 31)).heap.size = w.heap.size + 1 := by simp
    clear h hlen hR hc hn q
    go_enter Try.func22, Try.ntmps22
    go_wp2_with fail
    refine C.out.mono ?_
    rintro e w1 ⟨rfl, hb1⟩
    have y0 := (hb1.cell (p := ⟨w.heap.size, 0, none⟩) (by simp)).trans c0
    have y1 := (hb1.cell (p := ⟨w.heap.size, 1, none⟩) (by simp)).trans c1
    have hb := Lib.hid (K.out.trans (hb1.mono K.out.size))
    clear C hb1 K c0 c1 hW
    go_wp2_with fail
    go_returns
    exact ⟨rfl, hb.out⟩
  · have hn : nextB seq l = 0 := by unfold nextB; rw [if_neg (by rw [← hR.out]; exact q)]
    rw [← hR.out] at C
    rw [hn]
    have hcb : (R != 0) = true := by simpa using q
    clear h hlen hR hn q
    go_enter Try.func22, Try.ntmps22
    go_wp2_with fail
    refine C.out.mono ?_
    rintro e w1 ⟨rfl, hb1⟩
    have hb := Lib.hid (K.out.trans (hb1.mono K.out.size))
    clear C hb1 K
    go_wp2_with fail
    go_returns
    exact ⟨rfl, hb.out⟩
end Go.Proofs.Ytdgbafpnfkedeaa
/-
  A slice of batches that a call owns, as batches. No condition.
-/
namespace Go.Proofs.Ytdgbafpnfkedeaa
set_option maxRecDepth 100000
open Go.RowKit
theorem ownsRow_slice2 {W : World} {base size k : Nat} {e : TypeId} {v : Value} {xs : List Value} (h : W.ownsRow base e size v k xs) : ∃ p c, v = .slice p k c := by
  rcases h.2 with ⟨rfl, rfl⟩ | ⟨g, cap, cur, rfl, _⟩
  · exact ⟨_, _, rfl⟩
  · exact ⟨_, _, rfl⟩
theorem own_below {w w' : World} {base size n : Nat} {e : TypeId} {v : Value} {xs : List Value} (h : w.ownsRow base e size v n xs) (hb : Below w.heap.size w w') : w'.ownsRow base e size v n xs := h.kept (grown_of_below hb) (by cases v.ownBlock <;> simp)
def rowBt (l : List Bt) : List Value := l.flatMap cellsBt
theorem rowBt_len (l : List Bt) : (rowBt l).length = l.length * 2 := by
  unfold rowBt
  induction l with
  | nil => rfl
  | cons x r ih => rw [List.flatMap_cons, List.length_append, ih, List.length_cons]; show 2 + _ = _; omega
theorem rowBt_snoc (l : List Bt) (x : Bt) : rowBt (l ++ [x]) = rowBt l ++ cellsBt x := by simp [rowBt]
theorem rowBt_at : ∀ (l : List Bt) (j : Nat) {x : Bt}, l[j]? = some x → ∀ m u, (cellsBt x)[m]? = some u → (rowBt l)[j * 2 + m]? = some u
  | [], j, x, h, m, u, hu => by simp at h
  | y :: r, 0, x, h, m, u, hu => by
    simp at h
    subst h
    rw [show rowBt (y :: r) = cellsBt y ++ rowBt r from rfl, Nat.zero_mul, Nat.zero_add, List.getElem?_append_left (List.getElem?_eq_some_iff.1 hu).1]
    exact hu
  | y :: r, j + 1, x, h, m, u, hu => by
    rw [show rowBt (y :: r) = cellsBt y ++ rowBt r from rfl, List.getElem?_append_right (by show 2 ≤ _; omega), show (j + 1) * 2 + m - (cellsBt y).length = j * 2 + m by show _ - 2 = _; omega]
    exact rowBt_at r j (by simpa using h) m u hu
theorem bts_of_row {w : World} {B : Nat} {v : Value} {l : List Bt} (h : w.ownsRow B 31 2 v l.length (rowBt l)) : ∃ a c b, v = .slice a l.length c ∧ SlOf 2 cellsBt a l.length c b 0 l w ∧ (0 < l.length → B ≤ b ∧ ∃ cs, w.heap[b]? = some (.cells cs 31 (0, 0))) := by
  rcases h.2 with ⟨rfl, hz⟩ | ⟨g, cap, cur, rfl, hg, hb, hn, hm, hs, ht⟩
  · have : l = [] := List.length_eq_zero_iff.1 hz
    subst this
    exact ⟨none, 0, 0, rfl, ⟨rfl, Nat.le_refl _, by omega, fun h => absurd h (by simp), fun j x hx => by simp at hx⟩, fun h => absurd h (by simp)⟩
  · unfold maxLen at hm
    refine ⟨_, _, g, rfl, ⟨rfl, hn, by omega, fun _ => ⟨rfl, (Array.getElem?_eq_some_iff.1 hb).1⟩, fun j x hx m u hu => ?_⟩, fun _ => ⟨hg, _, hb⟩⟩
    have hj : j < l.length := (List.getElem?_eq_some_iff.1 hx).1
    have hm2 : m < 2 := (List.getElem?_eq_some_iff.1 hu).1
    rw [Nat.zero_add]
    exact (World.ownsRow.cellAt h _ (by omega)).trans (rowBt_at l j hx m u hu)
theorem info_bt : (Try.prog.info? 31).map (fun i => (i.zero, i.size, i.bytes)) = some (some (.agg #[.int .u64 0, .slice none 0 0]), 2, 32) := by kernel_rfl
/-- The batches of lists of writes. -/
def allB (vs : List Bt) (j : Nat) : List Bt := (List.range j).map fun i => { (vs.getD i default) with seq := seqAt (vs.map (·.ws)) i }
theorem allB_len (vs : List Bt) (j : Nat) : (allB vs j).length = j := by simp [allB]
theorem allB_succ (vs : List Bt) (j : Nat) : allB vs (j + 1) = allB vs j ++ [{ (vs.getD j default) with seq := seqAt (vs.map (·.ws)) j }] := by simp [allB, List.range_succ]
theorem allB_at {vs : List Bt} {j i : Nat} (hi : i < j) : (allB vs j)[i]? = some { (vs.getD i default) with seq := seqAt (vs.map (·.ws)) i } := by simp [allB, hi]
theorem wrsAt_at {vs : List Bt} {i : Nat} {x : Bt} (h : vs[i]? = some x) : wrsAt (vs.map (·.ws)) i = x.ws := by
  unfold wrsAt
  rw [List.getD_eq_getElem?_getD, List.getElem?_map, h]
  rfl
theorem wl_at {a : Option Addr} {n c b o : Nat} {l : List Bt} {w : World} (h : SlOf 1 cellsWl a n c b o l w) {j : Nat} (hj : j < n) : ∃ x, l[j]? = some x ∧ a = some ⟨b, o, none⟩ ∧ w.cell? ⟨b, o + j, none⟩ = some (.slice x.a x.n x.c) := by
  obtain ⟨x, hx⟩ : ∃ x, l[j]? = some x := ⟨_, List.getElem?_eq_getElem (by rw [h.len]; exact hj)⟩
  refine ⟨x, hx, (h.addr (by omega)).1, ?_⟩
  have := h.at' j x hx 0 _ rfl
  rw [Nat.mul_one, Nat.add_zero] at this
  exact this
theorem seqAt_le {ls : List (List Wr)} (hg : GoodL ls) (n : Nat) (hn : n ≤ ls.length) : seqAt ls n ≤ 72057594037928000 := by
  cases n with
  | zero => unfold seqAt; simp
  | succ n =>
    rw [seqAt_succ ls (by omega)]
    have := chkB_ok (hg n (by omega))
    have h1 := this.2.2.1
    have h2 := this.2.2.2.1
    omega
theorem back_step {n j : Nat} (h : j < n) : (List.range n).reverse.take (j + 1) = (List.range n).reverse.take j ++ [n - 1 - j] := by
  rw [List.take_add_one, List.getElem?_reverse (by rw [List.length_range]; exact h), List.length_range, List.getElem?_range (by omega)]
  rfl
theorem back_nodup (n j : Nat) : ((List.range n).reverse.take j).Nodup := List.Pairwise.sublist (List.take_sublist _ _) ((List.reverse_perm _).nodup_iff.2 List.nodup_range)
theorem back_lt {n j k : Nat} (h : k ∈ (List.range n).reverse.take j) : k < n := List.mem_range.1 (List.mem_reverse.1 (List.mem_of_mem_take h))
theorem back_not {n j : Nat} (h : j < n) : n - 1 - j ∉ (List.range n).reverse.take j := fun hm => by
  have := back_nodup n (j + 1)
  rw [back_step h, List.nodup_append] at this
  exact this.2.2 _ hm _ (by simp) rfl
theorem back_len (n j : Nat) : ((List.range n).reverse.take j).length ≤ n := by rw [List.length_take, List.length_reverse, List.length_range]; omega
/-- One batch of such lists is added. -/
theorem at_add {base : Nat} {ts : List (Nat × List Rw)} {u : World} (h : Tb base ts u) (hb : base ≤ u.heap.size) {i p : Nat} {is : List Nat} {ls : List (List Wr)} (hi : ts[i]? = some (p, tabOf ls is)) (hg : GoodL ls) (hnd : is.Nodup) (his : ∀ k ∈ is, k < ls.length) {m : Nat} (hm : m < ls.length) (hmn : m ∉ is) (hl : is.length ≤ 20) {a : Option Addr} {n c b o : Nat} (hw : Ws a n c b o (wrsAt ls m) u) :
    Calls Try.prog 12 #[.pointer (some ⟨p, 0, none⟩), .agg #[.int .u64 (seqAt ls m : Int), .slice a n c], .slice none 0 0] u fun e w' => e = .returned (.int .i64 0) ∧ Tb base (ts.set i (p, tabOf ls (is ++ [m]))) w' ∧ Below base u w' ∧ Else4 u w' := by
  have hn := tabOf_len ls is
  have := add_any h hb hi (by omega) (seq := seqAt ls m) hw (fun w' _ _ => sl_nil w')
  rw [tabOf_snoc]
  rw [tab_step hg (tab_perm hg is hnd his) his hm hmn] at this ⊢
  exact this
end Go.Proofs.Ytdgbafpnfkedeaa
/-
  The contract of the law's own laid: a table of batches. No condition.
-/
namespace Go.Proofs.Ytdgbafpnfkedeaa
set_option maxRecDepth 100000
open Go.RowKit
attribute [local go_sem] eq_node ne_node eq_list eq_table
def laidR (bs : List Bt) : List Rw := bs.foldl (fun R v => (addR R v.seq v.ws).1) []
def fineB (bs : List Bt) : Bool := decide (bs.length ≤ 30) && bs.all fun v => decide (v.ws.length ≤ 70)
theorem laidR_snoc (bs : List Bt) (v : Bt) : laidR (bs ++ [v]) = (addR (laidR bs) v.seq v.ws).1 := by unfold laidR; rw [List.foldl_append]; rfl
theorem laidR_len : ∀ (bs : List Bt), (laidR bs).length ≤ 64 * bs.length := by
  intro bs
  suffices ∀ (bs : List Bt) (R : List Rw), (bs.foldl (fun R v => (addR R v.seq v.ws).1) R).length ≤ R.length + 64 * bs.length by have := this bs []; simpa [laidR] using this
  intro bs
  induction bs with
  | nil => intro R; simp
  | cons v r ih =>
    intro R
    rw [List.foldl_cons, List.length_cons]
    have := ih (addR R v.seq v.ws).1
    have := addR_len R v.seq v.ws
    omega
theorem laidR_sorted (bs : List Bt) : SortedR (laidR bs) := by
  suffices ∀ (bs : List Bt) (R : List Rw), SortedR R → SortedR (bs.foldl (fun R v => (addR R v.seq v.ws).1) R) from this bs [] List.Pairwise.nil
  intro bs
  induction bs with
  | nil => intro R h; exact h
  | cons v r ih => intro R h; exact ih _ (addR_sorted h _ _)
theorem bt_at {a : Option Addr} {n c b o : Nat} {l : List Bt} {w : World} (h : SlOf 2 cellsBt a n c b o l w) {j : Nat} (hj : j < n) : ∃ x, l[j]? = some x ∧ a = some ⟨b, o, none⟩ ∧ w.cell? ⟨b, o + j * 2, none⟩ = some (.int .u64 (x.seq : Int)) ∧ w.cell? ⟨b, o + j * 2 + 1, none⟩ = some (.slice x.a x.n x.c) := by
  obtain ⟨x, hx⟩ : ∃ x, l[j]? = some x := ⟨_, List.getElem?_eq_getElem (by rw [h.len]; exact hj)⟩
  exact ⟨x, hx, (h.addr (by omega)).1, h.at' j x hx 0 _ rfl, h.at' j x hx 1 _ rfl⟩
theorem tb_snoc_at (ts : List (Nat × List Rw)) (p : Nat) (R : List Rw) : (ts ++ [(p, R)])[ts.length]? = some (p, R) := by simp
theorem tb_snoc_set (ts : List (Nat × List Rw)) (p : Nat) (R R' : List Rw) : (ts ++ [(p, R)]).set ts.length (p, R') = ts ++ [(p, R')] := by
  rw [List.set_append_right _ _ (Nat.le_refl _)]
  simp
theorem eql_rw (xs ys : ByteArray) (xn yn : Nat) (xk yk : Int) (xv yv : ByteArray) (B : Bool) (hB : B = true ↔ (⟨xs, xn, xk, xv⟩ : Rw) = ⟨ys, yn, yk, yv⟩) (u : World) : (binOp .eql 43 (.agg #[.string xs, .int .u64 (xn : Int), .int .i64 xk, .string xv]) (.agg #[.string ys, .int .u64 (yn : Int), .int .i64 yk, .string yv])).run Try.prog u = .ok (.bool B) u := by
  rw [rw_eq] at hB
  go_simp
  by_cases h1 : xs.toList = ys.toList
  · by_cases h2 : (xn : Int) = (yn : Int)
    · by_cases h3 : xk = yk
      · by_cases h4 : xv.toList = yv.toList
        · have : B = true := hB.2 ⟨h1, h2, h3, h4⟩
          simp [h1, h2, h3, h4, this]
        · have : B = false := by cases B <;> simp_all
          simp [h1, h2, h3, h4, this]
      · have : B = false := by cases B <;> simp_all
        simp [h1, h2, h3, this]
    · have : B = false := by cases B <;> simp_all
      simp [h1, h2, this]
  · have : B = false := by cases B <;> simp_all
    simp [h1, this]
theorem gave_rs {l : List Rw} {w w' : World} {e : Ending} (h : GaveR l w e w') : ∃ a c b, e = .returned (.slice a l.length c) ∧ Rs a l.length c b 0 l w' ∧ Below w.heap.size w w' := by
  obtain ⟨v, rfl, h2, h3⟩ := h
  obtain ⟨a, c, b, rfl, hr, _⟩ := rs_of_row h2
  exact ⟨a, c, b, rfl, hr, h3⟩
/-- What laid hands back. -/
def LaidD (base : Nat) (ts : List (Nat × List Rw)) (bs : List Bt) (w : World) (e : Ending) (w' : World) : Prop :=
  ∃ p R, e = .returned (.tuple #[.pointer (some ⟨p, 0, none⟩), .bool (fineB bs)]) ∧ Tb base (ts ++ [(p, R)]) w' ∧ Below base w w' ∧ R.length ≤ 4000 ∧ (fineB bs = true → R = laidR bs)
set_option maxRecDepth 100000 in
set_option maxHeartbeats 8000000 in
theorem laid_any {base : Nat} {ts : List (Nat × List Rw)} {w0 w : World} (hT : Tb base ts w) (hb : base ≤ w.heap.size) {a0 : Option Addr} {n0 c0 b0 o0 : Nat} {bs : List Bt} {a1 : Option Addr} {n1 c1 b1 o1 : Nat} {hs : List Int}
    (hA : ∀ u, Below base w0 u → SlOf 2 cellsBt a0 n0 c0 b0 o0 bs u ∧ (∀ v ∈ bs, BtAt v u) ∧ SlOf 1 cellsI a1 n1 c1 b1 o1 hs u) (h0 : Below base w0 w) :
    Calls Try.prog 23 #[.slice a0 n0 c0, .slice a1 n1 c1] w (LaidD base ts bs w) := by
  obtain ⟨SB, _, SH⟩ := hA w h0
  have hlen := SB.len
  have hcap := SB.cap
  have hmost := SB.most
  have hcap1 := SH.cap
  have hmost1 := SH.most
  have NW := Lib.hid (new_tb hT hb)
  have hA := Lib.hid hA
  have h0 := Lib.hid h0
  have hb := Lib.hid hb
  clear SB SH hT
  by_cases hbig : 30 < n0
  · have d0 : decide ((30 : Int) < (n0 : Int)) = true := by rw [decide_eq_true_eq]; omega
    have ff : Hid (fineB bs = false) := Lib.hid (by unfold fineB; rw [hlen, decide_eq_false (by omega)]; rfl)
    go_enter Try.func23, Try.ntmps23
    go_wp2_with (go_at_call 10; ((with_reducible refine NW.out.mono ?_); rintro e w1 ⟨p, rfl, T1, B1⟩; have T1 := Lib.hid T1; have B1 := Lib.hid B1; clear NW))
    go_returns
    exact ⟨p, [], by rw [ff.out]; rfl, T1.out, B1.out.mono hb.out, by simp, fun h => by rw [ff.out] at h; cases h⟩
  · have d0 : decide ((30 : Int) < (n0 : Int)) = false := by rw [decide_eq_false_iff_not]; omega
    go_enter Try.func23, Try.ntmps23
    go_wp2_with (go_at_call 10; ((with_reducible refine NW.out.mono ?_); rintro e w1 ⟨p, rfl, T1, B1⟩; have T1 := Lib.hid T1; have B1 := Lib.hid (B1.mono hb.out); clear NW))
    go_loopw [7] (fun v wr => ∃ j : Nat, j ≤ n0 ∧ v = .int .i64 (j : Int) ∧ (∀ (m : Nat) (x : Bt), m < j → bs[m]? = some x → x.ws.length ≤ 70) ∧ Tb base (ts ++ [(p, laidR (bs.take j))]) wr ∧ Below base w wr) (fun v _ => n0 - (intOf v).toNat)
    case atStart => exact ⟨0, Nat.zero_le _, rfl, fun m x hm => absurd hm (Nat.not_lt_zero _), T1.out, B1.out⟩
    case round =>
      clear T1 B1
      obtain ⟨j, hj, rfl, hfr, T1, B1⟩ := hrel
      have hfr := Lib.hid hfr
      have hbr : Hid (base ≤ wr.heap.size) := Lib.hid (Nat.le_trans hb.out B1.size)
      by_cases hlt : j < n0
      · obtain ⟨SB, SW, SH⟩ := hA.out wr (h0.out.trans B1)
        obtain ⟨x, hx, rfl, x0, x1⟩ := bt_at SB hlt
        have hW := (SW x (List.mem_of_getElem? hx)).2
        have hwl := hW.len
        have i1 : (j : Int) < (n0 : Int) := by omega
        have hlr : (laidR (bs.take j)).length ≤ 900000 := by have := laidR_len (bs.take j); rw [List.length_take] at this; omega
        have AD := add_any T1 hbr.out (tb_snoc_at ts p _) hlr (seq := x.seq) hW (fun w' hB _ => (hA.out w' (h0.out.trans (B1.trans hB))).2.2)
        rw [tb_snoc_set, ← laidR_snoc, show bs.take j ++ [x] = bs.take (j + 1) by rw [List.take_add_one, hx]; rfl] at AD
        have AD := Lib.hid AD
        have T1 := Lib.hid T1
        have B1 := Lib.hid B1
        have hx := Lib.hid hx
        obtain ⟨xq, xa, xn, xc, xb, xo, xw⟩ := x
        simp only at x0 x1 hwl AD
        clear SB SW SH hW hlr
        by_cases hg : 70 < xn
        · have d1 : decide ((70 : Int) < (xn : Int)) = true := by rw [decide_eq_true_eq]; omega
          have ff : Hid (fineB bs = false) := Lib.hid (by
            unfold fineB
            rw [Bool.and_eq_false_iff]
            right
            rw [List.all_eq_false]
            exact ⟨_, List.mem_of_getElem? hx.out, by simp; omega⟩)
          go_wp2_with fail
          go_returns
          refine ⟨p, laidR (bs.take j), by rw [ff.out]; rfl, T1.out, B1.out, ?_, fun h => by rw [ff.out] at h; cases h⟩
          have := laidR_len (bs.take j); rw [List.length_take] at this; omega
        · have d1 : decide ((70 : Int) < (xn : Int)) = false := by rw [decide_eq_false_iff_not]; omega
          go_wp2_with (go_at_call 12; ((with_reducible refine AD.out.mono ?_); rintro e w2 ⟨rfl, T2, B2, _⟩; have T2 := Lib.hid T2; have B2 := Lib.hid (B1.out.trans B2); clear AD))
          go_roundw
          case rel => exact ⟨j + 1, by omega, by go_num, fun m y hm hy => by
            by_cases hmj : m < j
            · exact hfr.out m y hmj hy
            · obtain rfl : m = j := by omega
              rw [hx.out] at hy
              cases hy
              show xw.length ≤ 70; omega, T2.out, B2.out⟩
          case measure => simp [intOf]; omega
      · have hjN : j = n0 := by omega
        have i1 : ¬ ((j : Int) < (n0 : Int)) := by omega
        have tk : bs.take j = bs := List.take_of_length_le (by omega)
        rw [tk] at T1
        have ff : Hid (fineB bs = true) := Lib.hid (by
          unfold fineB
          rw [Bool.and_eq_true]
          refine ⟨decide_eq_true (by omega), List.all_eq_true.2 fun x hx => decide_eq_true ?_⟩
          obtain ⟨m, hm⟩ := List.getElem?_of_mem hx
          exact hfr.out m x (by have := (List.getElem?_eq_some_iff.1 hm).1; omega) hm)
        have hlr : Hid ((laidR bs).length ≤ 4000) := Lib.hid (by have := laidR_len bs; omega)
        have T1 := Lib.hid T1
        have B1 := Lib.hid B1
        clear tk
        go_wp2_with fail
        go_returns
        exact ⟨p, laidR bs, by rw [ff.out]; rfl, T1.out, B1.out, hlr.out, fun _ => rfl⟩
end Go.Proofs.Ytdgbafpnfkedeaa
