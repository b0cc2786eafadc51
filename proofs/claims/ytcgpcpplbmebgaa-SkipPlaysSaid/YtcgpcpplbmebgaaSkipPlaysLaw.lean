/-
  SkipPlays: a skip list, under any script of calls, answers as the document says, and has the rows in order; what is handed in stays. No condition.
-/
import Derived.Test.YtcgpcpplbmebgaaSkipTwo
import Derived.Test.YtcgpcpplbmebgaaSkipAwake
import Derived.Test.YtcgpcpplbmebgaaHeld
import Derived.Test.YtcgpcpplbmebgaaSkipSlice
import Derived.Deep.RegionWith
import Derived.Deep.CutBlock
namespace Go.Proofs.Ytcgpcpplbmebgaa
set_option maxRecDepth 100000
open Go.RowKit
theorem rows_mid {p : Option Addr} {n c b o e k f : Nat} {l : List Rw} {w : World} (h : Rs p n c b o l w) (hf : f = e + k) (he : e + k ≤ n) :
    ∃ p2, (∀ u, (Instr.slice 30 (.slice p n c) (some (.int .i64 (e : Int))) (some (.int .i64 (f : Int))) none).run Try.prog u = .ok (.slice p2 k (c - e)) u) ∧ Rs p2 k (c - e) b (o + e * 4) ((l.drop e).take k) w := by
  subst hf
  have hc := h.cap
  have hm := h.most
  refine ⟨if c = e then p else p.map (·.add (e * 4)), fun u => ?_, by rw [List.length_take, List.length_drop, h.len]; omega, by omega, by omega, fun h0 => ?_, fun j x hx => ?_⟩
  · rw [run_slice_lh u 30 p n c (by kernel_rfl) .i64 .i64 (e : Int) ((e + k : Nat) : Int) (by omega) (by omega) (by omega), size_row]
    simp only [Result.andThen, sliced, Int.toNat_natCast]
    rw [show e + k - e = k by omega]
  · obtain ⟨h1, h2⟩ := h.addr (by omega)
    subst h1
    rw [if_neg (by omega)]
    exact ⟨by simp only [Option.map_some, addr_plus], h2⟩
  · rw [List.getElem?_take] at hx
    split at hx
    · rw [List.getElem?_drop] at hx
      have := h.at' (e + j) x hx
      rw [show o + (e + j) * 4 = o + e * 4 + j * 4 by omega] at this
      exact this
    · cases hx
set_option maxRecDepth 100000 in
set_option maxHeartbeats 2000000 in
theorem plays_big (a0 : Option Addr) (n0 c0 : Nat) (w : World) (hn : 150 < n0) :
    Calls Try.prog 3 #[.slice a0 n0 c0] w fun e w' => e = .returned (.bool true) ∧ Below w.heap.size w w' := by
  have AW := Lib.hid (awake_any w)
  have d0 : decide ((150 : Int) < (n0 : Int)) = true := by rw [decide_eq_true_eq]; omega
  go_enter Try.func3, Try.ntmps3
  go_wp2_with fail
  refine AW.out.mono ?_
  rintro e w' ⟨rfl, hb⟩
  go_wp2_with fail
  go_returns
  exact ⟨rfl, hb⟩
theorem two_new (w : World) : Two w.heap.size w.heap.size (w.heap.size + 1) [] [] ((w.alloc (.cells #[.pointer none, .pointer none, .pointer none, .pointer none, .pointer none, .pointer none, .pointer none, .pointer none, .pointer none, .pointer none, .pointer none, .pointer none, .int .i64 0, .int .i64 0] 29)).alloc (.cells #[.slice none 0 0, .slice none 0 0] 33)) := by
  refine ⟨((Zoo.nil w.heap.size w).new (Nat.le_refl _)).grow (below_alloc _ _), .slice none 0 0, .slice none 0 0, ?_, World.ownsRow_nil _ _ _ _, World.ownsRow_nil _ _ _ _, by omega⟩
  have := heap_alloc_new (w.alloc (.cells #[.pointer none, .pointer none, .pointer none, .pointer none, .pointer none, .pointer none, .pointer none, .pointer none, .pointer none, .pointer none, .pointer none, .pointer none, .int .i64 0, .int .i64 0] 29)) (.cells #[.slice none 0 0, .slice none 0 0] 33)
  rw [World.size_alloc] at this
  exact this
set_option maxRecDepth 100000 in
set_option maxHeartbeats 8000000 in
theorem plays_main (a0 : Option Addr) (n0 c0 b0 o0 : Nat) (ops : List SkOp) (w : World) (h0 : SlOf 6 cellsK a0 n0 c0 b0 o0 ops w) (hg : ∀ v ∈ ops, SkOpIn v) (hn : n0 ≤ 150) :
    Calls Try.prog 3 #[.slice a0 n0 c0] w fun e w' => e = .returned (.bool true) ∧ Below w.heap.size w w' := by
  have d0 : decide ((150 : Int) < (n0 : Int)) = false := by rw [decide_eq_false_iff_not]; omega
  have T0 := Lib.hid (two_new w)
  go_enter Try.func3, Try.ntmps3
  go_wp2_with fail
  have B0 := Lib.hid ((below_alloc w (.cells #[.pointer none, .pointer none, .pointer none, .pointer none, .pointer none, .pointer none, .pointer none, .pointer none, .pointer none, .pointer none, .pointer none, .pointer none, .int .i64 0, .int .i64 0] 29)).trans ((below_alloc _ (.cells #[.slice none 0 0, .slice none 0 0] 33)).mono (by rw [World.size_alloc]; omega)))
  have hlen := h0.len
  have hcap := h0.cap
  have hmost := h0.most
  have h0 := Lib.hid h0
  go_loopw [5] (fun i wr => ∃ j : Nat, j ≤ n0 ∧ i = .int .i64 (j : Int) ∧ ∃ l : SL, l.length ≤ j ∧ Two w.heap.size w.heap.size (w.heap.size + 1) l l wr ∧ Below w.heap.size w wr) (fun i _ => n0 - (intOf i).toNat)
  case atStart => exact ⟨0, Nat.zero_le _, rfl, [], Nat.le_refl _, T0.out, B0.out⟩
  case round =>
    clear T0 B0
    obtain ⟨j, hj, rfl, l, hl, T0, B0⟩ := hrel
    by_cases hlt : j < n0
    · obtain ⟨x, hx⟩ : ∃ x, ops[j]? = some x := ⟨_, List.getElem?_eq_getElem (by rw [hlen]; exact hlt)⟩
      have i1 : (j : Int) < (n0 : Int) := by omega
      obtain ⟨px, _⟩ := (h0.out.below B0 (Nat.le_refl _)).addr (by omega)
      have KO : Hid (∀ u, Below w.heap.size w u → u.cell? ⟨b0, o0 + j * 6, none⟩ = some (.int .i64 x.act) ∧ u.cell? ⟨b0, o0 + j * 6 + 1, none⟩ = some (.string x.row.key) ∧ u.cell? ⟨b0, o0 + j * 6 + 2, none⟩ = some (.int .u64 (x.row.seq : Int)) ∧ u.cell? ⟨b0, o0 + j * 6 + 3, none⟩ = some (.int .i64 x.row.kind) ∧ u.cell? ⟨b0, o0 + j * 6 + 4, none⟩ = some (.string x.row.val) ∧ u.cell? ⟨b0, o0 + j * 6 + 5, none⟩ = some (.int .i64 x.hgt)) := Lib.hid fun u hu => by
        have := (h0.out.below hu (Nat.le_refl _)).at' j x hx
        exact ⟨this 0 _ rfl, this 1 _ rfl, this 2 _ rfl, this 3 _ rfl, this 4 _ rfl, this 5 _ rfl⟩
      obtain ⟨x0, x1, x2, x3, x4, x5⟩ := KO.out wr B0
      obtain ⟨g1, g2, g3⟩ := hg x (List.mem_of_getElem? hx)
      subst px
      have O1 := OpAt.new x wr
      have T1 := T0.grow (below_alloc wr (.cells #[.int .i64 x.act, .string x.row.key, .int .u64 (x.row.seq : Int), .int .i64 x.row.kind, .string x.row.val, .int .i64 x.hgt] 38))
      have B1 := B0.trans ((below_alloc wr (.cells #[.int .i64 x.act, .string x.row.key, .int .u64 (x.row.seq : Int), .int .i64 x.row.kind, .string x.row.val, .int .i64 x.hgt] 38)).mono B0.size)
      obtain ⟨z0, z1, z2, z3, z4, z5⟩ := O1.cells
      obtain ⟨pa, pc, qa, qc, pb, qb, hd, rs, qs⟩ := T1.refs
      obtain ⟨d1, d2⟩ := pair_box hd
      have PL := Lib.hid (place_ref rs (by omega) x.row.key x.row.seq)
      have T1 := Lib.hid T1
      have B1 := Lib.hid B1
      have O1 := Lib.hid O1
      clear T0 B0 hd rs qs
      obtain ⟨act, ⟨xk, xs, xi, xv⟩, hgt⟩ := x
      simp only at x0 x1 x2 x3 x4 x5 g1 g2 g3 z0 z1 z2 z3 z4 z5 PL T1 B1 O1
      obtain ⟨L, hL⟩ := named l.length
      rw [← hL.out] at d1 d2 PL
      rw [show plc (rowsL l) xk xs = plL l xk xs from rfl] at PL
      obtain ⟨PP, hPP⟩ := named (plL l xk xs)
      rw [← hPP.out] at PL
      obtain ⟨TL, hTL⟩ := named (topH (hgtsL l))
      have LN : Hid (∀ u, Two w.heap.size w.heap.size (w.heap.size + 1) l l u → Calls Try.prog 18 #[.pointer (some ⟨w.heap.size, 0, none⟩)] u fun e w' => e = .returned (.int .i64 (L : Int)) ∧ w' = u) := Lib.hid fun u hu => by rw [hL.out]; exact len_l (hu.zoo.ls (i := 0) rfl)
      have HT : Hid (∀ u, Two w.heap.size w.heap.size (w.heap.size + 1) l l u → Calls Try.prog 19 #[.pointer (some ⟨w.heap.size, 0, none⟩)] u fun e w' => e = .returned (.int .i64 (TL : Int)) ∧ w' = u) := Lib.hid fun u hu => by rw [hTL.out]; exact height_l (hu.zoo.ls (i := 0) rfl)
      have bs : ∀ u v : World, Below w.heap.size w u → Below u.heap.size u v → Below w.heap.size w v := fun u v h1 h2 => h1.trans (h2.mono h1.size)
      have bs := Lib.hid bs
      have hl1 : Hid (l.length ≤ j) := Lib.hid hl
      have hj1 : Hid (j < n0) := Lib.hid hlt
      have hPL : Hid (PP ≤ L) := Lib.hid (by rw [hPP.out, hL.out]; exact plL_le l xk xs)
      have LJ : Hid (L ≤ 150) := Lib.hid (by rw [hL.out]; omega)
      go_upto_block 2 with (go_at_call 10; ((with_reducible refine PL.out.mono ?_); rintro e w2 ⟨rfl, hb2⟩; have T2 := Lib.hid (T1.out.grow hb2); have B2 := Lib.hid (bs.out _ _ B1.out hb2); have O2 := Lib.hid (O1.out.grow hb2); clear PL d1 d2 x0 x1 x2 x3 x4 x5 z0 z1 z2 z3 z4 z5 hb2; obtain ⟨z0, z1, z2, z3, z4, z5⟩ := O2.out.cells))
      obtain ⟨pa2, pc2, qa2, qc2, pb2, qb2, hd2, rs2, qs2⟩ := T2.out.refs
      rw [← hL.out] at hd2 rs2 qs2
      have rsm := rs2.most
      have rsc := rs2.cap
      have HD : Hid (∀ v, Below w2.heap.size w2 v → v.cell? ⟨w.heap.size + 1, 0, none⟩ = some (.slice pa2 L pc2) ∧ v.cell? ⟨w.heap.size + 1, 1, none⟩ = some (.slice qa2 L qc2)) := Lib.hid fun v hv => pair_box ((hv.block _ (Array.getElem?_eq_some_iff.1 hd2).1).trans hd2)
      obtain ⟨d1, d2⟩ := HD.out w2 (Below.refl _ _)
      have RS2 := Lib.hid rs2
      have QS2 := Lib.hid qs2
      clear hd2 rs2 qs2 LN HT
      have OK2 : Hid (∀ v, Below w2.heap.size w2 v → OpAt wr.heap.size ⟨act, ⟨xk, xs, xi, xv⟩, hgt⟩ v) := Lib.hid fun v hv => O2.out.grow hv
      have Z2 := Lib.hid (Below.refl w2.heap.size w2).drew
      go_cut [8, 9, 10] from 17 to 161 (fun _ _ _ wc => ∃ l' : SL, l'.length ≤ j + 1 ∧ Two w.heap.size w.heap.size (w.heap.size + 1) l' l' wc ∧ Below w.heap.size w wc)
      case first =>
        by_cases q1 : act = 1
        · subst q1
          have P1 := T2.out.drew.putP B2.out.size (by have := LJ.out; have := hL.out; omega) ⟨xk, xs, xi, xv⟩ g2 hgt
          dsimp only at P1
          obtain ⟨TH, hTH⟩ := named (!thrL l xk xs)
          rw [← hTH.out] at P1
          have P1 := Lib.hid P1
          go_upto_region 12 with fail
          refine wp_region_held_drew (S := (fun v => v.cell? ⟨wr.heap.size, 0, none⟩ = some (.int .i64 1) ∧ v.cell? ⟨wr.heap.size, 1, none⟩ = some (.string xk) ∧ v.cell? ⟨wr.heap.size, 2, none⟩ = some (.int .u64 (xs : Int)) ∧ v.cell? ⟨wr.heap.size, 3, none⟩ = some (.int .i64 xi) ∧ v.cell? ⟨wr.heap.size, 4, none⟩ = some (.string xv) ∧ v.cell? ⟨wr.heap.size, 5, none⟩ = some (.int .i64 hgt))) (by kernel_rfl) (OpAt.cells (OK2.out _ Z2.out)) (fun hHeld => ?_)
          refine held_take (i := 0) (v := ?_) rfl (by kernel_rfl) (by kernel_rfl) (by kernel_rfl) (fun _ _ _ h => h) (by rfl) (fun w hSw => ?_) (by assumption) ?_; rotate_left 1; focus (((try dsimp only at hSw); first | (go_simp; done) | (go_simp; with_reducible rfl)))
          try simp only [Act.put, List.setIfInBounds_toArray, List.set_cons_zero, List.set_cons_succ]
          refine held_take (i := 1) (v := ?_) rfl (by kernel_rfl) (by kernel_rfl) (by kernel_rfl) (fun _ _ _ h => h) (by rfl) (fun w hSw => ?_) (by assumption) ?_; rotate_left 1; focus (((try dsimp only at hSw); first | (go_simp; done) | (go_simp; with_reducible rfl)))
          try simp only [Act.put, List.setIfInBounds_toArray, List.set_cons_zero, List.set_cons_succ]
          refine held_take (i := 2) (v := ?_) rfl (by kernel_rfl) (by kernel_rfl) (by kernel_rfl) (fun _ _ _ h => h) (by rfl) (fun w hSw => ?_) (by assumption) ?_; rotate_left 1; focus (((try dsimp only at hSw); first | (go_simp; done) | (go_simp; with_reducible rfl)))
          try simp only [Act.put, List.setIfInBounds_toArray, List.set_cons_zero, List.set_cons_succ]
          refine held_take (i := 3) (v := ?_) rfl (by kernel_rfl) (by kernel_rfl) (by kernel_rfl) (fun _ _ _ h => h) (by rfl) (fun w hSw => ?_) (by assumption) ?_; rotate_left 1; focus (((try dsimp only at hSw); first | (go_simp; done) | (go_simp; with_reducible rfl)))
          try simp only [Act.put, List.setIfInBounds_toArray, List.set_cons_zero, List.set_cons_succ]
          refine held_take (i := 4) (v := ?_) rfl (by kernel_rfl) (by kernel_rfl) (by kernel_rfl) (fun _ _ _ h => h) (by rfl) (fun w hSw => ?_) (by assumption) ?_; rotate_left 1; focus (((try dsimp only at hSw); first | (go_simp; done) | (go_simp; with_reducible rfl)))
          try simp only [Act.put, List.setIfInBounds_toArray, List.set_cons_zero, List.set_cons_succ]
          refine held_take (i := 6) (v := ?_) rfl (by kernel_rfl) (by kernel_rfl) (by kernel_rfl) (fun _ _ _ h => h) (by rfl) (fun w hSw => ?_) (by assumption) ?_; rotate_left 1; focus (((try dsimp only at hSw); first | (go_simp; done) | (go_simp; with_reducible rfl)))
          try simp only [Act.put, List.setIfInBounds_toArray, List.set_cons_zero, List.set_cons_succ]
          refine held_take (i := 7) (v := ?_) rfl (by kernel_rfl) (by kernel_rfl) (by kernel_rfl) (fun _ _ _ h => h) (by rfl) (fun w hSw => ?_) (by assumption) ?_; rotate_left 1; focus (((try dsimp only at hSw); first | (go_simp; done) | (go_simp; with_reducible rfl)))
          try simp only [Act.put, List.setIfInBounds_toArray, List.set_cons_zero, List.set_cons_succ]
          refine held_take (i := 8) (v := ?_) rfl (by kernel_rfl) (by kernel_rfl) (by kernel_rfl) (fun _ _ _ h => h) (by rfl) (fun w hSw => ?_) (by assumption) ?_; rotate_left 1; focus (((try dsimp only at hSw); first | (go_simp; done) | (go_simp; with_reducible rfl)))
          try simp only [Act.put, List.setIfInBounds_toArray, List.set_cons_zero, List.set_cons_succ]
          refine held_take (i := 9) (v := ?_) rfl (by kernel_rfl) (by kernel_rfl) (by kernel_rfl) (fun _ _ _ h => h) (by rfl) (fun w hSw => ?_) (by assumption) ?_; rotate_left 1; focus (((try dsimp only at hSw); first | (go_simp; done) | (go_simp; with_reducible rfl)))
          try simp only [Act.put, List.setIfInBounds_toArray, List.set_cons_zero, List.set_cons_succ]
          refine held_call (i := 5) (by kernel_rfl) rfl (by rfl) (fun K hK => ?_)
          go_simp
          (go_at_call 11; ((with_reducible refine P1.out.mono ?_); rintro e w3 ⟨rfl, T3, B3, K3⟩; have C3 := Lib.hid (K3 _ _ (OK2.out _ Z2.out)); have T3 := Lib.hid T3; have B3 := Lib.hid (B2.out.drew.trans B3); have P2 := T3.out.putD B3.out.size (by have := LJ.out; have := hL.out; omega) ⟨xk, xs, xi, xv⟩ hgt; dsimp only at P2; rw [← hTH.out] at P2; have P2 := Lib.hid P2; clear K3))
          refine hK.out _ _ (OpAt.cells C3.out) (fun hHeld => ?_)
          try simp only [Act.put, List.setIfInBounds_toArray, List.set_cons_zero, List.set_cons_succ]
          refine held_call (i := 10) (by kernel_rfl) rfl (by rfl) (fun K hK => ?_)
          go_simp
          (go_at_call 12; ((with_reducible refine P2.out.mono ?_); rintro e w4 ⟨rfl, T4, B4, K4⟩; have C4 := Lib.hid (K4 _ _ C3.out); have T4 := Lib.hid T4; have B4 := Lib.hid (B3.out.trans B4); clear K4))
          refine hK.out _ _ (OpAt.cells C4.out) (fun hHeld => ?_)
          try simp only [Act.put, List.setIfInBounds_toArray, List.set_cons_zero, List.set_cons_succ]
          refine held_take (i := 11) (v := ?_) rfl (by kernel_rfl) (by kernel_rfl) (by kernel_rfl) (fun _ _ _ h => h) (by rfl) (fun w hSw => ?_) (by assumption) ?_; rotate_left 1; focus (((try dsimp only at hSw); first | (go_simp; done) | (go_simp; with_reducible rfl)))
          try simp only [Act.put, List.setIfInBounds_toArray, List.set_cons_zero, List.set_cons_succ]
          refine wpAnyH_done (by kernel_rfl) ?_ _
          go_wp2_with fail
          go_meet
          exact ⟨putL l ⟨xk, xs, xi, xv⟩ (hgtOf hgt), Nat.le_trans (putL_len _ _ _).2 (Nat.succ_le_succ hl1.out), T4.out, B4.out⟩
        · by_cases q2 : act = 2
          · subst q2
            have SK := seek_l (T2.out.zoo.ls (i := 0) rfl) (by have := LJ.out; have := hL.out; omega) xk xs
            rw [← hPP.out] at SK
            cases hd : (rowsL l).drop PP with
            | nil =>
              have i1 : ¬ ((PP : Int) < (L : Int)) := by
                have := List.drop_eq_nil_iff.1 hd
                rw [rows_len, ← hL.out] at this
                omega
              rw [hd, show seekR [] = .tuple #[.agg #[.string ⟨#[]⟩, .int .u64 0, .int .i64 0, .string ⟨#[]⟩], .bool false] from rfl] at SK
              have SK := Lib.hid SK
              have i2 : decide (PP < L) = false := decide_eq_false (by omega)
              clear hd
              go_upto_region 16 with (go_at_call 13; ((with_reducible refine SK.out.mono ?_); rintro e w3 ⟨rfl, hb3⟩; have B3 := Lib.hid hb3; clear hb3 SK))
              have R3 := Lib.hid (RowAt.new zeroR w3)
              have E3 := Lib.hid (below_of B3.out (below_alloc w3 (.cells #[.string ⟨#[]⟩, .int .u64 0, .int .i64 0, .string ⟨#[]⟩] 36)))
              refine wp_region_held_drew (S := (fun v => (v.cell? ⟨w3.heap.size, 0, none⟩ = some (.string ⟨#[]⟩) ∧ v.cell? ⟨w3.heap.size, 1, none⟩ = some (.int .u64 0) ∧ v.cell? ⟨w3.heap.size, 2, none⟩ = some (.int .i64 0) ∧ v.cell? ⟨w3.heap.size, 3, none⟩ = some (.string ⟨#[]⟩)) ∧ v.cell? ⟨w.heap.size + 1, 0, none⟩ = some (.slice pa2 L pc2))) (by kernel_rfl) (⟨(R3.out.below (Below.refl _ _).drew).cells.1, (HD.out _ E3.out.drew).1⟩) (fun hHeld => ?_)
              refine held_take (i := 0) (v := ?_) rfl (by kernel_rfl) (by kernel_rfl) (by kernel_rfl) (fun _ _ _ h => h) (by rfl) (fun w hSw => ?_) (by assumption) ?_; rotate_left 1; focus (((try dsimp only at hSw); first | (go_simp; done) | (go_simp; with_reducible rfl)))
              try simp only [Act.put, List.setIfInBounds_toArray, List.set_cons_zero, List.set_cons_succ]
              refine held_take (i := 1) (v := ?_) rfl (by kernel_rfl) (by kernel_rfl) (by kernel_rfl) (fun _ _ _ h => h) (by rfl) (fun w hSw => ?_) (by assumption) ?_; rotate_left 1; focus (((try dsimp only at hSw); first | (go_simp; done) | (go_simp; with_reducible rfl)))
              try simp only [Act.put, List.setIfInBounds_toArray, List.set_cons_zero, List.set_cons_succ]
              refine held_take (i := 2) (v := ?_) rfl (by kernel_rfl) (by kernel_rfl) (by kernel_rfl) (fun _ _ _ h => h) (by rfl) (fun w hSw => ?_) (by assumption) ?_; rotate_left 1; focus (((try dsimp only at hSw); first | (go_simp; done) | (go_simp; with_reducible rfl)))
              try simp only [Act.put, List.setIfInBounds_toArray, List.set_cons_zero, List.set_cons_succ]
              refine held_take (i := 3) (v := ?_) rfl (by kernel_rfl) (by kernel_rfl) (by kernel_rfl) (fun _ _ _ h => h) (by rfl) (fun w hSw => ?_) (by assumption) ?_; rotate_left 1; focus (((try dsimp only at hSw); first | (go_simp; done) | (go_simp; with_reducible rfl)))
              try simp only [Act.put, List.setIfInBounds_toArray, List.set_cons_zero, List.set_cons_succ]
              refine held_take (i := 4) (v := ?_) rfl (by kernel_rfl) (by kernel_rfl) (by kernel_rfl) (fun _ _ _ h => h) (by rfl) (fun w hSw => ?_) (by assumption) ?_; rotate_left 1; focus (((try dsimp only at hSw); first | (go_simp; done) | (go_simp; with_reducible rfl)))
              try simp only [Act.put, List.setIfInBounds_toArray, List.set_cons_zero, List.set_cons_succ]
              refine held_take (i := 5) (v := ?_) rfl (by kernel_rfl) (by kernel_rfl) (by kernel_rfl) (fun _ _ _ h => h) (by rfl) (fun w hSw => ?_) (by assumption) ?_; rotate_left 1; focus (((try dsimp only at hSw); first | (go_simp; done) | (go_simp; with_reducible rfl)))
              try simp only [Act.put, List.setIfInBounds_toArray, List.set_cons_zero, List.set_cons_succ]
              refine held_take (i := 6) (v := ?_) rfl (by kernel_rfl) (by kernel_rfl) (by kernel_rfl) (fun _ _ _ h => h) (by rfl) (fun w hSw => ?_) (by assumption) ?_; rotate_left 1; focus (((try dsimp only at hSw); first | (go_simp; done) | (go_simp; with_reducible rfl)))
              try simp only [Act.put, List.setIfInBounds_toArray, List.set_cons_zero, List.set_cons_succ]
              refine held_take (i := 7) (v := ?_) rfl (by kernel_rfl) (by kernel_rfl) (by kernel_rfl) (fun _ _ _ h => h) (by rfl) (fun w hSw => ?_) (by assumption) ?_; rotate_left 1; focus (((try dsimp only at hSw); first | (go_simp; done) | (go_simp; with_reducible rfl)))
              try simp only [Act.put, List.setIfInBounds_toArray, List.set_cons_zero, List.set_cons_succ]
              refine held_take (i := 8) (v := ?_) rfl (by kernel_rfl) (by kernel_rfl) (by kernel_rfl) (fun _ _ _ h => h) (by rfl) (fun w hSw => ?_) (by assumption) ?_; rotate_left 1; focus (((try dsimp only at hSw); first | (go_simp; done) | (go_simp; with_reducible rfl)))
              try simp only [Act.put, List.setIfInBounds_toArray, List.set_cons_zero, List.set_cons_succ]
              refine held_take (i := 9) (v := ?_) rfl (by kernel_rfl) (by kernel_rfl) (by kernel_rfl) (fun _ _ _ h => h) (by rfl) (fun w hSw => ?_) (by assumption) ?_; rotate_left 1; focus (((try dsimp only at hSw); first | (go_simp; done) | (go_simp; with_reducible rfl)))
              try simp only [Act.put, List.setIfInBounds_toArray, List.set_cons_zero, List.set_cons_succ]
              refine held_skip (i := 10) rfl (by kernel_rfl) (by kernel_rfl) (by kernel_rfl) (fun _ _ _ h => h) (by rfl) (by assumption) ?_
              try simp only [Act.put, List.setIfInBounds_toArray, List.set_cons_zero, List.set_cons_succ]
              refine held_skip (i := 11) rfl (by kernel_rfl) (by kernel_rfl) (by kernel_rfl) (fun _ _ _ h => h) (by rfl) (by assumption) ?_
              try simp only [Act.put, List.setIfInBounds_toArray, List.set_cons_zero, List.set_cons_succ]
              refine held_skip (i := 12) rfl (by kernel_rfl) (by kernel_rfl) (by kernel_rfl) (fun _ _ _ h => h) (by rfl) (by assumption) ?_
              try simp only [Act.put, List.setIfInBounds_toArray, List.set_cons_zero, List.set_cons_succ]
              refine held_skip (i := 13) rfl (by kernel_rfl) (by kernel_rfl) (by kernel_rfl) (fun _ _ _ h => h) (by rfl) (by assumption) ?_
              try simp only [Act.put, List.setIfInBounds_toArray, List.set_cons_zero, List.set_cons_succ]
              refine held_skip (i := 14) rfl (by kernel_rfl) (by kernel_rfl) (by kernel_rfl) (fun _ _ _ h => h) (by rfl) (by assumption) ?_
              try simp only [Act.put, List.setIfInBounds_toArray, List.set_cons_zero, List.set_cons_succ]
              refine held_skip (i := 15) rfl (by kernel_rfl) (by kernel_rfl) (by kernel_rfl) (fun _ _ _ h => h) (by rfl) (by assumption) ?_
              try simp only [Act.put, List.setIfInBounds_toArray, List.set_cons_zero, List.set_cons_succ]
              refine held_skip (i := 16) rfl (by kernel_rfl) (by kernel_rfl) (by kernel_rfl) (fun _ _ _ h => h) (by rfl) (by assumption) ?_
              try simp only [Act.put, List.setIfInBounds_toArray, List.set_cons_zero, List.set_cons_succ]
              refine held_take (i := 17) (v := ?_) rfl (by kernel_rfl) (by kernel_rfl) (by kernel_rfl) (fun _ _ _ h => h) (by rfl) (fun w hSw => ?_) (by assumption) ?_; rotate_left 1; focus (((try dsimp only at hSw); first | (go_simp; done) | (go_simp; with_reducible rfl)))
              try simp only [Act.put, List.setIfInBounds_toArray, List.set_cons_zero, List.set_cons_succ]
              refine held_take (i := 18) (v := ?_) rfl (by kernel_rfl) (by kernel_rfl) (by kernel_rfl) (fun _ _ _ h => h) (by rfl) (fun w hSw => ?_) (by assumption) ?_; rotate_left 1; focus (((try dsimp only at hSw); first | (go_simp; done) | (go_simp; with_reducible rfl)))
              try simp only [Act.put, List.setIfInBounds_toArray, List.set_cons_zero, List.set_cons_succ]
              refine held_take (i := 19) (v := ?_) rfl (by kernel_rfl) (by kernel_rfl) (by kernel_rfl) (fun _ _ _ h => h) (by rfl) (fun w hSw => ?_) (by assumption) ?_; rotate_left 1; focus (((try dsimp only at hSw); first | (go_simp; done) | (go_simp; with_reducible rfl)))
              try simp only [Act.put, List.setIfInBounds_toArray, List.set_cons_zero, List.set_cons_succ]
              refine held_take (i := 20) (v := ?_) rfl (by kernel_rfl) (by kernel_rfl) (by kernel_rfl) (fun _ _ _ h => h) (by rfl) (fun w hSw => ?_) (by assumption) ?_; rotate_left 1; focus (((try dsimp only at hSw); first | (go_simp; done) | (go_simp; with_reducible rfl)))
              try simp only [Act.put, List.setIfInBounds_toArray, List.set_cons_zero, List.set_cons_succ]
              refine held_take (i := 21) (v := ?_) rfl (by kernel_rfl) (by kernel_rfl) (by kernel_rfl) (fun _ _ _ h => h) (by rfl) (fun w hSw => ?_) (by assumption) ?_; rotate_left 1; focus (((try dsimp only at hSw); first | (go_simp; done) | (go_simp; with_reducible rfl)))
              try simp only [Act.put, List.setIfInBounds_toArray, List.set_cons_zero, List.set_cons_succ]
              refine held_take (i := 22) (v := ?_) rfl (by kernel_rfl) (by kernel_rfl) (by kernel_rfl) (fun _ _ _ h => h) (by rfl) (fun w hSw => ?_) (by assumption) ?_; rotate_left 1; focus (((try dsimp only at hSw); first | (go_simp; done) | (go_simp; with_reducible rfl)))
              try simp only [Act.put, List.setIfInBounds_toArray, List.set_cons_zero, List.set_cons_succ]
              refine held_take (i := 23) (v := ?_) rfl (by kernel_rfl) (by kernel_rfl) (by kernel_rfl) (fun _ _ _ h => h) (by rfl) (fun w hSw => ?_) (by assumption) ?_; rotate_left 1; focus (((try dsimp only at hSw); first | (go_simp; done) | (go_simp; with_reducible rfl)))
              try simp only [Act.put, List.setIfInBounds_toArray, List.set_cons_zero, List.set_cons_succ]
              refine held_take (i := 24) (v := ?_) rfl (by kernel_rfl) (by kernel_rfl) (by kernel_rfl) (fun _ _ _ h => h) (by rfl) (fun w hSw => ?_) (by assumption) ?_; rotate_left 1; focus (((try dsimp only at hSw); first | (go_simp; done) | (go_simp; with_reducible rfl)))
              try simp only [Act.put, List.setIfInBounds_toArray, List.set_cons_zero, List.set_cons_succ]
              refine held_take (i := 25) (v := ?_) rfl (by kernel_rfl) (by kernel_rfl) (by kernel_rfl) (fun _ _ _ h => h) (by rfl) (fun w hSw => ?_) (by assumption) ?_; rotate_left 1; focus (((try dsimp only at hSw); first | (go_simp; done) | (go_simp; with_reducible rfl)))
              try simp only [Act.put, List.setIfInBounds_toArray, List.set_cons_zero, List.set_cons_succ]
              refine held_take (i := 26) (v := ?_) rfl (by kernel_rfl) (by kernel_rfl) (by kernel_rfl) (fun _ _ _ h => h) (by rfl) (fun w hSw => ?_) (by assumption) ?_; rotate_left 1; focus (((try dsimp only at hSw); first | (go_simp; done) | (go_simp; with_reducible rfl)))
              try simp only [Act.put, List.setIfInBounds_toArray, List.set_cons_zero, List.set_cons_succ]
              refine held_take (i := 27) (v := ?_) rfl (by kernel_rfl) (by kernel_rfl) (by kernel_rfl) (fun _ _ _ h => h) (by rfl) (fun w hSw => ?_) (by assumption) ?_; rotate_left 1; focus (((try dsimp only at hSw); first | (go_simp; done) | (go_simp; with_reducible rfl)))
              try simp only [Act.put, List.setIfInBounds_toArray, List.set_cons_zero, List.set_cons_succ]
              refine wpAnyH_done (by kernel_rfl) ?_ _
              go_wp2_with fail
              go_meet
              exact ⟨l, Nat.le_succ_of_le hl1.out, (T2.out.grow E3.out).drew, (bs.out _ _ B2.out E3.out).drew⟩
            | cons y rest =>
              have hy : (rowsL l)[PP]? = some y := by
                have := congrArg (fun t => t[0]?) hd
                simpa using this
              have hPL2 : PP < L := by
                have := (List.getElem?_eq_some_iff.1 hy).1
                rw [rows_len, ← hL.out] at this
                exact this
              have i1 : (PP : Int) < (L : Int) := by omega
              rw [hd] at SK
              obtain ⟨y', hy', hpa, _⟩ := RS2.out.at4 hPL2
              rw [hy] at hy'
              cases hy'
              have YC : Hid (∀ v, Below w2.heap.size w2 v → v.cell? ⟨pb2, PP * 4, none⟩ = some (.string y.key) ∧ v.cell? ⟨pb2, PP * 4 + 1, none⟩ = some (.int .u64 (y.seq : Int)) ∧ v.cell? ⟨pb2, PP * 4 + 2, none⟩ = some (.int .i64 y.kind) ∧ v.cell? ⟨pb2, PP * 4 + 3, none⟩ = some (.string y.val)) := Lib.hid fun v hv => by
                have := (RS2.out.below hv (Nat.le_refl _)).at' PP y hy
                rw [Nat.zero_add] at this
                exact this
              obtain ⟨yk, ys, yi, yv⟩ := y
              rw [show seekR ((⟨yk, ys, yi, yv⟩ : Rw) :: rest) = .tuple #[.agg #[.string yk, .int .u64 (ys : Int), .int .i64 yi, .string yv], .bool true] from rfl] at SK
              have SK := Lib.hid SK
              have NEQ : ∀ u : World, (binOp .neq 36 (.agg #[.string yk, .int .u64 (ys : Int), .int .i64 yi, .string yv]) (.agg #[.string yk, .int .u64 (ys : Int), .int .i64 yi, .string yv])).run Try.prog u = .ok (.bool false) u := fun u => neq_rw _ _ _ _ _ _ _ _ _ (by simp) u
              subst hpa
              clear hd hy
              go_upto_region 16 with (go_at_call 13; ((with_reducible refine SK.out.mono ?_); rintro e w3 ⟨rfl, hb3⟩; have B3 := Lib.hid hb3; clear hb3 SK))
              have R3 := Lib.hid (RowAt.new ⟨yk, ys, yi, yv⟩ w3)
              have E3 := Lib.hid (below_of B3.out (below_alloc w3 (.cells #[.string yk, .int .u64 (ys : Int), .int .i64 yi, .string yv] 36)))
              refine wp_region_held_drew (S := (fun v => (v.cell? ⟨w3.heap.size, 0, none⟩ = some (.string yk) ∧ v.cell? ⟨w3.heap.size, 1, none⟩ = some (.int .u64 (ys : Int)) ∧ v.cell? ⟨w3.heap.size, 2, none⟩ = some (.int .i64 yi) ∧ v.cell? ⟨w3.heap.size, 3, none⟩ = some (.string yv)) ∧ v.cell? ⟨w.heap.size + 1, 0, none⟩ = some (.slice (some ⟨pb2, 0, none⟩) L pc2) ∧ v.cell? ⟨pb2, PP * 4, none⟩ = some (.string yk) ∧ v.cell? ⟨pb2, PP * 4 + 1, none⟩ = some (.int .u64 (ys : Int)) ∧ v.cell? ⟨pb2, PP * 4 + 2, none⟩ = some (.int .i64 yi) ∧ v.cell? ⟨pb2, PP * 4 + 3, none⟩ = some (.string yv))) (by kernel_rfl) (⟨(R3.out.below (Below.refl _ _).drew).cells.1, (HD.out _ E3.out.drew).1, YC.out _ E3.out.drew⟩) (fun hHeld => ?_)
              refine held_take (i := 0) (v := ?_) rfl (by kernel_rfl) (by kernel_rfl) (by kernel_rfl) (fun _ _ _ h => h) (by rfl) (fun w hSw => ?_) (by assumption) ?_; rotate_left 1; focus (((try dsimp only at hSw); first | (go_simp; done) | (go_simp; with_reducible rfl)))
              try simp only [Act.put, List.setIfInBounds_toArray, List.set_cons_zero, List.set_cons_succ]
              refine held_take (i := 1) (v := ?_) rfl (by kernel_rfl) (by kernel_rfl) (by kernel_rfl) (fun _ _ _ h => h) (by rfl) (fun w hSw => ?_) (by assumption) ?_; rotate_left 1; focus (((try dsimp only at hSw); first | (go_simp; done) | (go_simp; with_reducible rfl)))
              try simp only [Act.put, List.setIfInBounds_toArray, List.set_cons_zero, List.set_cons_succ]
              refine held_take (i := 2) (v := ?_) rfl (by kernel_rfl) (by kernel_rfl) (by kernel_rfl) (fun _ _ _ h => h) (by rfl) (fun w hSw => ?_) (by assumption) ?_; rotate_left 1; focus (((try dsimp only at hSw); first | (go_simp; done) | (go_simp; with_reducible rfl)))
              try simp only [Act.put, List.setIfInBounds_toArray, List.set_cons_zero, List.set_cons_succ]
              refine held_take (i := 3) (v := ?_) rfl (by kernel_rfl) (by kernel_rfl) (by kernel_rfl) (fun _ _ _ h => h) (by rfl) (fun w hSw => ?_) (by assumption) ?_; rotate_left 1; focus (((try dsimp only at hSw); first | (go_simp; done) | (go_simp; with_reducible rfl)))
              try simp only [Act.put, List.setIfInBounds_toArray, List.set_cons_zero, List.set_cons_succ]
              refine held_take (i := 4) (v := ?_) rfl (by kernel_rfl) (by kernel_rfl) (by kernel_rfl) (fun _ _ _ h => h) (by rfl) (fun w hSw => ?_) (by assumption) ?_; rotate_left 1; focus (((try dsimp only at hSw); first | (go_simp; done) | (go_simp; with_reducible rfl)))
              try simp only [Act.put, List.setIfInBounds_toArray, List.set_cons_zero, List.set_cons_succ]
              refine held_take (i := 5) (v := ?_) rfl (by kernel_rfl) (by kernel_rfl) (by kernel_rfl) (fun _ _ _ h => h) (by rfl) (fun w hSw => ?_) (by assumption) ?_; rotate_left 1; focus (((try dsimp only at hSw); first | (go_simp; done) | (go_simp; with_reducible rfl)))
              try simp only [Act.put, List.setIfInBounds_toArray, List.set_cons_zero, List.set_cons_succ]
              refine held_take (i := 6) (v := ?_) rfl (by kernel_rfl) (by kernel_rfl) (by kernel_rfl) (fun _ _ _ h => h) (by rfl) (fun w hSw => ?_) (by assumption) ?_; rotate_left 1; focus (((try dsimp only at hSw); first | (go_simp; done) | (go_simp; with_reducible rfl)))
              try simp only [Act.put, List.setIfInBounds_toArray, List.set_cons_zero, List.set_cons_succ]
              refine held_take (i := 7) (v := ?_) rfl (by kernel_rfl) (by kernel_rfl) (by kernel_rfl) (fun _ _ _ h => h) (by rfl) (fun w hSw => ?_) (by assumption) ?_; rotate_left 1; focus (((try dsimp only at hSw); first | (go_simp; done) | (go_simp; with_reducible rfl)))
              try simp only [Act.put, List.setIfInBounds_toArray, List.set_cons_zero, List.set_cons_succ]
              refine held_take (i := 8) (v := ?_) rfl (by kernel_rfl) (by kernel_rfl) (by kernel_rfl) (fun _ _ _ h => h) (by rfl) (fun w hSw => ?_) (by assumption) ?_; rotate_left 1; focus (((try dsimp only at hSw); first | (go_simp; done) | (go_simp; with_reducible rfl)))
              try simp only [Act.put, List.setIfInBounds_toArray, List.set_cons_zero, List.set_cons_succ]
              refine held_take (i := 9) (v := ?_) rfl (by kernel_rfl) (by kernel_rfl) (by kernel_rfl) (fun _ _ _ h => h) (by rfl) (fun w hSw => ?_) (by assumption) ?_; rotate_left 1; focus (((try dsimp only at hSw); first | (go_simp; done) | (go_simp; with_reducible rfl)))
              try simp only [Act.put, List.setIfInBounds_toArray, List.set_cons_zero, List.set_cons_succ]
              refine held_take (i := 10) (v := ?_) rfl (by kernel_rfl) (by kernel_rfl) (by kernel_rfl) (fun _ _ _ h => h) (by rfl) (fun w hSw => ?_) (by assumption) ?_; rotate_left 1; focus (((try dsimp only at hSw); first | (go_simp; done) | (go_simp; with_reducible rfl)))
              try simp only [Act.put, List.setIfInBounds_toArray, List.set_cons_zero, List.set_cons_succ]
              refine held_take (i := 11) (v := ?_) rfl (by kernel_rfl) (by kernel_rfl) (by kernel_rfl) (fun _ _ _ h => h) (by rfl) (fun w hSw => ?_) (by assumption) ?_; rotate_left 1; focus (((try dsimp only at hSw); first | (go_simp; done) | (go_simp; with_reducible rfl)))
              try simp only [Act.put, List.setIfInBounds_toArray, List.set_cons_zero, List.set_cons_succ]
              refine held_take (i := 12) (v := ?_) rfl (by kernel_rfl) (by kernel_rfl) (by kernel_rfl) (fun _ _ _ h => h) (by rfl) (fun w hSw => ?_) (by assumption) ?_; rotate_left 1; focus (((try dsimp only at hSw); first | (go_simp; done) | (go_simp; with_reducible rfl)))
              try simp only [Act.put, List.setIfInBounds_toArray, List.set_cons_zero, List.set_cons_succ]
              refine held_take (i := 13) (v := ?_) rfl (by kernel_rfl) (by kernel_rfl) (by kernel_rfl) (fun _ _ _ h => h) (by rfl) (fun w hSw => ?_) (by assumption) ?_; rotate_left 1; focus (((try dsimp only at hSw); first | (go_simp; done) | (go_simp; with_reducible rfl)))
              try simp only [Act.put, List.setIfInBounds_toArray, List.set_cons_zero, List.set_cons_succ]
              refine held_take (i := 14) (v := ?_) rfl (by kernel_rfl) (by kernel_rfl) (by kernel_rfl) (fun _ _ _ h => h) (by rfl) (fun w hSw => ?_) (by assumption) ?_; rotate_left 1; focus (((try dsimp only at hSw); first | (go_simp; done) | (go_simp; with_reducible rfl)))
              try simp only [Act.put, List.setIfInBounds_toArray, List.set_cons_zero, List.set_cons_succ]
              refine held_take (i := 15) (v := ?_) rfl (by kernel_rfl) (by kernel_rfl) (by kernel_rfl) (fun _ _ _ h => h) (by rfl) (fun w hSw => ?_) (by assumption) ?_; rotate_left 1; focus (((try dsimp only at hSw); first | (go_simp; done) | (go_simp; with_reducible rfl)))
              try simp only [Act.put, List.setIfInBounds_toArray, List.set_cons_zero, List.set_cons_succ]
              refine held_take (i := 16) (v := ?_) rfl (by kernel_rfl) (by kernel_rfl) (by kernel_rfl) (fun _ _ _ h => h) (by rfl) (fun w hSw => ?_) (by assumption) ?_; rotate_left 1; focus (((try dsimp only at hSw); first | (go_simp; done) | (go_simp; with_reducible rfl)))
              try simp only [Act.put, List.setIfInBounds_toArray, List.set_cons_zero, List.set_cons_succ]
              refine held_take (i := 17) (v := ?_) rfl (by kernel_rfl) (by kernel_rfl) (by kernel_rfl) (fun _ _ _ h => h) (by rfl) (fun w hSw => ?_) (by assumption) ?_; rotate_left 1; focus (((try dsimp only at hSw); first | (go_simp; done) | (go_simp; with_reducible rfl)))
              try simp only [Act.put, List.setIfInBounds_toArray, List.set_cons_zero, List.set_cons_succ]
              refine held_take (i := 18) (v := ?_) rfl (by kernel_rfl) (by kernel_rfl) (by kernel_rfl) (fun _ _ _ h => h) (by rfl) (fun w hSw => ?_) (by assumption) ?_; rotate_left 1; focus (((try dsimp only at hSw); first | (go_simp; done) | (go_simp; with_reducible rfl)))
              try simp only [Act.put, List.setIfInBounds_toArray, List.set_cons_zero, List.set_cons_succ]
              refine held_take (i := 19) (v := ?_) rfl (by kernel_rfl) (by kernel_rfl) (by kernel_rfl) (fun _ _ _ h => h) (by rfl) (fun w hSw => ?_) (by assumption) ?_; rotate_left 1; focus (((try dsimp only at hSw); first | (go_simp; done) | (go_simp; with_reducible rfl)))
              try simp only [Act.put, List.setIfInBounds_toArray, List.set_cons_zero, List.set_cons_succ]
              refine held_take (i := 20) (v := ?_) rfl (by kernel_rfl) (by kernel_rfl) (by kernel_rfl) (fun _ _ _ h => h) (by rfl) (fun w hSw => ?_) (by assumption) ?_; rotate_left 1; focus (((try dsimp only at hSw); first | (go_simp; done) | (go_simp; with_reducible rfl)))
              try simp only [Act.put, List.setIfInBounds_toArray, List.set_cons_zero, List.set_cons_succ]
              refine held_take (i := 21) (v := ?_) rfl (by kernel_rfl) (by kernel_rfl) (by kernel_rfl) (fun _ _ _ h => h) (by rfl) (fun w hSw => ?_) (by assumption) ?_; rotate_left 1; focus (((try dsimp only at hSw); first | (go_simp; done) | (go_simp; with_reducible rfl)))
              try simp only [Act.put, List.setIfInBounds_toArray, List.set_cons_zero, List.set_cons_succ]
              refine held_take (i := 22) (v := ?_) rfl (by kernel_rfl) (by kernel_rfl) (by kernel_rfl) (fun _ _ _ h => h) (by rfl) (fun w hSw => ?_) (by assumption) ?_; rotate_left 1; focus (((try dsimp only at hSw); first | (go_simp; done) | (go_simp; with_reducible rfl)))
              try simp only [Act.put, List.setIfInBounds_toArray, List.set_cons_zero, List.set_cons_succ]
              refine held_skip (i := 23) rfl (by kernel_rfl) (by kernel_rfl) (by kernel_rfl) (fun _ _ _ h => h) (by rfl) (by assumption) ?_
              try simp only [Act.put, List.setIfInBounds_toArray, List.set_cons_zero, List.set_cons_succ]
              refine held_skip (i := 24) rfl (by kernel_rfl) (by kernel_rfl) (by kernel_rfl) (fun _ _ _ h => h) (by rfl) (by assumption) ?_
              try simp only [Act.put, List.setIfInBounds_toArray, List.set_cons_zero, List.set_cons_succ]
              refine held_skip (i := 25) rfl (by kernel_rfl) (by kernel_rfl) (by kernel_rfl) (fun _ _ _ h => h) (by rfl) (by assumption) ?_
              try simp only [Act.put, List.setIfInBounds_toArray, List.set_cons_zero, List.set_cons_succ]
              refine held_take (i := 26) (v := ?_) rfl (by kernel_rfl) (by kernel_rfl) (by kernel_rfl) (fun _ _ _ h => h) (by rfl) (fun w hSw => ?_) (by assumption) ?_; rotate_left 1; focus (((try dsimp only at hSw); first | (go_simp; done) | (go_simp; with_reducible rfl)))
              try simp only [Act.put, List.setIfInBounds_toArray, List.set_cons_zero, List.set_cons_succ]
              refine held_take (i := 27) (v := ?_) rfl (by kernel_rfl) (by kernel_rfl) (by kernel_rfl) (fun _ _ _ h => h) (by rfl) (fun w hSw => ?_) (by assumption) ?_; rotate_left 1; focus (((try dsimp only at hSw); first | (go_simp; done) | (go_simp; with_reducible rfl)))
              try simp only [Act.put, List.setIfInBounds_toArray, List.set_cons_zero, List.set_cons_succ]
              refine wpAnyH_done (by kernel_rfl) ?_ _
              go_wp2_with fail
              go_meet
              exact ⟨l, Nat.le_succ_of_le hl1.out, (T2.out.grow E3.out).drew, (bs.out _ _ B2.out E3.out).drew⟩
          · have f1 : (act == 1) = false := by rw [beq_eq_false_iff_ne]; exact q1
            have f2 : (act == 2) = false := by rw [beq_eq_false_iff_ne]; exact q2
            by_cases q3 : act = 3
            · subst q3
              obtain ⟨DD, hDD⟩ := named (L - PP)
              have t7 : ((L : Int) - (PP : Int)) = (DD : Int) := by have := hDD.out; have := hPL.out; omega
              have DL : DD ≤ 150 := by have := hDD.out; have := LJ.out; omega
              have hgR : (-9223372036854775808 : Int) ≤ hgt ∧ hgt ≤ 9223372036854775807 := by simpa [Lit.wf, IntKind.min, IntKind.max, IntKind.signed, IntKind.bits] using g3
              have key : ∀ K F : Nat, F = PP + K → PP + K ≤ L → upTo hgt ((rowsL l).drop PP) = ((rowsL l).drop PP).take K → ∃ M p2, (∀ u, (Instr.slice 30 (.slice pa2 L pc2) (some (.int .i64 (PP : Int))) (some (.int .i64 (F : Int))) none).run Try.prog u = .ok (.slice p2 K (pc2 - PP)) u) ∧ Hid (Rs p2 K (pc2 - PP) pb2 (0 + PP * 4) M w2) ∧ Hid (Calls Try.prog 15 #[.pointer (some ⟨w.heap.size, 0, none⟩), .string xk, .int .u64 (xs : Int), .int .i64 hgt] w2.drew fun e w' => ∃ p c b, e = .returned (.slice p K c) ∧ Rs p K c b 0 M w' ∧ Below w2.heap.size w2 w') := fun K F hF hK hu => by
                obtain ⟨p2, s1, r2⟩ := rows_mid RS2.out hF hK
                refine ⟨((rowsL l).drop PP).take K, p2, s1, Lib.hid r2, Lib.hid ?_⟩
                refine (all_l (T2.out.drew.zoo.ls (i := 0) rfl) (by have := LJ.out; have := hL.out; omega) xk g2.1 xs hgt).mono fun e w' h => ?_
                rw [← hPP.out, hu] at h
                obtain ⟨p, c, b, h1, h2, h3⟩ := rs_of_gave h
                have e4 : (((rowsL l).drop PP).take K).length = K := by rw [List.length_take, List.length_drop, rows_len, ← hL.out]; omega
                rw [e4] at h1 h2
                exact ⟨p, c, b, h1, h2, undrew h3⟩
              by_cases hh : 0 ≤ hgt ∧ hgt < (DD : Int)
              · obtain ⟨q, rfl⟩ := Int.eq_ofNat_of_zero_le hh.1
                have hq : q < DD := by omega
                obtain ⟨F, hF⟩ := named (PP + q)
                have FL : F ≤ 150 := by have := hF.out; have := hDD.out; have := hPL.out; have := LJ.out; omega
                obtain ⟨M, p2, SL, R2, AL⟩ := key q F hF.out (by have := hDD.out; omega) (by unfold upTo; rw [if_pos (by rw [List.length_drop, rows_len, ← hL.out]; have := hDD.out; omega)]; simp)
                have t8 : (PP : Int) + (q : Int) = (F : Int) := by have := hF.out; omega
                have hw := IntWalk.i64_in (F : Int) ⟨by omega, by omega⟩
                have c1 : decide ((0 : Int) ≤ (q : Int)) = true := by rw [decide_eq_true_eq]; omega
                have i0 : (0 : Int) ≤ (q : Int) := by omega
                have i1 : (q : Int) < (DD : Int) := by omega
                have hPLo := hPL.out
                have LJo := LJ.out
                clear key hh
                go_upto_region 22 with fail
                refine wp_region_held_drew (S := (fun v => (v.cell? ⟨wr.heap.size, 0, none⟩ = some (.int .i64 3) ∧ v.cell? ⟨wr.heap.size, 1, none⟩ = some (.string xk) ∧ v.cell? ⟨wr.heap.size, 2, none⟩ = some (.int .u64 (xs : Int)) ∧ v.cell? ⟨wr.heap.size, 3, none⟩ = some (.int .i64 xi) ∧ v.cell? ⟨wr.heap.size, 4, none⟩ = some (.string xv) ∧ v.cell? ⟨wr.heap.size, 5, none⟩ = some (.int .i64 (q : Int))) ∧ v.cell? ⟨w.heap.size + 1, 0, none⟩ = some (.slice pa2 L pc2))) (by kernel_rfl) (⟨OpAt.cells (OK2.out _ Z2.out), (HD.out _ Z2.out).1⟩) (fun hHeld => ?_)
                refine held_take (i := 0) (v := ?_) rfl (by kernel_rfl) (by kernel_rfl) (by kernel_rfl) (fun _ _ _ h => h) (by rfl) (fun w hSw => ?_) (by assumption) ?_; rotate_left 1; focus (((try dsimp only at hSw); first | (go_simp; done) | (go_simp; with_reducible rfl)))
                try simp only [Act.put, List.setIfInBounds_toArray, List.set_cons_zero, List.set_cons_succ]
                refine held_take (i := 1) (v := ?_) rfl (by kernel_rfl) (by kernel_rfl) (by kernel_rfl) (fun _ _ _ h => h) (by rfl) (fun w hSw => ?_) (by assumption) ?_; rotate_left 1; focus (((try dsimp only at hSw); first | (go_simp; done) | (go_simp; with_reducible rfl)))
                try simp only [Act.put, List.setIfInBounds_toArray, List.set_cons_zero, List.set_cons_succ]
                refine held_take (i := 2) (v := ?_) rfl (by kernel_rfl) (by kernel_rfl) (by kernel_rfl) (fun _ _ _ h => h) (by rfl) (fun w hSw => ?_) (by assumption) ?_; rotate_left 1; focus (((try dsimp only at hSw); first | (go_simp; done) | (go_simp; with_reducible rfl)))
                try simp only [Act.put, List.setIfInBounds_toArray, List.set_cons_zero, List.set_cons_succ]
                refine held_take (i := 3) (v := ?_) rfl (by kernel_rfl) (by kernel_rfl) (by kernel_rfl) (fun _ _ _ h => h) (by rfl) (fun w hSw => ?_) (by assumption) ?_; rotate_left 1; focus (((try dsimp only at hSw); first | (go_simp; done) | (go_simp; with_reducible rfl)))
                try simp only [Act.put, List.setIfInBounds_toArray, List.set_cons_zero, List.set_cons_succ]
                refine held_take (i := 4) (v := ?_) rfl (by kernel_rfl) (by kernel_rfl) (by kernel_rfl) (fun _ _ _ h => h) (by rfl) (fun w hSw => ?_) (by assumption) ?_; rotate_left 1; focus (((try dsimp only at hSw); first | (go_simp; done) | (go_simp; with_reducible rfl)))
                try simp only [Act.put, List.setIfInBounds_toArray, List.set_cons_zero, List.set_cons_succ]
                refine held_take (i := 5) (v := ?_) rfl (by kernel_rfl) (by kernel_rfl) (by kernel_rfl) (fun _ _ _ h => h) (by rfl) (fun w hSw => ?_) (by assumption) ?_; rotate_left 1; focus (((try dsimp only at hSw); first | (go_simp; done) | (go_simp; with_reducible rfl)))
                try simp only [Act.put, List.setIfInBounds_toArray, List.set_cons_zero, List.set_cons_succ]
                refine held_take (i := 6) (v := ?_) rfl (by kernel_rfl) (by kernel_rfl) (by kernel_rfl) (fun _ _ _ h => h) (by rfl) (fun w hSw => ?_) (by assumption) ?_; rotate_left 1; focus (((try dsimp only at hSw); first | (go_simp; done) | (go_simp; with_reducible rfl)))
                try simp only [Act.put, List.setIfInBounds_toArray, List.set_cons_zero, List.set_cons_succ]
                refine held_take (i := 7) (v := ?_) rfl (by kernel_rfl) (by kernel_rfl) (by kernel_rfl) (fun _ _ _ h => h) (by rfl) (fun w hSw => ?_) (by assumption) ?_; rotate_left 1; focus (((try dsimp only at hSw); first | (go_simp; done) | (go_simp; with_reducible rfl)))
                try simp only [Act.put, List.setIfInBounds_toArray, List.set_cons_zero, List.set_cons_succ]
                refine held_take (i := 8) (v := ?_) rfl (by kernel_rfl) (by kernel_rfl) (by kernel_rfl) (fun _ _ _ h => h) (by rfl) (fun w hSw => ?_) (by assumption) ?_; rotate_left 1; focus (((try dsimp only at hSw); first | (go_simp; done) | (go_simp; with_reducible rfl)))
                try simp only [Act.put, List.setIfInBounds_toArray, List.set_cons_zero, List.set_cons_succ]
                refine held_take (i := 10) (v := ?_) rfl (by kernel_rfl) (by kernel_rfl) (by kernel_rfl) (fun _ _ _ h => h) (by rfl) (fun w hSw => ?_) (by assumption) ?_; rotate_left 1; focus (((try dsimp only at hSw); first | (go_simp; done) | (go_simp; with_reducible rfl)))
                try simp only [Act.put, List.setIfInBounds_toArray, List.set_cons_zero, List.set_cons_succ]
                refine held_take (i := 11) (v := ?_) rfl (by kernel_rfl) (by kernel_rfl) (by kernel_rfl) (fun _ _ _ h => h) (by rfl) (fun w hSw => ?_) (by assumption) ?_; rotate_left 1; focus (((try dsimp only at hSw); first | (go_simp; done) | (go_simp; with_reducible rfl)))
                try simp only [Act.put, List.setIfInBounds_toArray, List.set_cons_zero, List.set_cons_succ]
                refine held_take (i := 12) (v := ?_) rfl (by kernel_rfl) (by kernel_rfl) (by kernel_rfl) (fun _ _ _ h => h) (by rfl) (fun w hSw => ?_) (by assumption) ?_; rotate_left 1; focus (((try dsimp only at hSw); first | (go_simp; done) | (go_simp; with_reducible rfl)))
                try simp only [Act.put, List.setIfInBounds_toArray, List.set_cons_zero, List.set_cons_succ]
                refine held_take (i := 13) (v := ?_) rfl (by kernel_rfl) (by kernel_rfl) (by kernel_rfl) (fun _ _ _ h => h) (by rfl) (fun w hSw => ?_) (by assumption) ?_; rotate_left 1; focus (((try dsimp only at hSw); first | (go_simp; done) | (go_simp; with_reducible rfl)))
                try simp only [Act.put, List.setIfInBounds_toArray, List.set_cons_zero, List.set_cons_succ]
                refine held_take (i := 14) (v := ?_) rfl (by kernel_rfl) (by kernel_rfl) (by kernel_rfl) (fun _ _ _ h => h) (by rfl) (fun w hSw => ?_) (by assumption) ?_; rotate_left 1; focus (((try dsimp only at hSw); first | (go_simp; done) | (go_simp; with_reducible rfl)))
                try simp only [Act.put, List.setIfInBounds_toArray, List.set_cons_zero, List.set_cons_succ]
                refine held_take (i := 15) (v := ?_) rfl (by kernel_rfl) (by kernel_rfl) (by kernel_rfl) (fun _ _ _ h => h) (by rfl) (fun w hSw => ?_) (by assumption) ?_; rotate_left 1; focus (((try dsimp only at hSw); first | (go_simp; done) | (go_simp; with_reducible rfl)))
                try simp only [Act.put, List.setIfInBounds_toArray, List.set_cons_zero, List.set_cons_succ]
                refine held_take (i := 16) (v := ?_) rfl (by kernel_rfl) (by kernel_rfl) (by kernel_rfl) (fun _ _ _ h => h) (by rfl) (fun w hSw => ?_) (by assumption) ?_; rotate_left 1; focus (((try dsimp only at hSw); first | (go_simp; done) | (go_simp; with_reducible rfl)))
                try simp only [Act.put, List.setIfInBounds_toArray, List.set_cons_zero, List.set_cons_succ]
                refine held_call (i := 9) (by kernel_rfl) rfl (by rfl) (fun K hK => ?_)
                go_simp
                (go_at_call 15; ((with_reducible refine AL.out.mono ?_); rintro e w3 ⟨pa3, ca3, ba3, rfl, R3, E3⟩; have E3 := Lib.hid E3; have SR := Lib.hid (same_rows R3 (R2.out.below E3.out (Nat.le_refl _))); have am := R3.most; have ac := R3.cap; clear R3))
                refine hK.out _ _ (⟨OpAt.cells (OK2.out _ E3.out), (HD.out _ E3.out).1⟩) (fun hHeld => ?_)
                try simp only [Act.put, List.setIfInBounds_toArray, List.set_cons_zero, List.set_cons_succ]
                refine held_call (i := 17) (by kernel_rfl) rfl (by rfl) (fun K hK => ?_)
                go_simp
                (go_at_call 14; ((with_reducible refine SR.out.mono ?_); rintro e w4 ⟨rfl, E4⟩; have E4 := Lib.hid (below_of E3.out E4)))
                refine hK.out _ _ (⟨OpAt.cells (OK2.out _ E4.out), (HD.out _ E4.out).1⟩) (fun hHeld => ?_)
                try simp only [Act.put, List.setIfInBounds_toArray, List.set_cons_zero, List.set_cons_succ]
                refine held_take (i := 18) (v := ?_) rfl (by kernel_rfl) (by kernel_rfl) (by kernel_rfl) (fun _ _ _ h => h) (by rfl) (fun w hSw => ?_) (by assumption) ?_; rotate_left 1; focus (((try dsimp only at hSw); first | (go_simp; done) | (go_simp; with_reducible rfl)))
                try simp only [Act.put, List.setIfInBounds_toArray, List.set_cons_zero, List.set_cons_succ]
                refine wpAnyH_done (by kernel_rfl) ?_ _
                go_wp2_with fail
                go_meet
                exact ⟨l, Nat.le_succ_of_le hl1.out, T2.out.grow E4.out, bs.out _ _ B2.out E4.out⟩
              · obtain ⟨F, hF⟩ := named (PP + DD)
                have FL : F ≤ 150 := by have := hF.out; have := hDD.out; have := hPL.out; have := LJ.out; omega
                obtain ⟨M, p2, SL, R2, AL⟩ := key DD F hF.out (by have := hDD.out; have := hPL.out; omega) (by unfold upTo; rw [if_neg (by rw [List.length_drop, rows_len, ← hL.out]; have := hDD.out; omega), List.take_of_length_le (by rw [List.length_drop, rows_len, ← hL.out]; have := hDD.out; omega)])
                have t8 : (PP : Int) + (DD : Int) = (F : Int) := by have := hF.out; omega
                have hw := IntWalk.i64_in (F : Int) ⟨by omega, by omega⟩
                have hPLo := hPL.out
                have LJo := LJ.out
                clear key
                by_cases h0 : 0 ≤ hgt
                · have i1 : ¬ (hgt < (DD : Int)) := fun h => hh ⟨h0, h⟩
                  clear hh
                  go_upto_region 22 with fail
                  refine wp_region_held_drew (S := (fun v => (v.cell? ⟨wr.heap.size, 0, none⟩ = some (.int .i64 3) ∧ v.cell? ⟨wr.heap.size, 1, none⟩ = some (.string xk) ∧ v.cell? ⟨wr.heap.size, 2, none⟩ = some (.int .u64 (xs : Int)) ∧ v.cell? ⟨wr.heap.size, 3, none⟩ = some (.int .i64 xi) ∧ v.cell? ⟨wr.heap.size, 4, none⟩ = some (.string xv) ∧ v.cell? ⟨wr.heap.size, 5, none⟩ = some (.int .i64 hgt)) ∧ v.cell? ⟨w.heap.size + 1, 0, none⟩ = some (.slice pa2 L pc2))) (by kernel_rfl) (⟨OpAt.cells (OK2.out _ Z2.out), (HD.out _ Z2.out).1⟩) (fun hHeld => ?_)
                  refine held_take (i := 0) (v := ?_) rfl (by kernel_rfl) (by kernel_rfl) (by kernel_rfl) (fun _ _ _ h => h) (by rfl) (fun w hSw => ?_) (by assumption) ?_; rotate_left 1; focus (((try dsimp only at hSw); first | (go_simp; done) | (go_simp; with_reducible rfl)))
                  try simp only [Act.put, List.setIfInBounds_toArray, List.set_cons_zero, List.set_cons_succ]
                  refine held_take (i := 1) (v := ?_) rfl (by kernel_rfl) (by kernel_rfl) (by kernel_rfl) (fun _ _ _ h => h) (by rfl) (fun w hSw => ?_) (by assumption) ?_; rotate_left 1; focus (((try dsimp only at hSw); first | (go_simp; done) | (go_simp; with_reducible rfl)))
                  try simp only [Act.put, List.setIfInBounds_toArray, List.set_cons_zero, List.set_cons_succ]
                  refine held_take (i := 2) (v := ?_) rfl (by kernel_rfl) (by kernel_rfl) (by kernel_rfl) (fun _ _ _ h => h) (by rfl) (fun w hSw => ?_) (by assumption) ?_; rotate_left 1; focus (((try dsimp only at hSw); first | (go_simp; done) | (go_simp; with_reducible rfl)))
                  try simp only [Act.put, List.setIfInBounds_toArray, List.set_cons_zero, List.set_cons_succ]
                  refine held_take (i := 3) (v := ?_) rfl (by kernel_rfl) (by kernel_rfl) (by kernel_rfl) (fun _ _ _ h => h) (by rfl) (fun w hSw => ?_) (by assumption) ?_; rotate_left 1; focus (((try dsimp only at hSw); first | (go_simp; done) | (go_simp; with_reducible rfl)))
                  try simp only [Act.put, List.setIfInBounds_toArray, List.set_cons_zero, List.set_cons_succ]
                  refine held_take (i := 4) (v := ?_) rfl (by kernel_rfl) (by kernel_rfl) (by kernel_rfl) (fun _ _ _ h => h) (by rfl) (fun w hSw => ?_) (by assumption) ?_; rotate_left 1; focus (((try dsimp only at hSw); first | (go_simp; done) | (go_simp; with_reducible rfl)))
                  try simp only [Act.put, List.setIfInBounds_toArray, List.set_cons_zero, List.set_cons_succ]
                  refine held_take (i := 5) (v := ?_) rfl (by kernel_rfl) (by kernel_rfl) (by kernel_rfl) (fun _ _ _ h => h) (by rfl) (fun w hSw => ?_) (by assumption) ?_; rotate_left 1; focus (((try dsimp only at hSw); first | (go_simp; done) | (go_simp; with_reducible rfl)))
                  try simp only [Act.put, List.setIfInBounds_toArray, List.set_cons_zero, List.set_cons_succ]
                  refine held_take (i := 6) (v := ?_) rfl (by kernel_rfl) (by kernel_rfl) (by kernel_rfl) (fun _ _ _ h => h) (by rfl) (fun w hSw => ?_) (by assumption) ?_; rotate_left 1; focus (((try dsimp only at hSw); first | (go_simp; done) | (go_simp; with_reducible rfl)))
                  try simp only [Act.put, List.setIfInBounds_toArray, List.set_cons_zero, List.set_cons_succ]
                  refine held_take (i := 7) (v := ?_) rfl (by kernel_rfl) (by kernel_rfl) (by kernel_rfl) (fun _ _ _ h => h) (by rfl) (fun w hSw => ?_) (by assumption) ?_; rotate_left 1; focus (((try dsimp only at hSw); first | (go_simp; done) | (go_simp; with_reducible rfl)))
                  try simp only [Act.put, List.setIfInBounds_toArray, List.set_cons_zero, List.set_cons_succ]
                  refine held_take (i := 8) (v := ?_) rfl (by kernel_rfl) (by kernel_rfl) (by kernel_rfl) (fun _ _ _ h => h) (by rfl) (fun w hSw => ?_) (by assumption) ?_; rotate_left 1; focus (((try dsimp only at hSw); first | (go_simp; done) | (go_simp; with_reducible rfl)))
                  try simp only [Act.put, List.setIfInBounds_toArray, List.set_cons_zero, List.set_cons_succ]
                  refine held_take (i := 10) (v := ?_) rfl (by kernel_rfl) (by kernel_rfl) (by kernel_rfl) (fun _ _ _ h => h) (by rfl) (fun w hSw => ?_) (by assumption) ?_; rotate_left 1; focus (((try dsimp only at hSw); first | (go_simp; done) | (go_simp; with_reducible rfl)))
                  try simp only [Act.put, List.setIfInBounds_toArray, List.set_cons_zero, List.set_cons_succ]
                  refine held_take (i := 11) (v := ?_) rfl (by kernel_rfl) (by kernel_rfl) (by kernel_rfl) (fun _ _ _ h => h) (by rfl) (fun w hSw => ?_) (by assumption) ?_; rotate_left 1; focus (((try dsimp only at hSw); first | (go_simp; done) | (go_simp; with_reducible rfl)))
                  try simp only [Act.put, List.setIfInBounds_toArray, List.set_cons_zero, List.set_cons_succ]
                  refine held_take (i := 12) (v := ?_) rfl (by kernel_rfl) (by kernel_rfl) (by kernel_rfl) (fun _ _ _ h => h) (by rfl) (fun w hSw => ?_) (by assumption) ?_; rotate_left 1; focus (((try dsimp only at hSw); first | (go_simp; done) | (go_simp; with_reducible rfl)))
                  try simp only [Act.put, List.setIfInBounds_toArray, List.set_cons_zero, List.set_cons_succ]
                  refine held_take (i := 13) (v := ?_) rfl (by kernel_rfl) (by kernel_rfl) (by kernel_rfl) (fun _ _ _ h => h) (by rfl) (fun w hSw => ?_) (by assumption) ?_; rotate_left 1; focus (((try dsimp only at hSw); first | (go_simp; done) | (go_simp; with_reducible rfl)))
                  try simp only [Act.put, List.setIfInBounds_toArray, List.set_cons_zero, List.set_cons_succ]
                  refine held_take (i := 14) (v := ?_) rfl (by kernel_rfl) (by kernel_rfl) (by kernel_rfl) (fun _ _ _ h => h) (by rfl) (fun w hSw => ?_) (by assumption) ?_; rotate_left 1; focus (((try dsimp only at hSw); first | (go_simp; done) | (go_simp; with_reducible rfl)))
                  try simp only [Act.put, List.setIfInBounds_toArray, List.set_cons_zero, List.set_cons_succ]
                  refine held_take (i := 15) (v := ?_) rfl (by kernel_rfl) (by kernel_rfl) (by kernel_rfl) (fun _ _ _ h => h) (by rfl) (fun w hSw => ?_) (by assumption) ?_; rotate_left 1; focus (((try dsimp only at hSw); first | (go_simp; done) | (go_simp; with_reducible rfl)))
                  try simp only [Act.put, List.setIfInBounds_toArray, List.set_cons_zero, List.set_cons_succ]
                  refine held_take (i := 16) (v := ?_) rfl (by kernel_rfl) (by kernel_rfl) (by kernel_rfl) (fun _ _ _ h => h) (by rfl) (fun w hSw => ?_) (by assumption) ?_; rotate_left 1; focus (((try dsimp only at hSw); first | (go_simp; done) | (go_simp; with_reducible rfl)))
                  try simp only [Act.put, List.setIfInBounds_toArray, List.set_cons_zero, List.set_cons_succ]
                  refine held_call (i := 9) (by kernel_rfl) rfl (by rfl) (fun K hK => ?_)
                  go_simp
                  (go_at_call 15; ((with_reducible refine AL.out.mono ?_); rintro e w3 ⟨pa3, ca3, ba3, rfl, R3, E3⟩; have E3 := Lib.hid E3; have SR := Lib.hid (same_rows R3 (R2.out.below E3.out (Nat.le_refl _))); have am := R3.most; have ac := R3.cap; clear R3))
                  refine hK.out _ _ (⟨OpAt.cells (OK2.out _ E3.out), (HD.out _ E3.out).1⟩) (fun hHeld => ?_)
                  try simp only [Act.put, List.setIfInBounds_toArray, List.set_cons_zero, List.set_cons_succ]
                  refine held_call (i := 17) (by kernel_rfl) rfl (by rfl) (fun K hK => ?_)
                  go_simp
                  (go_at_call 14; ((with_reducible refine SR.out.mono ?_); rintro e w4 ⟨rfl, E4⟩; have E4 := Lib.hid (below_of E3.out E4)))
                  refine hK.out _ _ (⟨OpAt.cells (OK2.out _ E4.out), (HD.out _ E4.out).1⟩) (fun hHeld => ?_)
                  try simp only [Act.put, List.setIfInBounds_toArray, List.set_cons_zero, List.set_cons_succ]
                  refine held_take (i := 18) (v := ?_) rfl (by kernel_rfl) (by kernel_rfl) (by kernel_rfl) (fun _ _ _ h => h) (by rfl) (fun w hSw => ?_) (by assumption) ?_; rotate_left 1; focus (((try dsimp only at hSw); first | (go_simp; done) | (go_simp; with_reducible rfl)))
                  try simp only [Act.put, List.setIfInBounds_toArray, List.set_cons_zero, List.set_cons_succ]
                  refine wpAnyH_done (by kernel_rfl) ?_ _
                  go_wp2_with fail
                  go_meet
                  exact ⟨l, Nat.le_succ_of_le hl1.out, T2.out.grow E4.out, bs.out _ _ B2.out E4.out⟩
                · clear hh
                  go_upto_region 22 with fail
                  refine wp_region_held_drew (S := (fun v => (v.cell? ⟨wr.heap.size, 0, none⟩ = some (.int .i64 3) ∧ v.cell? ⟨wr.heap.size, 1, none⟩ = some (.string xk) ∧ v.cell? ⟨wr.heap.size, 2, none⟩ = some (.int .u64 (xs : Int)) ∧ v.cell? ⟨wr.heap.size, 3, none⟩ = some (.int .i64 xi) ∧ v.cell? ⟨wr.heap.size, 4, none⟩ = some (.string xv) ∧ v.cell? ⟨wr.heap.size, 5, none⟩ = some (.int .i64 hgt)) ∧ v.cell? ⟨w.heap.size + 1, 0, none⟩ = some (.slice pa2 L pc2))) (by kernel_rfl) (⟨OpAt.cells (OK2.out _ Z2.out), (HD.out _ Z2.out).1⟩) (fun hHeld => ?_)
                  refine held_take (i := 0) (v := ?_) rfl (by kernel_rfl) (by kernel_rfl) (by kernel_rfl) (fun _ _ _ h => h) (by rfl) (fun w hSw => ?_) (by assumption) ?_; rotate_left 1; focus (((try dsimp only at hSw); first | (go_simp; done) | (go_simp; with_reducible rfl)))
                  try simp only [Act.put, List.setIfInBounds_toArray, List.set_cons_zero, List.set_cons_succ]
                  refine held_take (i := 1) (v := ?_) rfl (by kernel_rfl) (by kernel_rfl) (by kernel_rfl) (fun _ _ _ h => h) (by rfl) (fun w hSw => ?_) (by assumption) ?_; rotate_left 1; focus (((try dsimp only at hSw); first | (go_simp; done) | (go_simp; with_reducible rfl)))
                  try simp only [Act.put, List.setIfInBounds_toArray, List.set_cons_zero, List.set_cons_succ]
                  refine held_take (i := 2) (v := ?_) rfl (by kernel_rfl) (by kernel_rfl) (by kernel_rfl) (fun _ _ _ h => h) (by rfl) (fun w hSw => ?_) (by assumption) ?_; rotate_left 1; focus (((try dsimp only at hSw); first | (go_simp; done) | (go_simp; with_reducible rfl)))
                  try simp only [Act.put, List.setIfInBounds_toArray, List.set_cons_zero, List.set_cons_succ]
                  refine held_take (i := 3) (v := ?_) rfl (by kernel_rfl) (by kernel_rfl) (by kernel_rfl) (fun _ _ _ h => h) (by rfl) (fun w hSw => ?_) (by assumption) ?_; rotate_left 1; focus (((try dsimp only at hSw); first | (go_simp; done) | (go_simp; with_reducible rfl)))
                  try simp only [Act.put, List.setIfInBounds_toArray, List.set_cons_zero, List.set_cons_succ]
                  refine held_take (i := 4) (v := ?_) rfl (by kernel_rfl) (by kernel_rfl) (by kernel_rfl) (fun _ _ _ h => h) (by rfl) (fun w hSw => ?_) (by assumption) ?_; rotate_left 1; focus (((try dsimp only at hSw); first | (go_simp; done) | (go_simp; with_reducible rfl)))
                  try simp only [Act.put, List.setIfInBounds_toArray, List.set_cons_zero, List.set_cons_succ]
                  refine held_take (i := 5) (v := ?_) rfl (by kernel_rfl) (by kernel_rfl) (by kernel_rfl) (fun _ _ _ h => h) (by rfl) (fun w hSw => ?_) (by assumption) ?_; rotate_left 1; focus (((try dsimp only at hSw); first | (go_simp; done) | (go_simp; with_reducible rfl)))
                  try simp only [Act.put, List.setIfInBounds_toArray, List.set_cons_zero, List.set_cons_succ]
                  refine held_take (i := 6) (v := ?_) rfl (by kernel_rfl) (by kernel_rfl) (by kernel_rfl) (fun _ _ _ h => h) (by rfl) (fun w hSw => ?_) (by assumption) ?_; rotate_left 1; focus (((try dsimp only at hSw); first | (go_simp; done) | (go_simp; with_reducible rfl)))
                  try simp only [Act.put, List.setIfInBounds_toArray, List.set_cons_zero, List.set_cons_succ]
                  refine held_take (i := 7) (v := ?_) rfl (by kernel_rfl) (by kernel_rfl) (by kernel_rfl) (fun _ _ _ h => h) (by rfl) (fun w hSw => ?_) (by assumption) ?_; rotate_left 1; focus (((try dsimp only at hSw); first | (go_simp; done) | (go_simp; with_reducible rfl)))
                  try simp only [Act.put, List.setIfInBounds_toArray, List.set_cons_zero, List.set_cons_succ]
                  refine held_take (i := 8) (v := ?_) rfl (by kernel_rfl) (by kernel_rfl) (by kernel_rfl) (fun _ _ _ h => h) (by rfl) (fun w hSw => ?_) (by assumption) ?_; rotate_left 1; focus (((try dsimp only at hSw); first | (go_simp; done) | (go_simp; with_reducible rfl)))
                  try simp only [Act.put, List.setIfInBounds_toArray, List.set_cons_zero, List.set_cons_succ]
                  refine held_take (i := 10) (v := ?_) rfl (by kernel_rfl) (by kernel_rfl) (by kernel_rfl) (fun _ _ _ h => h) (by rfl) (fun w hSw => ?_) (by assumption) ?_; rotate_left 1; focus (((try dsimp only at hSw); first | (go_simp; done) | (go_simp; with_reducible rfl)))
                  try simp only [Act.put, List.setIfInBounds_toArray, List.set_cons_zero, List.set_cons_succ]
                  refine held_take (i := 11) (v := ?_) rfl (by kernel_rfl) (by kernel_rfl) (by kernel_rfl) (fun _ _ _ h => h) (by rfl) (fun w hSw => ?_) (by assumption) ?_; rotate_left 1; focus (((try dsimp only at hSw); first | (go_simp; done) | (go_simp; with_reducible rfl)))
                  try simp only [Act.put, List.setIfInBounds_toArray, List.set_cons_zero, List.set_cons_succ]
                  refine held_take (i := 12) (v := ?_) rfl (by kernel_rfl) (by kernel_rfl) (by kernel_rfl) (fun _ _ _ h => h) (by rfl) (fun w hSw => ?_) (by assumption) ?_; rotate_left 1; focus (((try dsimp only at hSw); first | (go_simp; done) | (go_simp; with_reducible rfl)))
                  try simp only [Act.put, List.setIfInBounds_toArray, List.set_cons_zero, List.set_cons_succ]
                  refine held_take (i := 13) (v := ?_) rfl (by kernel_rfl) (by kernel_rfl) (by kernel_rfl) (fun _ _ _ h => h) (by rfl) (fun w hSw => ?_) (by assumption) ?_; rotate_left 1; focus (((try dsimp only at hSw); first | (go_simp; done) | (go_simp; with_reducible rfl)))
                  try simp only [Act.put, List.setIfInBounds_toArray, List.set_cons_zero, List.set_cons_succ]
                  refine held_take (i := 14) (v := ?_) rfl (by kernel_rfl) (by kernel_rfl) (by kernel_rfl) (fun _ _ _ h => h) (by rfl) (fun w hSw => ?_) (by assumption) ?_; rotate_left 1; focus (((try dsimp only at hSw); first | (go_simp; done) | (go_simp; with_reducible rfl)))
                  try simp only [Act.put, List.setIfInBounds_toArray, List.set_cons_zero, List.set_cons_succ]
                  refine held_take (i := 15) (v := ?_) rfl (by kernel_rfl) (by kernel_rfl) (by kernel_rfl) (fun _ _ _ h => h) (by rfl) (fun w hSw => ?_) (by assumption) ?_; rotate_left 1; focus (((try dsimp only at hSw); first | (go_simp; done) | (go_simp; with_reducible rfl)))
                  try simp only [Act.put, List.setIfInBounds_toArray, List.set_cons_zero, List.set_cons_succ]
                  refine held_take (i := 16) (v := ?_) rfl (by kernel_rfl) (by kernel_rfl) (by kernel_rfl) (fun _ _ _ h => h) (by rfl) (fun w hSw => ?_) (by assumption) ?_; rotate_left 1; focus (((try dsimp only at hSw); first | (go_simp; done) | (go_simp; with_reducible rfl)))
                  try simp only [Act.put, List.setIfInBounds_toArray, List.set_cons_zero, List.set_cons_succ]
                  refine held_call (i := 9) (by kernel_rfl) rfl (by rfl) (fun K hK => ?_)
                  go_simp
                  (go_at_call 15; ((with_reducible refine AL.out.mono ?_); rintro e w3 ⟨pa3, ca3, ba3, rfl, R3, E3⟩; have E3 := Lib.hid E3; have SR := Lib.hid (same_rows R3 (R2.out.below E3.out (Nat.le_refl _))); have am := R3.most; have ac := R3.cap; clear R3))
                  refine hK.out _ _ (⟨OpAt.cells (OK2.out _ E3.out), (HD.out _ E3.out).1⟩) (fun hHeld => ?_)
                  try simp only [Act.put, List.setIfInBounds_toArray, List.set_cons_zero, List.set_cons_succ]
                  refine held_call (i := 17) (by kernel_rfl) rfl (by rfl) (fun K hK => ?_)
                  go_simp
                  (go_at_call 14; ((with_reducible refine SR.out.mono ?_); rintro e w4 ⟨rfl, E4⟩; have E4 := Lib.hid (below_of E3.out E4)))
                  refine hK.out _ _ (⟨OpAt.cells (OK2.out _ E4.out), (HD.out _ E4.out).1⟩) (fun hHeld => ?_)
                  try simp only [Act.put, List.setIfInBounds_toArray, List.set_cons_zero, List.set_cons_succ]
                  refine held_take (i := 18) (v := ?_) rfl (by kernel_rfl) (by kernel_rfl) (by kernel_rfl) (fun _ _ _ h => h) (by rfl) (fun w hSw => ?_) (by assumption) ?_; rotate_left 1; focus (((try dsimp only at hSw); first | (go_simp; done) | (go_simp; with_reducible rfl)))
                  try simp only [Act.put, List.setIfInBounds_toArray, List.set_cons_zero, List.set_cons_succ]
                  refine wpAnyH_done (by kernel_rfl) ?_ _
                  go_wp2_with fail
                  go_meet
                  exact ⟨l, Nat.le_succ_of_le hl1.out, T2.out.grow E4.out, bs.out _ _ B2.out E4.out⟩
            · have f3 : (act == 3) = false := by rw [beq_eq_false_iff_ne]; exact q3
              by_cases q4 : act = 4
              · subst q4
                obtain ⟨Q, hQ⟩ := named (stepsL l xk xs)
                have ST := steps_l (T2.out.drew.zoo.ls (i := 0) rfl) (by have := LJ.out; have := hL.out; omega) xk xs
                rw [← hQ.out] at ST
                have ST := Lib.hid ST
                have SD : Hid (∀ u, Below w2.heap.size w2 u → Calls Try.prog 17 #[.agg #[.slice pa2 L pc2, .slice qa2 L qc2], .string xk, .int .u64 (xs : Int)] u fun e w' => e = .returned (.int .i64 (Q : Int)) ∧ Below u.heap.size u w') := Lib.hid fun u hu => by
                  rw [hQ.out]
                  exact steps_ref (RS2.out.below hu (Nat.le_refl _)) (QS2.out.below hu (Nat.le_refl _)) rfl (by have := LJ.out; omega) xk xs
                go_upto_region 25 with fail
                refine wp_region_held_drew (S := (fun v => (v.cell? ⟨wr.heap.size, 0, none⟩ = some (.int .i64 4) ∧ v.cell? ⟨wr.heap.size, 1, none⟩ = some (.string xk) ∧ v.cell? ⟨wr.heap.size, 2, none⟩ = some (.int .u64 (xs : Int)) ∧ v.cell? ⟨wr.heap.size, 3, none⟩ = some (.int .i64 xi) ∧ v.cell? ⟨wr.heap.size, 4, none⟩ = some (.string xv) ∧ v.cell? ⟨wr.heap.size, 5, none⟩ = some (.int .i64 hgt)) ∧ v.cell? ⟨w.heap.size + 1, 0, none⟩ = some (.slice pa2 L pc2) ∧ v.cell? ⟨w.heap.size + 1, 1, none⟩ = some (.slice qa2 L qc2))) (by kernel_rfl) (⟨OpAt.cells (OK2.out _ Z2.out), HD.out _ Z2.out⟩) (fun hHeld => ?_)
                refine held_take (i := 0) (v := ?_) rfl (by kernel_rfl) (by kernel_rfl) (by kernel_rfl) (fun _ _ _ h => h) (by rfl) (fun w hSw => ?_) (by assumption) ?_; rotate_left 1; focus (((try dsimp only at hSw); first | (go_simp; done) | (go_simp; with_reducible rfl)))
                try simp only [Act.put, List.setIfInBounds_toArray, List.set_cons_zero, List.set_cons_succ]
                refine held_take (i := 1) (v := ?_) rfl (by kernel_rfl) (by kernel_rfl) (by kernel_rfl) (fun _ _ _ h => h) (by rfl) (fun w hSw => ?_) (by assumption) ?_; rotate_left 1; focus (((try dsimp only at hSw); first | (go_simp; done) | (go_simp; with_reducible rfl)))
                try simp only [Act.put, List.setIfInBounds_toArray, List.set_cons_zero, List.set_cons_succ]
                refine held_take (i := 2) (v := ?_) rfl (by kernel_rfl) (by kernel_rfl) (by kernel_rfl) (fun _ _ _ h => h) (by rfl) (fun w hSw => ?_) (by assumption) ?_; rotate_left 1; focus (((try dsimp only at hSw); first | (go_simp; done) | (go_simp; with_reducible rfl)))
                try simp only [Act.put, List.setIfInBounds_toArray, List.set_cons_zero, List.set_cons_succ]
                refine held_take (i := 3) (v := ?_) rfl (by kernel_rfl) (by kernel_rfl) (by kernel_rfl) (fun _ _ _ h => h) (by rfl) (fun w hSw => ?_) (by assumption) ?_; rotate_left 1; focus (((try dsimp only at hSw); first | (go_simp; done) | (go_simp; with_reducible rfl)))
                try simp only [Act.put, List.setIfInBounds_toArray, List.set_cons_zero, List.set_cons_succ]
                refine held_take (i := 4) (v := ?_) rfl (by kernel_rfl) (by kernel_rfl) (by kernel_rfl) (fun _ _ _ h => h) (by rfl) (fun w hSw => ?_) (by assumption) ?_; rotate_left 1; focus (((try dsimp only at hSw); first | (go_simp; done) | (go_simp; with_reducible rfl)))
                try simp only [Act.put, List.setIfInBounds_toArray, List.set_cons_zero, List.set_cons_succ]
                refine held_take (i := 5) (v := ?_) rfl (by kernel_rfl) (by kernel_rfl) (by kernel_rfl) (fun _ _ _ h => h) (by rfl) (fun w hSw => ?_) (by assumption) ?_; rotate_left 1; focus (((try dsimp only at hSw); first | (go_simp; done) | (go_simp; with_reducible rfl)))
                try simp only [Act.put, List.setIfInBounds_toArray, List.set_cons_zero, List.set_cons_succ]
                refine held_take (i := 6) (v := ?_) rfl (by kernel_rfl) (by kernel_rfl) (by kernel_rfl) (fun _ _ _ h => h) (by rfl) (fun w hSw => ?_) (by assumption) ?_; rotate_left 1; focus (((try dsimp only at hSw); first | (go_simp; done) | (go_simp; with_reducible rfl)))
                try simp only [Act.put, List.setIfInBounds_toArray, List.set_cons_zero, List.set_cons_succ]
                refine held_take (i := 8) (v := ?_) rfl (by kernel_rfl) (by kernel_rfl) (by kernel_rfl) (fun _ _ _ h => h) (by rfl) (fun w hSw => ?_) (by assumption) ?_; rotate_left 1; focus (((try dsimp only at hSw); first | (go_simp; done) | (go_simp; with_reducible rfl)))
                try simp only [Act.put, List.setIfInBounds_toArray, List.set_cons_zero, List.set_cons_succ]
                refine held_take (i := 9) (v := ?_) rfl (by kernel_rfl) (by kernel_rfl) (by kernel_rfl) (fun _ _ _ h => h) (by rfl) (fun w hSw => ?_) (by assumption) ?_; rotate_left 1; focus (((try dsimp only at hSw); first | (go_simp; done) | (go_simp; with_reducible rfl)))
                try simp only [Act.put, List.setIfInBounds_toArray, List.set_cons_zero, List.set_cons_succ]
                refine held_take (i := 10) (v := ?_) rfl (by kernel_rfl) (by kernel_rfl) (by kernel_rfl) (fun _ _ _ h => h) (by rfl) (fun w hSw => ?_) (by assumption) ?_; rotate_left 1; focus (((try dsimp only at hSw); first | (go_simp; done) | (go_simp; with_reducible rfl)))
                try simp only [Act.put, List.setIfInBounds_toArray, List.set_cons_zero, List.set_cons_succ]
                refine held_take (i := 11) (v := ?_) rfl (by kernel_rfl) (by kernel_rfl) (by kernel_rfl) (fun _ _ _ h => h) (by rfl) (fun w hSw => ?_) (by assumption) ?_; rotate_left 1; focus (((try dsimp only at hSw); first | (go_simp; done) | (go_simp; with_reducible rfl)))
                try simp only [Act.put, List.setIfInBounds_toArray, List.set_cons_zero, List.set_cons_succ]
                refine held_take (i := 12) (v := ?_) rfl (by kernel_rfl) (by kernel_rfl) (by kernel_rfl) (fun _ _ _ h => h) (by rfl) (fun w hSw => ?_) (by assumption) ?_; rotate_left 1; focus (((try dsimp only at hSw); first | (go_simp; done) | (go_simp; with_reducible rfl)))
                try simp only [Act.put, List.setIfInBounds_toArray, List.set_cons_zero, List.set_cons_succ]
                refine held_take (i := 13) (v := ?_) rfl (by kernel_rfl) (by kernel_rfl) (by kernel_rfl) (fun _ _ _ h => h) (by rfl) (fun w hSw => ?_) (by assumption) ?_; rotate_left 1; focus (((try dsimp only at hSw); first | (go_simp; done) | (go_simp; with_reducible rfl)))
                try simp only [Act.put, List.setIfInBounds_toArray, List.set_cons_zero, List.set_cons_succ]
                refine held_take (i := 14) (v := ?_) rfl (by kernel_rfl) (by kernel_rfl) (by kernel_rfl) (fun _ _ _ h => h) (by rfl) (fun w hSw => ?_) (by assumption) ?_; rotate_left 1; focus (((try dsimp only at hSw); first | (go_simp; done) | (go_simp; with_reducible rfl)))
                try simp only [Act.put, List.setIfInBounds_toArray, List.set_cons_zero, List.set_cons_succ]
                refine held_call (i := 7) (by kernel_rfl) rfl (by rfl) (fun K hK => ?_)
                go_simp
                (go_at_call 16; ((with_reducible refine ST.out.mono ?_); rintro e w3 ⟨rfl, E3⟩; have E3 := Lib.hid (undrew E3); have SD3 := Lib.hid (SD.out _ E3.out)))
                refine hK.out _ _ (⟨OpAt.cells (OK2.out _ E3.out), HD.out _ E3.out⟩) (fun hHeld => ?_)
                try simp only [Act.put, List.setIfInBounds_toArray, List.set_cons_zero, List.set_cons_succ]
                refine held_call (i := 15) (by kernel_rfl) rfl (by rfl) (fun K hK => ?_)
                go_simp
                (go_at_call 17; ((with_reducible refine SD3.out.mono ?_); rintro e w4 ⟨rfl, E4⟩; have E4 := Lib.hid (below_of E3.out E4)))
                refine hK.out _ _ (⟨OpAt.cells (OK2.out _ E4.out), HD.out _ E4.out⟩) (fun hHeld => ?_)
                try simp only [Act.put, List.setIfInBounds_toArray, List.set_cons_zero, List.set_cons_succ]
                refine held_take (i := 16) (v := ?_) rfl (by kernel_rfl) (by kernel_rfl) (by kernel_rfl) (fun _ _ _ h => h) (by rfl) (fun w hSw => ?_) (by assumption) ?_; rotate_left 1; focus (((try dsimp only at hSw); first | (go_simp; done) | (go_simp; with_reducible rfl)))
                try simp only [Act.put, List.setIfInBounds_toArray, List.set_cons_zero, List.set_cons_succ]
                refine wpAnyH_done (by kernel_rfl) ?_ _
                go_wp2_with fail
                go_meet
                exact ⟨l, Nat.le_succ_of_le hl1.out, T2.out.grow E4.out, bs.out _ _ B2.out E4.out⟩
              · have f4 : (act == 4) = false := by rw [beq_eq_false_iff_ne]; exact q4
                go_wp2_with fail
                go_meet
                exact ⟨l, Nat.le_succ_of_le hl1.out, T2.out, B2.out⟩
      case rest =>
        clear T2 B2 O2 OK2 Z2 HD RS2 QS2 d1 d2 z0 z1 z2 z3 z4 z5 T1 B1 O1 KO hPP hTL hL hPL LJ rsm rsc
        obtain ⟨l', hl', T3, B3⟩ := hcut
        obtain ⟨pa2, pc2, qa2, qc2, pb2, qb2, hd2, rs2, qs2⟩ := T3.refs
        have rsm := rs2.most
        have rsc := rs2.cap
        obtain ⟨L, hL⟩ := named l'.length
        obtain ⟨TL, hTL⟩ := named (topH (hgtsL l'))
        have HD : Hid (∀ v, Below wc.heap.size wc v → v.cell? ⟨w.heap.size + 1, 0, none⟩ = some (.slice pa2 L pc2) ∧ v.cell? ⟨w.heap.size + 1, 1, none⟩ = some (.slice qa2 L qc2)) := Lib.hid fun v hv => by rw [hL.out]; exact pair_box ((hv.block _ (Array.getElem?_eq_some_iff.1 hd2).1).trans hd2)
        have LN : Hid (Calls Try.prog 18 #[.pointer (some ⟨w.heap.size, 0, none⟩)] wc.drew fun e w' => e = .returned (.int .i64 (L : Int)) ∧ w' = wc.drew) := Lib.hid (by rw [hL.out]; exact len_l (T3.drew.zoo.ls (i := 0) rfl))
        have HT : Hid (Calls Try.prog 19 #[.pointer (some ⟨w.heap.size, 0, none⟩)] wc.drew fun e w' => e = .returned (.int .i64 (TL : Int)) ∧ w' = wc.drew) := Lib.hid (by rw [hTL.out]; exact height_l (T3.drew.zoo.ls (i := 0) rfl))
        have RH : Hid (Calls Try.prog 20 #[.agg #[.slice pa2 L pc2, .slice qa2 L qc2]] wc.drew fun e w' => e = .returned (.int .i64 (TL : Int)) ∧ Below wc.heap.size wc w') := Lib.hid (by rw [hTL.out, hL.out]; exact (height_ref (qs2.below (Below.refl _ wc).drew (Nat.le_refl _)) (by omega)).mono fun e w' h => ⟨h.1, undrew h.2⟩)
        have T3 := Lib.hid T3
        have B3 := Lib.hid B3
        have hl' := Lib.hid hl'
        have Z3 := Lib.hid (Below.refl wc.heap.size wc).drew
        obtain ⟨d1, d2⟩ := HD.out wc (Below.refl _ _)
        rw [← hL.out] at rsc
        clear hd2 rs2 qs2 hL hTL
        go_upto_region 27 with fail
        refine wp_region_held_drew (S := (fun v => v.cell? ⟨w.heap.size + 1, 0, none⟩ = some (.slice pa2 L pc2) ∧ v.cell? ⟨w.heap.size + 1, 1, none⟩ = some (.slice qa2 L qc2))) (by kernel_rfl) (HD.out _ Z3.out) (fun hHeld => ?_)
        refine held_take (i := 0) (v := ?_) rfl (by kernel_rfl) (by kernel_rfl) (by kernel_rfl) (fun _ _ _ h => h) (by rfl) (fun w hSw => ?_) (by assumption) ?_; rotate_left 1; focus (((try dsimp only at hSw); first | (go_simp; done) | (go_simp; with_reducible rfl)))
        try simp only [Act.put, List.setIfInBounds_toArray, List.set_cons_zero, List.set_cons_succ]
        refine held_take (i := 2) (v := ?_) rfl (by kernel_rfl) (by kernel_rfl) (by kernel_rfl) (fun _ _ _ h => h) (by rfl) (fun w hSw => ?_) (by assumption) ?_; rotate_left 1; focus (((try dsimp only at hSw); first | (go_simp; done) | (go_simp; with_reducible rfl)))
        try simp only [Act.put, List.setIfInBounds_toArray, List.set_cons_zero, List.set_cons_succ]
        refine held_take (i := 3) (v := ?_) rfl (by kernel_rfl) (by kernel_rfl) (by kernel_rfl) (fun _ _ _ h => h) (by rfl) (fun w hSw => ?_) (by assumption) ?_; rotate_left 1; focus (((try dsimp only at hSw); first | (go_simp; done) | (go_simp; with_reducible rfl)))
        try simp only [Act.put, List.setIfInBounds_toArray, List.set_cons_zero, List.set_cons_succ]
        refine held_take (i := 4) (v := ?_) rfl (by kernel_rfl) (by kernel_rfl) (by kernel_rfl) (fun _ _ _ h => h) (by rfl) (fun w hSw => ?_) (by assumption) ?_; rotate_left 1; focus (((try dsimp only at hSw); first | (go_simp; done) | (go_simp; with_reducible rfl)))
        try simp only [Act.put, List.setIfInBounds_toArray, List.set_cons_zero, List.set_cons_succ]
        refine held_call (i := 1) (by kernel_rfl) rfl (by rfl) (fun K hK => ?_)
        go_simp
        (go_at_call 18; ((with_reducible refine LN.out.mono ?_); rintro e w4 ⟨rfl, rfl⟩))
        refine hK.out _ _ (HD.out _ Z3.out) (fun hHeld => ?_)
        try simp only [Act.put, List.setIfInBounds_toArray, List.set_cons_zero, List.set_cons_succ]
        refine held_take (i := 5) (v := ?_) rfl (by kernel_rfl) (by kernel_rfl) (by kernel_rfl) (fun _ _ _ h => h) (by rfl) (fun w hSw => ?_) (by assumption) ?_; rotate_left 1; focus (((try dsimp only at hSw); first | (go_simp; done) | (go_simp; with_reducible rfl)))
        try simp only [Act.put, List.setIfInBounds_toArray, List.set_cons_zero, List.set_cons_succ]
        refine held_take (i := 6) (v := ?_) rfl (by kernel_rfl) (by kernel_rfl) (by kernel_rfl) (fun _ _ _ h => h) (by rfl) (fun w hSw => ?_) (by assumption) ?_; rotate_left 1; focus (((try dsimp only at hSw); first | (go_simp; done) | (go_simp; with_reducible rfl)))
        try simp only [Act.put, List.setIfInBounds_toArray, List.set_cons_zero, List.set_cons_succ]
        refine held_take (i := 7) (v := ?_) rfl (by kernel_rfl) (by kernel_rfl) (by kernel_rfl) (fun _ _ _ h => h) (by rfl) (fun w hSw => ?_) (by assumption) ?_; rotate_left 1; focus (((try dsimp only at hSw); first | (go_simp; done) | (go_simp; with_reducible rfl)))
        try simp only [Act.put, List.setIfInBounds_toArray, List.set_cons_zero, List.set_cons_succ]
        refine held_take (i := 9) (v := ?_) rfl (by kernel_rfl) (by kernel_rfl) (by kernel_rfl) (fun _ _ _ h => h) (by rfl) (fun w hSw => ?_) (by assumption) ?_; rotate_left 1; focus (((try dsimp only at hSw); first | (go_simp; done) | (go_simp; with_reducible rfl)))
        try simp only [Act.put, List.setIfInBounds_toArray, List.set_cons_zero, List.set_cons_succ]
        refine held_call (i := 8) (by kernel_rfl) rfl (by rfl) (fun K hK => ?_)
        go_simp
        (go_at_call 19; ((with_reducible refine HT.out.mono ?_); rintro e w4 ⟨rfl, rfl⟩))
        refine hK.out _ _ (HD.out _ Z3.out) (fun hHeld => ?_)
        try simp only [Act.put, List.setIfInBounds_toArray, List.set_cons_zero, List.set_cons_succ]
        refine held_call (i := 10) (by kernel_rfl) rfl (by rfl) (fun K hK => ?_)
        go_simp
        (go_at_call 20; ((with_reducible refine RH.out.mono ?_); rintro e w4 ⟨rfl, E4⟩; have E4 := Lib.hid E4))
        refine hK.out _ _ (HD.out _ E4.out) (fun hHeld => ?_)
        try simp only [Act.put, List.setIfInBounds_toArray, List.set_cons_zero, List.set_cons_succ]
        refine held_take (i := 11) (v := ?_) rfl (by kernel_rfl) (by kernel_rfl) (by kernel_rfl) (fun _ _ _ h => h) (by rfl) (fun w hSw => ?_) (by assumption) ?_; rotate_left 1; focus (((try dsimp only at hSw); first | (go_simp; done) | (go_simp; with_reducible rfl)))
        try simp only [Act.put, List.setIfInBounds_toArray, List.set_cons_zero, List.set_cons_succ]
        refine held_take (i := 12) (v := ?_) rfl (by kernel_rfl) (by kernel_rfl) (by kernel_rfl) (fun _ _ _ h => h) (by rfl) (fun w hSw => ?_) (by assumption) ?_; rotate_left 1; focus (((try dsimp only at hSw); first | (go_simp; done) | (go_simp; with_reducible rfl)))
        try simp only [Act.put, List.setIfInBounds_toArray, List.set_cons_zero, List.set_cons_succ]
        refine wpAnyH_done (by kernel_rfl) ?_ _
        go_wp2_with fail
        go_roundw
        case rel => exact ⟨j + 1, by have := hj1.out; omega, by go_num, l', hl'.out, T3.out.grow E4.out, bs.out _ _ B3.out E4.out⟩
        case measure => have := hj1.out; simp [intOf]; omega
    · have hjn : j = n0 := by omega
      have i1 : ¬ ((j : Int) < (n0 : Int)) := by omega
      obtain ⟨pa2, pc2, qa2, qc2, pb2, qb2, hd2, rs2, qs2⟩ := T0.refs
      have rsm := rs2.most
      have rsc := rs2.cap
      obtain ⟨R, hR⟩ := named (rowsL l)
      obtain ⟨L, hL⟩ := named l.length
      have lR : R.length = L := by rw [hR.out, rows_len, hL.out]
      have HD : Hid (∀ v, Below wr.heap.size wr v → v.cell? ⟨w.heap.size + 1, 0, none⟩ = some (.slice pa2 L pc2)) := Lib.hid fun v hv => by rw [hL.out]; exact (pair_box ((hv.block _ (Array.getElem?_eq_some_iff.1 hd2).1).trans hd2)).1
      have WH := whole_l (T0.drew.zoo.ls (i := 0) rfl) (by omega)
      rw [← hR.out] at WH
      have WH := Lib.hid (WH.mono fun e w' h => rs_of_gave h)
      rw [lR] at WH
      have RS2 := Lib.hid rs2
      rw [← hL.out, ← hR.out] at RS2
      rw [← hL.out] at rsc
      have B0 := Lib.hid B0
      have Z0 := Lib.hid (Below.refl wr.heap.size wr).drew
      have AW := fun u => Lib.hid (awake_any u)
      clear T0 hd2 rs2 qs2 hR hL lR hl hjn
      go_upto_region 29 with fail
      refine wp_region_held_drew (S := (fun v => v.cell? ⟨w.heap.size + 1, 0, none⟩ = some (.slice pa2 L pc2))) (by kernel_rfl) (HD.out _ Z0.out) (fun hHeld => ?_)
      refine held_take (i := 0) (v := ?_) rfl (by kernel_rfl) (by kernel_rfl) (by kernel_rfl) (fun _ _ _ h => h) (by rfl) (fun w hSw => ?_) (by assumption) ?_; rotate_left 1; focus (((try dsimp only at hSw); first | (go_simp; done) | (go_simp; with_reducible rfl)))
      try simp only [Act.put, List.setIfInBounds_toArray, List.set_cons_zero, List.set_cons_succ]
      refine held_take (i := 2) (v := ?_) rfl (by kernel_rfl) (by kernel_rfl) (by kernel_rfl) (fun _ _ _ h => h) (by rfl) (fun w hSw => ?_) (by assumption) ?_; rotate_left 1; focus (((try dsimp only at hSw); first | (go_simp; done) | (go_simp; with_reducible rfl)))
      try simp only [Act.put, List.setIfInBounds_toArray, List.set_cons_zero, List.set_cons_succ]
      refine held_take (i := 3) (v := ?_) rfl (by kernel_rfl) (by kernel_rfl) (by kernel_rfl) (fun _ _ _ h => h) (by rfl) (fun w hSw => ?_) (by assumption) ?_; rotate_left 1; focus (((try dsimp only at hSw); first | (go_simp; done) | (go_simp; with_reducible rfl)))
      try simp only [Act.put, List.setIfInBounds_toArray, List.set_cons_zero, List.set_cons_succ]
      refine held_call (i := 1) (by kernel_rfl) rfl (by rfl) (fun K hK => ?_)
      go_simp
      (go_at_call 21; ((with_reducible refine WH.out.mono ?_); rintro e w3 ⟨pa3, ca3, ba3, rfl, R3, E3⟩; have E3 := Lib.hid (undrew E3); have SR := Lib.hid (same_rows R3 (RS2.out.below E3.out (Nat.le_refl _))); have am := R3.most; have ac := R3.cap; clear R3))
      refine hK.out _ _ (HD.out _ E3.out) (fun hHeld => ?_)
      try simp only [Act.put, List.setIfInBounds_toArray, List.set_cons_zero, List.set_cons_succ]
      refine held_call (i := 4) (by kernel_rfl) rfl (by rfl) (fun K hK => ?_)
      go_simp
      (go_at_call 14; ((with_reducible refine SR.out.mono ?_); rintro e w4 ⟨rfl, E4⟩; have E4 := Lib.hid (below_of E3.out E4)))
      refine hK.out _ _ (HD.out _ E4.out) (fun hHeld => ?_)
      try simp only [Act.put, List.setIfInBounds_toArray, List.set_cons_zero, List.set_cons_succ]
      refine held_take (i := 5) (v := ?_) rfl (by kernel_rfl) (by kernel_rfl) (by kernel_rfl) (fun _ _ _ h => h) (by rfl) (fun w hSw => ?_) (by assumption) ?_; rotate_left 1; focus (((try dsimp only at hSw); first | (go_simp; done) | (go_simp; with_reducible rfl)))
      try simp only [Act.put, List.setIfInBounds_toArray, List.set_cons_zero, List.set_cons_succ]
      refine held_call (i := 6) (by kernel_rfl) rfl (by rfl) (fun K hK => ?_)
      go_simp
      (go_at_call 9; ((with_reducible refine (AW _).out.mono ?_); rintro e w5 ⟨rfl, E5⟩; have E5 := Lib.hid (below_of E4.out E5)))
      refine hK.out _ _ (HD.out _ E5.out) (fun hHeld => ?_)
      try simp only [Act.put, List.setIfInBounds_toArray, List.set_cons_zero, List.set_cons_succ]
      refine held_take (i := 7) (v := ?_) rfl (by kernel_rfl) (by kernel_rfl) (by kernel_rfl) (fun _ _ _ h => h) (by rfl) (fun w hSw => ?_) (by assumption) ?_; rotate_left 1; focus (((try dsimp only at hSw); first | (go_simp; done) | (go_simp; with_reducible rfl)))
      try simp only [Act.put, List.setIfInBounds_toArray, List.set_cons_zero, List.set_cons_succ]
      refine held_take (i := 8) (v := ?_) rfl (by kernel_rfl) (by kernel_rfl) (by kernel_rfl) (fun _ _ _ h => h) (by rfl) (fun w hSw => ?_) (by assumption) ?_; rotate_left 1; focus (((try dsimp only at hSw); first | (go_simp; done) | (go_simp; with_reducible rfl)))
      try simp only [Act.put, List.setIfInBounds_toArray, List.set_cons_zero, List.set_cons_succ]
      refine wpAnyH_done (by kernel_rfl) ?_ _
      go_wp2_with fail
      go_returns
      exact ⟨rfl, B0.out.trans (E5.out.mono B0.out.size)⟩
theorem plays_walk (a0 : Option Addr) (n0 c0 b0 o0 : Nat) (ops : List SkOp) (w : World) (h0 : SlOf 6 cellsK a0 n0 c0 b0 o0 ops w ∧ ∀ v ∈ ops, SkOpIn v) :
    Calls Try.prog 3 #[.slice a0 n0 c0] w fun e w' => e = .returned (.bool true) ∧ Below w.heap.size w w' := by
  by_cases hn : n0 ≤ 150
  · exact plays_main a0 n0 c0 b0 o0 ops w h0.1 h0.2 hn
  · exact plays_big a0 n0 c0 w (by omega)
--LAW freshetlaw08.SkipPlays plays_walk skops:l0
--BEGIN
namespace SkipPlaysProof
open Go.ChangeShapes Go.WideShapes Go.ChangeAt Go.RowKit
open Go.ChangeMaps (open_string shut_string)
theorem own : ownKnob Try.prog.godebug = none := by kernel_rfl
set_option maxRecDepth 100000 in
theorem lifted (os : Os) (started : os.Started) (H : Type) (enc : TypeId × Value → H) :
    ReturnsInHanded {} Try.checked os 3 .any (Rows.skipPlaysSpec.pre6 enc Try.prog Try.f3 Rows.skipPlaysRow.domain false) (Rows.skipPlaysSpec.post enc Try.prog Try.f3 false true false false) := by
  refine returnsInHanded_of_change_sized (C := Try.checked) own started (by kernel_rfl) Try.func3
    (ChangeSpec.witness6 (enc := enc) (C := Try.checked) false ⟨#[], #[.slice none 0 0], []⟩ 8 (by kernel_rfl) (by kernel_rfl) (by kernel_rfl) (by kernel_rfl)) ?_
  intro W base args ds gs before hval0 hW _ hsz _
  have hval : ∀ (j : Nat) t v, Try.f3.params[j]? = some t → args[j]? = some v → Value.okWide Try.prog W .any base t v := hval0
  have hW' := hW
  obtain ⟨p, q, hA0, hV, rfl, hfz, hnd⟩ := hW
  have hA : DataW.TrodAll enc Try.prog W 0 (fun _ => true) true Try.f3.params.toList args.toList ds p := hA0
  rw [Try.params3] at hA hval hsz
  obtain ⟨v0, vs0, d0, ds0, p0, q0, hargs, rfl, rfl, h0, r0⟩ := trodAll_cons hA
  obtain ⟨rfl, rfl, rfl⟩ := trodAll_nil r0
  obtain rfl : args = #[v0] := by cases args; simp_all
  obtain ⟨rfl, rfl⟩ := trodVars_none hV
  obtain ⟨a0, n0, c0, rfl⟩ := okWide_slice Try.underlying22 (hval 0 22 v0 rfl rfl)
  have k0 := h0
  obtain ⟨fu0, hf0⟩ := h0
  obtain ⟨b0, o0, l0, ia0⟩ := open_skops hf0 hsz (j := 0) rfl rfl
  have lt0 : ∀ x ∈ p0, x.block < W.heap.size := fun x hx => hW'.lt x (by simp only [List.mem_append]; simp [hx])
  clear hA0 hval0
  simp only [List.append_nil] at hW'
  refine (plays_walk a0 n0 c0 b0 o0 l0 W ia0).mono fun e W' ⟨he, hg⟩ => ?_
  subst he
  exact ⟨_, rfl, _, _, _, [], _, [], hW', (trodAll_cons_mk (shut_bool Try.underlying4 _) trodAll_mk0), (trodAll_cons_mk (Below.trod laid_out (by kernel_rfl) (of_decide_eq_true (by kernel_rfl)) k0 hg lt0) trodAll_mk0), rfl, hg.frame _, fun h => by cases h⟩
theorem holds : Rows.SkipPlaysSaid :=
  OpenClaim.holds_of_wide 3 Try.f3 rfl rfl rfl rfl rfl rfl rfl ⟨rfl, rfl, rfl, rfl, rfl⟩ rfl rfl rfl rfl rfl (by kernel_rfl) Try.func3 (by kernel_rfl)
    (of_decide_eq_true (by kernel_rfl)) (by unfold Func.isWrapper; first | (rw [if_pos (by decide +kernel)]; kernel_rfl) | (rw [if_neg (by decide +kernel)]; exact ⟨rfl, rfl⟩))
    (fun os started H enc _ => lifted os started H enc)
end SkipPlaysProof
--END
end Go.Proofs.Ytcgpcpplbmebgaa
