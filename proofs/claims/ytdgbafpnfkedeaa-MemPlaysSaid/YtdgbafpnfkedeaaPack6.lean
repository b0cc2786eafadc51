/-
  The document's own Add: rows behind a batch. Condition: at most 900000 rows.
-/
import Derived.Test.YtdgbafpnfkedeaaPack5
import Derived.StillTailTactics
namespace Go.Proofs.Ytdgbafpnfkedeaa
set_option maxRecDepth 100000
open Go.RowKit
/-- Rows and an error are told. -/
def AddRD (l : List Rw) (f : Int) (w : World) (e : Ending) (w' : World) : Prop :=
  ∃ a n c b o, e = .returned (.tuple #[.slice a n c, .int .i64 f]) ∧ Rt a n c b o l w' ∧ Below w.heap.size w w'
set_option maxRecDepth 100000 in
set_option maxHeartbeats 4000000 in
theorem addref_bad {a : Option Addr} {n c b o : Nat} {l : List Rw} {w : World} (h : Rt a n c b o l w) {seq : Nat} {a1 : Option Addr} {n1 c1 b1 o1 : Nat} {ws : List Wr} (hw : Ws a1 n1 c1 b1 o1 ws w) (hc : chkB seq ws ≠ 0) :
    Calls Try.prog 11 #[.slice a n c, batchV seq a1 n1 c1] w (AddRD (addR l seq ws).1 (addR l seq ws).2 w) := by
  rw [addR_bad hc]
  have W0 := Lib.hid (below_alloc w (.cells #[.int .u64 (seq : Int), .slice a1 n1 c1] 31))
  obtain ⟨k0, k1⟩ := box_batch w seq (.slice a1 n1 c1)
  have CK := refcheck_any (seq := seq) (hw.below W0.out (Nat.le_refl _))
  obtain ⟨C, hC⟩ := named (chkB seq ws)
  rw [← hC.out] at CK hc
  have q1 : (C != 0) = true := by simpa using hc
  have CK := Lib.hid CK
  have h := Lib.hid h
  clear hw
  go_enter Try.func11, Try.ntmps11
  go_wp2_with (go_at_call 21; ((with_reducible refine CK.out.mono ?_); rintro e w2 ⟨rfl, hb2⟩; have B2 := Lib.hid (below_of W0.out hb2); clear hb2 CK))
  go_returns
  exact ⟨a, n, c, b, o, by rw [← hC.out]; rfl, h.out.below B2.out, B2.out⟩
set_option maxRecDepth 100000 in
set_option maxHeartbeats 8000000 in
theorem addref_good {a : Option Addr} {n c b o : Nat} {l : List Rw} {w : World} (h : Rt a n c b o l w) (hn : n ≤ 900000) {seq : Nat} {a1 : Option Addr} {n1 c1 b1 o1 : Nat} {ws : List Wr} (hw : Ws a1 n1 c1 b1 o1 ws w) (hc : chkB seq ws = 0) :
    Calls Try.prog 11 #[.slice a n c, batchV seq a1 n1 c1] w (AddRD (addR l seq ws).1 (addR l seq ws).2 w) := by
  have W0 := Lib.hid (below_alloc w (.cells #[.int .u64 (seq : Int), .slice a1 n1 c1] 31))
  obtain ⟨k0, k1⟩ := box_batch w seq (.slice a1 n1 c1)
  have CK := refcheck_any (seq := seq) (hw.below W0.out (Nat.le_refl _))
  rw [hc] at CK
  have CK := Lib.hid CK
  have KB : Hid (∀ u, Below (w.alloc (.cells #[.int .u64 (seq : Int), .slice a1 n1 c1] 31)).heap.size (w.alloc (.cells #[.int .u64 (seq : Int), .slice a1 n1 c1] 31)) u → u.cell? ⟨w.heap.size, 0, none⟩ = some (.int .u64 (seq : Int)) ∧ u.cell? ⟨w.heap.size, 1, none⟩ = some (.slice a1 n1 c1)) := Lib.hid fun u hu =>
    ⟨(hu.cell (p := ⟨w.heap.size, 0, none⟩) (by rw [World.size_alloc]; exact Nat.lt_succ_self _)).trans k0, (hu.cell (p := ⟨w.heap.size, 1, none⟩) (by rw [World.size_alloc]; exact Nat.lt_succ_self _)).trans k1⟩
  have RO : Hid (∀ u, Below w.heap.size w u → Calls Try.prog 28 #[batchV seq a1 n1 c1] u fun e w' => (∃ v, e = .returned v ∧ w'.ownsRow (u.heap.size + 1) 43 4 v n1 (rowR (rowsFrom seq ws))) ∧ Below u.heap.size u w') := Lib.hid fun u hu => refrows_good (hw.below hu (Nat.le_refl _)) hc
  have hX64 : (rowsFrom seq ws).length ≤ 64 := by rw [rowsFrom_len]; exact (chkB_ok hc).2.2.2.1
  have hXn : (rowsFrom seq ws).length = n1 := by rw [rowsFrom_len]; exact hw.len
  have hap := rowsFrom_apart seq ws
  have hgood : ∀ hf : ∀ x ∈ rowsFrom seq ws, thr l x.key x.seq = false, addR l seq ws = (insAll l (rowsFrom seq ws), 0) := fun hf => addR_good hc hf
  have htak : ∀ x ∈ rowsFrom seq ws, thr l x.key x.seq = true → addR l seq ws = (l, 2) := fun x hx ht => addR_taken hc hx ht
  obtain ⟨X, hX⟩ := named (rowsFrom seq ws)
  rw [← hX.out] at RO hX64 hXn hap hgood htak
  have TH0 : Hid (∀ u (k : ByteArray) (q : Nat), Below w.heap.size w u → Calls Try.prog 29 #[.slice a n c, .string k, .int .u64 (q : Int)] u fun e w' => e = .returned (.bool (thr l k q)) ∧ Below u.heap.size u w') := Lib.hid fun u k q hu => there_ref (h.below hu).rs (by omega) k q
  have h := Lib.hid h
  have hgood := Lib.hid hgood
  have htak := Lib.hid htak
  have hcapn := h.out.rs.cap
  have hmostn := h.out.rs.most
  clear hw hc
  go_enter Try.func11, Try.ntmps11
  go_upto_region 4 with (go_at_call 21; ((with_reducible refine CK.out.mono ?_); rintro e w2 ⟨rfl, hb2⟩; have B2 := Lib.hid (below_of W0.out hb2); obtain ⟨r0, r1⟩ := KB.out _ hb2; clear hb2 CK))
  go_upto_region 5 with (go_at_call 28; ((with_reducible refine (RO.out _ B2.out).mono ?_); rintro e w3 ⟨⟨v3, rfl, hr3⟩, hb3⟩; have B3 := Lib.hid (below_of B2.out hb3); clear hb3 RO r0 r1 KB))
  obtain ⟨ra, rc, rb, rfl, HR, _⟩ := rs_of_row (l := X) (by rw [hXn]; exact hr3)
  rw [hXn] at HR hX64 ⊢
  obtain ⟨N, hN⟩ := named n1
  have hNn : N = n1 := hN.out
  subst hNn
  have rcp := HR.cap
  have rm := HR.most
  have hNX : Hid (X.length = N) := Lib.hid hXn
  have HR := Lib.hid HR
  clear hr3 hN hXn
  go_wp2_with fail
  go_loopw [8] (fun v wr => ∃ j : Nat, j ≤ N ∧ v = .int .i64 (j : Int) ∧ (∀ (m : Nat) (x : Rw), m < j → X[m]? = some x → thr l x.key x.seq = false) ∧ Below w3.heap.size w3 wr) (fun v _ => N - (intOf v).toNat)
  case atStart => exact ⟨0, Nat.zero_le _, rfl, fun m x hm => absurd hm (Nat.not_lt_zero _), Below.refl _ _⟩
  case round =>
    obtain ⟨j, hj, rfl, hfr, hB⟩ := hrel
    have hfr := Lib.hid hfr
    by_cases hlt : j < N
    · obtain ⟨x, hx, rfl, _⟩ := (HR.out.below hB (Nat.le_refl _)).at4 hlt
      have KX : Hid (∀ u, Below w3.heap.size w3 u → u.cell? ⟨rb, j * 4, none⟩ = some (.string x.key) ∧ u.cell? ⟨rb, j * 4 + 1, none⟩ = some (.int .u64 (x.seq : Int))) := Lib.hid fun u hu => by
        obtain ⟨y, hy, _, y0, y1, _⟩ := (HR.out.below hu (Nat.le_refl _)).at4 hlt
        rw [hx] at hy
        cases hy
        rw [Nat.zero_add] at y0 y1
        exact ⟨y0, y1⟩
      have hxm := List.mem_of_getElem? hx
      have hxt := htak.out x hxm
      have TH : Hid (∀ u, Below w3.heap.size w3 u → Calls Try.prog 29 #[.slice a n c, .string x.key, .int .u64 (x.seq : Int)] u fun e w' => e = .returned (.bool (thr l x.key x.seq)) ∧ Below u.heap.size u w') := Lib.hid fun u hu => TH0.out u x.key x.seq (below_of B3.out hu)
      obtain ⟨xk, xs, xi, xv⟩ := x
      simp only at KX TH hxt
      have hx := Lib.hid hx
      have i1 : (j : Int) < (N : Int) := by omega
      have hB := Lib.hid hB
      cases ht : thr l xk xs with
      | true =>
        rw [ht] at TH
        have hxt := Lib.hid (hxt ht)
        have TH := Lib.hid TH.out
        go_upto_region 8 with fail
        obtain ⟨z0, z1⟩ := KX.out wr.drew hB.out.drew
        refine wp_region_held_drew (S := (fun v => (v.cell? ⟨rb, j * 4, none⟩ = some (.string xk) ∧ v.cell? ⟨rb, j * 4 + 1, none⟩ = some (.int .u64 (xs : Int))) ∧ Hid (Below w3.heap.size w3 v))) (by kernel_rfl) (⟨⟨z0, z1⟩, Lib.hid hB.out.drew⟩) (fun hHeld => ?_)
        refine held_take (i := 0) (v := ?_) rfl (by kernel_rfl) (by kernel_rfl) (by kernel_rfl) (fun _ _ _ h => h) (by rfl) (fun w hSw => ?_) (by assumption) ?_; rotate_left 1; focus (((try dsimp only at hSw); first | (go_simp; done) | (go_simp; with_reducible rfl)))
        try simp only [Act.put, List.setIfInBounds_toArray, List.set_cons_zero, List.set_cons_succ]
        refine held_take (i := 1) (v := ?_) rfl (by kernel_rfl) (by kernel_rfl) (by kernel_rfl) (fun _ _ _ h => h) (by rfl) (fun w hSw => ?_) (by assumption) ?_; rotate_left 1; focus (((try dsimp only at hSw); first | (go_simp; done) | (go_simp; with_reducible rfl)))
        try simp only [Act.put, List.setIfInBounds_toArray, List.set_cons_zero, List.set_cons_succ]
        refine held_take (i := 2) (v := ?_) rfl (by kernel_rfl) (by kernel_rfl) (by kernel_rfl) (fun _ _ _ h => h) (by rfl) (fun w hSw => ?_) (by assumption) ?_; rotate_left 1; focus (((try dsimp only at hSw); first | (go_simp; done) | (go_simp; with_reducible rfl)))
        try simp only [Act.put, List.setIfInBounds_toArray, List.set_cons_zero, List.set_cons_succ]
        refine held_take (i := 3) (v := ?_) rfl (by kernel_rfl) (by kernel_rfl) (by kernel_rfl) (fun _ _ _ h => h) (by rfl) (fun w hSw => ?_) (by assumption) ?_; rotate_left 1; focus (((try dsimp only at hSw); first | (go_simp; done) | (go_simp; with_reducible rfl)))
        try simp only [Act.put, List.setIfInBounds_toArray, List.set_cons_zero, List.set_cons_succ]
        refine held_take (i := 4) (v := ?_) rfl (by kernel_rfl) (by kernel_rfl) (by kernel_rfl) (fun _ _ _ h => h) (by rfl) (fun w hSw => ?_) (by assumption) ?_; rotate_left 1; focus (((try dsimp only at hSw); first | (go_simp; done) | (go_simp; with_reducible rfl)))
        try simp only [Act.put, List.setIfInBounds_toArray, List.set_cons_zero, List.set_cons_succ]
        refine held_take (i := 5) (v := ?_) rfl (by kernel_rfl) (by kernel_rfl) (by kernel_rfl) (fun _ _ _ h => h) (by rfl) (fun w hSw => ?_) (by assumption) ?_; rotate_left 1; focus (((try dsimp only at hSw); first | (go_simp; done) | (go_simp; with_reducible rfl)))
        try simp only [Act.put, List.setIfInBounds_toArray, List.set_cons_zero, List.set_cons_succ]
        refine held_take (i := 6) (v := ?_) rfl (by kernel_rfl) (by kernel_rfl) (by kernel_rfl) (fun _ _ _ h => h) (by rfl) (fun w hSw => ?_) (by assumption) ?_; rotate_left 1; focus (((try dsimp only at hSw); first | (go_simp; done) | (go_simp; with_reducible rfl)))
        try simp only [Act.put, List.setIfInBounds_toArray, List.set_cons_zero, List.set_cons_succ]
        refine held_take (i := 7) (v := ?_) rfl (by kernel_rfl) (by kernel_rfl) (by kernel_rfl) (fun _ _ _ h => h) (by rfl) (fun w hSw => ?_) (by assumption) ?_; rotate_left 1; focus (((try dsimp only at hSw); first | (go_simp; done) | (go_simp; with_reducible rfl)))
        try simp only [Act.put, List.setIfInBounds_toArray, List.set_cons_zero, List.set_cons_succ]
        refine held_take (i := 8) (v := ?_) rfl (by kernel_rfl) (by kernel_rfl) (by kernel_rfl) (fun _ _ _ h => h) (by rfl) (fun w hSw => ?_) (by assumption) ?_; rotate_left 1; focus (((try dsimp only at hSw); first | (go_simp; done) | (go_simp; with_reducible rfl)))
        try simp only [Act.put, List.setIfInBounds_toArray, List.set_cons_zero, List.set_cons_succ]
        refine held_take (i := 9) (v := ?_) rfl (by kernel_rfl) (by kernel_rfl) (by kernel_rfl) (fun _ _ _ h => h) (by rfl) (fun w hSw => ?_) (by assumption) ?_; rotate_left 1; focus (((try dsimp only at hSw); first | (go_simp; done) | (go_simp; with_reducible rfl)))
        try simp only [Act.put, List.setIfInBounds_toArray, List.set_cons_zero, List.set_cons_succ]
        refine held_take (i := 10) (v := ?_) rfl (by kernel_rfl) (by kernel_rfl) (by kernel_rfl) (fun _ _ _ h => h) (by rfl) (fun w hSw => ?_) (by assumption) ?_; rotate_left 1; focus (((try dsimp only at hSw); first | (go_simp; done) | (go_simp; with_reducible rfl)))
        try simp only [Act.put, List.setIfInBounds_toArray, List.set_cons_zero, List.set_cons_succ]
        refine held_call (i := 11) (by kernel_rfl) rfl (by rfl) (fun K hK => ?_)
        go_simp
        (go_at_call 29; ((with_reducible refine (TH.out _ hHeld.2.out).mono ?_); rintro e w5 ⟨rfl, hb5⟩; have B5 := Lib.hid (below_of hHeld.2.out hb5); obtain ⟨k0, k1⟩ := KX.out w5 B5.out; clear hb5 hHeld))
        refine hK.out _ _ (⟨⟨k0, k1⟩, Lib.hid B5.out⟩) (fun hHeld => ?_)
        try simp only [Act.put, List.setIfInBounds_toArray, List.set_cons_zero, List.set_cons_succ]
        refine wpAnyH_done (by kernel_rfl) ?_ _
        go_wp2_with fail
        go_returns
        try rw [hxt.out]
        have B6 := below_of B3.out B5.out
        exact ⟨a, n, c, b, o, rfl, h.out.below B6, B6⟩
      | false =>
        rw [ht] at TH
        have ht := Lib.hid ht
        have TH := Lib.hid TH.out
        clear hxt
        go_upto_region 8 with fail
        obtain ⟨z0, z1⟩ := KX.out wr.drew hB.out.drew
        refine wp_region_held_drew (S := (fun v => (v.cell? ⟨rb, j * 4, none⟩ = some (.string xk) ∧ v.cell? ⟨rb, j * 4 + 1, none⟩ = some (.int .u64 (xs : Int))) ∧ Hid (Below w3.heap.size w3 v))) (by kernel_rfl) (⟨⟨z0, z1⟩, Lib.hid hB.out.drew⟩) (fun hHeld => ?_)
        refine held_take (i := 0) (v := ?_) rfl (by kernel_rfl) (by kernel_rfl) (by kernel_rfl) (fun _ _ _ h => h) (by rfl) (fun w hSw => ?_) (by assumption) ?_; rotate_left 1; focus (((try dsimp only at hSw); first | (go_simp; done) | (go_simp; with_reducible rfl)))
        try simp only [Act.put, List.setIfInBounds_toArray, List.set_cons_zero, List.set_cons_succ]
        refine held_take (i := 1) (v := ?_) rfl (by kernel_rfl) (by kernel_rfl) (by kernel_rfl) (fun _ _ _ h => h) (by rfl) (fun w hSw => ?_) (by assumption) ?_; rotate_left 1; focus (((try dsimp only at hSw); first | (go_simp; done) | (go_simp; with_reducible rfl)))
        try simp only [Act.put, List.setIfInBounds_toArray, List.set_cons_zero, List.set_cons_succ]
        refine held_take (i := 2) (v := ?_) rfl (by kernel_rfl) (by kernel_rfl) (by kernel_rfl) (fun _ _ _ h => h) (by rfl) (fun w hSw => ?_) (by assumption) ?_; rotate_left 1; focus (((try dsimp only at hSw); first | (go_simp; done) | (go_simp; with_reducible rfl)))
        try simp only [Act.put, List.setIfInBounds_toArray, List.set_cons_zero, List.set_cons_succ]
        refine held_take (i := 3) (v := ?_) rfl (by kernel_rfl) (by kernel_rfl) (by kernel_rfl) (fun _ _ _ h => h) (by rfl) (fun w hSw => ?_) (by assumption) ?_; rotate_left 1; focus (((try dsimp only at hSw); first | (go_simp; done) | (go_simp; with_reducible rfl)))
        try simp only [Act.put, List.setIfInBounds_toArray, List.set_cons_zero, List.set_cons_succ]
        refine held_take (i := 4) (v := ?_) rfl (by kernel_rfl) (by kernel_rfl) (by kernel_rfl) (fun _ _ _ h => h) (by rfl) (fun w hSw => ?_) (by assumption) ?_; rotate_left 1; focus (((try dsimp only at hSw); first | (go_simp; done) | (go_simp; with_reducible rfl)))
        try simp only [Act.put, List.setIfInBounds_toArray, List.set_cons_zero, List.set_cons_succ]
        refine held_take (i := 5) (v := ?_) rfl (by kernel_rfl) (by kernel_rfl) (by kernel_rfl) (fun _ _ _ h => h) (by rfl) (fun w hSw => ?_) (by assumption) ?_; rotate_left 1; focus (((try dsimp only at hSw); first | (go_simp; done) | (go_simp; with_reducible rfl)))
        try simp only [Act.put, List.setIfInBounds_toArray, List.set_cons_zero, List.set_cons_succ]
        refine held_take (i := 6) (v := ?_) rfl (by kernel_rfl) (by kernel_rfl) (by kernel_rfl) (fun _ _ _ h => h) (by rfl) (fun w hSw => ?_) (by assumption) ?_; rotate_left 1; focus (((try dsimp only at hSw); first | (go_simp; done) | (go_simp; with_reducible rfl)))
        try simp only [Act.put, List.setIfInBounds_toArray, List.set_cons_zero, List.set_cons_succ]
        refine held_take (i := 7) (v := ?_) rfl (by kernel_rfl) (by kernel_rfl) (by kernel_rfl) (fun _ _ _ h => h) (by rfl) (fun w hSw => ?_) (by assumption) ?_; rotate_left 1; focus (((try dsimp only at hSw); first | (go_simp; done) | (go_simp; with_reducible rfl)))
        try simp only [Act.put, List.setIfInBounds_toArray, List.set_cons_zero, List.set_cons_succ]
        refine held_take (i := 8) (v := ?_) rfl (by kernel_rfl) (by kernel_rfl) (by kernel_rfl) (fun _ _ _ h => h) (by rfl) (fun w hSw => ?_) (by assumption) ?_; rotate_left 1; focus (((try dsimp only at hSw); first | (go_simp; done) | (go_simp; with_reducible rfl)))
        try simp only [Act.put, List.setIfInBounds_toArray, List.set_cons_zero, List.set_cons_succ]
        refine held_take (i := 9) (v := ?_) rfl (by kernel_rfl) (by kernel_rfl) (by kernel_rfl) (fun _ _ _ h => h) (by rfl) (fun w hSw => ?_) (by assumption) ?_; rotate_left 1; focus (((try dsimp only at hSw); first | (go_simp; done) | (go_simp; with_reducible rfl)))
        try simp only [Act.put, List.setIfInBounds_toArray, List.set_cons_zero, List.set_cons_succ]
        refine held_take (i := 10) (v := ?_) rfl (by kernel_rfl) (by kernel_rfl) (by kernel_rfl) (fun _ _ _ h => h) (by rfl) (fun w hSw => ?_) (by assumption) ?_; rotate_left 1; focus (((try dsimp only at hSw); first | (go_simp; done) | (go_simp; with_reducible rfl)))
        try simp only [Act.put, List.setIfInBounds_toArray, List.set_cons_zero, List.set_cons_succ]
        refine held_call (i := 11) (by kernel_rfl) rfl (by rfl) (fun K hK => ?_)
        go_simp
        (go_at_call 29; ((with_reducible refine (TH.out _ hHeld.2.out).mono ?_); rintro e w5 ⟨rfl, hb5⟩; have B5 := Lib.hid (below_of hHeld.2.out hb5); obtain ⟨k0, k1⟩ := KX.out w5 B5.out; clear hb5 hHeld))
        refine hK.out _ _ (⟨⟨k0, k1⟩, Lib.hid B5.out⟩) (fun hHeld => ?_)
        try simp only [Act.put, List.setIfInBounds_toArray, List.set_cons_zero, List.set_cons_succ]
        refine wpAnyH_done (by kernel_rfl) ?_ _
        go_wp2_with fail
        go_roundw
        case rel => exact ⟨j + 1, by omega, by go_num, fun m y hm hy => by
          by_cases hmj : m < j
          · exact hfr.out m y hmj hy
          · obtain rfl : m = j := by omega
            rw [hx.out] at hy
            cases hy
            exact ht.out, B5.out⟩
        case measure => simp [intOf]; omega
    · have hjN : j = N := by omega
      subst hjN
      have i1 : ¬ ((j : Int) < (j : Int)) := by omega
      have hfa : ∀ x ∈ X, thr l x.key x.seq = false := fun x hx => by
        obtain ⟨m, hm⟩ := List.getElem?_of_mem hx
        exact hfr.out m x (by have := (List.getElem?_eq_some_iff.1 hm).1; rw [hNX.out] at this; exact this) hm
      have hgood := Lib.hid (hgood.out hfa)
      have hnl : Hid (l.length = n) := Lib.hid h.out.rs.len
      have Bw : Hid (Below w.heap.size w wr) := Lib.hid (below_of B3.out hB)
      have Tw : Hid (Rt a n c b o l wr) := Lib.hid (h.out.below Bw.out)
      have Sw : Hid (Below w3.heap.size w3 wr) := Lib.hid hB
      obtain ⟨N, hjN⟩ := named j
      rw [← hjN.out] at HR rcp hX64 hNX ⊢
      clear hB hj hlt i1 hfr hjN hfa TH0 htak
      go_wp2_with fail
      go_loopw [0, 9] (fun s v wq => ∃ j a' n' c' b' o', j ≤ N ∧ s = .slice a' n' c' ∧ v = .int .i64 (j : Int) ∧ Rt a' n' c' b' o' (insAll l (X.take j)) wq ∧ Below w.heap.size w wq ∧ Below w3.heap.size w3 wq) (fun _ v _ => N - (intOf v).toNat)
      case atStart => exact ⟨0, a, n, c, b, o, Nat.zero_le _, rfl, rfl, Tw.out, Bw.out, Sw.out⟩
      case round =>
        clear Tw Bw Sw
        obtain ⟨j, a', n', c', b', o', hj, rfl, rfl, T0, B0, S0⟩ := hrel
        have e0 := T0.rs.cap
        have e1 := T0.rs.most
        have e2 := T0.rs.len
        rw [insAll_len, List.length_take] at e2
        by_cases hlt : j < N
        · obtain ⟨x, hx, rfl, x0, x1, x2, x3⟩ := (HR.out.below S0 (Nat.le_refl _)).at4 hlt
          rw [Nat.zero_add] at x0 x1 x2 x3
          have hn' : n' ≤ 1000000 := by have := hnl.out; omega
          have WI := with_ref T0 hn' x
          rw [take_next hx] at WI
          obtain ⟨xk, xs, xi, xv⟩ := x
          have WI := Lib.hid (show Calls Try.prog 30 #[.slice a' n' c', .agg #[.string xk, .int .u64 (xs : Int), .int .i64 xi, .string xv]] wr (GaveR (insAll l (X.take (j + 1))) wr) from WI)
          simp only at x0 x1 x2 x3
          have i1 : (j : Int) < (N : Int) := by omega
          have B0 := Lib.hid B0
          have S0 := Lib.hid S0
          clear T0 e2
          go_wp2_with (go_at_call 30; ((with_reducible refine WI.out.mono ?_); rintro e w5 hd; obtain ⟨v5, rfl, r5, b5⟩ := hd; obtain ⟨a5, c5, b5', rfl, t5⟩ := rt_of_row r5; have T5 := Lib.hid t5; have B5 := Lib.hid (B0.out.trans (b5.mono B0.out.size)); have S5 := Lib.hid (below_of S0.out b5); clear WI r5 b5 t5))
          go_roundw
          case rel => exact ⟨j + 1, a5, _, c5, b5', 0, by omega, rfl, by go_num, T5.out, B5.out, S5.out⟩
          case measure => simp [intOf]; omega
        · have hjN : j = N := by omega
          have i1 : ¬ ((j : Int) < (N : Int)) := by omega
          have fin : Hid (X.take j = X) := Lib.hid (List.take_of_length_le (by have := hNX.out; omega))
          rw [fin.out] at T0
          have T0 := Lib.hid T0
          have B0 := Lib.hid B0
          go_wp2_with fail
          go_returns
          try rw [hgood.out]
          exact ⟨a', n', c', b', o', rfl, T0.out, B0.out⟩
theorem add_ref {a : Option Addr} {n c b o : Nat} {l : List Rw} {w : World} (h : Rt a n c b o l w) (hn : n ≤ 900000) {seq : Nat} {a1 : Option Addr} {n1 c1 b1 o1 : Nat} {ws : List Wr} (hw : Ws a1 n1 c1 b1 o1 ws w) :
    Calls Try.prog 11 #[.slice a n c, batchV seq a1 n1 c1] w (AddRD (addR l seq ws).1 (addR l seq ws).2 w) := by
  by_cases hc : chkB seq ws = 0
  · exact addref_good h hn hw hc
  · exact addref_bad h hw hc
end Go.Proofs.Ytdgbafpnfkedeaa
/-
  The contracts of slices.AppendSeq and Collect over a skip list's iterator, of the table's Rows and Range. Condition: at most 1048575 rows.
-/
namespace Go.Proofs.Ytdgbafpnfkedeaa
set_option maxRecDepth 100000
open Go.RowKit
attribute [local go_sem] eq_node ne_node eq_list eq_table Oper.semAt_some iter_nil
set_option maxRecDepth 100000 in
set_option maxHeartbeats 4000000 in
theorem seq_any {q : Option Addr} {ns : List Nd} {w : World} (h : LsA q ns w) (hn : ns.length ≤ 1048575) {b : Nat} {k : ByteArray} {s : Nat} (hI : IterAt b q k s w) :
    Calls Try.prog 47 #[.slice none 0 0, IterV b] w (GaveR (rowsN (ns.drop (plN ns k s))) w) := by
  refine (callsIn_wide (n := 6)).1 ?_
  refine callsIn_of_wp_marks Try.func47 rfl trivial ?_ rfl
  simp only [Try.ntmps47, List.size_toArray, List.length_cons, List.length_nil, Nat.reduceAdd, Nat.reduceSub, Array.replicate_succ, Array.replicate_zero, List.push_toArray, List.append_toArray, List.nil_append, List.cons_append]
  refine wpIn_wide.2 ?_
  have n0 := Boxed.new w 27 (.slice none 0 0)
  have B0 := below_alloc w (.cells #[.slice none 0 0] 27)
  have hL := h.grow B0
  have hI1 := hI.below B0
  have hsz : (w.alloc (.cells #[.slice none 0 0] 27)).heap.size = w.heap.size + 1 := World.size_alloc _ _
  have IS := iter_stops (n₀ := w.heap.size) hL h.low (by omega) (by omega) hI1
  have hnl : (rowsN (ns.drop (plN ns k s))).length ≤ 1048575 := by unfold rowsN; rw [List.length_map, List.length_drop]; omega
  obtain ⟨R, hR⟩ := named (rowsN (ns.drop (plN ns k s)))
  rw [← hR.out] at IS hnl ⊢
  have n0 := Lib.hid n0
  have B0 := Lib.hid B0
  have IS := Lib.hid IS
  have hsz := Lib.hid hsz
  clear hI hI1 hL h hn
  go_wp2_with fail
  replace n0 := n0.out
  replace B0 := B0.out
  replace IS := IS.out
  replace hsz := hsz.out
  obtain ⟨i0, hi, hz0, hz1, hz2⟩ := info_parts info_row
  generalize w.alloc (.cells #[.slice none 0 0] 27) = w1 at *
  refine (wpIn_wide (n := 6)).1 ?_
  refine wpIn_rangeFunc_ownH (F := Fence.wide) (n := 6) rfl (by omega) (gf := 50) (lb := #[.pointer (some ⟨b, 0, none⟩), .pointer (some ⟨b + 1, 0, none⟩), .pointer (some ⟨b + 2, 0, none⟩)]) rfl trivial (enters_of Try.func50 (by kernel_rfl) rfl)
    IS belowK_t (belowK_b (by omega)) (Below.refl _ _) (fun _ => rfl)
    (fun pre W => (∃ v, Boxed W w.heap.size 27 v ∧ W.ownsRow w.heap.size 43 4 v pre.length (rowR pre) ∧ True) ∧ Below w.heap.size w W)
    (fun _ _ _ => False)
    (OwnFrom.and (Own.from (holdsRow_own w.heap.size w.heap.size 27 43 4 (fun pre => pre.length) (fun pre => rowR pre) (fun _ _ => True)) _) (ownFrom_below (Nat.le_refl _) (by omega)))
    (fun c _ _ _ _ h _ _ => h)
    ⟨⟨_, n0, World.ownsRow_nil _ _ _ _, trivial⟩, B0⟩
    (fun x a' W => ∃ bx, w.heap.size < bx ∧ RowAt bx x W ∧ a' = { tmps := #[.slice none 0 0, IterV b, .pointer (some ⟨w.heap.size, 0, none⟩), undef, .slice none 0 0, .pointer (some ⟨bx, 0, none⟩), IterV b, rowV x, undef, undef, undef, undef, undef], defers := [] })
    (fun x a' _ X Y row h hg hr => by
      obtain ⟨bx, h1, h2, h3⟩ := h
      exact ⟨bx, h1, rowAt_own bx (fun _ : Unit => x) _ () X Y row h2 hg hr, h3⟩)
    ?assign ?body ?done ?stop
  case assign =>
    rintro l pre x W K ⟨⟨v, b3, hrow, _⟩, hB⟩ hK
    gi_wp2
    exact hK _ _ ((KeepsOthers.alloc _ _).from _) ((Below.refl _ W).alloc hB.size _) ⟨⟨v, b3.alloc _, hrow.alloc _, trivial⟩, hB.alloc hB.size _⟩ ⟨W.heap.size, b3.lt, RowAt.new x W, rfl⟩
  case body =>
    rintro l pre x a' W hl ⟨r, hr⟩ ⟨⟨v, hv, hrow, _⟩, hB⟩ ⟨bx, hbx, rX, rfl⟩ hlt
    obtain ⟨⟨x0, x1, x2, x3⟩, x4⟩ := rX.cells
    have z0 := hv.cell
    have z1 := hv.frozen
    obtain ⟨p1, p2, rfl⟩ := ownsRow_slice hrow
    have hl1 : pre.length + 1 ≤ 1048576 := by omega
    gi_wp2_with (gi_at_builtin; refine wpListIn_append_own _ rfl _ _ 27 rfl w.heap.size 43 i0 _ 4 48 Try.underlying27 hi hz0 hz1 hz2 rfl (by decide) _ _ _ rfl (hrow.alloc _) ⟨W.heap.size, 0, none⟩ 1 1 [.string x.key, .int .u64 (x.seq : Int), .int .i64 x.kind, .string x.val] rfl rfl (World.news_of_block (heap_alloc_new _ _)) (row_one x) (by unfold maxLen; omega) (by omega) (by have := hB.size; simp; omega) ?_; intro v' w1 hown' hgrow _; obtain ⟨g', cap', rfl⟩ := ownsRow_succ hown'; obtain ⟨hv1, hv2, hr2, hk2, hb2⟩ := hv.appended (by decide) hrow hB.size (Nat.le_refl _) hown' hgrow; have hc1 := hv1.cell; have hf1 := hv1.frozen)
    rw [← rowR_snoc] at hr2
    exact ⟨hk2.from _, hb2, ⟨_, hv2, by rw [List.length_append]; exact hr2, trivial⟩, hB.trans hb2⟩
  case done =>
    rintro D xs W hD rfl ⟨⟨v, hv, hrow, _⟩, hB⟩ hK
    have z0 := hv.cell
    obtain ⟨p1, p2, rfl⟩ := ownsRow_slice hrow
    go_wp2_with fail
    refine ⟨by simp, .inl ⟨_, _, rfl, run_takeDeferred hK, ?_⟩⟩
    refine ⟨_, results_tmp rfl _ _ _, ?_⟩
    exact ⟨_, rfl, ownsRow_putObj hrow _ hK rfl, hB.trans (belowK_b (w := w) (Nat.le_refl _) W D _ _ (by omega) hK rfl rfl)⟩
  case stop =>
    rintro D c pre W hD hpre h
    exact h.elim
set_option maxHeartbeats 2000000 in
theorem collect_any {q : Option Addr} {ns : List Nd} {w : World} (h : LsA q ns w) (hn : ns.length ≤ 1048575) {b : Nat} {k : ByteArray} {s : Nat} (hI : IterAt b q k s w) :
    Calls Try.prog 39 #[IterV b] w (GaveR (rowsN (ns.drop (plN ns k s))) w) := by
  have S := Lib.hid (seq_any h hn hI)
  clear h hI
  go_enter Try.func39, Try.ntmps39
  go_wp2_with fail
  refine S.out.mono ?_
  rintro e w' ⟨v, rfl, h1, h2⟩
  have h1 := Lib.hid h1
  have h2 := Lib.hid h2
  go_wp2_with fail
  go_returns
  exact ⟨_, rfl, h1.out, h2.out⟩
theorem GaveR.nil (w : World) {e : Ending} (he : e = .returned (.slice none 0 0)) : GaveR [] w e w := ⟨_, he, World.ownsRow_nil _ _ _ _, Below.refl _ _⟩
theorem GaveR.lift {l : List Rw} {w w1 w2 : World} {e : Ending} (h : GaveR l w1 e w2) (hb : Below w.heap.size w w1) : GaveR l w e w2 := by
  obtain ⟨v, h1, h2, h3⟩ := h
  exact ⟨v, h1, ⟨h2.1, h2.2.imp id fun ⟨g, cap, cur, k1, k2, k3⟩ => ⟨g, cap, cur, k1, Nat.le_trans hb.size k2, k3⟩⟩, below_of hb h3⟩
set_option maxHeartbeats 2000000 in
theorem rows_tab {q : Option Addr} {R : List Rw} {w : World} (h : TabQ q R w) : Calls Try.prog 20 #[.pointer q] w (GaveR R w) := by
  rcases h with ⟨rfl, rfl⟩ | ⟨p, L, l, rfl, h, ⟨ns, hL, hns⟩, hR, hn⟩
  · go_enter Try.func20, Try.ntmps20
    go_wp2_with fail
    go_returns
    exact GaveR.nil _ rfl
  · obtain ⟨c0, c1, c2, c3⟩ := h.cells
    have hnl : ns.length ≤ 1048575 := by rw [len_P hns, ← rows_len, hR]; exact hn
    have hall : rowsN (ns.drop (plN ns ⟨#[]⟩ 18446744073709551615)) = R := by rw [first_place hL.seqs, List.drop_zero, rowsN_P hns, hR]
    have AL := Lib.hid (all_iter L w)
    have CO : Hid (∀ b u, IterAt b L ⟨#[]⟩ 18446744073709551615 u → Below w.heap.size w u → Calls Try.prog 39 #[IterV b] u (GaveR R u)) := Lib.hid fun b u hI hb => by
      have := collect_any (hL.grow hb) hnl hI
      rwa [hall] at this
    clear h hL hns hR hn hnl hall
    go_enter Try.func20, Try.ntmps20
    go_wp2_with (first
      | (go_at_call 40; ((with_reducible refine AL.out.mono ?_); rintro e w1 ⟨b, hb, rfl, hI, hb1⟩; have C1 := Lib.hid (CO.out b w1 hI hb1); have B1 := Lib.hid hb1; clear hb hI hb1))
      | (go_at_call 39; ((with_reducible refine C1.out.mono ?_); rintro e w2 hd; have G2 := hd.lift B1.out; obtain ⟨v2, rfl, hv2, hB2⟩ := G2; have hv2 := Lib.hid hv2; have hB2 := Lib.hid hB2; clear hd))
      | fail "no arm")
    go_returns
    exact ⟨_, rfl, hv2.out, hB2.out⟩
end Go.Proofs.Ytdgbafpnfkedeaa
/-
  The contract of the table's Range. Condition: at most 1048575 rows, a first key of at most 2^48 bytes.
-/
namespace Go.Proofs.Ytdgbafpnfkedeaa
set_option maxRecDepth 100000
open Go.RowKit
attribute [local go_sem] eq_node ne_node eq_list eq_table Oper.semAt_some iter_nil
theorem geq_str (a b : ByteArray) (u : World) : (binOp .geq 9 (.string a) (.string b)).run Try.prog u = .ok (.bool (!(Op.bytesLess a.toList b.toList))) u := by
  have : binOp .geq 9 (.string a) (.string b) = pure (.bool (!(Op.bytesLess a.toList b.toList))) := by simp [binOp, Op.stringOp]
  rw [this]
  rfl
/-- Is a row ahead of the range's end? -/
def inR (to' : ByteArray) (x : Rw) : Bool := to'.toList.isEmpty || Op.bytesLess x.key.toList to'.toList
def rngR (R : List Rw) (fr to' : ByteArray) : List Rw := (R.drop (plc R fr 18446744073709551615)).takeWhile (inR to')
theorem takeWhile_all {f : Rw → Bool} {l : List Rw} (h : ∀ y ∈ l, f y = true) : l.takeWhile f = l := by
  induction l with
  | nil => rfl
  | cons x r ih => rw [List.takeWhile_cons, if_pos (h x (by simp)), ih (fun y hy => h y (by simp [hy]))]
theorem takeWhile_stop {f : Rw → Bool} {a : List Rw} {x : Rw} {t : List Rw} (h : ∀ y ∈ a, f y = true) (hx : f x = false) : (a ++ x :: t).takeWhile f = a := by
  induction a with
  | nil => simp [List.takeWhile_cons, hx]
  | cons y r ih => rw [List.cons_append, List.takeWhile_cons, if_pos (h y (by simp)), ih (fun z hz => h z (by simp [hz]))]
set_option maxRecDepth 100000 in
set_option maxHeartbeats 4000000 in
theorem range_some {p : Nat} {L : Option Addr} {l : SL} {R : List Rw} {w : World} (h : TabAt p L R w) (hLs : Ls L l w) (hRl : rowsL l = R) (hn : R.length ≤ 1048575) (fr to' : ByteArray) (hk : fr.size ≤ 281474976710656) :
    Calls Try.prog 16 #[.pointer (some ⟨p, 0, none⟩), .string fr, .string to'] w (GaveR (rngR R fr to') w) := by
  obtain ⟨ns, hL, hns⟩ := hLs
  have hnl : ns.length ≤ 1048575 := by rw [len_P hns, ← rows_len, hRl]; exact hn
  have C : ∀ u, Hid (Calls Try.prog 36 #[.pointer L, .string fr, .int .u64 18446744073709551615] u (IterDid L fr 18446744073709551615 u)) := fun u => Lib.hid (from_iter L fr hk 18446744073709551615 u)
  have n0 := Boxed.new w 9 (.string to')
  have n1 := Boxed.new (w.alloc (.cells #[.string to'] 9)) 27 (.slice none 0 0)
  rw [World.size_alloc] at n1
  have k0 := below_alloc w (.cells #[.string to'] 9)
  have k1 := below_alloc (w.alloc (.cells #[.string to'] 9)) (.cells #[.slice none 0 0] 27)
  have hT := (h.grow (below_of k0 k1)).cells.1
  have hnd : (rowsN (ns.drop (plN ns fr 18446744073709551615))).length ≤ 1048575 := by unfold rowsN; rw [List.length_map, List.length_drop]; omega
  have hDR : rowsN (ns.drop (plN ns fr 18446744073709551615)) = R.drop (plc R fr 18446744073709551615) := by
    rw [drop_P hns, plN_P hns, ← hRl]; rfl
  rw [show rngR R fr to' = (rowsN (ns.drop (plN ns fr 18446744073709551615))).takeWhile (inR to') by rw [hDR]; rfl]
  obtain ⟨D, hD⟩ := named (rowsN (ns.drop (plN ns fr 18446744073709551615)))
  rw [← hD.out] at hnd ⊢
  have n0 := Lib.hid n0
  have n1 := Lib.hid n1
  have k0 := Lib.hid k0
  have k1 := Lib.hid k1
  replace hL := Lib.hid hL
  clear hns hDR hn hk h hRl
  refine (callsIn_wide (n := 6)).1 ?_
  refine callsIn_of_wp_marks Try.func16 rfl trivial ?_ rfl
  simp only [Try.ntmps16, List.size_toArray, List.length_cons, List.length_nil, Nat.reduceAdd, Nat.reduceSub, Array.replicate_succ, Array.replicate_zero, List.push_toArray, List.append_toArray, List.nil_append, List.cons_append]
  refine wpIn_wide.2 ?_
  go_wp2_with (go_at_call 36; ((with_reducible refine (C _).out.mono ?_); rintro e w1 ⟨b, hb, rfl, hI, hb1⟩))
  replace n0 := n0.out
  replace n1 := n1.out
  replace k0 := k0.out
  replace k1 := k1.out
  replace hL := hL.out
  have hLw := hL.grow (below_of (below_of k0 k1) hb1)
  have B0 := below_of (below_of k0 k1) hb1
  have b2 : Boxed w1 w.heap.size 9 (.string to') := ((hb1.block w.heap.size (by simp only [World.size_alloc]; omega)).trans (k1.block w.heap.size (by simp only [World.size_alloc]; omega))).trans n0
  have b3 : Boxed w1 (w.heap.size + 1) 27 (.slice none 0 0) := (hb1.block (w.heap.size + 1) (by simp only [World.size_alloc]; omega)).trans n1
  have hsz : w.heap.size + 2 ≤ w1.heap.size := by have := hb1.size; simp at this; omega
  have IS := iter_stops (n₀ := w.heap.size) hLw hL.low (by omega) (by omega) hI
  rw [← hD.out] at IS
  clear hb n0 n1 k0 k1 hb1 hT
  obtain ⟨i0, hi, hz0, hz1, hz2⟩ := info_parts info_row
  refine (wpIn_wide (n := 6)).1 ?_
  refine wpIn_rangeFunc_ownH (F := Fence.wide) (n := 6) rfl (by omega) (gf := 50) (lb := #[.pointer (some ⟨b, 0, none⟩), .pointer (some ⟨b + 1, 0, none⟩), .pointer (some ⟨b + 2, 0, none⟩)]) rfl trivial (enters_of Try.func50 (by kernel_rfl) rfl)
    IS belowK_t (belowK_b (by omega)) (Below.refl _ _) (fun _ => rfl)
    (fun pre W => ((∃ v, Boxed W (w.heap.size + 1) 27 v ∧ W.ownsRow w.heap.size 43 4 v pre.length (rowR pre) ∧ True) ∧ Boxed W w.heap.size 9 (.string to')) ∧ (∀ y ∈ pre, inR to' y = true) ∧ Below w.heap.size w W)
    (fun c ps W => c = .exit 0 ∧ (∃ v, Boxed W (w.heap.size + 1) 27 v ∧ W.ownsRow w.heap.size 43 4 v ps.dropLast.length (rowR ps.dropLast) ∧ True) ∧ (∃ a x, ps = a ++ [x] ∧ (∀ y ∈ a, inR to' y = true) ∧ inR to' x = false) ∧ Below w.heap.size w W)
    (OwnFrom.and (OwnFrom.and (Own.from (holdsRow_own w.heap.size (w.heap.size + 1) 27 43 4 (fun (pre : List Rw) => pre.length) (fun pre => rowR pre) (fun _ _ => True)) _) (Own.from (boxed_own _ _ fun _ => .string to') _)) (OwnFrom.and (ownFrom_pure _ fun (pre : List Rw) => ∀ y ∈ pre, inR to' y = true) (ownFrom_below (Nat.le_refl _) (by omega))))
    (fun c => OwnFrom.and (ownFrom_pure _ fun _ => c = .exit 0) (OwnFrom.and (Own.from (holdsRow_own w.heap.size (w.heap.size + 1) 27 43 4 (fun (ps : List Rw) => ps.dropLast.length) (fun ps => rowR ps.dropLast) (fun _ _ => True)) _) (OwnFrom.and (ownFrom_pure _ fun (ps : List Rw) => ∃ a x, ps = a ++ [x] ∧ (∀ y ∈ a, inR to' y = true) ∧ inR to' x = false) (ownFrom_below (Nat.le_refl _) (by omega)))))
    ⟨⟨⟨_, b3, World.ownsRow_nil _ _ _ _, trivial⟩, b2⟩, (by simp), B0⟩
    (fun x a' W => ∃ bx, w.heap.size + 1 < bx ∧ RowAt bx x W ∧ a' = { tmps := #[.pointer (some ⟨p, 0, none⟩), .string fr, .string to', undef, undef, .pointer (some ⟨w.heap.size, 0, none⟩), .slice none 0 0, .pointer (some ⟨w.heap.size + 1, 0, none⟩), .pointer (some ⟨bx, 0, none⟩), .pointer (some ⟨p, 0, none⟩), .bool false, .pointer (some ⟨p, 0, none⟩), .pointer (some ⟨p, 0, none⟩), .pointer (some ⟨p, 0, none⟩), .pointer L, .string fr, IterV b, rowV x, undef, undef, undef, undef, undef, undef, undef, undef, undef, undef, undef, undef, undef], defers := [] })
    (fun x a' _ X Y row h hg hr => by
      obtain ⟨bx, h1, h2, h3⟩ := h
      exact ⟨bx, h1, rowAt_own bx (fun _ : Unit => x) _ () X Y row h2 hg hr, h3⟩)
    ?assign ?body ?done ?stop
  case assign =>
    rintro l pre x W K ⟨⟨⟨v, b3, hrow, _⟩, b2⟩, hp, hB⟩ hK
    gi_wp2
    exact hK _ _ ((KeepsOthers.alloc _ _).from _) ((Below.refl _ W).alloc hB.size _) ⟨⟨⟨v, b3.alloc _, hrow.alloc _, trivial⟩, b2.alloc _⟩, hp, hB.alloc hB.size _⟩ ⟨W.heap.size, b3.lt, RowAt.new x W, rfl⟩
  case body =>
    rintro l pre x a' W hl ⟨r, hr⟩ ⟨⟨⟨v, hv, hrow, _⟩, b2⟩, hp, hB⟩ ⟨bx, hbx, rX, rfl⟩ hlt
    obtain ⟨⟨x0, x1, x2, x3⟩, x4⟩ := rX.cells
    have z0 := hv.cell
    have z1 := hv.frozen
    have m0 := b2.cell
    have GE := geq_str x.key to'
    obtain ⟨p1, p2, rfl⟩ := ownsRow_slice hrow
    have hl1 : pre.length + 1 ≤ 1048576 := by omega
    by_cases he : to'.toList = []
    · have e1 : (to'.toList == []) = true := by rw [he]; rfl
      have hin : ∀ y ∈ pre ++ [x], inR to' y = true := fun y hy => by unfold inR; rw [he]; rfl
      clear GE
      gi_wp2_with (gi_at_builtin; refine wpListIn_append_own _ rfl _ _ 27 rfl w.heap.size 43 i0 _ 4 48 Try.underlying27 hi hz0 hz1 hz2 rfl (by decide) _ _ _ rfl (hrow.alloc _) ⟨W.heap.size, 0, none⟩ 1 1 [.string x.key, .int .u64 (x.seq : Int), .int .i64 x.kind, .string x.val] rfl rfl (World.news_of_block (heap_alloc_new _ _)) (row_one x) (by unfold maxLen; omega) (by omega) (by have := hB.size; simp; omega) ?_; intro v' w1 hown' hgrow _; obtain ⟨g', cap', rfl⟩ := ownsRow_succ hown'; obtain ⟨hv1, hv2, hr2, hk2, hb2⟩ := hv.appended (by decide) hrow hB.size (Nat.le_succ _) hown' hgrow; have hc1 := hv1.cell; have hf1 := hv1.frozen; have m1 := ((b2.alloc _).kept hgrow (b2.not_row (by decide) hrow)).other (B' := w.heap.size + 1) (by omega) (.slice (some ⟨g', 0, none⟩) (pre.length + 1) cap'))
      rw [← rowR_snoc] at hr2
      exact ⟨hk2.from _, hb2, ⟨⟨_, hv2, by rw [List.length_append]; exact hr2, trivial⟩, m1⟩, hin, hB.trans hb2⟩
    · have e1 : (to'.toList == []) = false := by simpa using he
      cases hle : Op.bytesLess x.key.toList to'.toList with
      | false =>
        have hin : inR to' x = false := by unfold inR; rw [hle]; simpa using he
        rw [hle] at GE
        gi_wp2
        refine ⟨KeepsFrom.refl _ _, rfl, ⟨_, hv, ?_, trivial⟩, ⟨pre, x, rfl, hp, hin⟩, hB⟩
        rw [List.dropLast_concat]; exact hrow
      | true =>
        have hin : ∀ y ∈ pre ++ [x], inR to' y = true := fun y hy => by
          rcases List.mem_append.1 hy with h | h
          · exact hp y h
          · rw [List.mem_singleton.1 h]; unfold inR; rw [hle, Bool.or_true]
        rw [hle] at GE
        gi_wp2_with (gi_at_builtin; refine wpListIn_append_own _ rfl _ _ 27 rfl w.heap.size 43 i0 _ 4 48 Try.underlying27 hi hz0 hz1 hz2 rfl (by decide) _ _ _ rfl (hrow.alloc _) ⟨W.heap.size, 0, none⟩ 1 1 [.string x.key, .int .u64 (x.seq : Int), .int .i64 x.kind, .string x.val] rfl rfl (World.news_of_block (heap_alloc_new _ _)) (row_one x) (by unfold maxLen; omega) (by omega) (by have := hB.size; simp; omega) ?_; intro v' w1 hown' hgrow _; obtain ⟨g', cap', rfl⟩ := ownsRow_succ hown'; obtain ⟨hv1, hv2, hr2, hk2, hb2⟩ := hv.appended (by decide) hrow hB.size (Nat.le_succ _) hown' hgrow; have hc1 := hv1.cell; have hf1 := hv1.frozen; have m1 := ((b2.alloc _).kept hgrow (b2.not_row (by decide) hrow)).other (B' := w.heap.size + 1) (by omega) (.slice (some ⟨g', 0, none⟩) (pre.length + 1) cap'))
        rw [← rowR_snoc] at hr2
        exact ⟨hk2.from _, hb2, ⟨⟨_, hv2, by rw [List.length_append]; exact hr2, trivial⟩, m1⟩, hin, hB.trans hb2⟩
  case done =>
    rintro D' xs W hD' rfl ⟨⟨⟨v, hv, hrow, _⟩, b2⟩, hp, hB⟩ hK
    have z0 := hv.cell
    obtain ⟨p1, p2, rfl⟩ := ownsRow_slice hrow
    go_wp2_with fail
    refine ⟨by simp, .inl ⟨_, _, rfl, run_takeDeferred hK, ?_⟩⟩
    refine ⟨_, results_tmp rfl _ _ _, ?_⟩
    rw [takeWhile_all hp]
    exact ⟨_, rfl, ownsRow_putObj hrow _ hK rfl, hB.trans (belowK_b (w := w) (Nat.le_refl _) W D' _ _ (by omega) hK rfl rfl)⟩
  case stop =>
    rintro D' c ps W hD' hpre ⟨rfl, ⟨v, hv, hrow, _⟩, ⟨a, x, rfl, hm, hx⟩, hB⟩ hK
    rw [List.dropLast_concat] at hrow
    have z0 := hv.cell
    obtain ⟨p1, p2, rfl⟩ := ownsRow_slice hrow
    refine wpIn_wide.2 ?_
    go_wp2_with fail
    have e : D.takeWhile (inR to') = a := by
      obtain ⟨t, ht⟩ := hpre
      rw [← ht, List.append_assoc]
      exact takeWhile_stop hm hx
    refine ⟨by simp, .inl ⟨_, _, rfl, run_takeDeferred hK, ?_⟩⟩
    refine ⟨_, results_tmp rfl _ _ _, ?_⟩
    rw [e]
    exact ⟨_, rfl, ownsRow_putObj hrow _ hK rfl, hB.trans (belowK_b (w := w) (Nat.le_refl _) W D' _ _ (by omega) hK rfl rfl)⟩
end Go.Proofs.Ytdgbafpnfkedeaa
/-
  Ranges of rows as filters; a range in two parts; room. No condition.
-/
namespace Go.Proofs.Ytdgbafpnfkedeaa
set_option maxRecDepth 100000
open Go.RowKit
/-- Is a row's key at least a first one? -/
def fromR (fr : ByteArray) (x : Rw) : Bool := !(Op.bytesLess x.key.toList fr.toList)
theorem part_sorted {p : Rw → Bool} : ∀ {R : List Rw}, R.Pairwise (fun x y => p y = true → p x = true) → R.filter p ++ R.filter (fun x => !p x) = R
  | [], _ => rfl
  | x :: r, h => by
    obtain ⟨h1, h2⟩ := List.pairwise_cons.1 h
    cases hp : p x with
    | true => rw [List.filter_cons_of_pos hp, List.filter_cons_of_neg (by simp [hp]), List.cons_append, part_sorted h2]
    | false =>
      have e1 : r.filter p = [] := by
        rw [List.filter_eq_nil_iff]
        intro y hy hpy
        rw [h1 y hy hpy] at hp; cases hp
      have e2 : r.filter (fun x => !p x) = r := by
        rw [List.filter_eq_self]
        intro y hy
        cases hpy : p y with
        | false => rfl
        | true => rw [h1 y hy hpy] at hp; cases hp
      rw [List.filter_cons_of_neg (by simp [hp]), List.filter_cons_of_pos (by simp [hp]), e1, e2]; rfl
theorem takeWhile_filter {p : Rw → Bool} : ∀ {R : List Rw}, R.Pairwise (fun x y => p y = true → p x = true) → R.takeWhile p = R.filter p
  | [], _ => rfl
  | x :: r, h => by
    obtain ⟨h1, h2⟩ := List.pairwise_cons.1 h
    cases hp : p x with
    | true => rw [List.filter_cons_of_pos hp, List.takeWhile_cons, if_pos hp, takeWhile_filter h2]
    | false =>
      rw [List.filter_cons_of_neg (by simp [hp]), List.takeWhile_cons, if_neg (by simp [hp])]
      symm
      rw [List.filter_eq_nil_iff]
      intro y hy hpy
      rw [h1 y hy hpy] at hp; cases hp
theorem less_tr {a b c : List UInt8} (h1 : Op.bytesLess a b = true) (h2 : Op.bytesLess b c = true) : Op.bytesLess a c = true := by
  rw [less_before] at *
  exact WideShapes.bytes_trans _ _ _ h1 h2
theorem less_irr (a : List UInt8) : Op.bytesLess a a = false := by
  rw [less_before]
  exact WideAt.bytes_irrefl a
theorem less_tot {a b : List UInt8} (h1 : Op.bytesLess a b = false) (h2 : a ≠ b) : Op.bytesLess b a = true := by
  rw [less_before] at *
  rcases WideAt.bytes_total _ _ h2 with h | h
  · rw [h] at h1; cases h1
  · exact h
/-- Keys of rows in order do not fall. -/
theorem keys_up {R : List Rw} (hs : SortedR R) : R.Pairwise (fun x y => Op.bytesLess y.key.toList x.key.toList = false) := hs.imp fun {x y} h => by
  unfold ahd at h
  split at h
  · rename_i e; rw [e]; exact less_irr _
  · rw [← less_before] at h
    cases h2 : Op.bytesLess y.key.toList x.key.toList with
    | false => rfl
    | true => have := less_tr h h2; rw [less_irr] at this; cases this
theorem lesskey_down {R : List Rw} (hs : SortedR R) (k : List UInt8) : R.Pairwise (fun x y => Op.bytesLess y.key.toList k = true → Op.bytesLess x.key.toList k = true) := (keys_up hs).imp fun {x y} h hy => by
  by_cases e : x.key.toList = y.key.toList
  · rw [e]; exact hy
  · exact less_tr (less_tot h (fun e2 => e e2.symm)) hy
theorem in_down {R : List Rw} (hs : SortedR R) (to' : ByteArray) : R.Pairwise (fun x y => inR to' y = true → inR to' x = true) := (lesskey_down hs to'.toList).imp fun {x y} h hy => by
  unfold inR at *
  rw [Bool.or_eq_true] at *
  exact hy.imp id h
theorem ahd_max {x : Rw} (h : x.seq ≤ 18446744073709551615) (fr : ByteArray) : ahd x fr 18446744073709551615 = Op.bytesLess x.key.toList fr.toList := by
  unfold ahd
  split
  · rename_i e; rw [e, less_irr, decide_eq_false_iff_not]; omega
  · rw [less_before]
theorem drop_from {R : List Rw} (hs : SortedR R) (hq : ∀ x ∈ R, x.seq ≤ 18446744073709551615) (fr : ByteArray) : R.drop (plc R fr 18446744073709551615) = R.filter (fromR fr) := by
  have h1 : R.takeWhile (fun x => ahd x fr 18446744073709551615) = R.filter (fun x => Op.bytesLess x.key.toList fr.toList) := by
    rw [← takeWhile_filter (lesskey_down hs fr.toList)]
    clear hs
    induction R with
    | nil => rfl
    | cons x r ih =>
      rw [List.takeWhile_cons, List.takeWhile_cons, ahd_max (hq x (by simp))]
      split
      · rw [ih (fun y hy => hq y (by simp [hy]))]
      · rfl
  have h2 := part_sorted (lesskey_down hs fr.toList)
  rw [← h1] at h2
  have h3 : R.take (plc R fr 18446744073709551615) = R.takeWhile (fun x => ahd x fr 18446744073709551615) := by
    unfold plc
    exact List.prefix_iff_eq_take.1 (List.takeWhile_prefix _) |>.symm
  have h4 := List.take_append_drop (plc R fr 18446744073709551615) R
  rw [h3] at h4
  exact List.append_cancel_left (h4.trans h2.symm)
theorem rng_filter {R : List Rw} (hs : SortedR R) (hq : ∀ x ∈ R, x.seq ≤ 18446744073709551615) (fr to' : ByteArray) : rngR R fr to' = R.filter (fun x => fromR fr x && inR to' x) := by
  unfold rngR
  rw [drop_from hs hq, takeWhile_filter ((in_down hs to').filter _), List.filter_filter]
  congr 1
  funext x
  rw [Bool.and_comm]
/-- A range in two parts. -/
theorem rng_parts {R : List Rw} (hs : SortedR R) (hq : ∀ x ∈ R, x.seq ≤ 18446744073709551615) {fr cut to' : ByteArray} (h1 : Op.bytesLess cut.toList fr.toList = false) (h2 : cut.toList ≠ []) (h3 : to'.toList = [] ∨ Op.bytesLess to'.toList cut.toList = false) : rngR R fr cut ++ rngR R cut to' = rngR R fr to' := by
  rw [rng_filter hs hq, rng_filter hs hq, rng_filter hs hq]
  conv => rhs; rw [← part_sorted (lesskey_down hs cut.toList)]
  rw [List.filter_append, List.filter_filter, List.filter_filter]
  have hc : cut.toList.isEmpty = false := by simpa using h2
  congr 1
  · congr 1
    funext x
    unfold fromR inR
    rw [hc, Bool.false_or]
    cases hx : Op.bytesLess x.key.toList cut.toList with
    | false => simp
    | true =>
      rcases h3 with h3 | h3
      · rw [h3]; simp
      · have : Op.bytesLess x.key.toList to'.toList = true := by
          by_cases e : cut.toList = to'.toList
          · rw [← e]; exact hx
          · exact less_tr hx (less_tot h3 (fun e2 => e e2.symm))
        rw [this]; simp
  · congr 1
    funext x
    unfold fromR inR
    cases hx : Op.bytesLess x.key.toList cut.toList with
    | true => simp
    | false =>
      have : Op.bytesLess x.key.toList fr.toList = false := by
        cases e : Op.bytesLess x.key.toList fr.toList with
        | false => rfl
        | true =>
          by_cases e2 : cut.toList = fr.toList
          · rw [e2, e] at hx; cases hx
          · have := less_tr e (less_tot h1 e2)
            rw [this] at hx; cases hx
      rw [this]; simp
end Go.Proofs.Ytdgbafpnfkedeaa
/-
  What a key has at a number, as the first row that fits; tables of batches whose numbers follow each other, added in any order. No condition.
-/
namespace Go.Proofs.Ytdgbafpnfkedeaa
set_option maxRecDepth 100000
open Go.RowKit
/-- Does a row tell of a key at a number? -/
def atR (k : ByteArray) (a : Nat) (x : Rw) : Bool := decide (x.key.toList = k.toList ∧ x.seq ≤ a)
theorem getR_find {R : List Rw} (hs : SortedR R) (k : ByteArray) (a : Nat) : getR R k a = R.find? (atR k a) := by
  have e : R.find? (atR k a) = (R.drop (plc R k a)).find? (atR k a) := by
    conv => lhs; rw [← List.take_append_drop (plc R k a) R]
    rw [List.find?_append]
    have : (R.take (plc R k a)).find? (atR k a) = none := by
      rw [List.find?_eq_none]
      intro x hx
      have h1 := plc_front hx
      unfold atR
      rw [decide_eq_true_eq]
      rintro ⟨h2, h3⟩
      unfold ahd at h1
      rw [if_pos h2, decide_eq_true_eq] at h1
      omega
    rw [this]; rfl
  rw [e]
  have hd : SortedR (R.drop (plc R k a)) := List.Pairwise.sublist (List.drop_sublist _ _) hs
  have hb := fun x hx => plc_back hs (k := k) (q := a) (x := x) hx
  unfold getR
  cases h : R.drop (plc R k a) with
  | nil => rfl
  | cons x r =>
    rw [h] at hd hb
    dsimp only
    have hx := hb x (List.mem_cons_self ..)
    unfold ahd at hx
    by_cases hk : x.key.toList = k.toList
    · rw [if_pos hk] at hx ⊢
      rw [decide_eq_false_iff_not] at hx
      rw [List.find?_cons, show atR k a x = true by unfold atR; rw [decide_eq_true_eq]; exact ⟨hk, by omega⟩]
    · rw [if_neg hk] at hx ⊢
      symm
      rw [List.find?_eq_none]
      intro y hy hp
      unfold atR at hp
      rw [decide_eq_true_eq] at hp
      rw [← less_before] at hx
      have hl := less_tot hx hk
      rcases List.mem_cons.1 hy with rfl | hy
      · exact hk hp.1
      · have := (List.pairwise_cons.1 (keys_up hd)).1 y hy
        rw [hp.1, hl] at this
        cases this
theorem getR_filter {R : List Rw} (hs : SortedR R) (k : ByteArray) (a : Nat) : getR R k a = (R.filter (atR k a)).head? := by rw [getR_find hs, List.head?_filter]
theorem getR_some {R : List Rw} (hs : SortedR R) {k : ByteArray} {a : Nat} {x : Rw} (h : getR R k a = some x) : x.key.toList = k.toList ∧ x.seq ≤ a := by
  rw [getR_find hs] at h
  have := List.find?_some h
  unfold atR at this
  rwa [decide_eq_true_eq] at this
/-- The number of a batch, where they follow each other from 1 on. -/
def seqAt (ls : List (List Wr)) (i : Nat) : Nat := 1 + ((ls.take i).map List.length).sum
def wrsAt (ls : List (List Wr)) (i : Nat) : List Wr := ls.getD i []
def batAt (ls : List (List Wr)) (i : Nat) : List Rw := rowsFrom (seqAt ls i) (wrsAt ls i)
def tabOf (ls : List (List Wr)) (is : List Nat) : List Rw := is.foldl (fun R i => (addR R (seqAt ls i) (wrsAt ls i)).1) []
theorem seqAt_succ (ls : List (List Wr)) {i : Nat} (hi : i < ls.length) : seqAt ls (i + 1) = seqAt ls i + (wrsAt ls i).length := by
  unfold seqAt wrsAt
  rw [List.take_add_one, List.getElem?_eq_getElem hi, List.getD_eq_getElem?_getD, List.getElem?_eq_getElem hi, List.map_append, List.sum_append]
  simp only [Option.toList_some, List.map_cons, List.map_nil, List.sum_cons, List.sum_nil, Option.getD_some]
  omega
theorem seqAt_mono (ls : List (List Wr)) : ∀ {i k : Nat}, i ≤ k → k ≤ ls.length → seqAt ls i ≤ seqAt ls k := by
  intro i k hik hk
  induction k with
  | zero => have : i = 0 := by omega
            subst this; exact Nat.le_refl _
  | succ k ih =>
    by_cases h : i = k + 1
    · subst h; exact Nat.le_refl _
    · have h1 := ih (by omega) (by omega)
      rw [seqAt_succ ls (by omega)]
      omega
theorem batAt_seq {ls : List (List Wr)} {i : Nat} (hi : i < ls.length) {x : Rw} (h : x ∈ batAt ls i) : seqAt ls i ≤ x.seq ∧ x.seq < seqAt ls (i + 1) := by
  obtain ⟨j, hj⟩ := List.getElem?_of_mem h
  have h1 := rowsFrom_seq hj
  have h2 := (List.getElem?_eq_some_iff.1 hj).1
  unfold batAt at h2
  rw [rowsFrom_len] at h2
  rw [seqAt_succ ls hi]
  omega
/-- All batches may be. -/
def GoodL (ls : List (List Wr)) : Prop := ∀ i, i < ls.length → chkB (seqAt ls i) (wrsAt ls i) = 0
theorem tabOf_snoc (ls : List (List Wr)) (is : List Nat) (i : Nat) : tabOf ls (is ++ [i]) = (addR (tabOf ls is) (seqAt ls i) (wrsAt ls i)).1 := by unfold tabOf; rw [List.foldl_append]; rfl
theorem tabOf_sorted (ls : List (List Wr)) (is : List Nat) : SortedR (tabOf ls is) := by
  suffices ∀ (is : List Nat) (R : List Rw), SortedR R → SortedR (is.foldl (fun R i => (addR R (seqAt ls i) (wrsAt ls i)).1) R) from this is [] List.Pairwise.nil
  intro is
  induction is with
  | nil => intro R h; exact h
  | cons v r ih => intro R h; exact ih _ (addR_sorted h _ _)
theorem tabOf_len (ls : List (List Wr)) (is : List Nat) : (tabOf ls is).length ≤ 64 * is.length := by
  suffices ∀ (is : List Nat) (R : List Rw), (is.foldl (fun R i => (addR R (seqAt ls i) (wrsAt ls i)).1) R).length ≤ R.length + 64 * is.length by have := this is []; simpa [tabOf] using this
  intro is
  induction is with
  | nil => intro R; simp
  | cons v r ih =>
    intro R
    rw [List.foldl_cons, List.length_cons]
    have := ih (addR R (seqAt ls v) (wrsAt ls v)).1
    have := addR_len R (seqAt ls v) (wrsAt ls v)
    omega
theorem tab_step {ls : List (List Wr)} (hg : GoodL ls) {is : List Nat} (hp : (tabOf ls is).Perm (is.flatMap (batAt ls))) (hb : ∀ k ∈ is, k < ls.length) {i : Nat} (hi : i < ls.length) (hn : i ∉ is) :
    addR (tabOf ls is) (seqAt ls i) (wrsAt ls i) = (insAll (tabOf ls is) (batAt ls i), 0) := by
  refine addR_good (hg i hi) fun x hx => thr_free (tabOf_sorted ls is) fun y hy hs => ?_
  obtain ⟨k, hk, hyk⟩ := List.mem_flatMap.1 (hp.mem_iff.1 hy)
  have h1 := batAt_seq hi (x := x) hx
  have h2 := batAt_seq (hb k hk) hyk
  have h3 := hs.2
  have hne : i ≠ k := fun e => hn (e ▸ hk)
  have hkl := hb k hk
  rcases Nat.lt_or_gt_of_ne hne with h | h
  · have := seqAt_mono ls (i := i + 1) (k := k) (by omega) (by omega); omega
  · have := seqAt_mono ls (i := k + 1) (k := i) (by omega) (by omega); omega
theorem tab_perm {ls : List (List Wr)} (hg : GoodL ls) : ∀ (is : List Nat), is.Nodup → (∀ k ∈ is, k < ls.length) → (tabOf ls is).Perm (is.flatMap (batAt ls)) := by
  intro is
  suffices ∀ (js : List Nat) (is : List Nat), is = js.reverse → is.Nodup → (∀ k ∈ is, k < ls.length) → (tabOf ls is).Perm (is.flatMap (batAt ls)) from this is.reverse is (by simp)
  intro js
  induction js with
  | nil => intro is e _ _; subst e; exact List.Perm.refl _
  | cons i r ih =>
    intro is e hnd hb
    subst e
    rw [List.reverse_cons] at *
    rw [List.nodup_append] at hnd
    have hb' : ∀ k ∈ r.reverse, k < ls.length := fun k hk => hb k (List.mem_append_left _ hk)
    have hp := ih r.reverse rfl hnd.1 hb'
    have hi : i ∉ r.reverse := fun h => hnd.2.2 i h i (by simp) rfl
    rw [tabOf_snoc, tab_step hg hp hb' (hb i (by simp)) hi, List.flatMap_append]
    refine (insAll_perm _ _).trans ?_
    refine (List.perm_append_comm).trans ?_
    refine List.Perm.append hp ?_
    simp
/-- The same batches, the other way round. -/
theorem tab_back {ls : List (List Wr)} (hg : GoodL ls) {m : Nat} (hm : m ≤ ls.length) : tabOf ls (List.range m).reverse = tabOf ls (List.range m) := by
  have hb : ∀ k ∈ List.range m, k < ls.length := fun k hk => by have := List.mem_range.1 hk; omega
  refine sorted_unique (tabOf_sorted _ _) (tabOf_sorted _ _) ?_
  refine (tab_perm hg _ ((List.reverse_perm _).nodup_iff.2 List.nodup_range) (fun k hk => hb k (List.mem_reverse.1 hk))).trans ?_
  refine List.Perm.trans ?_ (tab_perm hg _ List.nodup_range hb).symm
  exact List.Perm.flatMap_right _ (List.reverse_perm _)
theorem tab_at {ls : List (List Wr)} (hg : GoodL ls) {n m : Nat} (hn : n ≤ m) (hm : m ≤ ls.length) (k : ByteArray) : getR (tabOf ls (List.range m)) k (seqAt ls n - 1) = getR (tabOf ls (List.range n)) k (seqAt ls n - 1) := by
  rw [getR_filter (tabOf_sorted _ _), getR_filter (tabOf_sorted _ _)]
  congr 1
  refine sorted_unique ((tabOf_sorted _ _).filter _) ((tabOf_sorted _ _).filter _) ?_
  have h1 := (tab_perm hg _ (List.nodup_range (n := m)) (fun k hk => by have := List.mem_range.1 hk; omega)).filter (atR k (seqAt ls n - 1))
  have h2 := (tab_perm hg _ (List.nodup_range (n := n)) (fun k hk => by have := List.mem_range.1 hk; omega)).filter (atR k (seqAt ls n - 1))
  refine h1.trans (List.Perm.trans ?_ h2.symm)
  obtain ⟨d, rfl⟩ : ∃ d, m = n + d := ⟨m - n, by omega⟩
  rw [List.range_add, List.flatMap_append, List.filter_append]
  have : (((List.range d).map (n + ·)).flatMap (batAt ls)).filter (atR k (seqAt ls n - 1)) = [] := by
    rw [List.filter_eq_nil_iff]
    intro x hx hp
    obtain ⟨i, hi, hxi⟩ := List.mem_flatMap.1 hx
    obtain ⟨j, hj, rfl⟩ := List.mem_map.1 hi
    have hjd := List.mem_range.1 hj
    have h1 := batAt_seq (i := n + j) (by omega) hxi
    have h2 := seqAt_mono ls (i := n) (k := n + j) (by omega) (by omega)
    have h3 : 1 ≤ seqAt ls n := by unfold seqAt; omega
    unfold atR at hp
    rw [decide_eq_true_eq] at hp
    omega
  rw [this, List.append_nil]
theorem tab_top {ls : List (List Wr)} (hg : GoodL ls) {n : Nat} (hn : n ≤ ls.length) (k : ByteArray) (a : Nat) (ha : seqAt ls n - 1 ≤ a) : getR (tabOf ls (List.range n)) k a = getR (tabOf ls (List.range n)) k (seqAt ls n - 1) := by
  rw [getR_filter (tabOf_sorted _ _), getR_filter (tabOf_sorted _ _)]
  congr 1
  refine List.filter_congr fun x hx => ?_
  obtain ⟨i, hi, hxi⟩ := List.mem_flatMap.1 ((tab_perm hg _ List.nodup_range (fun k hk => by have := List.mem_range.1 hk; omega)).mem_iff.1 hx)
  have hin := List.mem_range.1 hi
  have h1 := batAt_seq (i := i) (by omega) hxi
  have h2 := seqAt_mono ls (i := i + 1) (k := n) (by omega) (by omega)
  unfold atR
  congr 1
  exact propext ⟨fun h => ⟨h.1, by omega⟩, fun h => ⟨h.1, by omega⟩⟩
end Go.Proofs.Ytdgbafpnfkedeaa
/-
  The document's own Get and Range. Condition: at most 1000000 rows.
-/
namespace Go.Proofs.Ytdgbafpnfkedeaa
set_option maxRecDepth 100000
open Go.RowKit
set_option maxRecDepth 100000 in
set_option maxHeartbeats 4000000 in
theorem get_ref {a : Option Addr} {n c b o : Nat} {l : List Rw} {w : World} (h : Rs a n c b o l w) (k : ByteArray) (q : Nat) :
    Calls Try.prog 15 #[.slice a n c, .string k, .int .u64 (q : Int)] w fun e w' => e = .returned (verV (l.find? (atR k q))) ∧ Below w.heap.size w w' := by
  have hlen := h.len
  have hcap := h.cap
  have hmost := h.most
  have h := Lib.hid h
  have Z0 := Lib.hid (show RowAt w.heap.size zeroR (w.alloc (.cells #[.string ⟨#[]⟩, .int .u64 0, .int .i64 0, .string ⟨#[]⟩] 43)) from RowAt.new zeroR w)
  have W0 := Lib.hid (below_alloc w (.cells #[.string ⟨#[]⟩, .int .u64 0, .int .i64 0, .string ⟨#[]⟩] 43))
  go_enter Try.func15, Try.ntmps15
  go_wp2_with fail
  generalize w.alloc (.cells #[.string ⟨#[]⟩, .int .u64 0, .int .i64 0, .string ⟨#[]⟩] 43) = V0 at Z0 W0 ⊢
  go_loopw [8] (fun v wr => ∃ j : Nat, j ≤ n ∧ v = .int .i64 (j : Int) ∧ (∀ (m : Nat) (x : Rw), m < j → l[m]? = some x → atR k q x = false) ∧ wr = V0) (fun v _ => n - (intOf v).toNat)
  case atStart => exact ⟨0, Nat.zero_le _, rfl, fun m x hm => absurd hm (Nat.not_lt_zero _), rfl⟩
  case round =>
    obtain ⟨j, hj, rfl, hfr, rfl⟩ := hrel
    have hfr := Lib.hid hfr
    by_cases hlt : j < n
    · obtain ⟨x, hx, rfl, x0, x1, x2, x3⟩ := (h.out.below W0.out (Nat.le_refl _)).at4 hlt
      have i1 : (j : Int) < (n : Int) := by omega
      have hx := Lib.hid hx
      by_cases hk : x.key.toList = k.toList
      · have q1 : (x.key.toList == k.toList) = true := by simpa using hk
        by_cases hq : x.seq ≤ q
        · have q2 : (x.seq : Int) ≤ (q : Int) := by omega
          have hf : Hid (l.find? (atR k q) = some x) := Lib.hid (by
            rw [List.find?_eq_some_iff_append]
            refine ⟨by unfold atR; rw [decide_eq_true_eq]; exact ⟨hk, hq⟩, l.take j, l.drop (j + 1), ?_, fun y hy => ?_⟩
            · have := List.getElem?_eq_some_iff.1 hx.out
              obtain ⟨h1, h2⟩ := this
              rw [← h2, List.getElem_cons_drop, List.take_append_drop]
            · obtain ⟨m, hm⟩ := List.getElem?_of_mem hy
              rw [List.getElem?_take] at hm
              split at hm
              · rename_i hmj
                have := hfr.out m y hmj hm
                simp [this]
              · cases hm)
          obtain ⟨⟨v0, v1, v2, v3⟩, v4⟩ := Z0.out.cells
          obtain ⟨xk, xs, xi, xv⟩ := x
          simp only at x0 x1 x2 x3 q1 q2
          clear hk hq
          go_wp2_with fail
          have R2 : RowAt w.heap.size ⟨xk, xs, xi, xv⟩ ((((wr.setCell ⟨w.heap.size, 0, none⟩ (.string xk)).setCell ⟨w.heap.size, 1, none⟩ (.int .u64 (xs : Int))).setCell ⟨w.heap.size, 2, none⟩ (.int .i64 xi)).setCell ⟨w.heap.size, 3, none⟩ (.string xv)) := Z0.out.set4 ⟨xk, xs, xi, xv⟩
          have E2 : Below w.heap.size w ((((wr.setCell ⟨w.heap.size, 0, none⟩ (.string xk)).setCell ⟨w.heap.size, 1, none⟩ (.int .u64 (xs : Int))).setCell ⟨w.heap.size, 2, none⟩ (.int .i64 xi)).setCell ⟨w.heap.size, 3, none⟩ (.string xv)) := below_set4 W0.out (Nat.le_refl _) ⟨xk, xs, xi, xv⟩
          generalize (((wr.setCell ⟨w.heap.size, 0, none⟩ (.string xk)).setCell ⟨w.heap.size, 1, none⟩ (.int .u64 (xs : Int))).setCell ⟨w.heap.size, 2, none⟩ (.int .i64 xi)).setCell ⟨w.heap.size, 3, none⟩ (.string xv) = V at R2 E2 ⊢
          obtain ⟨⟨y0, y1, y2, y3⟩, _⟩ := R2.cells
          refine bodyPost_ret (v := verV (some ⟨xk, xs, xi, xv⟩)) (by simp [results, Try.results15, go_sem, verV, rowV, zeroR] at y0 y1 y2 y3 ⊢; simp [y0, y1, y2, y3]) rfl ⟨by rw [hf.out], E2⟩
        · have q2 : ¬ ((x.seq : Int) ≤ (q : Int)) := by omega
          have hp : Hid (atR k q x = false) := Lib.hid (by unfold atR; rw [decide_eq_false_iff_not]; exact fun h => hq h.2)
          go_wp2_with fail
          go_roundw
          case rel => exact ⟨j + 1, by omega, by go_num, fun m y hm hy => by
            by_cases hmj : m < j
            · exact hfr.out m y hmj hy
            · obtain rfl : m = j := by omega
              rw [hx.out] at hy
              cases hy
              exact hp.out, trivial⟩
          case measure => simp [intOf]; omega
      · have q1 : (x.key.toList == k.toList) = false := by simpa using hk
        have hp : Hid (atR k q x = false) := Lib.hid (by unfold atR; rw [decide_eq_false_iff_not]; exact fun h => hk h.1)
        go_wp2_with fail
        go_roundw
        case rel => exact ⟨j + 1, by omega, by go_num, fun m y hm hy => by
          by_cases hmj : m < j
          · exact hfr.out m y hmj hy
          · obtain rfl : m = j := by omega
            rw [hx.out] at hy
            cases hy
            exact hp.out, trivial⟩
        case measure => simp [intOf]; omega
    · have hjN : j = n := by omega
      subst hjN
      have i1 : ¬ ((j : Int) < (j : Int)) := by omega
      have hf : Hid (l.find? (atR k q) = none) := Lib.hid (by
        rw [List.find?_eq_none]
        intro x hx
        obtain ⟨m, hm⟩ := List.getElem?_of_mem hx
        rw [hfr.out m x (by have := (List.getElem?_eq_some_iff.1 hm).1; omega) hm]
        simp)
      obtain ⟨⟨v0, v1, v2, v3⟩, v4⟩ := Z0.out.cells
      go_wp2_with fail
      have R2 : RowAt w.heap.size zeroR ((((wr.setCell ⟨w.heap.size, 0, none⟩ (.string ⟨#[]⟩)).setCell ⟨w.heap.size, 1, none⟩ (.int .u64 0)).setCell ⟨w.heap.size, 2, none⟩ (.int .i64 0)).setCell ⟨w.heap.size, 3, none⟩ (.string ⟨#[]⟩)) := Z0.out.set4 zeroR
      have E2 : Below w.heap.size w ((((wr.setCell ⟨w.heap.size, 0, none⟩ (.string ⟨#[]⟩)).setCell ⟨w.heap.size, 1, none⟩ (.int .u64 0)).setCell ⟨w.heap.size, 2, none⟩ (.int .i64 0)).setCell ⟨w.heap.size, 3, none⟩ (.string ⟨#[]⟩)) := below_set4 W0.out (Nat.le_refl _) zeroR
      generalize (((wr.setCell ⟨w.heap.size, 0, none⟩ (.string ⟨#[]⟩)).setCell ⟨w.heap.size, 1, none⟩ (.int .u64 0)).setCell ⟨w.heap.size, 2, none⟩ (.int .i64 0)).setCell ⟨w.heap.size, 3, none⟩ (.string ⟨#[]⟩) = V at R2 E2 ⊢
      obtain ⟨⟨y0, y1, y2, y3⟩, _⟩ := R2.cells
      refine bodyPost_ret (v := verV none) (by simp [results, Try.results15, go_sem, verV, rowV, zeroR] at y0 y1 y2 y3 ⊢; simp [y0, y1, y2, y3]) rfl ⟨by rw [hf.out], E2⟩
set_option maxRecDepth 100000 in
set_option maxHeartbeats 4000000 in
theorem range_ref {a : Option Addr} {n c b o : Nat} {l : List Rw} {w : World} (h : Rs a n c b o l w) (hn : n ≤ 1000000) (fr to' : ByteArray) :
    Calls Try.prog 18 #[.slice a n c, .string fr, .string to'] w (GaveR (l.filter (fun x => fromR fr x && inR to' x)) w) := by
  have hlen := h.len
  have hcap := h.cap
  have hmost := h.most
  have h := Lib.hid h
  have Z0 := Lib.hid (Below.refl w.heap.size w)
  have N0 := Lib.hid (World.ownsRow_nil w w.heap.size 43 4)
  obtain ⟨p, hp⟩ := named (fun x => fromR fr x && inR to' x)
  rw [← hp.out]
  have fin : ∀ (x : Rw), p x = (fromR fr x && inR to' x) := fun x => by rw [hp.out]
  have fin := Lib.hid fin
  clear hp
  go_enter Try.func18, Try.ntmps18
  go_wp2_with fail
  go_loopw [7, 8] (fun s v wr => ∃ j : Nat, j ≤ n ∧ wr.ownsRow w.heap.size 43 4 s ((l.take j).filter p).length (rowR ((l.take j).filter p)) ∧ v = .int .i64 (j : Int) ∧ Below w.heap.size w wr) (fun _ v _ => n - (intOf v).toNat)
  case atStart => exact ⟨0, Nat.zero_le _, N0.out, rfl, Z0.out⟩
  case round =>
    obtain ⟨j, hj, hrow, rfl, hB⟩ := hrel
    obtain ⟨q1, q2, rfl⟩ := ownsRow_slice hrow
    by_cases hlt : j < n
    · obtain ⟨x, hx, rfl, x0, x1, x2, x3⟩ := (h.out.below hB (Nat.le_refl _)).at4 hlt
      have i1 : (j : Int) < (n : Int) := by omega
      have tk : l.take (j + 1) = l.take j ++ [x] := by rw [List.take_add_one, hx]; rfl
      have hpx := fin.out x
      have GE := geq_str x.key fr
      have fl : ((l.take j).filter p).length ≤ 1000000 := Nat.le_trans (List.length_filter_le _ _) (by rw [List.length_take]; omega)
      obtain ⟨L, hL⟩ := named ((l.take j).filter p)
      rw [← hL.out] at hrow fl ⊢
      have hrow := Lib.hid hrow
      have hB := Lib.hid hB
      have fl := Lib.hid fl
      have TAKE : Hid (p x = true → (l.take (j + 1)).filter p = L ++ [x]) := Lib.hid fun e => by rw [tk, List.filter_append, ← hL.out, List.filter_cons_of_pos e]; rfl
      have SKIP : Hid (p x = false → (l.take (j + 1)).filter p = L) := Lib.hid fun e => by rw [tk, List.filter_append, ← hL.out, List.filter_cons_of_neg (by rw [e]; simp)]; simp
      obtain ⟨xk, xs, xi, xv⟩ := x
      simp only at x0 x1 x2 x3 GE
      clear tk
      cases g1 : Op.bytesLess xk.toList fr.toList with
      | true =>
        rw [g1] at GE
        have sk := Lib.hid (SKIP.out (by rw [hpx]; unfold fromR; rw [g1]; rfl))
        clear hpx
        go_wp2_with fail
        go_roundw
        case rel => exact ⟨j + 1, by omega, by rw [sk.out]; exact hrow.out, by go_num, hB.out⟩
        case measure => simp [intOf]; omega
      | false =>
        rw [g1] at GE
        by_cases ht : to'.toList = []
        · have e1 : (to'.toList == []) = true := by rw [ht]; rfl
          have sk := Lib.hid (TAKE.out (by rw [hpx]; unfold fromR inR; rw [g1, ht]; rfl))
          clear hpx
          have SG := Lib.hid (row_single (w := wr.alloc (.cells #[.string xk, .int .u64 (xs : Int), .int .i64 xi, .string xv] 43)) (g := wr.heap.size) (B := wr.heap.size) (size := 4) (e := 43) (heap_alloc_new _ _) rfl (Nat.le_refl _))
          have B5 := Lib.hid (hB.out.trans ((below_alloc wr (.cells #[.string xk, .int .u64 (xs : Int), .int .i64 xi, .string xv] 43)).mono hB.out.size))
          have P5 := Lib.hid (own_below hrow.out (below_alloc wr (.cells #[.string xk, .int .u64 (xs : Int), .int .i64 xi, .string xv] 43)))
          go_wp2_with (at_builtin; refine wpList_append_two rfl (.tmp 35) (.tmp 40) 27 rfl w.heap.size _ 43 4 48 (.agg #[.string .empty, .int .u64 0, .int .i64 0, .string .empty]) Try.underlying27 info_row rfl (by decide) (by decide) _ L.length (rowR L) _ 1 _ P5.out SG.out rfl rfl (row_one ⟨xk, xs, xi, xv⟩) (by have := fl.out; omega) (by omega) B5.out.size ?_; intro v6 w6 own6 grow6 sh6; obtain ⟨va6, vc6, rfl⟩ := sh6; have B6 := Lib.hid (B5.out.grown grow6 B5.out.size (fun k hk => (World.ownsRow.lt P5.out k hk).1)); have P6 := Lib.hid (show w6.ownsRow w.heap.size 43 4 (.slice va6 (L.length + 1) vc6) (L ++ [(⟨xk, xs, xi, xv⟩ : Rw)]).length (rowR (L ++ [⟨xk, xs, xi, xv⟩])) by rw [rowR_snoc, List.length_append]; exact own6); clear own6 grow6)
          go_roundw
          case rel => exact ⟨j + 1, by omega, by rw [sk.out]; exact P6.out, by go_num, B6.out⟩
          case measure => simp [intOf]; omega
        · have e1 : (to'.toList == []) = false := by simpa using ht
          cases g2 : Op.bytesLess xk.toList to'.toList with
          | true =>
            have sk := Lib.hid (TAKE.out (by rw [hpx]; unfold fromR inR; rw [g1, g2]; simp))
            clear hpx
            have SG := Lib.hid (row_single (w := wr.alloc (.cells #[.string xk, .int .u64 (xs : Int), .int .i64 xi, .string xv] 43)) (g := wr.heap.size) (B := wr.heap.size) (size := 4) (e := 43) (heap_alloc_new _ _) rfl (Nat.le_refl _))
            have B5 := Lib.hid (hB.out.trans ((below_alloc wr (.cells #[.string xk, .int .u64 (xs : Int), .int .i64 xi, .string xv] 43)).mono hB.out.size))
            have P5 := Lib.hid (own_below hrow.out (below_alloc wr (.cells #[.string xk, .int .u64 (xs : Int), .int .i64 xi, .string xv] 43)))
            go_wp2_with (at_builtin; refine wpList_append_two rfl (.tmp 35) (.tmp 40) 27 rfl w.heap.size _ 43 4 48 (.agg #[.string .empty, .int .u64 0, .int .i64 0, .string .empty]) Try.underlying27 info_row rfl (by decide) (by decide) _ L.length (rowR L) _ 1 _ P5.out SG.out rfl rfl (row_one ⟨xk, xs, xi, xv⟩) (by have := fl.out; omega) (by omega) B5.out.size ?_; intro v6 w6 own6 grow6 sh6; obtain ⟨va6, vc6, rfl⟩ := sh6; have B6 := Lib.hid (B5.out.grown grow6 B5.out.size (fun k hk => (World.ownsRow.lt P5.out k hk).1)); have P6 := Lib.hid (show w6.ownsRow w.heap.size 43 4 (.slice va6 (L.length + 1) vc6) (L ++ [(⟨xk, xs, xi, xv⟩ : Rw)]).length (rowR (L ++ [⟨xk, xs, xi, xv⟩])) by rw [rowR_snoc, List.length_append]; exact own6); clear own6 grow6)
            go_roundw
            case rel => exact ⟨j + 1, by omega, by rw [sk.out]; exact P6.out, by go_num, B6.out⟩
            case measure => simp [intOf]; omega
          | false =>
            have sk := Lib.hid (SKIP.out (by rw [hpx]; unfold fromR inR; rw [g1, g2]; simpa using ht))
            clear hpx
            go_wp2_with fail
            go_roundw
            case rel => exact ⟨j + 1, by omega, by rw [sk.out]; exact hrow.out, by go_num, hB.out⟩
            case measure => simp [intOf]; omega
    · have hjN : j = n := by omega
      subst hjN
      have i1 : ¬ ((j : Int) < (j : Int)) := by omega
      have tk : l.take j = l := List.take_of_length_le (by omega)
      rw [tk] at hrow ⊢
      have hrow := Lib.hid hrow
      have hB := Lib.hid hB
      go_wp2_with fail
      go_returns
      exact ⟨_, rfl, hrow.out, hB.out⟩
end Go.Proofs.Ytdgbafpnfkedeaa
/-
  The document's own room and ends of rows; the law's own tells. Condition: rows of valid batches, at most 1000000.
-/
namespace Go.Proofs.Ytdgbafpnfkedeaa
set_option maxRecDepth 100000
open Go.RowKit
attribute [local go_sem] eq_node ne_node eq_list eq_table
theorem room_snoc (l : List Rw) (x : Rw) : roomR (l ++ [x]) = roomR l + (x.key.size + x.val.size + 16) := by unfold roomR; rw [List.foldl_append]; rfl
theorem gr_snoc (l : List Rw) (x : Rw) : grR (l ++ [x]) = max (grR l) x.seq := by unfold grR; rw [List.foldl_append]; rfl
theorem ls_snoc (l : List Rw) (x : Rw) (hx : x.seq ≤ 18446744073709551615) : lsR (l ++ [x]) = if l.length = 0 then x.seq else min (lsR l) x.seq := by
  unfold lsR
  cases l with
  | nil => simp; omega
  | cons y r => simp [List.foldl_append]
theorem take_snoc {l : List Rw} {j : Nat} {x : Rw} (h : l[j]? = some x) : l.take (j + 1) = l.take j ++ [x] := by rw [List.take_add_one, h]; rfl
set_option maxRecDepth 100000 in
set_option maxHeartbeats 4000000 in
theorem room_ref {a : Option Addr} {n c b o : Nat} {l : List Rw} {w : World} (h : Rs a n c b o l w) (hn : n ≤ 1000000) (hs : ∀ x ∈ l, shortR x) :
    Calls Try.prog 38 #[.slice a n c] w fun e w' => e = .returned (.int .i64 (roomR l : Int)) ∧ Below w.heap.size w w' := by
  have hlen := h.len
  have hcap := h.cap
  have hmost := h.most
  have h := Lib.hid h
  have Z0 := Lib.hid (Below.refl w.heap.size w)
  go_enter Try.func38, Try.ntmps38
  go_wp2_with fail
  go_loopw [3, 4] (fun s v wr => ∃ j : Nat, j ≤ n ∧ s = .int .i64 (roomR (l.take j) : Int) ∧ v = .int .i64 (j : Int) ∧ Below w.heap.size w wr) (fun _ v _ => n - (intOf v).toNat)
  case atStart => exact ⟨0, Nat.zero_le _, rfl, rfl, Z0.out⟩
  case round =>
    obtain ⟨j, hj, rfl, rfl, hB⟩ := hrel
    by_cases hlt : j < n
    · obtain ⟨x, hx, rfl, x0, x1, x2, x3⟩ := (h.out.below hB (Nat.le_refl _)).at4 hlt
      have hxs := hs x (List.mem_of_getElem? hx)
      have i1 : (j : Int) < (n : Int) := by omega
      have r1 := room_le (l := l.take j) (fun y hy => hs y (List.mem_of_mem_take hy))
      rw [List.length_take] at r1
      have r2 : roomR (l.take (j + 1)) = roomR (l.take j) + (x.key.size + x.val.size + 16) := by rw [take_snoc hx, room_snoc]
      obtain ⟨A, hA⟩ := named (roomR (l.take j))
      obtain ⟨A', hA'⟩ := named (roomR (l.take (j + 1)))
      rw [← hA.out] at r1 r2 ⊢
      rw [← hA'.out] at r2
      unfold shortR at hxs
      have e3 : (A : Int) + (x.key.size : Int) + (x.val.size : Int) + 16 = (A' : Int) := by omega
      have s1 : x.key.size ≤ 520 := hxs.1
      have s2 : x.val.size ≤ 2048 := hxs.2.1
      have s3 : A ≤ 2584000000 := by omega
      have e4 := Lib.hid e3
      have hB := Lib.hid hB
      clear hxs r1 r2
      go_upto_region 5 with fail
      go_still_tail 16, (by kernel_rfl)
      change wpList _ _ _ _ _ wr.drew
      have hB2 := Lib.hid hB.out.drew
      clear hB x0 x1 x2 x3
      generalize wr.drew = wr' at hB2 ⊢
      go_wp2_with fail
      go_roundw
      case rel => exact ⟨j + 1, by omega, by rw [← hA'.out, IntWalk.i64_in ((A : Int) + (x.key.size : Int)) ⟨by omega, by omega⟩, IntWalk.i64_in ((A : Int) + (x.key.size : Int) + (x.val.size : Int)) ⟨by omega, by omega⟩, IntWalk.i64_in ((A : Int) + (x.key.size : Int) + (x.val.size : Int) + 16) ⟨by omega, by omega⟩, e4.out], by go_num, hB2.out⟩
      case measure => simp [intOf]; omega
    · have hjN : j = n := by omega
      subst hjN
      have i1 : ¬ ((j : Int) < (j : Int)) := by omega
      rw [List.take_of_length_le (l := l) (i := j) (by omega)]
      have hB := Lib.hid hB
      obtain ⟨A, hA⟩ := named (roomR l)
      rw [← hA.out]
      go_wp2_with fail
      go_returns
      exact ⟨by rw [← hA.out]; rfl, hB.out⟩
set_option maxRecDepth 100000 in
set_option maxHeartbeats 4000000 in
theorem ends_ref {a : Option Addr} {n c b o : Nat} {l : List Rw} {w : World} (h : Rs a n c b o l w) (hn : n ≤ 1000000) (hs : ∀ x ∈ l, shortR x) :
    Calls Try.prog 37 #[.slice a n c] w fun e w' => e = .returned (.tuple #[.int .u64 (lsR l : Int), .int .u64 (grR l : Int)]) ∧ Below w.heap.size w w' := by
  have hlen := h.len
  have hcap := h.cap
  have hmost := h.most
  have h := Lib.hid h
  have Z0 := Lib.hid (Below.refl w.heap.size w)
  go_enter Try.func37, Try.ntmps37
  go_wp2_with fail
  go_loopw [4, 5, 6] (fun s g v wr => ∃ j : Nat, j ≤ n ∧ s = .int .u64 (lsR (l.take j) : Int) ∧ g = .int .u64 (grR (l.take j) : Int) ∧ v = .int .i64 (j : Int) ∧ Below w.heap.size w wr) (fun _ _ v _ => n - (intOf v).toNat)
  case atStart => exact ⟨0, Nat.zero_le _, rfl, rfl, rfl, Z0.out⟩
  case round =>
    obtain ⟨j, hj, rfl, rfl, rfl, hB⟩ := hrel
    by_cases hlt : j < n
    · obtain ⟨x, hx, rfl, x0, x1, x2, x3⟩ := (h.out.below hB (Nat.le_refl _)).at4 hlt
      have hxs := (hs x (List.mem_of_getElem? hx))
      unfold shortR at hxs
      have i1 : (j : Int) < (n : Int) := by omega
      have r1 := ls_snoc (l.take j) x (by omega)
      have r2 := gr_snoc (l.take j) x
      rw [← take_snoc hx] at r1 r2
      rw [List.length_take] at r1
      have k1 := ls_le (l := l.take j) (fun y hy => hs y (List.mem_of_mem_take hy))
      have k2 := gr_le (l := l.take j) (fun y hy => hs y (List.mem_of_mem_take hy))
      obtain ⟨A, hA⟩ := named (lsR (l.take j))
      obtain ⟨A', hA'⟩ := named (lsR (l.take (j + 1)))
      obtain ⟨G, hG⟩ := named (grR (l.take j))
      obtain ⟨G', hG'⟩ := named (grR (l.take (j + 1)))
      rw [← hA.out] at r1 k1 ⊢
      rw [← hA'.out] at r1
      rw [← hG.out] at r2 k2 ⊢
      rw [← hG'.out] at r2
      have hmin : min j l.length = j := by omega
      rw [hmin] at r1
      have hB := Lib.hid hB
      obtain ⟨S, hS⟩ := named x.seq
      rw [← hS.out] at r1 r2 hxs x1
      have hxs := Lib.hid hxs
      clear hmin k1 k2
      by_cases c0 : j = 0
      · subst c0
        rw [if_pos rfl] at r1
        have r1 := Lib.hid r1
        by_cases c2 : G < S
        · have i3 : (G : Int) < (S : Int) := by omega
          have r2 : Hid (G' = S) := Lib.hid (by omega)
          go_wp2_with fail
          go_roundw
          case rel => exact ⟨0 + 1, by omega, by rw [← hA'.out, r1.out], by rw [← hG'.out, r2.out], by go_num, hB.out⟩
          case measure => simp [intOf]; omega
        · have i3 : ¬ ((G : Int) < (S : Int)) := by omega
          have r2 : Hid (G' = G) := Lib.hid (by omega)
          go_wp2_with fail
          go_roundw
          case rel => exact ⟨0 + 1, by omega, by rw [← hA'.out, r1.out], by rw [← hG'.out, r2.out], by go_num, hB.out⟩
          case measure => simp [intOf]; omega
      · rw [if_neg c0] at r1
        have j0 : ((j : Int) == 0) = false := by rw [beq_eq_false_iff_ne]; omega
        have j1 : ¬ ((j : Int) = 0) := by omega
        by_cases c1 : S < A <;> by_cases c2 : G < S
        · have i2 : (S : Int) < (A : Int) := by omega
          have i3 : (G : Int) < (S : Int) := by omega
          have r1 : Hid (A' = S) := Lib.hid (by omega)
          have r2 : Hid (G' = S) := Lib.hid (by omega)
          go_wp2_with fail
          go_roundw
          case rel => exact ⟨j + 1, by omega, by rw [← hA'.out, r1.out], by rw [← hG'.out, r2.out], by go_num, hB.out⟩
          case measure => simp [intOf]; omega
        · have i2 : (S : Int) < (A : Int) := by omega
          have i3 : ¬ ((G : Int) < (S : Int)) := by omega
          have r1 : Hid (A' = S) := Lib.hid (by omega)
          have r2 : Hid (G' = G) := Lib.hid (by omega)
          go_wp2_with fail
          go_roundw
          case rel => exact ⟨j + 1, by omega, by rw [← hA'.out, r1.out], by rw [← hG'.out, r2.out], by go_num, hB.out⟩
          case measure => simp [intOf]; omega
        · have i2 : ¬ ((S : Int) < (A : Int)) := by omega
          have i3 : (G : Int) < (S : Int) := by omega
          have r1 : Hid (A' = A) := Lib.hid (by omega)
          have r2 : Hid (G' = S) := Lib.hid (by omega)
          go_wp2_with fail
          go_roundw
          case rel => exact ⟨j + 1, by omega, by rw [← hA'.out, r1.out], by rw [← hG'.out, r2.out], by go_num, hB.out⟩
          case measure => simp [intOf]; omega
        · have i2 : ¬ ((S : Int) < (A : Int)) := by omega
          have i3 : ¬ ((G : Int) < (S : Int)) := by omega
          have r1 : Hid (A' = A) := Lib.hid (by omega)
          have r2 : Hid (G' = G) := Lib.hid (by omega)
          go_wp2_with fail
          go_roundw
          case rel => exact ⟨j + 1, by omega, by rw [← hA'.out, r1.out], by rw [← hG'.out, r2.out], by go_num, hB.out⟩
          case measure => simp [intOf]; omega
    · have hjN : j = n := by omega
      subst hjN
      have i1 : ¬ ((j : Int) < (j : Int)) := by omega
      rw [List.take_of_length_le (l := l) (i := j) (by omega)]
      have hB := Lib.hid hB
      obtain ⟨A, hA⟩ := named (lsR l)
      obtain ⟨G, hG⟩ := named (grR l)
      rw [← hA.out, ← hG.out]
      go_wp2_with fail
      go_returns
      exact ⟨by rw [← hA.out, ← hG.out]; rfl, hB.out⟩
set_option maxRecDepth 100000 in
set_option maxHeartbeats 4000000 in
/-- A table tells all as it must. -/
theorem tells_any {q : Option Addr} {a : Option Addr} {n c b o : Nat} {R : List Rw} {w : World} (hT : TabQ q R w) (h : Rs a n c b o R w) (hn : n ≤ 1000000) (hs : ∀ x ∈ R, shortR x) :
    Calls Try.prog 19 #[.pointer q, .slice a n c] w fun e w' => e = .returned (.bool true) ∧ Below w.heap.size w w' := by
  have hcap := h.cap
  have hmost := h.most
  have EN := Lib.hid (ends_ref h hn hs)
  have HR : Hid (∀ u, Below w.heap.size w u → Calls Try.prog 38 #[.slice a n c] u fun e w' => e = .returned (.int .i64 (roomR R : Int)) ∧ Below u.heap.size u w') := Lib.hid fun u hu => room_ref (h.below hu (Nat.le_refl _)) hn hs
  have LN : Hid (∀ u, Below w.heap.size w u → Calls Try.prog 25 #[.pointer q] u fun e w' => e = .returned (.int .i64 (n : Int)) ∧ w' = u) := Lib.hid fun u hu => by rw [← h.len]; exact tlen_any (hT.grow hu)
  have RM : Hid (∀ u, Below w.heap.size w u → Calls Try.prog 24 #[.pointer q] u fun e w' => e = .returned (.int .i64 (roomR R : Int)) ∧ w' = u) := Lib.hid fun u hu => room_any (hT.grow hu)
  have LS : Hid (∀ u, Below w.heap.size w u → Calls Try.prog 26 #[.pointer q] u fun e w' => e = .returned (.int .u64 (lsR R : Int)) ∧ w' = u) := Lib.hid fun u hu => least_any (hT.grow hu)
  have GS : Hid (∀ u, Below w.heap.size w u → Calls Try.prog 27 #[.pointer q] u fun e w' => e = .returned (.int .u64 (grR R : Int)) ∧ w' = u) := Lib.hid fun u hu => greatest_any (hT.grow hu)
  obtain ⟨A, hA⟩ := named (lsR R)
  obtain ⟨G, hG⟩ := named (grR R)
  obtain ⟨M, hM⟩ := named (roomR R)
  rw [← hA.out, ← hG.out] at EN
  rw [← hM.out] at HR RM
  rw [← hA.out] at LS
  rw [← hG.out] at GS
  clear h hT hA hG hM
  go_enter Try.func19, Try.ntmps19
  go_wp2_with (first
    | (go_at_call 37; ((with_reducible refine EN.out.mono ?_); rintro e w2 ⟨rfl, B2⟩; have B2 := Lib.hid B2; clear EN))
    | (go_at_call 25; ((with_reducible refine (LN.out _ B2.out).mono ?_); rintro e w3 ⟨rfl, rfl⟩; clear LN))
    | (go_at_call 24; ((with_reducible refine (RM.out _ B2.out).mono ?_); rintro e w3 ⟨rfl, rfl⟩; clear RM))
    | (go_at_call 38; ((with_reducible refine (HR.out _ B2.out).mono ?_); rintro e w4 ⟨rfl, B4⟩; have B4 := Lib.hid (below_of B2.out B4); clear HR))
    | (go_at_call 26; ((with_reducible refine (LS.out _ B4.out).mono ?_); rintro e w5 ⟨rfl, rfl⟩; clear LS))
    | (go_at_call 27; ((with_reducible refine (GS.out _ B4.out).mono ?_); rintro e w5 ⟨rfl, rfl⟩; clear GS))
    | fail "no arm")
  go_returns
  exact ⟨rfl, B4.out⟩
end Go.Proofs.Ytdgbafpnfkedeaa
/-
  The answer that the document fixes (awake). No condition.
-/
namespace Go.Proofs.Ytdgbafpnfkedeaa
set_option maxRecDepth 100000
open Go.RowKit
def ra1 : Rw := ⟨⟨#[97]⟩, 1, 1, ⟨#[120]⟩⟩
def rb2 : Rw := ⟨⟨#[98]⟩, 2, 1, ⟨#[121]⟩⟩
def ra3 : Rw := ⟨⟨#[97]⟩, 3, 2, ⟨#[]⟩⟩
def awA : List Wr := [⟨1, ⟨#[97]⟩, ⟨#[120]⟩⟩, ⟨1, ⟨#[98]⟩, ⟨#[121]⟩⟩]
def awB : List Wr := [⟨2, ⟨#[97]⟩, ⟨#[]⟩⟩]
theorem mw1 : addR [] 1 awA = ([ra1, rb2], 0) := by
  have h : rowsFrom 1 awA = [ra1, rb2] := rfl
  unfold addR
  rw [h]
  simp [insAll, thr, insR, plc, ahd, ra1, rb2, awA, Lib.toList_data, bytesBefore]
  decide
theorem mw2 : addR [ra1, rb2] 3 awB = ([ra3, ra1, rb2], 0) := by
  have h : rowsFrom 3 awB = [ra3] := rfl
  unfold addR
  rw [h]
  simp [insAll, thr, insR, plc, ahd, ra1, rb2, ra3, awB, Lib.toList_data]
  decide
theorem mw3 : getR [ra3, ra1, rb2] ⟨#[97]⟩ 2 = some ra1 := by
  simp [getR, plc, ahd, ra1, rb2, ra3, Lib.toList_data]
theorem mw4 : roomR [ra3, ra1, rb2] = 53 ∧ lsR [ra3, ra1, rb2] = 1 ∧ grR [ra3, ra1, rb2] = 3 := by decide
theorem ws_A (g : Nat) (V : World) (hV : V.heap[g]? = some (.cells #[.int .i64 1, .string ⟨#[97]⟩, .string ⟨#[120]⟩, .int .i64 1, .string ⟨#[98]⟩, .string ⟨#[121]⟩] 41 (0, 0))) : Ws (some ⟨g, 0, none⟩) 2 2 g 0 awA V := by
  refine ⟨rfl, Nat.le_refl _, by omega, fun _ => ⟨rfl, (Array.getElem?_eq_some_iff.1 hV).1⟩, fun j x hx => ?_, fun x hx => ?_⟩
  · match j, hx with
    | 0, hx => cases hx; exact ⟨by simp [World.cell?, hV], by simp [World.cell?, hV], by simp [World.cell?, hV]⟩
    | 1, hx => cases hx; exact ⟨by simp [World.cell?, hV], by simp [World.cell?, hV], by simp [World.cell?, hV]⟩
  · unfold awA at hx
    simp only [List.mem_cons, List.not_mem_nil, or_false] at hx
    rcases hx with rfl | rfl <;> exact ⟨by decide, by decide⟩
theorem ws_B (g : Nat) (V : World) (hV : V.heap[g]? = some (.cells #[.int .i64 2, .string ⟨#[97]⟩, .string ⟨#[]⟩] 41 (0, 0))) : Ws (some ⟨g, 0, none⟩) 1 1 g 0 awB V := by
  refine ⟨rfl, Nat.le_refl _, by omega, fun _ => ⟨rfl, (Array.getElem?_eq_some_iff.1 hV).1⟩, fun j x hx => ?_, fun x hx => ?_⟩
  · match j, hx with
    | 0, hx => cases hx; exact ⟨by simp [World.cell?, hV], by simp [World.cell?, hV], by simp [World.cell?, hV]⟩
  · unfold awB at hx
    simp only [List.mem_cons, List.not_mem_nil, or_false] at hx
    rcases hx with rfl
    exact ⟨by decide, by decide⟩
/-- A slice of ints that nobody handed over. -/
theorem sl_nil (w : World) : SlOf 1 cellsI none 0 0 0 0 [] w := ⟨rfl, Nat.le_refl _, by omega, fun h => absurd h (by omega), fun j x hx => by simp at hx⟩
theorem sl_one (g : Nat) (x : Int) {V : World} (hV : V.heap[g]? = some (.cells #[.int .i64 x] 3 (0, 0))) {w' : World} (he : Else4 V w') (hs : V.heap.size ≤ w'.heap.size) : SlOf 1 cellsI (some ⟨g, 0, none⟩) 1 1 g 0 [x] w' := by
  have hV' : w'.heap[g]? = some (.cells #[.int .i64 x] 3 (0, 0)) := (typed_else4 he hV (by decide) (by decide) (by decide)).trans hV
  refine ⟨rfl, Nat.le_refl _, by omega, fun _ => ⟨rfl, (Array.getElem?_eq_some_iff.1 hV').1⟩, fun j y hy m u hu => ?_⟩
  match j, hy with
  | 0, hy =>
    cases hy
    match m, hu with
    | 0, hu => cases hu; simp [World.cell?, hV']
set_option maxRecDepth 100000 in
set_option maxHeartbeats 4000000 in
theorem awake_mem (w : World) : Calls Try.prog 9 #[] w fun e w' => e = .returned (.bool true) ∧ Below w.heap.size w w' := by
  have NW := Lib.hid (new_tb (Tb.nil w.heap.size w) (Nat.le_refl _))
  go_enter Try.func9, Try.ntmps9
  go_upto_region 2 with (go_at_call 10; ((with_reducible refine NW.out.mono ?_); rintro e w1 ⟨p, rfl, T1, B1⟩; have T1 := Lib.hid T1; have B1 := Lib.hid B1; clear NW))
  have S1 := B1.out.size
  have A1 := add_any (T1.out.grow (below_alloc w1 (.cells #[.int .i64 1, .string ⟨#[97]⟩, .string ⟨#[120]⟩, .int .i64 1, .string ⟨#[98]⟩, .string ⟨#[121]⟩] 41))) (by rw [World.size_alloc]; omega) (i := 0) (p := p) (R := []) rfl (by simp) (seq := 1) (ws_A w1.heap.size _ (heap_alloc_new _ _)) (fun w' _ _ => sl_nil w')
  rw [mw1] at A1
  have A1 : Hid (Calls Try.prog 12 #[.pointer (some ⟨p, 0, none⟩), .agg #[.int .u64 1, .slice (some ⟨w1.heap.size, 0, none⟩) 2 2], .slice none 0 0] (w1.alloc (.cells #[.int .i64 1, .string ⟨#[97]⟩, .string ⟨#[120]⟩, .int .i64 1, .string ⟨#[98]⟩, .string ⟨#[121]⟩] 41)) fun e w' => e = .returned (.int .i64 0) ∧ Tb w.heap.size [(p, [ra1, rb2])] w' ∧ Below w.heap.size (w1.alloc (.cells #[.int .i64 1, .string ⟨#[97]⟩, .string ⟨#[120]⟩, .int .i64 1, .string ⟨#[98]⟩, .string ⟨#[121]⟩] 41)) w') := Lib.hid (A1.mono fun e w' h => ⟨h.1, h.2.1, h.2.2.1⟩)
  go_upto_region 3 with (go_at_call 12; ((with_reducible refine A1.out.mono ?_); rintro e w2 ⟨rfl, T2, B2⟩; have T2 := Lib.hid T2; have B2 := Lib.hid ((B1.out.trans ((below_alloc w1 (.cells #[.int .i64 1, .string ⟨#[97]⟩, .string ⟨#[120]⟩, .int .i64 1, .string ⟨#[98]⟩, .string ⟨#[121]⟩] 41)).mono S1)).trans B2); clear A1))
  have S2 := B2.out.size
  clear T1 B1 S1
  have A2 := add_any (T2.out.grow (below_of (below_alloc w2 (.cells #[.int .i64 2, .string ⟨#[97]⟩, .string ⟨#[]⟩] 41)) (below_alloc _ (.cells #[.int .i64 5] 3)))) (by rw [World.size_alloc, World.size_alloc]; omega) (i := 0) (p := p) (R := [ra1, rb2]) rfl (by simp) (seq := 3) (ws_B w2.heap.size _ (((below_alloc (w2.alloc (.cells #[.int .i64 2, .string ⟨#[97]⟩, .string ⟨#[]⟩] 41)) (.cells #[.int .i64 5] 3)).block _ (by rw [World.size_alloc]; omega)).trans (heap_alloc_new w2 (.cells #[.int .i64 2, .string ⟨#[97]⟩, .string ⟨#[]⟩] 41)))) (fun w' hb he => sl_one (w2.heap.size + 1) 5 (V := (w2.alloc (.cells #[.int .i64 2, .string ⟨#[97]⟩, .string ⟨#[]⟩] 41)).alloc (.cells #[.int .i64 5] 3)) (by have := heap_alloc_new (w2.alloc (.cells #[.int .i64 2, .string ⟨#[97]⟩, .string ⟨#[]⟩] 41)) (.cells #[.int .i64 5] 3); rw [World.size_alloc] at this; exact this) he hb.size)
  rw [mw2] at A2
  have A2 : Hid (Calls Try.prog 12 #[.pointer (some ⟨p, 0, none⟩), .agg #[.int .u64 3, .slice (some ⟨w2.heap.size, 0, none⟩) 1 1], .slice (some ⟨w2.heap.size + 1, 0, none⟩) 1 1] ((w2.alloc (.cells #[.int .i64 2, .string ⟨#[97]⟩, .string ⟨#[]⟩] 41)).alloc (.cells #[.int .i64 5] 3)) fun e w' => e = .returned (.int .i64 0) ∧ Tb w.heap.size [(p, [ra3, ra1, rb2])] w' ∧ Below w.heap.size ((w2.alloc (.cells #[.int .i64 2, .string ⟨#[97]⟩, .string ⟨#[]⟩] 41)).alloc (.cells #[.int .i64 5] 3)) w') := Lib.hid (A2.mono fun e w' h => ⟨h.1, h.2.1, h.2.2.1⟩)
  go_upto_region 4 with (go_at_call 12; ((with_reducible refine A2.out.mono ?_); rintro e w3 ⟨rfl, T3, B3⟩; have T3 := Lib.hid T3; have B3 := Lib.hid ((B2.out.trans ((below_of (below_alloc w2 (.cells #[.int .i64 2, .string ⟨#[97]⟩, .string ⟨#[]⟩] 41)) (below_alloc _ (.cells #[.int .i64 5] 3))).mono S2)).trans B3); clear A2))
  have S3 := B3.out.size
  clear T2 B2 S2
  have G3 := get_any (T3.out.q (i := 0) rfl (by simp)) ⟨#[97]⟩ 2
  rw [mw3] at G3
  have G3 : Hid (Calls Try.prog 14 #[.pointer (some ⟨p, 0, none⟩), .string ⟨#[97]⟩, .int .u64 2] w3 fun e w' => e = .returned (.tuple #[.agg #[.string ⟨#[97]⟩, .int .u64 1, .int .i64 1, .string ⟨#[120]⟩], .bool true]) ∧ Below w3.heap.size w3 w') := Lib.hid G3
  go_upto_region 5 with (go_at_call 14; ((with_reducible refine G3.out.mono ?_); rintro e w4 ⟨rfl, B4⟩; have B4 := Lib.hid B4; clear G3))
  have K4 : Hid (∀ o, TabQ (some ⟨p, 0, none⟩) [ra3, ra1, rb2] (w4.alloc o)) := Lib.hid fun o => (T3.out.grow (below_of B4.out (below_alloc w4 o))).q (i := 0) rfl (by simp)
  have RM : Hid (∀ o, Calls Try.prog 24 #[.pointer (some ⟨p, 0, none⟩)] (w4.alloc o) fun e w' => e = .returned (.int .i64 53) ∧ w' = w4.alloc o) := Lib.hid fun o => by have := room_any (K4.out o); rw [mw4.1] at this; exact this
  have LM : Hid (∀ o, Calls Try.prog 26 #[.pointer (some ⟨p, 0, none⟩)] (w4.alloc o) fun e w' => e = .returned (.int .u64 1) ∧ w' = w4.alloc o) := Lib.hid fun o => by have := least_any (K4.out o); rw [mw4.2.1] at this; exact this
  have GM : Hid (∀ o, Calls Try.prog 27 #[.pointer (some ⟨p, 0, none⟩)] (w4.alloc o) fun e w' => e = .returned (.int .u64 3) ∧ w' = w4.alloc o) := Lib.hid fun o => by have := greatest_any (K4.out o); rw [mw4.2.2] at this; exact this
  clear K4 T3
  go_wp2_with (first
    | (go_at_call 24; ((with_reducible refine (RM.out _).mono ?_); rintro e w5 ⟨rfl, rfl⟩))
    | (go_at_call 26; ((with_reducible refine (LM.out _).mono ?_); rintro e w5 ⟨rfl, rfl⟩))
    | (go_at_call 27; ((with_reducible refine (GM.out _).mono ?_); rintro e w5 ⟨rfl, rfl⟩))
    | fail "no arm")
  go_returns
  exact ⟨rfl, (B3.out.trans (B4.out.mono S3)).trans ((below_alloc w4 _).mono (by have := B4.out.size; omega))⟩
end Go.Proofs.Ytdgbafpnfkedeaa
