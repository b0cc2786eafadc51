/-
  The document's four and row. Condition: a valid row.
-/
import Derived.Test.YtnmlifagchdphaaPack10
namespace Go.Proofs.Ytnmlifagchdphaa
set_option maxRecDepth 100000
open Go.RowKit
set_option maxRecDepth 100000 in
set_option maxHeartbeats 2000000 in
theorem four_any (n : Nat) (hn : n < 4294967296) (w : World) : Calls Try.prog 36 #[.int .i64 (n : Int)] w fun e w' => e = .returned (.string ⟨(le4 n).toArray⟩) ∧ Below w.heap.size w w' := by
  have TF := fun (v : World) (t : TypeId) => text_four v ((n : Int) % 256) ((n : Int) / 256 % 256) ((n : Int) / 65536 % 256) ((n : Int) / 16777216 % 256) (UInt8.ofNat n) (UInt8.ofNat (n / 256)) (UInt8.ofNat (n / 65536)) (UInt8.ofNat (n / 16777216)) (by simp) (by simp) (by simp) (by simp) t
  have TG := fun (v : World) (t : TypeId) => text_four v ((n : Int) % 256) ((n : Int) / 256 % 256) ((n : Int) / 65536 % 256) ((n : Int) / 16777216) (UInt8.ofNat n) (UInt8.ofNat (n / 256)) (UInt8.ofNat (n / 65536)) (UInt8.ofNat (n / 16777216)) (by simp) (by simp) (by simp) (by rw [UInt8.toNat_ofNat']; omega) t
  go_enter Try.func36, Try.ntmps36
  go_wp2_with fail
  go_returns
  exact ⟨rfl, below_alloc _ _⟩
theorem refputfield_list (D : List UInt8) (h : D.length ≤ 4096) (w : World) :
    Calls Try.prog 50 #[.string ⟨D.toArray⟩] w fun e w' => e = .returned (.string ⟨(Code.uvar D.length ++ D).toArray⟩) ∧ Below w.heap.size w w' := by
  have hz : (⟨D.toArray⟩ : ByteArray).size = D.length := by show D.toArray.size = _; simp
  have := refputfield_any ⟨D.toArray⟩ (by rw [hz]; unfold reachBytes; omega) w
  rw [hz] at this
  exact this
set_option maxRecDepth 100000 in
set_option maxHeartbeats 8000000 in
theorem row_any (x : Rw) (p : ByteArray) (w : World) (hx : chkR x = 0) (hpk : p.size ≤ 520) :
    Calls Try.prog 37 #[.agg #[.string x.key, .int .u64 (x.seq : Int), .int .i64 x.kind, .string x.val], .string p] w fun e w' => e = .returned (.string ⟨(encX p.toList x).toArray⟩) ∧ Below w.heap.size w w' := by
  obtain ⟨hk, _, hs1, hs2, _, hkl, hvl⟩ := chkR_ok hx
  have R0 := RowAt.new x w
  have W0 := Lib.hid (below_alloc w (.cells #[.string x.key, .int .u64 (x.seq : Int), .int .i64 x.kind, .string x.val] 33))
  obtain ⟨c, hc⟩ := named (com p.toList x.key.toList)
  have hc1 : c ≤ x.key.size := by rw [hc.out, ← toL_len]; exact (com_le _ _).2
  have hE : Hid (encX p.toList x = Code.uvar c ++ (Code.uvar (x.key.toList.drop c).length ++ x.key.toList.drop c) ++ Code.uvar x.seq ++ [UInt8.ofNat x.kind.toNat] ++ valB x) := Lib.hid (by unfold encX; rw [← hc.out])
  have hV1 : Hid (x.kind = 1 → valB x = Code.uvar x.val.size ++ x.val.toList) := Lib.hid (fun h => by unfold valB; rw [if_pos h])
  have hV2 : Hid (x.kind ≠ 1 → valB x = []) := Lib.hid (fun h => by unfold valB; rw [if_neg h])
  obtain ⟨E, hE2⟩ := named (encX p.toList x)
  rw [← hE2.out] at hE ⊢
  obtain ⟨VB, hVB⟩ := named (valB x)
  rw [← hVB.out] at hE hV1 hV2
  obtain ⟨k, hk2⟩ : ∃ k : Nat, x.kind = (k : Int) := ⟨x.kind.toNat, by omega⟩
  have hk12 : k = 1 ∨ k = 2 := by omega
  clear hVB hE2 hk
  obtain ⟨xk, xs, xi, xv⟩ := x
  simp only at *
  subst hk2
  obtain ⟨D, hD⟩ := named (xk.toList.drop c)
  have hDl : D.length ≤ 520 := by rw [hD.out, List.length_drop, toL_len]; omega
  have SLF := sl_from xk c hc1 _ rfl
  rw [← hD.out] at SLF hE
  obtain ⟨A1, hA1⟩ := named (Code.uvar c)
  obtain ⟨A2, hA2⟩ := named (Code.uvar D.length ++ D)
  obtain ⟨A3, hA3⟩ := named (Code.uvar xs)
  obtain ⟨A4, hA4⟩ := named [UInt8.ofNat k]
  have P1 := Lib.hid (fun u => refputuint_any c (by omega) u)
  have P2 := Lib.hid (fun u => refputfield_list D (by omega) u)
  have P3 := Lib.hid (fun u => refputuint_any xs (by omega) u)
  have PV := Lib.hid (fun u => refputfield_any xv (by unfold reachBytes; omega) u)
  obtain ⟨A5, hA5⟩ := named (Code.uvar xv.size ++ xv.toList)
  have PV : Hid (∀ u, Calls Try.prog 50 #[.string xv] u fun e w' => e = .returned (.string ⟨A5.toArray⟩) ∧ Below u.heap.size u w') := Lib.hid (by rw [hA5.out, ByteArray.toList_eq]; exact PV.out)
  rw [← hA1.out] at P1 hE
  rw [← hA2.out] at P2 hE
  rw [← hA3.out] at P3 hE
  have T17 : ∀ (u : World) (g : Nat), u.cell? ⟨g, 0, none⟩ = some (.int .u8 (k : Int)) → (convert 51 9 (.slice (some ⟨g, 0, none⟩) 1 1)).run Try.prog u = .ok (.string ⟨A4.toArray⟩) u := by rw [hA4.out]; exact fun u g => text_of k (by omega) u g
  rw [show (k : Int).toNat = k from rfl, ← hA4.out] at hE
  rw [← hA5.out] at hV1
  have a1 : A1.length ≤ 10 := by rw [hA1.out]; exact Code.uvar_ten (by omega)
  have a2 : A2.length ≤ 530 := by rw [hA2.out, List.length_append]; have := Code.uvar_ten (n := D.length) (by omega); omega
  have a3 : A3.length ≤ 10 := by rw [hA3.out]; exact Code.uvar_ten (by omega)
  have a4 : A4.length = 1 := by rw [hA4.out]; rfl
  have a5 : A5.length ≤ 2058 := by rw [hA5.out, List.length_append, toL_len]; have := Code.uvar_ten (n := xv.size) (by omega); omega
  have z1 : ¬ 9223372036854775807 < A1.length + A2.length := by omega
  have z2 : ¬ 9223372036854775807 < A1.length + A2.length + A3.length := by omega
  have z3 : ¬ 9223372036854775807 < A1.length + A2.length + A3.length + A4.length := by omega
  have z4 : ¬ 9223372036854775807 < A1.length + A2.length + A3.length + A4.length + A5.length := by omega
  have w1 : IntKind.u64.wrap (c : Int) = (c : Int) := wrap_u64_nat (by omega)
  have w2 : IntKind.u8.wrap (k : Int) = (k : Int) := by rw [IntKind.wrap_u8]; omega
  clear hD hA1 hA2 hA3 hA4 hA5 hs1 hs2 hx
  replace a4 := Lib.hid a4
  replace hDl := Lib.hid hDl
  go_enter Try.func37, Try.ntmps37
  go_wp2_with fail
  generalize hV0 : w.alloc (.cells #[.string xk, .int .u64 (xs : Int), .int .i64 (k : Int), .string xv] 33) = V0 at *
  go_loopw [5] (fun i wr => ∃ j : Nat, j ≤ p.size ∧ j ≤ xk.size ∧ i = .int .i64 (j : Int) ∧ c = j + com (p.toList.drop j) (xk.toList.drop j) ∧ Below V0.heap.size V0 wr) (fun i _ => p.size - (intOf i).toNat)
  case atStart => exact ⟨0, Nat.zero_le _, Nat.zero_le _, rfl, by rw [hc.out]; simp, Below.refl _ _⟩
  case round =>
    obtain ⟨j, hj1, hj2, rfl, hrj, hw⟩ := hrel
    have hw := Lib.hid hw
    have XW := Lib.hid (R0.below hw.out)
    have WW := Lib.hid (W0.out.trans (hw.out.mono W0.out.size))
    have CS : Hid (∀ u, Below wr.heap.size wr u → (u.cell? ⟨w.heap.size, 0, none⟩ = some (.string xk) ∧ u.cell? ⟨w.heap.size, 1, none⟩ = some (.int .u64 (xs : Int)) ∧ u.cell? ⟨w.heap.size, 2, none⟩ = some (.int .i64 (k : Int)) ∧ u.cell? ⟨w.heap.size, 3, none⟩ = some (.string xv))) := Lib.hid (fun u hu => (XW.out.below hu).c4)
    have x0 := (CS.out wr (Below.refl _ _)).1
    obtain ⟨B, hB⟩ := named (decide (j < p.size ∧ j < xk.size ∧ p.toList[j]? = xk.toList[j]?))
    have hcont : Hid (B = true → (j < p.size ∧ j < xk.size) ∧ c = j + 1 + com (p.toList.drop (j + 1)) (xk.toList.drop (j + 1))) := Lib.hid (fun hb => by
      rw [hB.out, decide_eq_true_eq] at hb
      obtain ⟨l1, l2, he⟩ := hb
      refine ⟨⟨l1, l2⟩, ?_⟩
      rw [byte_drop p j l1, byte_drop xk j l2, com] at hrj
      rw [ByteArray.toList_eq, ByteArray.toList_eq, Lib.data_getElem? p j l1, Lib.data_getElem? xk j l2] at he
      rw [if_pos (Option.some.inj he)] at hrj
      omega)
    have hstop : Hid (B = false → c = j) := Lib.hid (fun hb => by
      rw [hB.out, decide_eq_false_iff_not] at hb
      have : com (p.toList.drop j) (xk.toList.drop j) = 0 := by
        by_cases l1 : j < p.size
        · by_cases l2 : j < xk.size
          · rw [byte_drop p j l1, byte_drop xk j l2, com, if_neg]
            intro he
            refine hb ⟨l1, l2, ?_⟩
            rw [ByteArray.toList_eq, ByteArray.toList_eq, Lib.data_getElem? p j l1, Lib.data_getElem? xk j l2, he]
          · rw [List.drop_eq_nil_of_le (show xk.toList.length ≤ j by rw [toL_len]; omega)]
            cases p.toList.drop j <;> simp [com]
        · rw [List.drop_eq_nil_of_le (show p.toList.length ≤ j by rw [toL_len]; omega), com_nil]
      omega)
    clear hrj
    go_upto_region 2 with fail
    go_cut [27] from 7 to 27 (fun s wc => s = .bool B ∧ Below V0.heap.size V0 wc)
    case first =>
      by_cases l1 : j < p.size
      · have p1 : decide (j < p.size) = true := by simpa using l1
        have p1i : decide ((j : Int) < (p.size : Int)) = true := by rw [decide_eq_true_eq]; omega
        by_cases l2 : j < xk.size
        · have p2 : decide (j < xk.size) = true := by simpa using l2
          have p2i : decide ((j : Int) < (xk.size : Int)) = true := by rw [decide_eq_true_eq]; omega
          have I1 := idx_text p j p[j] (by rw [ByteArray.toList_eq]; exact Lib.data_getElem? p j l1) _ rfl
          have I2 := idx_text xk j xk[j] (by rw [ByteArray.toList_eq]; exact Lib.data_getElem? xk j l2) _ rfl
          have hBv : B = (((p[j].toNat : Nat) : Int) == ((xk[j].toNat : Nat) : Int)) := by
            rw [hB.out, ByteArray.toList_eq, ByteArray.toList_eq, Lib.data_getElem? p j l1, Lib.data_getElem? xk j l2, Bool.eq_iff_iff]
            simp only [decide_eq_true_eq, beq_iff_eq, Option.some.injEq]
            exact ⟨fun h => by rw [h.2.2], fun h => ⟨l1, l2, UInt8.toNat_inj.1 (by omega)⟩⟩
          obtain ⟨y1, hy1⟩ := named p[j].toNat
          obtain ⟨y2, hy2⟩ := named xk[j].toNat
          rw [← hy1.out] at I1 hBv
          rw [← hy2.out] at I2 hBv
          have hBs : (((y1 : Nat) : Int) == ((y2 : Nat) : Int)) = B := hBv.symm
          have hBs2 : (y1 == y2) = B := by rw [← hBs, Bool.eq_iff_iff]; simp; omega
          clear hBv hcont hstop hB
          refine wp_region_held_drew (S := (fun v => v.cell? ⟨w.heap.size, 0, none⟩ = some (.string xk))) (by kernel_rfl) (x0) (fun hHeld => ?_)
          refine held_take (i := 0) (v := ?_) rfl (by kernel_rfl) (by kernel_rfl) (by kernel_rfl) (fun _ _ _ h => h) (by rfl) (fun w hSw => ?_) (by assumption) ?_; rotate_left 1; focus (((try dsimp only at hSw); first | (go_simp; done) | (go_simp; with_reducible rfl)))
          try simp only [Act.put, List.setIfInBounds_toArray, List.set_cons_zero, List.set_cons_succ]
          refine held_take (i := 1) (v := ?_) rfl (by kernel_rfl) (by kernel_rfl) (by kernel_rfl) (fun _ _ _ h => h) (by rfl) (fun w hSw => ?_) (by assumption) ?_; rotate_left 1; focus (((try dsimp only at hSw); first | (go_simp; done) | (go_simp; with_reducible rfl)))
          try simp only [Act.put, List.setIfInBounds_toArray, List.set_cons_zero, List.set_cons_succ]
          refine held_take (i := 2) (v := ?_) rfl (by kernel_rfl) (by kernel_rfl) (by kernel_rfl) (fun _ _ _ h => h) (by rfl) (fun w hSw => ?_) (by assumption) ?_; rotate_left 1; focus (((try dsimp only at hSw); first | (go_simp; done) | (go_simp; with_reducible rfl)))
          try simp only [Act.put, List.setIfInBounds_toArray, List.set_cons_zero, List.set_cons_succ]
          refine held_take (i := 3) (v := ?_) rfl (by kernel_rfl) (by kernel_rfl) (by kernel_rfl) (fun _ _ _ h => h) (by rfl) (fun w hSw => ?_) (by assumption) ?_; rotate_left 1; focus (((try dsimp only at hSw); first | (go_simp; done) | (go_simp; with_reducible rfl)))
          try simp only [Act.put, List.setIfInBounds_toArray, List.set_cons_zero, List.set_cons_succ]
          refine held_take (i := 4) (v := ?_) rfl (by kernel_rfl) (by kernel_rfl) (by kernel_rfl) (fun _ _ _ h => h) (by rfl) (fun w hSw => ?_) (by assumption) ?_; rotate_left 1; focus (((try dsimp only at hSw); first | (go_simp; done) | (go_simp; with_reducible rfl)))
          try simp only [Act.put, List.setIfInBounds_toArray, List.set_cons_zero, List.set_cons_succ]
          refine held_take (i := 5) (v := ?_) rfl (by kernel_rfl) (by kernel_rfl) (by kernel_rfl) (fun _ _ _ h => h) (by rfl) (fun w hSw => ?_) (by assumption) ?_; rotate_left 1; focus (((try dsimp only at hSw); first | (go_simp; done) | (go_simp; with_reducible rfl)))
          try simp only [Act.put, List.setIfInBounds_toArray, List.set_cons_zero, List.set_cons_succ]
          refine held_take (i := 6) (v := ?_) rfl (by kernel_rfl) (by kernel_rfl) (by kernel_rfl) (fun _ _ _ h => h) (by rfl) (fun w hSw => ?_) (by assumption) ?_; rotate_left 1; focus (((try dsimp only at hSw); first | (go_simp; done) | (go_simp; with_reducible rfl)))
          try simp only [Act.put, List.setIfInBounds_toArray, List.set_cons_zero, List.set_cons_succ]
          refine held_take (i := 7) (v := ?_) rfl (by kernel_rfl) (by kernel_rfl) (by kernel_rfl) (fun _ _ _ h => h) (by rfl) (fun w hSw => ?_) (by assumption) ?_; rotate_left 1; focus (((try dsimp only at hSw); first | (go_simp; done) | (go_simp; with_reducible rfl)))
          try simp only [Act.put, List.setIfInBounds_toArray, List.set_cons_zero, List.set_cons_succ]
          refine held_take (i := 8) (v := ?_) rfl (by kernel_rfl) (by kernel_rfl) (by kernel_rfl) (fun _ _ _ h => h) (by rfl) (fun w hSw => ?_) (by assumption) ?_; rotate_left 1; focus (((try dsimp only at hSw); first | (go_simp; done) | (go_simp; with_reducible rfl)))
          try simp only [Act.put, List.setIfInBounds_toArray, List.set_cons_zero, List.set_cons_succ]
          refine held_take (i := 9) (v := ?_) rfl (by kernel_rfl) (by kernel_rfl) (by kernel_rfl) (fun _ _ _ h => h) (by rfl) (fun w hSw => ?_) (by assumption) ?_; rotate_left 1; focus (((try dsimp only at hSw); first | (go_simp; done) | (go_simp; with_reducible rfl)))
          try simp only [Act.put, List.setIfInBounds_toArray, List.set_cons_zero, List.set_cons_succ]
          refine held_take (i := 10) (v := ?_) rfl (by kernel_rfl) (by kernel_rfl) (by kernel_rfl) (fun _ _ _ h => h) (by rfl) (fun w hSw => ?_) (by assumption) ?_; rotate_left 1; focus (((try dsimp only at hSw); first | (go_simp; done) | (go_simp; with_reducible rfl)))
          try simp only [Act.put, List.setIfInBounds_toArray, List.set_cons_zero, List.set_cons_succ]
          refine held_take (i := 11) (v := ?_) rfl (by kernel_rfl) (by kernel_rfl) (by kernel_rfl) (fun _ _ _ h => h) (by rfl) (fun w hSw => ?_) (by assumption) ?_; rotate_left 1; focus (((try dsimp only at hSw); first | (go_simp; done) | (go_simp; with_reducible rfl)))
          try simp only [Act.put, List.setIfInBounds_toArray, List.set_cons_zero, List.set_cons_succ]
          refine held_take (i := 12) (v := ?_) rfl (by kernel_rfl) (by kernel_rfl) (by kernel_rfl) (fun _ _ _ h => h) (by rfl) (fun w hSw => ?_) (by assumption) ?_; rotate_left 1; focus (((try dsimp only at hSw); first | (go_simp; done) | (go_simp; with_reducible rfl)))
          try simp only [Act.put, List.setIfInBounds_toArray, List.set_cons_zero, List.set_cons_succ]
          refine held_take (i := 13) (v := ?_) rfl (by kernel_rfl) (by kernel_rfl) (by kernel_rfl) (fun _ _ _ h => h) (by rfl) (fun w hSw => ?_) (by assumption) ?_; rotate_left 1; focus (((try dsimp only at hSw); first | (go_simp; done) | (go_simp; with_reducible rfl)))
          try simp only [Act.put, List.setIfInBounds_toArray, List.set_cons_zero, List.set_cons_succ]
          refine held_take (i := 14) (v := ?_) rfl (by kernel_rfl) (by kernel_rfl) (by kernel_rfl) (fun _ _ _ h => h) (by rfl) (fun w hSw => ?_) (by assumption) ?_; rotate_left 1; focus (((try dsimp only at hSw); first | (go_simp; done) | (go_simp; with_reducible rfl)))
          try simp only [Act.put, List.setIfInBounds_toArray, List.set_cons_zero, List.set_cons_succ]
          refine held_take (i := 15) (v := ?_) rfl (by kernel_rfl) (by kernel_rfl) (by kernel_rfl) (fun _ _ _ h => h) (by rfl) (fun w hSw => ?_) (by assumption) ?_; rotate_left 1; focus (((try dsimp only at hSw); first | (go_simp; done) | (go_simp; with_reducible rfl)))
          try simp only [Act.put, List.setIfInBounds_toArray, List.set_cons_zero, List.set_cons_succ]
          refine held_take (i := 16) (v := ?_) rfl (by kernel_rfl) (by kernel_rfl) (by kernel_rfl) (fun _ _ _ h => h) (by rfl) (fun w hSw => ?_) (by assumption) ?_; rotate_left 1; focus (((try dsimp only at hSw); first | (go_simp; done) | (go_simp; with_reducible rfl)))
          try simp only [Act.put, List.setIfInBounds_toArray, List.set_cons_zero, List.set_cons_succ]
          refine held_take (i := 17) (v := ?_) rfl (by kernel_rfl) (by kernel_rfl) (by kernel_rfl) (fun _ _ _ h => h) (by rfl) (fun w hSw => ?_) (by assumption) ?_; rotate_left 1; focus (((try dsimp only at hSw); first | (go_simp; done) | (go_simp; with_reducible rfl)))
          try simp only [Act.put, List.setIfInBounds_toArray, List.set_cons_zero, List.set_cons_succ]
          refine held_take (i := 18) (v := ?_) rfl (by kernel_rfl) (by kernel_rfl) (by kernel_rfl) (fun _ _ _ h => h) (by rfl) (fun w hSw => ?_) (by assumption) ?_; rotate_left 1; focus (((try dsimp only at hSw); first | (go_simp; done) | (go_simp; with_reducible rfl)))
          try simp only [Act.put, List.setIfInBounds_toArray, List.set_cons_zero, List.set_cons_succ]
          refine held_take (i := 19) (v := ?_) rfl (by kernel_rfl) (by kernel_rfl) (by kernel_rfl) (fun _ _ _ h => h) (by rfl) (fun w hSw => ?_) (by assumption) ?_; rotate_left 1; focus (((try dsimp only at hSw); first | (go_simp; done) | (go_simp; with_reducible rfl)))
          try simp only [Act.put, List.setIfInBounds_toArray, List.set_cons_zero, List.set_cons_succ]
          refine held_take (i := 20) (v := ?_) rfl (by kernel_rfl) (by kernel_rfl) (by kernel_rfl) (fun _ _ _ h => h) (by rfl) (fun w hSw => ?_) (by assumption) ?_; rotate_left 1; focus (((try dsimp only at hSw); first | (go_simp; done) | (go_simp; with_reducible rfl)))
          try simp only [Act.put, List.setIfInBounds_toArray, List.set_cons_zero, List.set_cons_succ]
          refine wpAnyH_done (by kernel_rfl) ?_ _
          go_wp2_with fail
          go_meet
          exact ⟨rfl, hw.out.drew⟩
        · have p2 : decide (j < xk.size) = false := by simpa using l2
          have p2i : decide ((j : Int) < (xk.size : Int)) = false := by rw [decide_eq_false_iff_not]; omega
          obtain rfl : B = false := by rw [hB.out, decide_eq_false_iff_not]; exact fun h => l2 h.2.1
          clear hcont hstop hB
          refine wp_region_held_drew (S := (fun v => v.cell? ⟨w.heap.size, 0, none⟩ = some (.string xk))) (by kernel_rfl) (x0) (fun hHeld => ?_)
          refine held_take (i := 0) (v := ?_) rfl (by kernel_rfl) (by kernel_rfl) (by kernel_rfl) (fun _ _ _ h => h) (by rfl) (fun w hSw => ?_) (by assumption) ?_; rotate_left 1; focus (((try dsimp only at hSw); first | (go_simp; done) | (go_simp; with_reducible rfl)))
          try simp only [Act.put, List.setIfInBounds_toArray, List.set_cons_zero, List.set_cons_succ]
          refine held_take (i := 1) (v := ?_) rfl (by kernel_rfl) (by kernel_rfl) (by kernel_rfl) (fun _ _ _ h => h) (by rfl) (fun w hSw => ?_) (by assumption) ?_; rotate_left 1; focus (((try dsimp only at hSw); first | (go_simp; done) | (go_simp; with_reducible rfl)))
          try simp only [Act.put, List.setIfInBounds_toArray, List.set_cons_zero, List.set_cons_succ]
          refine held_take (i := 2) (v := ?_) rfl (by kernel_rfl) (by kernel_rfl) (by kernel_rfl) (fun _ _ _ h => h) (by rfl) (fun w hSw => ?_) (by assumption) ?_; rotate_left 1; focus (((try dsimp only at hSw); first | (go_simp; done) | (go_simp; with_reducible rfl)))
          try simp only [Act.put, List.setIfInBounds_toArray, List.set_cons_zero, List.set_cons_succ]
          refine held_take (i := 3) (v := ?_) rfl (by kernel_rfl) (by kernel_rfl) (by kernel_rfl) (fun _ _ _ h => h) (by rfl) (fun w hSw => ?_) (by assumption) ?_; rotate_left 1; focus (((try dsimp only at hSw); first | (go_simp; done) | (go_simp; with_reducible rfl)))
          try simp only [Act.put, List.setIfInBounds_toArray, List.set_cons_zero, List.set_cons_succ]
          refine held_take (i := 4) (v := ?_) rfl (by kernel_rfl) (by kernel_rfl) (by kernel_rfl) (fun _ _ _ h => h) (by rfl) (fun w hSw => ?_) (by assumption) ?_; rotate_left 1; focus (((try dsimp only at hSw); first | (go_simp; done) | (go_simp; with_reducible rfl)))
          try simp only [Act.put, List.setIfInBounds_toArray, List.set_cons_zero, List.set_cons_succ]
          refine held_take (i := 5) (v := ?_) rfl (by kernel_rfl) (by kernel_rfl) (by kernel_rfl) (fun _ _ _ h => h) (by rfl) (fun w hSw => ?_) (by assumption) ?_; rotate_left 1; focus (((try dsimp only at hSw); first | (go_simp; done) | (go_simp; with_reducible rfl)))
          try simp only [Act.put, List.setIfInBounds_toArray, List.set_cons_zero, List.set_cons_succ]
          refine held_take (i := 6) (v := ?_) rfl (by kernel_rfl) (by kernel_rfl) (by kernel_rfl) (fun _ _ _ h => h) (by rfl) (fun w hSw => ?_) (by assumption) ?_; rotate_left 1; focus (((try dsimp only at hSw); first | (go_simp; done) | (go_simp; with_reducible rfl)))
          try simp only [Act.put, List.setIfInBounds_toArray, List.set_cons_zero, List.set_cons_succ]
          refine held_take (i := 7) (v := ?_) rfl (by kernel_rfl) (by kernel_rfl) (by kernel_rfl) (fun _ _ _ h => h) (by rfl) (fun w hSw => ?_) (by assumption) ?_; rotate_left 1; focus (((try dsimp only at hSw); first | (go_simp; done) | (go_simp; with_reducible rfl)))
          try simp only [Act.put, List.setIfInBounds_toArray, List.set_cons_zero, List.set_cons_succ]
          refine held_take (i := 8) (v := ?_) rfl (by kernel_rfl) (by kernel_rfl) (by kernel_rfl) (fun _ _ _ h => h) (by rfl) (fun w hSw => ?_) (by assumption) ?_; rotate_left 1; focus (((try dsimp only at hSw); first | (go_simp; done) | (go_simp; with_reducible rfl)))
          try simp only [Act.put, List.setIfInBounds_toArray, List.set_cons_zero, List.set_cons_succ]
          refine held_take (i := 9) (v := ?_) rfl (by kernel_rfl) (by kernel_rfl) (by kernel_rfl) (fun _ _ _ h => h) (by rfl) (fun w hSw => ?_) (by assumption) ?_; rotate_left 1; focus (((try dsimp only at hSw); first | (go_simp; done) | (go_simp; with_reducible rfl)))
          try simp only [Act.put, List.setIfInBounds_toArray, List.set_cons_zero, List.set_cons_succ]
          refine held_take (i := 10) (v := ?_) rfl (by kernel_rfl) (by kernel_rfl) (by kernel_rfl) (fun _ _ _ h => h) (by rfl) (fun w hSw => ?_) (by assumption) ?_; rotate_left 1; focus (((try dsimp only at hSw); first | (go_simp; done) | (go_simp; with_reducible rfl)))
          try simp only [Act.put, List.setIfInBounds_toArray, List.set_cons_zero, List.set_cons_succ]
          refine held_take (i := 11) (v := ?_) rfl (by kernel_rfl) (by kernel_rfl) (by kernel_rfl) (fun _ _ _ h => h) (by rfl) (fun w hSw => ?_) (by assumption) ?_; rotate_left 1; focus (((try dsimp only at hSw); first | (go_simp; done) | (go_simp; with_reducible rfl)))
          try simp only [Act.put, List.setIfInBounds_toArray, List.set_cons_zero, List.set_cons_succ]
          refine held_skip (i := 12) rfl (by kernel_rfl) (by kernel_rfl) (by kernel_rfl) (fun _ _ _ h => h) (by rfl) (by assumption) ?_
          try simp only [Act.put, List.setIfInBounds_toArray, List.set_cons_zero, List.set_cons_succ]
          refine held_skip (i := 13) rfl (by kernel_rfl) (by kernel_rfl) (by kernel_rfl) (fun _ _ _ h => h) (by rfl) (by assumption) ?_
          try simp only [Act.put, List.setIfInBounds_toArray, List.set_cons_zero, List.set_cons_succ]
          refine held_skip (i := 14) rfl (by kernel_rfl) (by kernel_rfl) (by kernel_rfl) (fun _ _ _ h => h) (by rfl) (by assumption) ?_
          try simp only [Act.put, List.setIfInBounds_toArray, List.set_cons_zero, List.set_cons_succ]
          refine held_skip (i := 15) rfl (by kernel_rfl) (by kernel_rfl) (by kernel_rfl) (fun _ _ _ h => h) (by rfl) (by assumption) ?_
          try simp only [Act.put, List.setIfInBounds_toArray, List.set_cons_zero, List.set_cons_succ]
          refine held_skip (i := 16) rfl (by kernel_rfl) (by kernel_rfl) (by kernel_rfl) (fun _ _ _ h => h) (by rfl) (by assumption) ?_
          try simp only [Act.put, List.setIfInBounds_toArray, List.set_cons_zero, List.set_cons_succ]
          refine held_skip (i := 17) rfl (by kernel_rfl) (by kernel_rfl) (by kernel_rfl) (fun _ _ _ h => h) (by rfl) (by assumption) ?_
          try simp only [Act.put, List.setIfInBounds_toArray, List.set_cons_zero, List.set_cons_succ]
          refine held_skip (i := 18) rfl (by kernel_rfl) (by kernel_rfl) (by kernel_rfl) (fun _ _ _ h => h) (by rfl) (by assumption) ?_
          try simp only [Act.put, List.setIfInBounds_toArray, List.set_cons_zero, List.set_cons_succ]
          refine held_skip (i := 19) rfl (by kernel_rfl) (by kernel_rfl) (by kernel_rfl) (fun _ _ _ h => h) (by rfl) (by assumption) ?_
          try simp only [Act.put, List.setIfInBounds_toArray, List.set_cons_zero, List.set_cons_succ]
          refine held_take (i := 20) (v := ?_) rfl (by kernel_rfl) (by kernel_rfl) (by kernel_rfl) (fun _ _ _ h => h) (by rfl) (fun w hSw => ?_) (by assumption) ?_; rotate_left 1; focus (((try dsimp only at hSw); first | (go_simp; done) | (go_simp; with_reducible rfl)))
          try simp only [Act.put, List.setIfInBounds_toArray, List.set_cons_zero, List.set_cons_succ]
          refine wpAnyH_done (by kernel_rfl) ?_ _
          go_wp2_with fail
          go_meet
          exact ⟨rfl, hw.out.drew⟩
      · have p1 : decide (j < p.size) = false := by simpa using l1
        have p1i : decide ((j : Int) < (p.size : Int)) = false := by rw [decide_eq_false_iff_not]; omega
        obtain rfl : B = false := by rw [hB.out, decide_eq_false_iff_not]; exact fun h => l1 h.1
        clear hcont hstop hB
        refine wp_region_held_drew (S := (fun v => v.cell? ⟨w.heap.size, 0, none⟩ = some (.string xk))) (by kernel_rfl) (x0) (fun hHeld => ?_)
        refine held_take (i := 0) (v := ?_) rfl (by kernel_rfl) (by kernel_rfl) (by kernel_rfl) (fun _ _ _ h => h) (by rfl) (fun w hSw => ?_) (by assumption) ?_; rotate_left 1; focus (((try dsimp only at hSw); first | (go_simp; done) | (go_simp; with_reducible rfl)))
        try simp only [Act.put, List.setIfInBounds_toArray, List.set_cons_zero, List.set_cons_succ]
        refine held_take (i := 1) (v := ?_) rfl (by kernel_rfl) (by kernel_rfl) (by kernel_rfl) (fun _ _ _ h => h) (by rfl) (fun w hSw => ?_) (by assumption) ?_; rotate_left 1; focus (((try dsimp only at hSw); first | (go_simp; done) | (go_simp; with_reducible rfl)))
        try simp only [Act.put, List.setIfInBounds_toArray, List.set_cons_zero, List.set_cons_succ]
        refine held_take (i := 2) (v := ?_) rfl (by kernel_rfl) (by kernel_rfl) (by kernel_rfl) (fun _ _ _ h => h) (by rfl) (fun w hSw => ?_) (by assumption) ?_; rotate_left 1; focus (((try dsimp only at hSw); first | (go_simp; done) | (go_simp; with_reducible rfl)))
        try simp only [Act.put, List.setIfInBounds_toArray, List.set_cons_zero, List.set_cons_succ]
        refine held_take (i := 3) (v := ?_) rfl (by kernel_rfl) (by kernel_rfl) (by kernel_rfl) (fun _ _ _ h => h) (by rfl) (fun w hSw => ?_) (by assumption) ?_; rotate_left 1; focus (((try dsimp only at hSw); first | (go_simp; done) | (go_simp; with_reducible rfl)))
        try simp only [Act.put, List.setIfInBounds_toArray, List.set_cons_zero, List.set_cons_succ]
        refine held_take (i := 4) (v := ?_) rfl (by kernel_rfl) (by kernel_rfl) (by kernel_rfl) (fun _ _ _ h => h) (by rfl) (fun w hSw => ?_) (by assumption) ?_; rotate_left 1; focus (((try dsimp only at hSw); first | (go_simp; done) | (go_simp; with_reducible rfl)))
        try simp only [Act.put, List.setIfInBounds_toArray, List.set_cons_zero, List.set_cons_succ]
        refine held_skip (i := 5) rfl (by kernel_rfl) (by kernel_rfl) (by kernel_rfl) (fun _ _ _ h => h) (by rfl) (by assumption) ?_
        try simp only [Act.put, List.setIfInBounds_toArray, List.set_cons_zero, List.set_cons_succ]
        refine held_skip (i := 6) rfl (by kernel_rfl) (by kernel_rfl) (by kernel_rfl) (fun _ _ _ h => h) (by rfl) (by assumption) ?_
        try simp only [Act.put, List.setIfInBounds_toArray, List.set_cons_zero, List.set_cons_succ]
        refine held_skip (i := 7) rfl (by kernel_rfl) (by kernel_rfl) (by kernel_rfl) (fun _ _ _ h => h) (by rfl) (by assumption) ?_
        try simp only [Act.put, List.setIfInBounds_toArray, List.set_cons_zero, List.set_cons_succ]
        refine held_skip (i := 8) rfl (by kernel_rfl) (by kernel_rfl) (by kernel_rfl) (fun _ _ _ h => h) (by rfl) (by assumption) ?_
        try simp only [Act.put, List.setIfInBounds_toArray, List.set_cons_zero, List.set_cons_succ]
        refine held_skip (i := 9) rfl (by kernel_rfl) (by kernel_rfl) (by kernel_rfl) (fun _ _ _ h => h) (by rfl) (by assumption) ?_
        try simp only [Act.put, List.setIfInBounds_toArray, List.set_cons_zero, List.set_cons_succ]
        refine held_take (i := 10) (v := ?_) rfl (by kernel_rfl) (by kernel_rfl) (by kernel_rfl) (fun _ _ _ h => h) (by rfl) (fun w hSw => ?_) (by assumption) ?_; rotate_left 1; focus (((try dsimp only at hSw); first | (go_simp; done) | (go_simp; with_reducible rfl)))
        try simp only [Act.put, List.setIfInBounds_toArray, List.set_cons_zero, List.set_cons_succ]
        refine held_take (i := 11) (v := ?_) rfl (by kernel_rfl) (by kernel_rfl) (by kernel_rfl) (fun _ _ _ h => h) (by rfl) (fun w hSw => ?_) (by assumption) ?_; rotate_left 1; focus (((try dsimp only at hSw); first | (go_simp; done) | (go_simp; with_reducible rfl)))
        try simp only [Act.put, List.setIfInBounds_toArray, List.set_cons_zero, List.set_cons_succ]
        refine held_skip (i := 12) rfl (by kernel_rfl) (by kernel_rfl) (by kernel_rfl) (fun _ _ _ h => h) (by rfl) (by assumption) ?_
        try simp only [Act.put, List.setIfInBounds_toArray, List.set_cons_zero, List.set_cons_succ]
        refine held_skip (i := 13) rfl (by kernel_rfl) (by kernel_rfl) (by kernel_rfl) (fun _ _ _ h => h) (by rfl) (by assumption) ?_
        try simp only [Act.put, List.setIfInBounds_toArray, List.set_cons_zero, List.set_cons_succ]
        refine held_skip (i := 14) rfl (by kernel_rfl) (by kernel_rfl) (by kernel_rfl) (fun _ _ _ h => h) (by rfl) (by assumption) ?_
        try simp only [Act.put, List.setIfInBounds_toArray, List.set_cons_zero, List.set_cons_succ]
        refine held_skip (i := 15) rfl (by kernel_rfl) (by kernel_rfl) (by kernel_rfl) (fun _ _ _ h => h) (by rfl) (by assumption) ?_
        try simp only [Act.put, List.setIfInBounds_toArray, List.set_cons_zero, List.set_cons_succ]
        refine held_skip (i := 16) rfl (by kernel_rfl) (by kernel_rfl) (by kernel_rfl) (fun _ _ _ h => h) (by rfl) (by assumption) ?_
        try simp only [Act.put, List.setIfInBounds_toArray, List.set_cons_zero, List.set_cons_succ]
        refine held_skip (i := 17) rfl (by kernel_rfl) (by kernel_rfl) (by kernel_rfl) (fun _ _ _ h => h) (by rfl) (by assumption) ?_
        try simp only [Act.put, List.setIfInBounds_toArray, List.set_cons_zero, List.set_cons_succ]
        refine held_skip (i := 18) rfl (by kernel_rfl) (by kernel_rfl) (by kernel_rfl) (fun _ _ _ h => h) (by rfl) (by assumption) ?_
        try simp only [Act.put, List.setIfInBounds_toArray, List.set_cons_zero, List.set_cons_succ]
        refine held_skip (i := 19) rfl (by kernel_rfl) (by kernel_rfl) (by kernel_rfl) (fun _ _ _ h => h) (by rfl) (by assumption) ?_
        try simp only [Act.put, List.setIfInBounds_toArray, List.set_cons_zero, List.set_cons_succ]
        refine held_take (i := 20) (v := ?_) rfl (by kernel_rfl) (by kernel_rfl) (by kernel_rfl) (fun _ _ _ h => h) (by rfl) (fun w hSw => ?_) (by assumption) ?_; rotate_left 1; focus (((try dsimp only at hSw); first | (go_simp; done) | (go_simp; with_reducible rfl)))
        try simp only [Act.put, List.setIfInBounds_toArray, List.set_cons_zero, List.set_cons_succ]
        refine wpAnyH_done (by kernel_rfl) ?_ _
        go_wp2_with fail
        go_meet
        exact ⟨rfl, hw.out.drew⟩
    case rest =>
      obtain ⟨rfl, hw2⟩ := hcut
      clear hB x0 hw XW WW CS
      cases B with
      | true =>
        obtain ⟨⟨l1, l2⟩, hc2⟩ := hcont.out rfl
        have hc2 := Lib.hid hc2
        clear hcont hstop
        go_wp2_with fail
        go_roundw
        case rel => exact ⟨j + 1, by omega, by omega, by go_num, hc2.out, hw2⟩
        case measure => simp [intOf]; omega
      | false =>
        obtain rfl := hstop.out rfl
        have XV := Lib.hid (R0.below hw2)
        have WV := Lib.hid (W0.out.trans (hw2.mono W0.out.size))
        have BV := WV
        clear hcont hstop hw2
        go_upto_region 4 with fail
        generalize hV : wc = V at *
        have B0 : Hid (Below V.heap.size V V.drew) := Lib.hid (Below.refl _ V).drew
        have SX : Hid (∀ u, Below V.heap.size V u → (u.cell? ⟨w.heap.size, 0, none⟩ = some (.string xk) ∧ u.cell? ⟨w.heap.size, 1, none⟩ = some (.int .u64 (xs : Int)) ∧ u.cell? ⟨w.heap.size, 2, none⟩ = some (.int .i64 (k : Int))) ∧ Hid (Below V.heap.size V u)) := Lib.hid (fun u hu => by
          obtain ⟨y0, y1, y2, _⟩ := (XV.out.below hu).c4
          exact ⟨⟨y0, y1, y2⟩, Lib.hid hu⟩)
        go_cut [6] from 30 to 48 (fun s wc => s = .string (⟨A1.toArray⟩ ++ ⟨A2.toArray⟩ ++ ⟨A3.toArray⟩ ++ ⟨A4.toArray⟩) ∧ Below V.heap.size V wc)
        case first =>
          refine wp_region_held_drew (S := (fun v => (v.cell? ⟨w.heap.size, 0, none⟩ = some (.string xk) ∧ v.cell? ⟨w.heap.size, 1, none⟩ = some (.int .u64 (xs : Int)) ∧ v.cell? ⟨w.heap.size, 2, none⟩ = some (.int .i64 (k : Int))) ∧ Hid (Below V.heap.size V v))) (by kernel_rfl) (SX.out _ B0.out) (fun hHeld => ?_)
          refine held_take (i := 0) (v := ?_) rfl (by kernel_rfl) (by kernel_rfl) (by kernel_rfl) (fun _ _ _ h => h) (by rfl) (fun w hSw => ?_) (by assumption) ?_; rotate_left 1; focus (((try dsimp only at hSw); first | (go_simp; done) | (go_simp; with_reducible rfl)))
          try simp only [Act.put, List.setIfInBounds_toArray, List.set_cons_zero, List.set_cons_succ]
          refine held_take (i := 1) (v := ?_) rfl (by kernel_rfl) (by kernel_rfl) (by kernel_rfl) (fun _ _ _ h => h) (by rfl) (fun w hSw => ?_) (by assumption) ?_; rotate_left 1; focus (((try dsimp only at hSw); first | (go_simp; done) | (go_simp; with_reducible rfl)))
          try simp only [Act.put, List.setIfInBounds_toArray, List.set_cons_zero, List.set_cons_succ]
          refine held_take (i := 3) (v := ?_) rfl (by kernel_rfl) (by kernel_rfl) (by kernel_rfl) (fun _ _ _ h => h) (by rfl) (fun w hSw => ?_) (by assumption) ?_; rotate_left 1; focus (((try dsimp only at hSw); first | (go_simp; done) | (go_simp; with_reducible rfl)))
          try simp only [Act.put, List.setIfInBounds_toArray, List.set_cons_zero, List.set_cons_succ]
          refine held_take (i := 4) (v := ?_) rfl (by kernel_rfl) (by kernel_rfl) (by kernel_rfl) (fun _ _ _ h => h) (by rfl) (fun w hSw => ?_) (by assumption) ?_; rotate_left 1; focus (((try dsimp only at hSw); first | (go_simp; done) | (go_simp; with_reducible rfl)))
          try simp only [Act.put, List.setIfInBounds_toArray, List.set_cons_zero, List.set_cons_succ]
          refine held_take (i := 5) (v := ?_) rfl (by kernel_rfl) (by kernel_rfl) (by kernel_rfl) (fun _ _ _ h => h) (by rfl) (fun w hSw => ?_) (by assumption) ?_; rotate_left 1; focus (((try dsimp only at hSw); first | (go_simp; done) | (go_simp; with_reducible rfl)))
          try simp only [Act.put, List.setIfInBounds_toArray, List.set_cons_zero, List.set_cons_succ]
          refine held_take (i := 6) (v := ?_) rfl (by kernel_rfl) (by kernel_rfl) (by kernel_rfl) (fun _ _ _ h => h) (by rfl) (fun w hSw => ?_) (by assumption) ?_; rotate_left 1; focus (((try dsimp only at hSw); first | (go_simp; done) | (go_simp; with_reducible rfl)))
          try simp only [Act.put, List.setIfInBounds_toArray, List.set_cons_zero, List.set_cons_succ]
          refine held_take (i := 9) (v := ?_) rfl (by kernel_rfl) (by kernel_rfl) (by kernel_rfl) (fun _ _ _ h => h) (by rfl) (fun w hSw => ?_) (by assumption) ?_; rotate_left 1; focus (((try dsimp only at hSw); first | (go_simp; done) | (go_simp; with_reducible rfl)))
          try simp only [Act.put, List.setIfInBounds_toArray, List.set_cons_zero, List.set_cons_succ]
          refine held_take (i := 10) (v := ?_) rfl (by kernel_rfl) (by kernel_rfl) (by kernel_rfl) (fun _ _ _ h => h) (by rfl) (fun w hSw => ?_) (by assumption) ?_; rotate_left 1; focus (((try dsimp only at hSw); first | (go_simp; done) | (go_simp; with_reducible rfl)))
          try simp only [Act.put, List.setIfInBounds_toArray, List.set_cons_zero, List.set_cons_succ]
          refine held_take (i := 13) (v := ?_) rfl (by kernel_rfl) (by kernel_rfl) (by kernel_rfl) (fun _ _ _ h => h) (by rfl) (fun w hSw => ?_) (by assumption) ?_; rotate_left 1; focus (((try dsimp only at hSw); first | (go_simp; done) | (go_simp; with_reducible rfl)))
          try simp only [Act.put, List.setIfInBounds_toArray, List.set_cons_zero, List.set_cons_succ]
          refine held_take (i := 14) (v := ?_) rfl (by kernel_rfl) (by kernel_rfl) (by kernel_rfl) (fun _ _ _ h => h) (by rfl) (fun w hSw => ?_) (by assumption) ?_; rotate_left 1; focus (((try dsimp only at hSw); first | (go_simp; done) | (go_simp; with_reducible rfl)))
          try simp only [Act.put, List.setIfInBounds_toArray, List.set_cons_zero, List.set_cons_succ]
          refine held_take (i := 15) (v := ?_) rfl (by kernel_rfl) (by kernel_rfl) (by kernel_rfl) (fun _ _ _ h => h) (by rfl) (fun w hSw => ?_) (by assumption) ?_; rotate_left 1; focus (((try dsimp only at hSw); first | (go_simp; done) | (go_simp; with_reducible rfl)))
          try simp only [Act.put, List.setIfInBounds_toArray, List.set_cons_zero, List.set_cons_succ]
          refine held_two (i := 2) (j := 16) (by kernel_rfl) rfl rfl (by rfl) (by rfl) (fun K hK => ?_) (fun K hK => ?_)
          · go_simp
            (go_at_call 49; ((with_reducible refine (P1.out _).mono ?_); rintro e u2 ⟨rfl, hb2⟩))
            have B2 := Lib.hid (below_of (w := V) B0.out hb2)
            clear hb2
            refine hK.out _ _ (SX.out _ B2.out) (fun hHeld => ?_)
            try simp only [Act.put, List.setIfInBounds_toArray, List.set_cons_zero, List.set_cons_succ]
            refine held_two (i := 7) (j := 16) (by kernel_rfl) rfl rfl (by rfl) (by rfl) (fun K hK => ?_) (fun K hK => ?_)
            · go_simp
              (go_at_call 50; ((with_reducible refine (P2.out _).mono ?_); rintro e u7 ⟨rfl, hb7⟩))
              have B7 := Lib.hid (below_of (w := V) B2.out hb7)
              clear hb7
              refine hK.out _ _ (SX.out _ B7.out) (fun hHeld => ?_)
              try simp only [Act.put, List.setIfInBounds_toArray, List.set_cons_zero, List.set_cons_succ]
              refine held_take (i := 8) (v := ?_) rfl (by kernel_rfl) (by kernel_rfl) (by kernel_rfl) (fun _ _ _ h => h) (by rfl) (fun w hSw => ?_) (by assumption) ?_; rotate_left 1; focus (((try dsimp only at hSw); first | (go_simp; done) | (go_simp; with_reducible rfl)))
              try simp only [Act.put, List.setIfInBounds_toArray, List.set_cons_zero, List.set_cons_succ]
              refine held_two (i := 11) (j := 16) (by kernel_rfl) rfl rfl (by rfl) (by rfl) (fun K hK => ?_) (fun K hK => ?_)
              · go_simp
                (go_at_call 49; ((with_reducible refine (P3.out _).mono ?_); rintro e u11 ⟨rfl, hb11⟩))
                have B11 := Lib.hid (below_of (w := V) B7.out hb11)
                clear hb11
                refine hK.out _ _ (SX.out _ B11.out) (fun hHeld => ?_)
                try simp only [Act.put, List.setIfInBounds_toArray, List.set_cons_zero, List.set_cons_succ]
                refine held_take (i := 12) (v := ?_) rfl (by kernel_rfl) (by kernel_rfl) (by kernel_rfl) (fun _ _ _ h => h) (by rfl) (fun w hSw => ?_) (by assumption) ?_; rotate_left 1; focus (((try dsimp only at hSw); first | (go_simp; done) | (go_simp; with_reducible rfl)))
                try simp only [Act.put, List.setIfInBounds_toArray, List.set_cons_zero, List.set_cons_succ]
                refine held_call (i := 16) (by kernel_rfl) rfl (by rfl) (fun K hK => ?_)
                go_simp
                have B16' := Lib.hid (below_of (w := V) B11.out (below_alloc u11 (.cells #[.int .u8 (k : Int)] 5)))
                have c17' : (u11.alloc (.cells #[.int .u8 (k : Int)] 5)).cell? ⟨u11.heap.size, 0, none⟩ = some (.int .u8 (k : Int)) := by rw [World.cell?_alloc_new]; rfl
                obtain ⟨u16, hu16⟩ := named (u11.alloc (.cells #[.int .u8 (k : Int)] 5))
                rw [← hu16.out] at B16' c17'
                have B16 := B16'
                have c17 := c17'
                clear B16' c17'
                refine hK.out _ _ (by rw [← hu16.out]; exact SX.out _ B16.out) (fun hHeld => ?_)
                rw [← hu16.out] at hHeld ⊢
                try simp only [Act.put, List.setIfInBounds_toArray, List.set_cons_zero, List.set_cons_succ]
                refine held_call (i := 17) (by kernel_rfl) rfl (by rfl) (fun K hK => ?_)
                go_simp
                clear c17
                refine hK.out _ _ hHeld (fun hHeld => ?_)
                try simp only [Act.put, List.setIfInBounds_toArray, List.set_cons_zero, List.set_cons_succ]
                refine held_take (i := 18) (v := ?_) rfl (by kernel_rfl) (by kernel_rfl) (by kernel_rfl) (fun _ _ _ h => h) (by rfl) (fun w hSw => ?_) (by assumption) ?_; rotate_left 1; focus (((try dsimp only at hSw); first | (go_simp; done) | (go_simp; with_reducible rfl)))
                try simp only [Act.put, List.setIfInBounds_toArray, List.set_cons_zero, List.set_cons_succ]
                refine held_take (i := 19) (v := ?_) rfl (by kernel_rfl) (by kernel_rfl) (by kernel_rfl) (fun _ _ _ h => h) (by rfl) (fun w hSw => ?_) (by assumption) ?_; rotate_left 1; focus (((try dsimp only at hSw); first | (go_simp; done) | (go_simp; with_reducible rfl)))
                try simp only [Act.put, List.setIfInBounds_toArray, List.set_cons_zero, List.set_cons_succ]
                refine wpAnyH_done (by kernel_rfl) ?_ _
                go_wp2_with fail
                go_meet
                exact ⟨rfl, hHeld.2.out⟩
              · go_simp
                have B16' := Lib.hid (below_of (w := V) B7.out (below_alloc u7 (.cells #[.int .u8 (k : Int)] 5)))
                have c17' : (u7.alloc (.cells #[.int .u8 (k : Int)] 5)).cell? ⟨u7.heap.size, 0, none⟩ = some (.int .u8 (k : Int)) := by rw [World.cell?_alloc_new]; rfl
                obtain ⟨u16, hu16⟩ := named (u7.alloc (.cells #[.int .u8 (k : Int)] 5))
                rw [← hu16.out] at B16' c17'
                have B16 := B16'
                have c17 := c17'
                clear B16' c17'
                refine hK.out _ _ (by rw [← hu16.out]; exact SX.out _ B16.out) (fun hHeld => ?_)
                rw [← hu16.out] at hHeld ⊢
                try simp only [Act.put, List.setIfInBounds_toArray, List.set_cons_zero, List.set_cons_succ]
                refine held_two (i := 11) (j := 17) (by kernel_rfl) rfl rfl (by rfl) (by rfl) (fun K hK => ?_) (fun K hK => ?_)
                · go_simp
                  (go_at_call 49; ((with_reducible refine (P3.out _).mono ?_); rintro e u11 ⟨rfl, hb11⟩))
                  have B11 := Lib.hid (below_of (w := V) B16.out hb11)
                  have c17 := cell_keep hb11 c17
                  clear hb11
                  refine hK.out _ _ (SX.out _ B11.out) (fun hHeld => ?_)
                  try simp only [Act.put, List.setIfInBounds_toArray, List.set_cons_zero, List.set_cons_succ]
                  refine held_take (i := 12) (v := ?_) rfl (by kernel_rfl) (by kernel_rfl) (by kernel_rfl) (fun _ _ _ h => h) (by rfl) (fun w hSw => ?_) (by assumption) ?_; rotate_left 1; focus (((try dsimp only at hSw); first | (go_simp; done) | (go_simp; with_reducible rfl)))
                  try simp only [Act.put, List.setIfInBounds_toArray, List.set_cons_zero, List.set_cons_succ]
                  refine held_call (i := 17) (by kernel_rfl) rfl (by rfl) (fun K hK => ?_)
                  go_simp
                  clear c17
                  refine hK.out _ _ hHeld (fun hHeld => ?_)
                  try simp only [Act.put, List.setIfInBounds_toArray, List.set_cons_zero, List.set_cons_succ]
                  refine held_take (i := 18) (v := ?_) rfl (by kernel_rfl) (by kernel_rfl) (by kernel_rfl) (fun _ _ _ h => h) (by rfl) (fun w hSw => ?_) (by assumption) ?_; rotate_left 1; focus (((try dsimp only at hSw); first | (go_simp; done) | (go_simp; with_reducible rfl)))
                  try simp only [Act.put, List.setIfInBounds_toArray, List.set_cons_zero, List.set_cons_succ]
                  refine held_take (i := 19) (v := ?_) rfl (by kernel_rfl) (by kernel_rfl) (by kernel_rfl) (fun _ _ _ h => h) (by rfl) (fun w hSw => ?_) (by assumption) ?_; rotate_left 1; focus (((try dsimp only at hSw); first | (go_simp; done) | (go_simp; with_reducible rfl)))
                  try simp only [Act.put, List.setIfInBounds_toArray, List.set_cons_zero, List.set_cons_succ]
                  refine wpAnyH_done (by kernel_rfl) ?_ _
                  go_wp2_with fail
                  go_meet
                  exact ⟨rfl, hHeld.2.out⟩
                · go_simp
                  clear c17
                  refine hK.out _ _ hHeld (fun hHeld => ?_)
                  try simp only [Act.put, List.setIfInBounds_toArray, List.set_cons_zero, List.set_cons_succ]
                  refine held_call (i := 11) (by kernel_rfl) rfl (by rfl) (fun K hK => ?_)
                  go_simp
                  (go_at_call 49; ((with_reducible refine (P3.out _).mono ?_); rintro e u11 ⟨rfl, hb11⟩))
                  have B11 := Lib.hid (below_of (w := V) B16.out hb11)
                  clear hb11
                  refine hK.out _ _ (SX.out _ B11.out) (fun hHeld => ?_)
                  try simp only [Act.put, List.setIfInBounds_toArray, List.set_cons_zero, List.set_cons_succ]
                  refine held_take (i := 12) (v := ?_) rfl (by kernel_rfl) (by kernel_rfl) (by kernel_rfl) (fun _ _ _ h => h) (by rfl) (fun w hSw => ?_) (by assumption) ?_; rotate_left 1; focus (((try dsimp only at hSw); first | (go_simp; done) | (go_simp; with_reducible rfl)))
                  try simp only [Act.put, List.setIfInBounds_toArray, List.set_cons_zero, List.set_cons_succ]
                  refine held_take (i := 18) (v := ?_) rfl (by kernel_rfl) (by kernel_rfl) (by kernel_rfl) (fun _ _ _ h => h) (by rfl) (fun w hSw => ?_) (by assumption) ?_; rotate_left 1; focus (((try dsimp only at hSw); first | (go_simp; done) | (go_simp; with_reducible rfl)))
                  try simp only [Act.put, List.setIfInBounds_toArray, List.set_cons_zero, List.set_cons_succ]
                  refine held_take (i := 19) (v := ?_) rfl (by kernel_rfl) (by kernel_rfl) (by kernel_rfl) (fun _ _ _ h => h) (by rfl) (fun w hSw => ?_) (by assumption) ?_; rotate_left 1; focus (((try dsimp only at hSw); first | (go_simp; done) | (go_simp; with_reducible rfl)))
                  try simp only [Act.put, List.setIfInBounds_toArray, List.set_cons_zero, List.set_cons_succ]
                  refine wpAnyH_done (by kernel_rfl) ?_ _
                  go_wp2_with fail
                  go_meet
                  exact ⟨rfl, hHeld.2.out⟩
            · go_simp
              have B16' := Lib.hid (below_of (w := V) B2.out (below_alloc u2 (.cells #[.int .u8 (k : Int)] 5)))
              have c17' : (u2.alloc (.cells #[.int .u8 (k : Int)] 5)).cell? ⟨u2.heap.size, 0, none⟩ = some (.int .u8 (k : Int)) := by rw [World.cell?_alloc_new]; rfl
              obtain ⟨u16, hu16⟩ := named (u2.alloc (.cells #[.int .u8 (k : Int)] 5))
              rw [← hu16.out] at B16' c17'
              have B16 := B16'
              have c17 := c17'
              clear B16' c17'
              refine hK.out _ _ (by rw [← hu16.out]; exact SX.out _ B16.out) (fun hHeld => ?_)
              rw [← hu16.out] at hHeld ⊢
              try simp only [Act.put, List.setIfInBounds_toArray, List.set_cons_zero, List.set_cons_succ]
              refine held_two (i := 7) (j := 17) (by kernel_rfl) rfl rfl (by rfl) (by rfl) (fun K hK => ?_) (fun K hK => ?_)
              · go_simp
                (go_at_call 50; ((with_reducible refine (P2.out _).mono ?_); rintro e u7 ⟨rfl, hb7⟩))
                have B7 := Lib.hid (below_of (w := V) B16.out hb7)
                have c17 := cell_keep hb7 c17
                clear hb7
                refine hK.out _ _ (SX.out _ B7.out) (fun hHeld => ?_)
                try simp only [Act.put, List.setIfInBounds_toArray, List.set_cons_zero, List.set_cons_succ]
                refine held_take (i := 8) (v := ?_) rfl (by kernel_rfl) (by kernel_rfl) (by kernel_rfl) (fun _ _ _ h => h) (by rfl) (fun w hSw => ?_) (by assumption) ?_; rotate_left 1; focus (((try dsimp only at hSw); first | (go_simp; done) | (go_simp; with_reducible rfl)))
                try simp only [Act.put, List.setIfInBounds_toArray, List.set_cons_zero, List.set_cons_succ]
                refine held_two (i := 11) (j := 17) (by kernel_rfl) rfl rfl (by rfl) (by rfl) (fun K hK => ?_) (fun K hK => ?_)
                · go_simp
                  (go_at_call 49; ((with_reducible refine (P3.out _).mono ?_); rintro e u11 ⟨rfl, hb11⟩))
                  have B11 := Lib.hid (below_of (w := V) B7.out hb11)
                  have c17 := cell_keep hb11 c17
                  clear hb11
                  refine hK.out _ _ (SX.out _ B11.out) (fun hHeld => ?_)
                  try simp only [Act.put, List.setIfInBounds_toArray, List.set_cons_zero, List.set_cons_succ]
                  refine held_take (i := 12) (v := ?_) rfl (by kernel_rfl) (by kernel_rfl) (by kernel_rfl) (fun _ _ _ h => h) (by rfl) (fun w hSw => ?_) (by assumption) ?_; rotate_left 1; focus (((try dsimp only at hSw); first | (go_simp; done) | (go_simp; with_reducible rfl)))
                  try simp only [Act.put, List.setIfInBounds_toArray, List.set_cons_zero, List.set_cons_succ]
                  refine held_call (i := 17) (by kernel_rfl) rfl (by rfl) (fun K hK => ?_)
                  go_simp
                  clear c17
                  refine hK.out _ _ hHeld (fun hHeld => ?_)
                  try simp only [Act.put, List.setIfInBounds_toArray, List.set_cons_zero, List.set_cons_succ]
                  refine held_take (i := 18) (v := ?_) rfl (by kernel_rfl) (by kernel_rfl) (by kernel_rfl) (fun _ _ _ h => h) (by rfl) (fun w hSw => ?_) (by assumption) ?_; rotate_left 1; focus (((try dsimp only at hSw); first | (go_simp; done) | (go_simp; with_reducible rfl)))
                  try simp only [Act.put, List.setIfInBounds_toArray, List.set_cons_zero, List.set_cons_succ]
                  refine held_take (i := 19) (v := ?_) rfl (by kernel_rfl) (by kernel_rfl) (by kernel_rfl) (fun _ _ _ h => h) (by rfl) (fun w hSw => ?_) (by assumption) ?_; rotate_left 1; focus (((try dsimp only at hSw); first | (go_simp; done) | (go_simp; with_reducible rfl)))
                  try simp only [Act.put, List.setIfInBounds_toArray, List.set_cons_zero, List.set_cons_succ]
                  refine wpAnyH_done (by kernel_rfl) ?_ _
                  go_wp2_with fail
                  go_meet
                  exact ⟨rfl, hHeld.2.out⟩
                · go_simp
                  clear c17
                  refine hK.out _ _ hHeld (fun hHeld => ?_)
                  try simp only [Act.put, List.setIfInBounds_toArray, List.set_cons_zero, List.set_cons_succ]
                  refine held_call (i := 11) (by kernel_rfl) rfl (by rfl) (fun K hK => ?_)
                  go_simp
                  (go_at_call 49; ((with_reducible refine (P3.out _).mono ?_); rintro e u11 ⟨rfl, hb11⟩))
                  have B11 := Lib.hid (below_of (w := V) B7.out hb11)
                  clear hb11
                  refine hK.out _ _ (SX.out _ B11.out) (fun hHeld => ?_)
                  try simp only [Act.put, List.setIfInBounds_toArray, List.set_cons_zero, List.set_cons_succ]
                  refine held_take (i := 12) (v := ?_) rfl (by kernel_rfl) (by kernel_rfl) (by kernel_rfl) (fun _ _ _ h => h) (by rfl) (fun w hSw => ?_) (by assumption) ?_; rotate_left 1; focus (((try dsimp only at hSw); first | (go_simp; done) | (go_simp; with_reducible rfl)))
                  try simp only [Act.put, List.setIfInBounds_toArray, List.set_cons_zero, List.set_cons_succ]
                  refine held_take (i := 18) (v := ?_) rfl (by kernel_rfl) (by kernel_rfl) (by kernel_rfl) (fun _ _ _ h => h) (by rfl) (fun w hSw => ?_) (by assumption) ?_; rotate_left 1; focus (((try dsimp only at hSw); first | (go_simp; done) | (go_simp; with_reducible rfl)))
                  try simp only [Act.put, List.setIfInBounds_toArray, List.set_cons_zero, List.set_cons_succ]
                  refine held_take (i := 19) (v := ?_) rfl (by kernel_rfl) (by kernel_rfl) (by kernel_rfl) (fun _ _ _ h => h) (by rfl) (fun w hSw => ?_) (by assumption) ?_; rotate_left 1; focus (((try dsimp only at hSw); first | (go_simp; done) | (go_simp; with_reducible rfl)))
                  try simp only [Act.put, List.setIfInBounds_toArray, List.set_cons_zero, List.set_cons_succ]
                  refine wpAnyH_done (by kernel_rfl) ?_ _
                  go_wp2_with fail
                  go_meet
                  exact ⟨rfl, hHeld.2.out⟩
              · go_simp
                clear c17
                refine hK.out _ _ hHeld (fun hHeld => ?_)
                try simp only [Act.put, List.setIfInBounds_toArray, List.set_cons_zero, List.set_cons_succ]
                refine held_call (i := 7) (by kernel_rfl) rfl (by rfl) (fun K hK => ?_)
                go_simp
                (go_at_call 50; ((with_reducible refine (P2.out _).mono ?_); rintro e u7 ⟨rfl, hb7⟩))
                have B7 := Lib.hid (below_of (w := V) B16.out hb7)
                clear hb7
                refine hK.out _ _ (SX.out _ B7.out) (fun hHeld => ?_)
                try simp only [Act.put, List.setIfInBounds_toArray, List.set_cons_zero, List.set_cons_succ]
                refine held_take (i := 8) (v := ?_) rfl (by kernel_rfl) (by kernel_rfl) (by kernel_rfl) (fun _ _ _ h => h) (by rfl) (fun w hSw => ?_) (by assumption) ?_; rotate_left 1; focus (((try dsimp only at hSw); first | (go_simp; done) | (go_simp; with_reducible rfl)))
                try simp only [Act.put, List.setIfInBounds_toArray, List.set_cons_zero, List.set_cons_succ]
                refine held_call (i := 11) (by kernel_rfl) rfl (by rfl) (fun K hK => ?_)
                go_simp
                (go_at_call 49; ((with_reducible refine (P3.out _).mono ?_); rintro e u11 ⟨rfl, hb11⟩))
                have B11 := Lib.hid (below_of (w := V) B7.out hb11)
                clear hb11
                refine hK.out _ _ (SX.out _ B11.out) (fun hHeld => ?_)
                try simp only [Act.put, List.setIfInBounds_toArray, List.set_cons_zero, List.set_cons_succ]
                refine held_take (i := 12) (v := ?_) rfl (by kernel_rfl) (by kernel_rfl) (by kernel_rfl) (fun _ _ _ h => h) (by rfl) (fun w hSw => ?_) (by assumption) ?_; rotate_left 1; focus (((try dsimp only at hSw); first | (go_simp; done) | (go_simp; with_reducible rfl)))
                try simp only [Act.put, List.setIfInBounds_toArray, List.set_cons_zero, List.set_cons_succ]
                refine held_take (i := 18) (v := ?_) rfl (by kernel_rfl) (by kernel_rfl) (by kernel_rfl) (fun _ _ _ h => h) (by rfl) (fun w hSw => ?_) (by assumption) ?_; rotate_left 1; focus (((try dsimp only at hSw); first | (go_simp; done) | (go_simp; with_reducible rfl)))
                try simp only [Act.put, List.setIfInBounds_toArray, List.set_cons_zero, List.set_cons_succ]
                refine held_take (i := 19) (v := ?_) rfl (by kernel_rfl) (by kernel_rfl) (by kernel_rfl) (fun _ _ _ h => h) (by rfl) (fun w hSw => ?_) (by assumption) ?_; rotate_left 1; focus (((try dsimp only at hSw); first | (go_simp; done) | (go_simp; with_reducible rfl)))
                try simp only [Act.put, List.setIfInBounds_toArray, List.set_cons_zero, List.set_cons_succ]
                refine wpAnyH_done (by kernel_rfl) ?_ _
                go_wp2_with fail
                go_meet
                exact ⟨rfl, hHeld.2.out⟩
          · go_simp
            have B16' := Lib.hid (below_alloc V (.cells #[.int .u8 (k : Int)] 5)).drew
            have c17' : (V.alloc (.cells #[.int .u8 (k : Int)] 5)).drew.cell? ⟨V.heap.size, 0, none⟩ = some (.int .u8 (k : Int)) := by show (V.alloc (.cells #[.int .u8 (k : Int)] 5)).cell? _ = _; rw [World.cell?_alloc_new]; rfl
            obtain ⟨u16, hu16⟩ := named (V.alloc (.cells #[.int .u8 (k : Int)] 5)).drew
            rw [← hu16.out] at B16' c17'
            have B16 := B16'
            have c17 := c17'
            clear B16' c17'
            refine hK.out _ _ (by rw [← hu16.out]; exact SX.out _ B16.out) (fun hHeld => ?_)
            rw [← hu16.out] at hHeld ⊢
            try simp only [Act.put, List.setIfInBounds_toArray, List.set_cons_zero, List.set_cons_succ]
            refine held_two (i := 2) (j := 17) (by kernel_rfl) rfl rfl (by rfl) (by rfl) (fun K hK => ?_) (fun K hK => ?_)
            · go_simp
              (go_at_call 49; ((with_reducible refine (P1.out _).mono ?_); rintro e u2 ⟨rfl, hb2⟩))
              have B2 := Lib.hid (below_of (w := V) B16.out hb2)
              have c17 := cell_keep hb2 c17
              clear hb2
              refine hK.out _ _ (SX.out _ B2.out) (fun hHeld => ?_)
              try simp only [Act.put, List.setIfInBounds_toArray, List.set_cons_zero, List.set_cons_succ]
              refine held_two (i := 7) (j := 17) (by kernel_rfl) rfl rfl (by rfl) (by rfl) (fun K hK => ?_) (fun K hK => ?_)
              · go_simp
                (go_at_call 50; ((with_reducible refine (P2.out _).mono ?_); rintro e u7 ⟨rfl, hb7⟩))
                have B7 := Lib.hid (below_of (w := V) B2.out hb7)
                have c17 := cell_keep hb7 c17
                clear hb7
                refine hK.out _ _ (SX.out _ B7.out) (fun hHeld => ?_)
                try simp only [Act.put, List.setIfInBounds_toArray, List.set_cons_zero, List.set_cons_succ]
                refine held_take (i := 8) (v := ?_) rfl (by kernel_rfl) (by kernel_rfl) (by kernel_rfl) (fun _ _ _ h => h) (by rfl) (fun w hSw => ?_) (by assumption) ?_; rotate_left 1; focus (((try dsimp only at hSw); first | (go_simp; done) | (go_simp; with_reducible rfl)))
                try simp only [Act.put, List.setIfInBounds_toArray, List.set_cons_zero, List.set_cons_succ]
                refine held_two (i := 11) (j := 17) (by kernel_rfl) rfl rfl (by rfl) (by rfl) (fun K hK => ?_) (fun K hK => ?_)
                · go_simp
                  (go_at_call 49; ((with_reducible refine (P3.out _).mono ?_); rintro e u11 ⟨rfl, hb11⟩))
                  have B11 := Lib.hid (below_of (w := V) B7.out hb11)
                  have c17 := cell_keep hb11 c17
                  clear hb11
                  refine hK.out _ _ (SX.out _ B11.out) (fun hHeld => ?_)
                  try simp only [Act.put, List.setIfInBounds_toArray, List.set_cons_zero, List.set_cons_succ]
                  refine held_take (i := 12) (v := ?_) rfl (by kernel_rfl) (by kernel_rfl) (by kernel_rfl) (fun _ _ _ h => h) (by rfl) (fun w hSw => ?_) (by assumption) ?_; rotate_left 1; focus (((try dsimp only at hSw); first | (go_simp; done) | (go_simp; with_reducible rfl)))
                  try simp only [Act.put, List.setIfInBounds_toArray, List.set_cons_zero, List.set_cons_succ]
                  refine held_call (i := 17) (by kernel_rfl) rfl (by rfl) (fun K hK => ?_)
                  go_simp
                  clear c17
                  refine hK.out _ _ hHeld (fun hHeld => ?_)
                  try simp only [Act.put, List.setIfInBounds_toArray, List.set_cons_zero, List.set_cons_succ]
                  refine held_take (i := 18) (v := ?_) rfl (by kernel_rfl) (by kernel_rfl) (by kernel_rfl) (fun _ _ _ h => h) (by rfl) (fun w hSw => ?_) (by assumption) ?_; rotate_left 1; focus (((try dsimp only at hSw); first | (go_simp; done) | (go_simp; with_reducible rfl)))
                  try simp only [Act.put, List.setIfInBounds_toArray, List.set_cons_zero, List.set_cons_succ]
                  refine held_take (i := 19) (v := ?_) rfl (by kernel_rfl) (by kernel_rfl) (by kernel_rfl) (fun _ _ _ h => h) (by rfl) (fun w hSw => ?_) (by assumption) ?_; rotate_left 1; focus (((try dsimp only at hSw); first | (go_simp; done) | (go_simp; with_reducible rfl)))
                  try simp only [Act.put, List.setIfInBounds_toArray, List.set_cons_zero, List.set_cons_succ]
                  refine wpAnyH_done (by kernel_rfl) ?_ _
                  go_wp2_with fail
                  go_meet
                  exact ⟨rfl, hHeld.2.out⟩
                · go_simp
                  clear c17
                  refine hK.out _ _ hHeld (fun hHeld => ?_)
                  try simp only [Act.put, List.setIfInBounds_toArray, List.set_cons_zero, List.set_cons_succ]
                  refine held_call (i := 11) (by kernel_rfl) rfl (by rfl) (fun K hK => ?_)
                  go_simp
                  (go_at_call 49; ((with_reducible refine (P3.out _).mono ?_); rintro e u11 ⟨rfl, hb11⟩))
                  have B11 := Lib.hid (below_of (w := V) B7.out hb11)
                  clear hb11
                  refine hK.out _ _ (SX.out _ B11.out) (fun hHeld => ?_)
                  try simp only [Act.put, List.setIfInBounds_toArray, List.set_cons_zero, List.set_cons_succ]
                  refine held_take (i := 12) (v := ?_) rfl (by kernel_rfl) (by kernel_rfl) (by kernel_rfl) (fun _ _ _ h => h) (by rfl) (fun w hSw => ?_) (by assumption) ?_; rotate_left 1; focus (((try dsimp only at hSw); first | (go_simp; done) | (go_simp; with_reducible rfl)))
                  try simp only [Act.put, List.setIfInBounds_toArray, List.set_cons_zero, List.set_cons_succ]
                  refine held_take (i := 18) (v := ?_) rfl (by kernel_rfl) (by kernel_rfl) (by kernel_rfl) (fun _ _ _ h => h) (by rfl) (fun w hSw => ?_) (by assumption) ?_; rotate_left 1; focus (((try dsimp only at hSw); first | (go_simp; done) | (go_simp; with_reducible rfl)))
                  try simp only [Act.put, List.setIfInBounds_toArray, List.set_cons_zero, List.set_cons_succ]
                  refine held_take (i := 19) (v := ?_) rfl (by kernel_rfl) (by kernel_rfl) (by kernel_rfl) (fun _ _ _ h => h) (by rfl) (fun w hSw => ?_) (by assumption) ?_; rotate_left 1; focus (((try dsimp only at hSw); first | (go_simp; done) | (go_simp; with_reducible rfl)))
                  try simp only [Act.put, List.setIfInBounds_toArray, List.set_cons_zero, List.set_cons_succ]
                  refine wpAnyH_done (by kernel_rfl) ?_ _
                  go_wp2_with fail
                  go_meet
                  exact ⟨rfl, hHeld.2.out⟩
              · go_simp
                clear c17
                refine hK.out _ _ hHeld (fun hHeld => ?_)
                try simp only [Act.put, List.setIfInBounds_toArray, List.set_cons_zero, List.set_cons_succ]
                refine held_call (i := 7) (by kernel_rfl) rfl (by rfl) (fun K hK => ?_)
                go_simp
                (go_at_call 50; ((with_reducible refine (P2.out _).mono ?_); rintro e u7 ⟨rfl, hb7⟩))
                have B7 := Lib.hid (below_of (w := V) B2.out hb7)
                clear hb7
                refine hK.out _ _ (SX.out _ B7.out) (fun hHeld => ?_)
                try simp only [Act.put, List.setIfInBounds_toArray, List.set_cons_zero, List.set_cons_succ]
                refine held_take (i := 8) (v := ?_) rfl (by kernel_rfl) (by kernel_rfl) (by kernel_rfl) (fun _ _ _ h => h) (by rfl) (fun w hSw => ?_) (by assumption) ?_; rotate_left 1; focus (((try dsimp only at hSw); first | (go_simp; done) | (go_simp; with_reducible rfl)))
                try simp only [Act.put, List.setIfInBounds_toArray, List.set_cons_zero, List.set_cons_succ]
                refine held_call (i := 11) (by kernel_rfl) rfl (by rfl) (fun K hK => ?_)
                go_simp
                (go_at_call 49; ((with_reducible refine (P3.out _).mono ?_); rintro e u11 ⟨rfl, hb11⟩))
                have B11 := Lib.hid (below_of (w := V) B7.out hb11)
                clear hb11
                refine hK.out _ _ (SX.out _ B11.out) (fun hHeld => ?_)
                try simp only [Act.put, List.setIfInBounds_toArray, List.set_cons_zero, List.set_cons_succ]
                refine held_take (i := 12) (v := ?_) rfl (by kernel_rfl) (by kernel_rfl) (by kernel_rfl) (fun _ _ _ h => h) (by rfl) (fun w hSw => ?_) (by assumption) ?_; rotate_left 1; focus (((try dsimp only at hSw); first | (go_simp; done) | (go_simp; with_reducible rfl)))
                try simp only [Act.put, List.setIfInBounds_toArray, List.set_cons_zero, List.set_cons_succ]
                refine held_take (i := 18) (v := ?_) rfl (by kernel_rfl) (by kernel_rfl) (by kernel_rfl) (fun _ _ _ h => h) (by rfl) (fun w hSw => ?_) (by assumption) ?_; rotate_left 1; focus (((try dsimp only at hSw); first | (go_simp; done) | (go_simp; with_reducible rfl)))
                try simp only [Act.put, List.setIfInBounds_toArray, List.set_cons_zero, List.set_cons_succ]
                refine held_take (i := 19) (v := ?_) rfl (by kernel_rfl) (by kernel_rfl) (by kernel_rfl) (fun _ _ _ h => h) (by rfl) (fun w hSw => ?_) (by assumption) ?_; rotate_left 1; focus (((try dsimp only at hSw); first | (go_simp; done) | (go_simp; with_reducible rfl)))
                try simp only [Act.put, List.setIfInBounds_toArray, List.set_cons_zero, List.set_cons_succ]
                refine wpAnyH_done (by kernel_rfl) ?_ _
                go_wp2_with fail
                go_meet
                exact ⟨rfl, hHeld.2.out⟩
            · go_simp
              clear c17
              refine hK.out _ _ hHeld (fun hHeld => ?_)
              try simp only [Act.put, List.setIfInBounds_toArray, List.set_cons_zero, List.set_cons_succ]
              refine held_call (i := 2) (by kernel_rfl) rfl (by rfl) (fun K hK => ?_)
              go_simp
              (go_at_call 49; ((with_reducible refine (P1.out _).mono ?_); rintro e u2 ⟨rfl, hb2⟩))
              have B2 := Lib.hid (below_of (w := V) B16.out hb2)
              clear hb2
              refine hK.out _ _ (SX.out _ B2.out) (fun hHeld => ?_)
              try simp only [Act.put, List.setIfInBounds_toArray, List.set_cons_zero, List.set_cons_succ]
              refine held_call (i := 7) (by kernel_rfl) rfl (by rfl) (fun K hK => ?_)
              go_simp
              (go_at_call 50; ((with_reducible refine (P2.out _).mono ?_); rintro e u7 ⟨rfl, hb7⟩))
              have B7 := Lib.hid (below_of (w := V) B2.out hb7)
              clear hb7
              refine hK.out _ _ (SX.out _ B7.out) (fun hHeld => ?_)
              try simp only [Act.put, List.setIfInBounds_toArray, List.set_cons_zero, List.set_cons_succ]
              refine held_take (i := 8) (v := ?_) rfl (by kernel_rfl) (by kernel_rfl) (by kernel_rfl) (fun _ _ _ h => h) (by rfl) (fun w hSw => ?_) (by assumption) ?_; rotate_left 1; focus (((try dsimp only at hSw); first | (go_simp; done) | (go_simp; with_reducible rfl)))
              try simp only [Act.put, List.setIfInBounds_toArray, List.set_cons_zero, List.set_cons_succ]
              refine held_call (i := 11) (by kernel_rfl) rfl (by rfl) (fun K hK => ?_)
              go_simp
              (go_at_call 49; ((with_reducible refine (P3.out _).mono ?_); rintro e u11 ⟨rfl, hb11⟩))
              have B11 := Lib.hid (below_of (w := V) B7.out hb11)
              clear hb11
              refine hK.out _ _ (SX.out _ B11.out) (fun hHeld => ?_)
              try simp only [Act.put, List.setIfInBounds_toArray, List.set_cons_zero, List.set_cons_succ]
              refine held_take (i := 12) (v := ?_) rfl (by kernel_rfl) (by kernel_rfl) (by kernel_rfl) (fun _ _ _ h => h) (by rfl) (fun w hSw => ?_) (by assumption) ?_; rotate_left 1; focus (((try dsimp only at hSw); first | (go_simp; done) | (go_simp; with_reducible rfl)))
              try simp only [Act.put, List.setIfInBounds_toArray, List.set_cons_zero, List.set_cons_succ]
              refine held_take (i := 18) (v := ?_) rfl (by kernel_rfl) (by kernel_rfl) (by kernel_rfl) (fun _ _ _ h => h) (by rfl) (fun w hSw => ?_) (by assumption) ?_; rotate_left 1; focus (((try dsimp only at hSw); first | (go_simp; done) | (go_simp; with_reducible rfl)))
              try simp only [Act.put, List.setIfInBounds_toArray, List.set_cons_zero, List.set_cons_succ]
              refine held_take (i := 19) (v := ?_) rfl (by kernel_rfl) (by kernel_rfl) (by kernel_rfl) (fun _ _ _ h => h) (by rfl) (fun w hSw => ?_) (by assumption) ?_; rotate_left 1; focus (((try dsimp only at hSw); first | (go_simp; done) | (go_simp; with_reducible rfl)))
              try simp only [Act.put, List.setIfInBounds_toArray, List.set_cons_zero, List.set_cons_succ]
              refine wpAnyH_done (by kernel_rfl) ?_ _
              go_wp2_with fail
              go_meet
              exact ⟨rfl, hHeld.2.out⟩
        case rest =>
          obtain ⟨rfl, hc2⟩ := hcut
          have WX := Lib.hid (WV.out.trans (hc2.mono WV.out.size))
          obtain ⟨x0, x1, x2, x3⟩ := (XV.out.below hc2).c4
          clear XV hc2 B0 SX
          rcases hk12 with rfl | rfl
          · have hV3 := Lib.hid (hV1.out rfl)
            go_wp2_with (go_at_call 50; ((with_reducible refine (PV.out _).mono ?_); rintro e u9 ⟨rfl, hb9⟩))
            go_returns
            exact ⟨by rw [hE.out, hV3.out]; simp only [← List.append_assoc, ← cat_ba]; rfl, below_of WX.out hb9⟩
          · have hV3 := Lib.hid (hV2.out (by decide))
            go_wp2_with fail
            go_returns
            exact ⟨by rw [hE.out, hV3.out, List.append_nil]; simp only [← List.append_assoc, ← cat_ba]; rfl, WX.out⟩
end Go.Proofs.Ytnmlifagchdphaa
