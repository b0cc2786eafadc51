/-
  P10.5: a filter of which all bits are ones has every key, and one of which none is has no key. Condition: 8 to 300 bytes, 1 to 22 probes, at most 300 bytes of the key (else the law is its own check).
-/
import Derived.Test.YtccdbodemoefkaaDoorBloomRefHas
import Derived.Test.YtccdbodemoefkaaDoorLaidOut
import Derived.Test.YtccdbodemoefkaaDoorCard
import Derived.Laws.EntriesVeiled
namespace Go.Proofs.YtccdbodemoefkaaDoor
set_option maxRecDepth 100000
open Go.RowKit
theorem join_text (c : UInt8) (l : List UInt8) : (ByteArray.mk #[c]) ++ (ByteArray.mk l.toArray) = ⟨(c :: l).toArray⟩ := by
  apply ByteArray.ext
  rw [ByteArray.data_append]
  simp
theorem holds8_only (w : World) (c : UInt8) (t : TypeId) : Holds8 (w.alloc (.cells #[.int .u8 (c.toNat : Int)] t)) w.heap.size [c] := by
  intro q hq
  have h0 : q = 0 := by simp at hq; omega
  subst h0
  exact ⟨by rw [World.cell?_alloc_new]; rfl, World.frozen?_alloc_at _ _ _ _ rfl⟩
/-- A filter's text, as bytes. -/
def plainT (c : UInt8) (n : Nat) (b : UInt8) : ByteArray := ⟨(c :: List.replicate n b).toArray⟩
theorem plainT_list (c : UInt8) (n : Nat) (b : UInt8) : (plainT c n b).data.toList = c :: List.replicate n b := by unfold plainT; simp
theorem plainT_ok (c : UInt8) (n : Nat) (b : UInt8) (h1 : 8 ≤ n) (h2 : n ≤ 300) (c1 : 1 ≤ c.toNat) (c2 : c.toNat ≤ 22) : Blm.okB (plainT c n b).data.toList = true := by
  unfold Blm.okB
  rw [plainT_list, List.headD_cons, List.length_cons, List.length_replicate]
  simp
  omega
theorem plainT_ones (c : UInt8) (n : Nat) (b : UInt8) (h1 : 8 ≤ n) (h2 : n ≤ 300) (c1 : 1 ≤ c.toNat) (c2 : c.toNat ≤ 22) : Blm.onesB (plainT c n b).data.toList = n * Blm.pop b := by
  unfold Blm.onesB
  rw [if_pos (plainT_ok c n b h1 h2 c1 c2), plainT_list, List.tail_cons, Blm.ones_replicate]
theorem plainT_has (c : UInt8) (n : Nat) (b : UInt8) (h1 : 8 ≤ n) (h2 : n ≤ 300) (c1 : 1 ≤ c.toNat) (c2 : c.toNat ≤ 22) (key : List UInt8) : Blm.hasB (plainT c n b).data.toList key = Blm.hasK (8 * n) (List.replicate n b) key c.toNat := by
  unfold Blm.hasB
  rw [if_pos (plainT_ok c n b h1 h2 c1 c2), plainT_list, List.tail_cons, List.headD_cons, List.length_cons, List.length_replicate]
  rfl
theorem plainT_size (c : UInt8) (n : Nat) (b : UInt8) : (plainT c n b).size = n + 1 := by rw [← okB_size, plainT_list]; simp
theorem fullL_other (p : Int) (hp : (Lit.int .u8 p).wf = true) (n : Int) (key : ByteArray) (h : n < 8 ∨ 300 < n ∨ p < 1 ∨ 22 < p ∨ 300 < key.size) (w : World) :
    Calls Tryd.prog 5 #[.int .u8 p, .int .i64 n, .string key] w fun e w' => e = .returned (.bool true) ∧ Below w.heap.size w w' := by
  have AW := Lib.hid (fun u : World => awake_any u)
  by_cases c1 : n < 8
  · go_enter Tryd.func5, Tryd.ntmps5
    go_wp2_with (go_at_call 6; (with_reducible refine (AW.out _).mono ?_); rintro e w1 ⟨rfl, b1⟩)
    go_returns
    exact ⟨rfl, b1⟩
  have j1 : 8 ≤ n := by omega
  by_cases c2 : 300 < n
  · go_enter Tryd.func5, Tryd.ntmps5
    go_wp2_with (go_at_call 6; (with_reducible refine (AW.out _).mono ?_); rintro e w1 ⟨rfl, b1⟩)
    go_returns
    exact ⟨rfl, b1⟩
  have j2 : n ≤ 300 := by omega
  by_cases c3 : p < 1
  · go_enter Tryd.func5, Tryd.ntmps5
    go_wp2_with (go_at_call 6; (with_reducible refine (AW.out _).mono ?_); rintro e w1 ⟨rfl, b1⟩)
    go_returns
    exact ⟨rfl, b1⟩
  have j3 : 1 ≤ p := by omega
  by_cases c4 : 22 < p
  · go_enter Tryd.func5, Tryd.ntmps5
    go_wp2_with (go_at_call 6; (with_reducible refine (AW.out _).mono ?_); rintro e w1 ⟨rfl, b1⟩)
    go_returns
    exact ⟨rfl, b1⟩
  have j4 : p ≤ 22 := by omega
  have j5 : (300 : Int) < (key.size : Int) := by omega
  go_enter Tryd.func5, Tryd.ntmps5
  go_wp2_with (go_at_call 6; (with_reducible refine (AW.out _).mono ?_); rintro e w1 ⟨rfl, b1⟩)
  go_returns
  exact ⟨rfl, b1⟩
/-- The bytes that are ones already. -/
def halfL (n i : Nat) : List UInt8 := List.replicate i 255 ++ List.replicate (n - i) 0
theorem halfL_len (n i : Nat) (h : i ≤ n) : (halfL n i).length = n := by simp [halfL]; omega
theorem halfL_set (n i : Nat) (h : i < n) : (halfL n i).set i 255 = halfL n (i + 1) := by
  unfold halfL
  rw [List.set_append_right _ _ (by simp), List.length_replicate, Nat.sub_self, show n - i = (n - (i + 1)) + 1 by omega, List.replicate_succ, List.set_cons_zero, List.replicate_succ' (n := i), List.append_assoc]
  rfl
/-- The two blocks: the one that is filled with ones, and the one that stays. -/
structure Pairs (w0 : World) (g1 g2 n i : Nat) (w : World) : Prop where
  below : Below w0.heap.size w0 w
  ones : Holds8 w g1 (halfL n i)
  zero : Holds8 w g2 (List.replicate n 0)
  apart : g1 ≠ g2
  lo1 : w0.heap.size ≤ g1
  lo2 : w0.heap.size ≤ g2
  lt1 : g1 < w.heap.size
  lt2 : g2 < w.heap.size
theorem halfL_zero (n : Nat) : halfL n 0 = List.replicate n 0 := by simp [halfL]
theorem halfL_all (n : Nat) : halfL n n = List.replicate n 255 := by simp [halfL]
theorem pairs_new (w : World) (n : Nat) : let W := ((w.alloc (.cells (madeCells #[.int .u8 0] n) 5)).alloc (.cells (madeCells #[.int .u8 0] n) 5)).drew
    Pairs w w.heap.size (w.heap.size + 1) n 0 W ∧ Pairs w (w.heap.size + 1) w.heap.size n 0 W := by
  have z1 := holds8_alloc (holds8_zeros w n) (by simp) (.cells (madeCells #[.int .u8 0] n) 5)
  have z2 := holds8_zeros (w.alloc (.cells (madeCells #[.int .u8 0] n) 5)) n
  rw [World.size_alloc] at z2
  have zb := (below_of (below_alloc w (.cells (madeCells #[.int .u8 0] n) 5)) (below_alloc _ (.cells (madeCells #[.int .u8 0] n) 5))).drew
  have s : ((w.alloc (.cells (madeCells #[.int .u8 0] n) 5)).alloc (.cells (madeCells #[.int .u8 0] n) 5)).drew.heap.size = w.heap.size + 2 := by
    show ((w.alloc _).alloc _).heap.size = _
    simp
  exact ⟨⟨zb, by rw [halfL_zero]; exact z1, z2, by omega, by omega, by omega, by rw [s]; omega, by rw [s]; omega⟩, ⟨zb, by rw [halfL_zero]; exact z2, z1, by omega, by omega, by omega, by rw [s]; omega, by rw [s]; omega⟩⟩
theorem Pairs.put {w0 w : World} {g1 g2 n i : Nat} (h : Pairs w0 g1 g2 n i w) (hi : i < n) : Pairs w0 g1 g2 n (i + 1) (w.setCell ⟨g1, i, none⟩ (.int .u8 255)) := by
  have hs := holds8_set h.ones i (by rw [halfL_len _ _ (by omega)]; exact hi) 255
  rw [halfL_set n i hi] at hs
  refine ⟨h.below.setCell h.lo1 _, hs, fun q hq => ?_, h.apart, h.lo1, h.lo2, by simpa using h.lt1, by simpa using h.lt2⟩
  have := h.zero q hq
  exact ⟨by rw [World.cell?_setCell_other _ _ _ _ (by simp; intro e; exact absurd e h.apart)]; exact this.1, (World.frozen?_setCell _ _ _ _).trans this.2⟩
set_option maxHeartbeats 8000000 in
theorem fullL_good (c : UInt8) (c1 : 1 ≤ c.toNat) (c2 : c.toNat ≤ 22) (n : Nat) (n1 : 8 ≤ n) (n2 : n ≤ 300) (key : ByteArray) (hk : key.size ≤ 300) (w : World) (htab : Tab w) :
    Calls Tryd.prog 5 #[.int .u8 (c.toNat : Int), .int .i64 (n : Int), .string key] w fun e w' => e = .returned (.bool true) ∧ Below w.heap.size w w' := by
  have AW := Lib.hid (fun u : World => awake_any u)
  have HB := Lib.hid htab
  obtain ⟨i0, hi, hz0, hz1, hz2⟩ := info_parts info8b
  have hmk : ∀ u : World, (Instr.makeSlice 31 (.int .i64 (n : Int)) (.int .i64 (n : Int))).run Tryd.prog u =
      .ok (.slice (some ⟨u.heap.size, 0, none⟩) n n) (u.alloc (.cells (madeCells #[.int .u8 0] n) 5)) := fun u => by
    have h := run_make (P := Tryd.prog) u 31 5 i0 (.int .u8 0) Tryd.underlying31 hi hz0 .i64 .i64 (n : Int) (n : Int) (by omega) (Int.le_refl _) (by rw [hz2]; omega) (by omega)
    simpa [hz1, Value.cells] using h
  clear hi hz0 hz1 hz2 htab
  have k1 : (key.size : Int) ≤ 300 := by omega
  go_enter Tryd.func5, Tryd.ntmps5
  go_upto_region 3 with fail
  go_cut [7, 8] from 33 to 36 (fun x y wc => ∃ g1 g2, x = .slice (some ⟨g1, 0, none⟩) n n ∧ y = .slice (some ⟨g2, 0, none⟩) n n ∧ Hid (Pairs w g1 g2 n 0 wc))
  case first =>
    have PN := Lib.hid (pairs_new w n)
    go_region
    · go_wp2_with fail
      go_meet
      exact ⟨_, _, rfl, rfl, Lib.hid PN.out.1⟩
    · go_wp2_with fail
      go_meet
      exact ⟨_, _, rfl, rfl, Lib.hid PN.out.2⟩
  case rest =>
  obtain ⟨g1, g2, rfl, rfl, hP⟩ := hcut
  clear hmk
  go_wp2
  go_loopw [9] (fun d wr => ∃ i : Nat, i ≤ n ∧ d = .int .i64 i ∧ Hid (Pairs w g1 g2 n i wr)) (fun d _ => n - (intOf d).toNat)
  case atStart => exact ⟨0, by omega, rfl, hP⟩
  case round =>
    obtain ⟨i, hi, rfl, hQ⟩ := hrel
    by_cases hlt : i < n
    · obtain ⟨x1, x2⟩ := hQ.out.ones i (by rw [halfL_len _ _ hi]; exact hlt)
      have HN := Lib.hid (hQ.out.put hlt)
      have r1 : (i : Int) < (n : Int) := by omega
      have r2 : (0 : Int) ≤ (i : Int) := by omega
      go_wp2
      go_roundw
      case rel => exact ⟨i + 1, by omega, by go_num, HN⟩
      case measure => simp [intOf]; omega
    · obtain rfl : i = n := by omega
      have o1 := holds8_text (holds8_only wr c 5) 1 1 rfl
      have Q1 := hQ.out.ones
      rw [halfL_all] at Q1
      have y1 := holds8_text (holds8_drew (holds8_alloc Q1 hQ.out.lt1 (.cells #[.int .u8 (c.toNat : Int)] 5))) i i (by simp)
      have y2 := holds8_text (holds8_drew (holds8_alloc hQ.out.zero hQ.out.lt2 (.cells #[.int .u8 (c.toNat : Int)] 5))) i i (by simp)
      have hB := Lib.hid (below_of hQ.out.below (below_alloc wr (.cells #[.int .u8 (c.toNat : Int)] 5))).drew
      have t1 : ByteArray.mk #[c] ++ ByteArray.mk (List.replicate i 255).toArray = plainT c i 255 := join_text c _
      have t2 : ByteArray.mk #[c] ++ ByteArray.mk (List.replicate i 0).toArray = plainT c i 0 := join_text c _
      have P1 : Hid (∀ u : World, Calls Tryd.prog 9 #[.string (plainT c i 255), .string key] u fun e w' => e = .returned (.bool true) ∧ Below u.heap.size u w') := Lib.hid fun u => by
        have h := has_any (plainT c i 255) key (by rw [plainT_size]; unfold maxLen; omega) (by unfold maxLen; omega) u
        rw [plainT_has c i 255 n1 n2 c1 c2, Blm.has_all _ _ (by omega)] at h
        exact h
      have P2 : Hid (∀ u : World, Calls Tryd.prog 9 #[.string (plainT c i 0), .string key] u fun e w' => e = .returned (.bool false) ∧ Below u.heap.size u w') := Lib.hid fun u => by
        have h := has_any (plainT c i 0) key (by rw [plainT_size]; unfold maxLen; omega) (by unfold maxLen; omega) u
        rw [plainT_has c i 0 n1 n2 c1 c2, Blm.has_none _ _ c1] at h
        exact h
      have P3 : Hid (∀ u : World, Tab u → Calls Tryd.prog 11 #[.string (plainT c i 255)] u fun e w' => e = .returned (.int .i64 (8 * (i : Int))) ∧ Below u.heap.size u w') := Lib.hid fun u hu => by
        have h := ones_any (plainT c i 255) (by rw [plainT_size]; unfold maxLen; omega) u hu
        rw [plainT_ones c i 255 n1 n2 c1 c2, show ((i * Blm.pop 255 : Nat) : Int) = 8 * (i : Int) by rw [show Blm.pop 255 = 8 from rfl]; omega] at h
        exact h
      have P4 : Hid (∀ u : World, Tab u → Calls Tryd.prog 11 #[.string (plainT c i 0)] u fun e w' => e = .returned (.int .i64 0) ∧ Below u.heap.size u w') := Lib.hid fun u hu => by
        have h := ones_any (plainT c i 0) (by rw [plainT_size]; unfold maxLen; omega) u hu
        rw [plainT_ones c i 0 n1 n2 c1 c2, show ((i * Blm.pop 0 : Nat) : Int) = 0 by rw [show Blm.pop 0 = 0 from rfl]; omega] at h
        exact h
      have P5 : Hid (∀ u : World, Calls Tryd.prog 7 #[.string (plainT c i 255)] u fun e w' => e = .returned (.int .i64 0) ∧ w' = u) := Lib.hid fun u => by
        have h := check_any (plainT c i 255) (by rw [plainT_size]; unfold maxLen; omega) u
        rw [plainT_ok c i 255 n1 n2 c1 c2] at h
        exact h
      have z1 : (ByteArray.mk (List.replicate i (255 : UInt8)).toArray).size = i := by show (List.replicate i (255 : UInt8)).toArray.size = i; simp
      have z2 : (ByteArray.mk (List.replicate i (0 : UInt8)).toArray).size = i := by show (List.replicate i (0 : UInt8)).toArray.size = i; simp
      have z0 : (ByteArray.mk #[c]).size = 1 := rfl
      clear Q1 hQ hP
      go_upto_region 9 with fail
      generalize (wr.alloc (.cells #[.int .u8 (c.toNat : Int)] 5)) = W1 at y1 y2 hB ⊢
      generalize ByteArray.mk (List.replicate i (255 : UInt8)).toArray = T1 at y1 t1 z1
      generalize ByteArray.mk (List.replicate i (0 : UInt8)).toArray = T0 at y2 t2 z2
      generalize ByteArray.mk #[c] = TC at t1 t2 z0 ⊢
      generalize plainT c i 255 = F1 at t1 P1 P3 P5
      generalize plainT c i 0 = F0 at t2 P2 P4
      go_region
      clear t1 t2 y1 y2
      go_wp2_with (first
        | (go_at_call 9; (with_reducible refine (P1.out _).mono ?_); rintro e w3 ⟨rfl, b3⟩; have B3 := Lib.hid (hB.out.trans (b3.mono hB.out.size)))
        | (go_at_call 9; (with_reducible refine (P2.out _).mono ?_); rintro e w4 ⟨rfl, b4⟩; have B4 := Lib.hid (B3.out.trans (b4.mono B3.out.size)))
        | (go_at_call 11; (with_reducible refine (P3.out _ (HB.out.below B4.out (Nat.le_refl _))).mono ?_); rintro e w5 ⟨rfl, b5⟩; have B5 := Lib.hid (B4.out.trans (b5.mono B4.out.size)))
        | (go_at_call 11; (with_reducible refine (P4.out _ (HB.out.below B5.out (Nat.le_refl _))).mono ?_); rintro e w6 ⟨rfl, b6⟩; have B6 := Lib.hid (B5.out.trans (b6.mono B5.out.size)))
        | (go_at_call 7; (with_reducible refine (P5.out _).mono ?_); rintro e w7 ⟨rfl, rfl⟩)
        | (go_at_call 6; (with_reducible refine (AW.out _).mono ?_); rintro e w8 ⟨rfl, b8⟩)
        | fail "no arm")
      go_returns
      exact ⟨rfl, B6.out.trans (b8.mono B6.out.size)⟩
theorem fullL_walk (p : Int) (hp : (Lit.int .u8 p).wf = true) (n : Int) (_ : (Lit.int .i64 n).wf = true) (key : ByteArray) (_ : key.size ≤ reachBytes) (w : World) (ht : Tab w) :
    Calls Tryd.prog 5 #[.int .u8 p, .int .i64 n, .string key] w fun e w' => e = .returned (.bool true) ∧ Below w.heap.size w w' := by
  by_cases h : n < 8 ∨ 300 < n ∨ p < 1 ∨ 22 < p ∨ 300 < key.size
  · exact fullL_other p hp n key h w
  · obtain ⟨k, rfl⟩ : ∃ k : Nat, n = (k : Int) := ⟨n.toNat, by omega⟩
    obtain ⟨c, rfl⟩ := u8_byte hp
    exact fullL_good c (by omega) (by omega) k (by omega) (by omega) key (by omega) w ht
--CARDTAB freshetlaw10.BloomFull fullL_walk uint8:p int:n string:key
--BEGIN
namespace BloomFullProof
open Go.ChangeShapes Go.WideShapes Go.ChangeAt Go.RowKit
open Go.ChangeMaps (open_string shut_string)
theorem own : ownKnob Tryd.prog.godebug = none := by kernel_rfl
theorem reads (os : Os) {H : Type} (enc : TypeId × Value → H) : ∃ places, DataW.whole enc Tryd.prog ((World.laidAll Tryd.prog os Rows.bloomFullRow.laid).forCall (fun _ _ => 0) ⟨#[], #[.int .u8 0, .int .i64 0, .string .empty], []⟩).memory Tryd.f5.params.toList Rows.bloomFullSpec.vars false (#[.int .u8 0, .int .i64 0, .string .empty] : Array Value).toList 8 = some ([.lit (.int .u8 0), .lit (.int .i64 0), .lit (.string [])], [], places) :=
  ⟨[], by kernel_rfl⟩
theorem laid_met (os : Os) (args : Array Value) : laidMetH Tryd.prog Rows.bloomFullRow.laid ((World.laidAll Tryd.prog os Rows.bloomFullRow.laid).forCall (fun _ _ => 0) ⟨#[], args, []⟩).memory := by
  rw [MakeChecks.laidMetH_plain _ _ _ (by kernel_rfl)]; exact laidMet_laidAll _ (by kernel_rfl) (by kernel_rfl)
set_option maxRecDepth 100000 in
theorem lifted (os : Os) (started : os.Started) (H : Type) (enc : TypeId × Value → H) (F : Stop.Interp) :
    ReturnsInHanded {} Tryd.checked os 5 .any ((OpenSpec.ofChange Rows.bloomFullSpec).preRow enc Tryd.prog Tryd.f5 Rows.bloomFullRow.domain false Rows.bloomFullRow.laid) (((OpenSpec.ofChange Rows.bloomFullSpec).at F).post enc Tryd.prog Tryd.f5 false true false false) := by
  obtain ⟨places, hx⟩ := reads os enc
  refine returnsInHanded_of_row (C := Tryd.checked) (s := OpenSpec.ofChange Rows.bloomFullSpec) own started (by kernel_rfl) Tryd.func5
    (witness_row_shaped (enc := enc) (C := Tryd.checked) false (World.laidAll Tryd.prog os Rows.bloomFullRow.laid) #[.int .u8 0, .int .i64 0, .string .empty] (World.laidAll_os _ _ _) (World.shaped_of_ZipB (by kernel_rfl) (by kernel_rfl)) (by kernel_rfl)
      (OpenSpec.preRow_of_cond 8 hx (by kernel_rfl) (fun k hk => by cases hk) (by kernel_rfl) (laid_met os _))) ?_
  intro W base args ds gs before hval0 hW _ hcond hsz hlaid hsh _
  have hval : ∀ (j : Nat) t v, Tryd.f5.params[j]? = some t → args[j]? = some v → Value.okWide Tryd.prog W .any base t v := hval0
  have hW' := hW
  obtain ⟨p, q, hA0, hV, rfl, hfz, hnd⟩ := hW
  have hA : DataW.TrodAll enc Tryd.prog W 0 (fun _ => true) true Tryd.f5.params.toList args.toList ds p := hA0
  rw [Tryd.params5] at hA hval hsz
  obtain ⟨v0, vs0, d0, ds0, p0, q0, hargs, rfl, rfl, h0, r0⟩ := trodAll_cons hA
  obtain ⟨v1, vs1, d1, ds1, p1, q1, rfl, rfl, rfl, h1, r1⟩ := trodAll_cons r0
  obtain ⟨v2, vs2, d2, ds2, p2, q2, rfl, rfl, rfl, h2, r2⟩ := trodAll_cons r1
  obtain ⟨rfl, rfl, rfl⟩ := trodAll_nil r2
  obtain rfl : args = #[v0, v1, v2] := by cases args; simp_all
  obtain ⟨rfl, rfl⟩ := trodVars_none hV
  obtain ⟨p, rfl, rfl, rfl, m0⟩ := open_int Tryd.underlying5 (hval 0 5 v0 rfl rfl) h0
  obtain ⟨n, rfl, rfl, rfl, m1⟩ := open_int Tryd.underlying3 (hval 1 3 v1 rfl rfl) h1
  obtain ⟨key, rfl, rfl, rfl, m2⟩ := open_string Tryd.underlying9 (hval 2 9 v2 rfl rfl) h2
  have z2 : key.size ≤ reachBytes := by have := sized_string hsz (j := 2) (t := 9) (bytes := key.data.toList) rfl rfl; simpa using this
  clear hA0 hval0
  simp only [List.append_nil] at hW'
  have hmx := tab_laid (w := W) hlaid
  refine (fullL_walk p m0 n m1 key z2 W hmx).mono fun e W' ⟨he, hg⟩ => ?_
  subst he
  exact ⟨_, rfl, _, _, _, [], [], [], hW', (trodAll_cons_mk (shut_bool Tryd.underlying4 _) trodAll_mk0), (trodAll_cons_mk (shut_int Tryd.underlying5 m0) (trodAll_cons_mk (shut_int Tryd.underlying3 m1) (trodAll_cons_mk (shut_string Tryd.underlying9 m2) trodAll_mk0))), rfl, hg.frame _, fun h => by cases h⟩
theorem said : Rows.BloomFullSaid :=
  OpenClaim.holds_of_cond 5 Tryd.f5 rfl rfl rfl rfl rfl rfl rfl ⟨rfl, rfl, rfl, rfl, rfl⟩ rfl rfl rfl rfl rfl (by kernel_rfl) Tryd.func5 (by kernel_rfl)
    (of_decide_eq_true (by kernel_rfl)) (by unfold Func.isWrapper; first | (rw [if_pos (by decide +kernel)]; kernel_rfl) | (rw [if_neg (by decide +kernel)]; exact ⟨rfl, rfl⟩))
    (fun os started H enc _ F => by rw [OpenClaim.pre_eq_preRow]; exact lifted os started H enc F)
theorem plain (f : FuncId) (fn : Func) (hf : Tryd.pinned.checked.prog.funcNamed "freshet/freshetlaw10.BloomFull" = some f) (hfn : Tryd.pinned.checked.prog.funcs[f]? = some fn) :
    false = Tryd.pinned.checked.prog.looks [] ∧ ∀ (j : Nat) t, fn.params[j]? = some t → Tryd.pinned.checked.prog.wantsStandIn t = false := by
  obtain rfl : f = 5 := Option.some.inj ((show Tryd.prog.funcNamed "freshet/freshetlaw10.BloomFull" = some 5 by kernel_rfl).symm.trans hf) |>.symm
  obtain rfl : fn = Tryd.f5 := (Option.some.inj (Tryd.func5.symm.trans hfn)).symm
  refine ⟨by kernel_rfl, fun j t ht => ?_⟩
  rw [Tryd.params5] at ht
  have hm : t ∈ ([5, 3, 9] : List Nat) := by simpa using Array.mem_of_getElem? ht
  have hall : (([5, 3, 9] : List Nat).all fun u => !Tryd.prog.wantsStandIn u) = true := by kernel_rfl
  exact (show Tryd.prog.wantsStandIn t = false by simpa using List.all_eq_true.1 hall t hm)
theorem holds : Rows.BloomFullCardSaid :=
  Claim7.holds_tied_plain_at .later [] _ _ _ _ said (fun _ h => by cases h) (by kernel_rfl) (fun _ h => by cases h) bloomFull_row_tie rfl ⟨rfl, rfl⟩ (by kernel_rfl) rfl plain (by kernel_rfl)
end BloomFullProof
--END
end Go.Proofs.YtccdbodemoefkaaDoor
