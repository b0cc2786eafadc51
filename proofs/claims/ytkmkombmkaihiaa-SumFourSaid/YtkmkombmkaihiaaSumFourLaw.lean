/-
  Sums go with exclusive or: three texts cut to one length, and the fourth that makes each bit even, have four sums that are 0 together (SumFour). No condition.
-/
import Derived.Test.YtkmkombmkaihiaaSumAwake
import Derived.Test.YtkmkombmkaihiaaSumMath2
import Derived.Test.YtkmkombmkaihiaaHolds
import Derived.RegionTactic
import Derived.BigRegion
import Derived.ChangeAlike
import Derived.WalkLawsBesides
import Derived.Deep.RegionHeld3
import Derived.Deep.DrawnRows
namespace Go.Proofs.Ytkmkombmkaihiaa
open Go.RowKit
theorem info8 : (Try.prog.info? 5).map (fun i => (i.zero, i.size, i.bytes)) = some (some (.int .u8 0), 1, 1) := by kernel_rfl
/-- What the loop has filled in behind i rounds. -/
def filled (D : List UInt8) (i : Nat) : List UInt8 := D.take i ++ List.replicate (D.length - i) 0
theorem filled_length (D : List UInt8) (i : Nat) (h : i ≤ D.length) : (filled D i).length = D.length := by
  unfold filled; rw [List.length_append, List.length_take, List.length_replicate]; omega
theorem filled_set (D : List UInt8) (i : Nat) (y : UInt8) (hy : D[i]? = some y) : (filled D i).set i y = filled D (i + 1) := by
  obtain ⟨h, rfl⟩ := List.getElem?_eq_some_iff.1 hy
  unfold filled
  have e1 : D.length - i = (D.length - (i + 1)) + 1 := by omega
  have e2 : (D.take i).length = i := by rw [List.length_take]; omega
  rw [List.set_append_right _ _ (by omega), e2, Nat.sub_self, e1, List.replicate_succ, List.set_cons_zero, List.take_succ_eq_append_getElem h, List.append_assoc]
  rfl
theorem odd_length (a b c : ByteArray) (n : Nat) (hna : n ≤ a.size) (hnb : n ≤ b.size) (hnc : n ≤ c.size) : (Crc.odd (a.extract 0 n).data.toList (b.extract 0 n).data.toList (c.extract 0 n).data.toList).length = n := by
  unfold Crc.odd; simp; omega
theorem odd_at (a b c : ByteArray) (n i : Nat) (hi : i < n) (hna : n ≤ a.size) (hnb : n ≤ b.size) (hnc : n ≤ c.size) (ja : i < a.size) (jb : i < b.size) (jc : i < c.size) :
    (Crc.odd (a.extract 0 n).data.toList (b.extract 0 n).data.toList (c.extract 0 n).data.toList)[i]? = some (a[i] ^^^ b[i] ^^^ c[i]) := by
  have e : ∀ (x : ByteArray), n ≤ x.size → ∀ (j : i < x.size), (x.extract 0 n).data.toList[i]? = some x[i] := by
    intro x hx j
    have h1 : i < (x.extract 0 n).data.size := by
      have : (x.extract 0 n).data.size = (x.extract 0 n).size := rfl
      rw [this, ByteArray.size_extract]; omega
    rw [Array.getElem?_toList, Array.getElem?_eq_getElem h1]
    congr 1
    have := ByteArray.getElem_extract (b := x) (start := 0) (stop := n) (i := i) h1
    simp at this
    exact this
  unfold Crc.odd
  rw [List.getElem?_zipWith, List.getElem?_zipWith, e a hna ja, e b hnb jb, e c hnc jc]
theorem filled_all (D : List UInt8) : filled D D.length = D := by unfold filled; simp
set_option maxHeartbeats 2000000 in
theorem four_at (a b c : ByteArray) (ha : a.size ≤ reachBytes) (hb : b.size ≤ reachBytes) (hc : c.size ≤ reachBytes) (n : Nat) (hn : n = min a.size (min b.size c.size)) (w : World) :
    Calls Try.prog 7 #[.string a, .string b, .string c] w fun e w' => e = .returned (.bool true) ∧ Below w.heap.size w w' := by
  unfold reachBytes at ha hb hc
  obtain ⟨i0, hi, hz0, hz1, hz2⟩ := info_parts info8
  have hna : n ≤ a.size := by omega
  have hnb : n ≤ b.size := by omega
  have hnc : n ≤ c.size := by omega
  have hmk : ∀ u : World, (Instr.makeSlice 29 (.int .i64 (n : Int)) (.int .i64 (n : Int))).run Try.prog u =
      .ok (.slice (some ⟨u.heap.size, 0, none⟩) n n) (u.alloc (.cells (madeCells #[.int .u8 0] n) 5)) := fun u => by
    have h := run_make (P := Try.prog) u 29 5 i0 (.int .u8 0) Try.underlying29 hi hz0 .i64 .i64 (n : Int) (n : Int) (by omega) (Int.le_refl _) (by rw [hz2]; omega) (by omega)
    simpa [hz1, Value.cells] using h
  clear hi hz0 hz1 hz2
  have hmin : ∀ (ts : Array TypeId) (t : TypeId) (u : World), (Builtin.min_ ts t #[.int .i64 (a.size : Int), .int .i64 (b.size : Int), .int .i64 (c.size : Int)]).run Try.prog u = .ok (.int .i64 (n : Int)) u := by
    intro ts t u
    rw [run_min_int3]
    have e : (if (c.size : Int) < (if (b.size : Int) < a.size then (b.size : Int) else a.size) then (c.size : Int) else (if (b.size : Int) < a.size then (b.size : Int) else a.size)) = (n : Int) := by
      split <;> split at * <;> omega
    rw [e]
  clear hn
  go_enter Try.func7, Try.ntmps7
  go_wp2
  obtain ⟨D, hD⟩ := named (Crc.odd (a.extract 0 n).data.toList (b.extract 0 n).data.toList (c.extract 0 n).data.toList)
  have HDl : Hid (D.length = n) := Lib.hid (by rw [hD.out]; exact odd_length a b c n hna hnb hnc)
  go_loopw [9] (fun d wr => ∃ i : Nat, i ≤ n ∧ d = .int .i64 i ∧ Holds8 wr w.heap.size (filled D i) ∧ Below w.heap.size w wr ∧ w.heap.size < wr.heap.size) (fun d _ => n - (intOf d).toNat)
  case atStart => exact ⟨0, by omega, rfl, by unfold filled; rw [HDl.out]; exact holds8_zeros w n, below_alloc _ _, by simp⟩
  case round =>
    obtain ⟨i, hi, rfl, hh, hbe, hsz⟩ := hrel
    by_cases hlt : i < n
    · have hq : i < (filled D i).length := by rw [filled_length _ _ (by rw [HDl.out]; omega), HDl.out]; exact hlt
      obtain ⟨hx1, hx2⟩ := hh i hq
      obtain ⟨x, hX⟩ := named ((filled D i)[i])
      rw [← hX.out] at hx1
      have HH := Lib.hid hh
      have i1 : (i : Int) < a.size := by omega
      have i2 : (i : Int) < b.size := by omega
      have i3 : (i : Int) < c.size := by omega
      have i4 : (0 : Int) ≤ (i : Int) := by omega
      have j1 : i < a.size := by omega
      have j2 : i < b.size := by omega
      have j3 : i < c.size := by omega
      clear hh
      go_wp2
      go_region
      go_wp2
      go_roundw
      case rel =>
        refine ⟨i + 1, by omega, by go_num, ?_, (hbe.setCell (by simp) _).drew, by simpa using hsz⟩
        rw [xor8_byte, xor8_byte, ← filled_set D i (a[i] ^^^ b[i] ^^^ c[i]) (by rw [hD.out]; exact odd_at a b c n i hlt hna hnb hnc _ _ _)]
        exact holds8_set HH.out i hq _
      case measure => simp [intOf]; omega
    · have hin : i = n := by omega
      subst hin
      have hfull : filled D i = D := by rw [← HDl.out]; exact filled_all D
      rw [hfull] at hh
      have hcv := fun (u : World) (h : Holds8 u w.heap.size D) => holds8_text (w := u) h i i HDl.out
      have la : ∀ x : ByteArray, i ≤ x.size → x.size ≤ 140737488351232 → (x.extract 0 i).size ≤ maxLen := by
        intro x h1 h2; rw [ByteArray.size_extract]; unfold maxLen; omega
      obtain ⟨m1, hM1⟩ := named (Crc.more 0#32 (a.extract 0 i).data.toList)
      obtain ⟨m2, hM2⟩ := named (Crc.more 0#32 (b.extract 0 i).data.toList)
      obtain ⟨m3, hM3⟩ := named (Crc.more 0#32 (c.extract 0 i).data.toList)
      obtain ⟨m4, hM4⟩ := named (Crc.more 0#32 D)
      have D1 : Hid (∀ u, Calls Try.prog 11 #[.string (a.extract 0 i)] u fun e w' => e = .returned (.int .u32 (m1.toNat : Int)) ∧ ∃ x, w' = u.alloc (.cells #[.int .u32 x] 22)) := Lib.hid (by
        intro u; rw [hM1.out]; exact (of_any _ u (la a hna ha)).mono fun e w' ⟨h, h'⟩ => ⟨h, _, h'⟩)
      have D2 : Hid (∀ u, Calls Try.prog 11 #[.string (b.extract 0 i)] u fun e w' => e = .returned (.int .u32 (m2.toNat : Int)) ∧ ∃ x, w' = u.alloc (.cells #[.int .u32 x] 22)) := Lib.hid (by
        intro u; rw [hM2.out]; exact (of_any _ u (la b hnb hb)).mono fun e w' ⟨h, h'⟩ => ⟨h, _, h'⟩)
      have D3 : Hid (∀ u, Calls Try.prog 11 #[.string (c.extract 0 i)] u fun e w' => e = .returned (.int .u32 (m3.toNat : Int)) ∧ ∃ x, w' = u.alloc (.cells #[.int .u32 x] 22)) := Lib.hid (by
        intro u; rw [hM3.out]; exact (of_any _ u (la c hnc hc)).mono fun e w' ⟨h, h'⟩ => ⟨h, _, h'⟩)
      have D4 : Hid (∀ u, Calls Try.prog 11 #[.string ⟨D.toArray⟩] u fun e w' => e = .returned (.int .u32 (m4.toNat : Int)) ∧ ∃ x, w' = u.alloc (.cells #[.int .u32 x] 22)) := Lib.hid (by
        intro u; rw [hM4.out]; exact (of_any ⟨D.toArray⟩ u (by show D.toArray.size ≤ _; rw [List.size_toArray, HDl.out]; unfold maxLen; omega)).mono fun e w' ⟨h, h'⟩ => ⟨h, _, h'⟩)
      have hz : (bits .xor .u32 (bits .xor .u32 (bits .xor .u32 (m1.toNat : Int) (m2.toNat : Int)) (m3.toNat : Int)) (m4.toNat : Int) == 0) = true := by
        rw [xor_bv, xor_bv, xor_bv, hM1.out, hM2.out, hM3.out, hM4.out, hD.out, Crc.more_four _ _ _ _ (by simp; omega) (by simp; omega)]
        rfl
      have i1 : (i : Int) ≤ a.size := by omega
      have i2 : (i : Int) ≤ b.size := by omega
      have i3 : (i : Int) ≤ c.size := by omega
      have i4 : (0 : Int) ≤ (i : Int) := by omega
      have hcw := hcv wr hh
      clear hfull la
      have HC := Lib.hid hcv
      have HH := Lib.hid hh
      clear hcv hh hmk hmin
      go_wp2
      go_region_held3 (fun u => (convert 29 9 (.slice (some ⟨w.heap.size, 0, none⟩) i i)).run Try.prog u = .ok (.string ⟨D.toArray⟩) u)
        (first | with_reducible exact hcw | (refine HC.out _ ?_; repeat (first | with_reducible exact HH.out | with_reducible apply holds8_drew | with_reducible refine holds8_alloc ?_ (by first | exact hsz | (simp; omega)) _ | with_reducible refine holds8_below hg (by first | exact hsz | (simp; omega)) ?_)))
        (first
          | (go_at_call 11; ((with_reducible refine (D1.out _).mono ?_); rintro e w' ⟨rfl, x1, rfl⟩))
          | (go_at_call 11; ((with_reducible refine (D2.out _).mono ?_); rintro e w' ⟨rfl, x2, rfl⟩))
          | (go_at_call 11; ((with_reducible refine (D3.out _).mono ?_); rintro e w' ⟨rfl, x3, rfl⟩))
          | (go_at_call 11; ((with_reducible refine (D4.out _).mono ?_); rintro e w' ⟨rfl, x4, rfl⟩))
          | (go_at_call 15; refine (awake_any _).mono ?_; rintro e w' ⟨rfl, hg⟩))
      all_goals go_wp2
      all_goals go_ret
      all_goals exact ⟨rfl, hbe.trans ((below_of (by repeat (first | exact Below.refl _ _ | apply Below.drew | refine Below.alloc ?_ (by simp; try omega) _)) hg).mono (by omega))⟩
theorem sumFour_walk (a : ByteArray) (ha : a.size ≤ reachBytes) (b : ByteArray) (hb : b.size ≤ reachBytes) (c : ByteArray) (hc : c.size ≤ reachBytes) (w : World) :
    Calls Try.prog 7 #[.string a, .string b, .string c] w fun e w' => e = .returned (.bool true) ∧ Below w.heap.size w w' :=
  four_at a b c ha hb hc _ rfl w
--LAW freshetlaw01.SumFour sumFour_walk string:a string:b string:c
--BEGIN
namespace SumFourProof
open Go.ChangeShapes Go.WideShapes Go.ChangeAt Go.RowKit
open Go.ChangeMaps (open_string shut_string)
theorem own : ownKnob Try.prog.godebug = none := by kernel_rfl
set_option maxRecDepth 100000 in
theorem lifted (os : Os) (started : os.Started) (H : Type) (enc : TypeId × Value → H) :
    ReturnsInHanded {} Try.checked os 7 .any (Rows.sumFourSpec.pre6 enc Try.prog Try.f7 Rows.sumFourRow.domain false) (Rows.sumFourSpec.post enc Try.prog Try.f7 false true false false) := by
  refine returnsInHanded_of_change_sized (C := Try.checked) own started (by kernel_rfl) Try.func7
    (ChangeSpec.witness6 (enc := enc) (C := Try.checked) false ⟨#[], #[.string .empty, .string .empty, .string .empty], []⟩ 8 (by kernel_rfl) (by kernel_rfl) (by kernel_rfl) (by kernel_rfl)) ?_
  intro W base args ds gs before hval0 hW _ hsz _
  have hval : ∀ (j : Nat) t v, Try.f7.params[j]? = some t → args[j]? = some v → Value.okWide Try.prog W .any base t v := hval0
  have hW' := hW
  obtain ⟨p, q, hA0, hV, rfl, hfz, hnd⟩ := hW
  have hA : DataW.TrodAll enc Try.prog W 0 (fun _ => true) true Try.f7.params.toList args.toList ds p := hA0
  rw [Try.params7] at hA hval hsz
  obtain ⟨v0, vs0, d0, ds0, p0, q0, hargs, rfl, rfl, h0, r0⟩ := trodAll_cons hA
  obtain ⟨v1, vs1, d1, ds1, p1, q1, rfl, rfl, rfl, h1, r1⟩ := trodAll_cons r0
  obtain ⟨v2, vs2, d2, ds2, p2, q2, rfl, rfl, rfl, h2, r2⟩ := trodAll_cons r1
  obtain ⟨rfl, rfl, rfl⟩ := trodAll_nil r2
  obtain rfl : args = #[v0, v1, v2] := by cases args; simp_all
  obtain ⟨rfl, rfl⟩ := trodVars_none hV
  obtain ⟨a, rfl, rfl, rfl, m0⟩ := open_string Try.underlying9 (hval 0 9 v0 rfl rfl) h0
  obtain ⟨b, rfl, rfl, rfl, m1⟩ := open_string Try.underlying9 (hval 1 9 v1 rfl rfl) h1
  obtain ⟨c, rfl, rfl, rfl, m2⟩ := open_string Try.underlying9 (hval 2 9 v2 rfl rfl) h2
  have z0 : a.size ≤ reachBytes := by have := sized_string hsz (j := 0) (t := 9) (bytes := a.data.toList) rfl rfl; simpa using this
  have z1 : b.size ≤ reachBytes := by have := sized_string hsz (j := 1) (t := 9) (bytes := b.data.toList) rfl rfl; simpa using this
  have z2 : c.size ≤ reachBytes := by have := sized_string hsz (j := 2) (t := 9) (bytes := c.data.toList) rfl rfl; simpa using this
  clear hA0 hval0
  simp only [List.append_nil] at hW'
  refine (sumFour_walk a z0 b z1 c z2 W).mono fun e W' ⟨he, hg⟩ => ?_
  subst he
  exact ⟨_, rfl, _, _, _, [], [], [], hW', (trodAll_cons_mk (shut_bool Try.underlying4 _) trodAll_mk0), (trodAll_cons_mk (shut_string Try.underlying9 m0) (trodAll_cons_mk (shut_string Try.underlying9 m1) (trodAll_cons_mk (shut_string Try.underlying9 m2) trodAll_mk0))), rfl, hg.frame _, fun h => by cases h⟩
theorem holds : Rows.SumFourSaid :=
  OpenClaim.holds_of_wide 7 Try.f7 rfl rfl rfl rfl rfl rfl rfl ⟨rfl, rfl, rfl, rfl, rfl⟩ rfl rfl rfl rfl rfl (by kernel_rfl) Try.func7 (by kernel_rfl)
    (of_decide_eq_true (by kernel_rfl)) (by unfold Func.isWrapper; first | (rw [if_pos (by decide +kernel)]; kernel_rfl) | (rw [if_neg (by decide +kernel)]; exact ⟨rfl, rfl⟩))
    (fun os started H enc _ => lifted os started H enc)
end SumFourProof
--END
end Go.Proofs.Ytkmkombmkaihiaa
