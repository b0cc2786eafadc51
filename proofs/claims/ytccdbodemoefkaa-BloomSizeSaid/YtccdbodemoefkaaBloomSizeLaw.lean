/-
  P10.5: what is made is a filter's text, as long as it must be, with its probes. Condition: at most 400 keys (else the law is its own check).
-/
import Derived.Test.YtccdbodemoefkaaBloomText
import Derived.Test.YtccdbodemoefkaaLaidOut
import Derived.Laws.EntriesVeiled
import Derived.Test.YtccdbodemoefkaaSliceArg
namespace Go.Proofs.Ytccdbodemoefkaa
set_option maxRecDepth 100000
open Go.RowKit
theorem size_other (a : Option Addr) (n c : Nat) (bits : Int) (h : 400 < n ∨ bits < 1 ∨ 32 < bits) (w : World) :
    Calls Try.prog 5 #[.slice a n c, .int .i64 bits] w fun e w' => e = .returned (.bool true) ∧ Below w.heap.size w w' := by
  by_cases c1 : 400 < n
  · have i1 : (400 : Int) < (n : Int) := by omega
    go_enter Try.func5, Try.ntmps5
    go_wp2_with (go_at_call 6; (with_reducible refine (awake_any _).mono ?_); rintro e w1 ⟨rfl, b1⟩)
    go_returns
    exact ⟨rfl, b1⟩
  · have i1 : (n : Int) ≤ 400 := by omega
    by_cases c2 : bits < 1
    · go_enter Try.func5, Try.ntmps5
      go_wp2_with (go_at_call 6; (with_reducible refine (awake_any _).mono ?_); rintro e w1 ⟨rfl, b1⟩)
      go_returns
      exact ⟨rfl, b1⟩
    · have c3 : 32 < bits := by omega
      have c4 : 1 ≤ bits := by omega
      go_enter Try.func5, Try.ntmps5
      go_wp2_with (go_at_call 6; (with_reducible refine (awake_any _).mono ?_); rintro e w1 ⟨rfl, b1⟩)
      go_returns
      exact ⟨rfl, b1⟩
set_option maxHeartbeats 1000000 in
theorem size_good (a : Option Addr) (n c b o : Nat) (X : List ByteArray) (bits : Nat) (hn : n ≤ 400) (hb1 : 1 ≤ bits) (hb2 : bits ≤ 32) (w : World) (ht : TextsAt a n c b o X w) (hX : ∀ x ∈ X, x.size ≤ maxLen) :
    Calls Try.prog 5 #[.slice a n c, .int .i64 (bits : Int)] w fun e w' => e = .returned (.bool true) ∧ Below w.heap.size w w' := by
  have hXn : X.length = n := ht.len
  have M := make_calls bits hb1 hb2 a n c b o X w ht hX (by omega)
  have hmul : n * bits ≤ 400 * 32 := Nat.mul_le_mul hn hb2
  have hok := mkT_ok X bits hb2 (by omega)
  have hs := mkT_size X bits
  have h0 : 0 < (mkT X bits).size := by omega
  have hh := mkT_head X bits hb2 h0
  have hw1 := Blm.wide_le n bits (by omega) hb2
  rw [hXn] at hs
  have hw : Hid (Blm.wide n bits = (max 64 (n * bits) + 7) / 8) := Lib.hid (by unfold Blm.wide; omega)
  obtain ⟨W8, hW8⟩ := named (Blm.wide n bits)
  obtain ⟨K, hK⟩ := named (Blm.probes bits)
  obtain ⟨P, hP⟩ := named (n * bits)
  obtain ⟨T, hT⟩ := named (mkT X bits)
  have CC : Hid (∀ u : World, Calls Try.prog 9 #[.string T] u fun e w' => e = .returned (.int .i64 0) ∧ w' = u) := Lib.hid fun u => by
    have h := check_any T (by unfold maxLen; rw [hT.out]; omega) u
    rw [show Blm.okB T.data.toList = true by rw [hT.out]; exact hok] at h
    exact h
  simp only [← hT.out] at M h0 hh
  rw [← hT.out, ← hW8.out] at hs
  rw [← hK.out] at hh
  rw [← hP.out] at hmul
  have hPi : (n : Int) * (bits : Int) = (P : Int) := by rw [hP.out]; push_cast; rfl
  obtain ⟨V, hV⟩ := named (max 64 P)
  have e1 : ∀ (ts : Array TypeId) (t : TypeId) (u : World), (Builtin.max_ ts t #[.int .i64 64, .int .i64 (P : Int)]).run Try.prog u = .ok (.int .i64 (V : Int)) u := by
    intro ts t u
    rw [run_max_int2, hV.out]
    have e : (if (P : Int) > 64 then (P : Int) else 64) = ((max 64 P : Nat) : Int) := by split <;> omega
    rw [e]
  have e2 : ∀ (ts : Array TypeId) (t : TypeId) (u : World), (Builtin.max_ ts t #[.int .i64 1, .int .i64 ((bits : Int) * 7 / 10)]).run Try.prog u = .ok (.int .i64 (K : Int)) u := by
    intro ts t u
    rw [run_max_int2, hK.out]
    have e : (if (bits : Int) * 7 / 10 > 1 then (bits : Int) * 7 / 10 else 1) = ((Blm.probes bits : Nat) : Int) := by unfold Blm.probes; split <;> omega
    rw [e]
  have v1 : ((V : Int) + 7) / 8 = (W8 : Int) := by rw [hW8.out, hw.out, hV.out, hP.out]; omega
  have v2 : V ≤ 12800 := by rw [hV.out]; omega
  have s1 : (T.size : Int) - 1 = (W8 : Int) := by omega
  have s2 : (0 : Int) < (T.size : Int) := by omega
  have s3 : (T.size : Int) ≤ 262145 := by omega
  have t0 : (T[0].toNat : Int) = (K : Int) := by omega
  have t1 : K ≤ 22 := by rw [hK.out]; exact Blm.probes_le bits hb2
  clear hXn hs hok hw1 ht hX
  go_enter Try.func5, Try.ntmps5
  go_wp2_with (first
    | (go_at_call 7; (with_reducible refine (M.out _ (Below.refl _ _)).mono ?_); rintro e w1 ⟨rfl, b1⟩)
    | (go_at_call 9; (with_reducible refine (CC.out _).mono ?_); rintro e w6 ⟨rfl, rfl⟩)
    | (go_at_call 6; (with_reducible refine (awake_any _).mono ?_); rintro e w2 ⟨rfl, b2⟩)
    | fail "no arm")
  go_returns
  exact ⟨rfl, below_of b1 b2⟩
theorem size_walk (a : Option Addr) (n c b o : Nat) (X : List ByteArray) (bits : Int) (_ : (Lit.int .i64 bits).wf = true) (w : World) (hX : TextsAt a n c b o X w ∧ ∀ v ∈ X, v.size ≤ reachBytes) :
    Calls Try.prog 5 #[.slice a n c, .int .i64 bits] w fun e w' => e = .returned (.bool true) ∧ Below w.heap.size w w' := by
  by_cases h : 400 < n ∨ bits < 1 ∨ 32 < bits
  · exact size_other a n c bits h w
  · obtain ⟨k, rfl⟩ : ∃ k : Nat, bits = (k : Int) := ⟨bits.toNat, by omega⟩
    exact size_good a n c b o X k (by omega) (by omega) (by omega) w hX.1 (reach_texts hX.2)
--LAW freshetlaw10.BloomSize size_walk texts:t int:bits
--BEGIN
namespace BloomSizeProof
open Go.ChangeShapes Go.WideShapes Go.ChangeAt Go.RowKit
open Go.ChangeMaps (open_string shut_string)
theorem own : ownKnob Try.prog.godebug = none := by kernel_rfl
set_option maxRecDepth 100000 in
theorem lifted (os : Os) (started : os.Started) (H : Type) (enc : TypeId × Value → H) :
    ReturnsInHanded {} Try.checked os 5 .any (Rows.bloomSizeSpec.pre6 enc Try.prog Try.f5 Rows.bloomSizeRow.domain false) (Rows.bloomSizeSpec.post enc Try.prog Try.f5 false true false false) := by
  refine returnsInHanded_of_change_sized (C := Try.checked) own started (by kernel_rfl) Try.func5
    (ChangeSpec.witness6 (enc := enc) (C := Try.checked) false ⟨#[], #[.slice none 0 0, .int .i64 0], []⟩ 8 (by kernel_rfl) (by kernel_rfl) (by kernel_rfl) (by kernel_rfl)) ?_
  intro W base args ds gs before hval0 hW _ hsz _
  have hval : ∀ (j : Nat) t v, Try.f5.params[j]? = some t → args[j]? = some v → Value.okWide Try.prog W .any base t v := hval0
  have hW' := hW
  obtain ⟨p, q, hA0, hV, rfl, hfz, hnd⟩ := hW
  have hA : DataW.TrodAll enc Try.prog W 0 (fun _ => true) true Try.f5.params.toList args.toList ds p := hA0
  rw [Try.params5] at hA hval hsz
  obtain ⟨v0, vs0, d0, ds0, p0, q0, hargs, rfl, rfl, h0, r0⟩ := trodAll_cons hA
  obtain ⟨v1, vs1, d1, ds1, p1, q1, rfl, rfl, rfl, h1, r1⟩ := trodAll_cons r0
  obtain ⟨rfl, rfl, rfl⟩ := trodAll_nil r1
  obtain rfl : args = #[v0, v1] := by cases args; simp_all
  obtain ⟨rfl, rfl⟩ := trodVars_none hV
  obtain ⟨a0, n0, c0, rfl⟩ := okWide_slice Try.underlying22 (hval 0 22 v0 rfl rfl)
  have k0 := h0
  obtain ⟨fu0, hf0⟩ := h0
  obtain ⟨b0, o0, t, ia0⟩ := open_texts hf0 hsz (j := 0) rfl rfl
  have lt0 : ∀ x ∈ p0, x.block < W.heap.size := fun x hx => hW'.lt x (by simp only [List.mem_append]; simp [hx])
  obtain ⟨bits, rfl, rfl, rfl, m1⟩ := open_int Try.underlying3 (hval 1 3 v1 rfl rfl) h1
  clear hA0 hval0
  simp only [List.append_nil] at hW'
  refine (size_walk a0 n0 c0 b0 o0 t bits m1 W ia0).mono fun e W' ⟨he, hg⟩ => ?_
  subst he
  exact ⟨_, rfl, _, _, _, [], _, [], hW', (trodAll_cons_mk (shut_bool Try.underlying4 _) trodAll_mk0), (trodAll_cons_mk (Below.trod laid_out (by kernel_rfl) (of_decide_eq_true (by kernel_rfl)) k0 hg lt0) (trodAll_cons_mk (shut_int Try.underlying3 m1) trodAll_mk0)), rfl, hg.frame _, fun h => by cases h⟩
theorem holds : Rows.BloomSizeSaid :=
  OpenClaim.holds_of_wide 5 Try.f5 rfl rfl rfl rfl rfl rfl rfl ⟨rfl, rfl, rfl, rfl, rfl⟩ rfl rfl rfl rfl rfl (by kernel_rfl) Try.func5 (by kernel_rfl)
    (of_decide_eq_true (by kernel_rfl)) (by unfold Func.isWrapper; first | (rw [if_pos (by decide +kernel)]; kernel_rfl) | (rw [if_neg (by decide +kernel)]; exact ⟨rfl, rfl⟩))
    (fun os started H enc _ => lifted os started H enc)
end BloomSizeProof
--END
end Go.Proofs.Ytccdbodemoefkaa
