/-
  BlockGrows: a block of some first rows is not longer than that of all, and shorter, if there are fewer rows. Condition: at most 300 rows (the law's own).
-/
import Derived.Test.YtpdjndnehcpeiaaBlockAwake
import Derived.Test.YtpdjndnehcpeiaaLaidOut
import Derived.Test.YtpdjndnehcpeiaaBlockSlices
import Derived.Test.YtpdjndnehcpeiaaBlockBuilt
import Derived.Test.YtpdjndnehcpeiaaSliceArg
namespace Go.Proofs.Ytpdjndnehcpeiaa
set_option maxRecDepth 100000
open Go.RowKit
theorem chkA_take {l : List Rw} {d : Int} (h : chkA l d = 0) (k : Nat) : chkA (l.take k) d = 0 := by
  obtain ⟨k1, k2, k3, k4, k5⟩ := chkA_ok h
  obtain ⟨D, rfl⟩ : ∃ D : Nat, d = (D : Int) := ⟨d.toNat, by omega⟩
  refine chkA_zero (by omega) (by omega) ?_ (fun x hx => k4 x (List.mem_of_mem_take hx)) (by rw [List.length_take]; omega)
  refine (ordR_iff _).2 fun j x y hx hy => (ordR_iff l).1 k3 j x y ?_ ?_
  · rw [List.getElem?_take] at hx; split at hx; exact hx; cases hx
  · rw [List.getElem?_take] at hy; split at hy; exact hy; cases hy
theorem blkB_less (d : Nat) {l : List Rw} {k : Nat} (hk : k < l.length) : (blkB d (l.take k)).length < (blkB d l).length := by
  have e : (l.take k).length = k := by rw [List.length_take]; omega
  unfold blkB
  rw [e, bodB_take d l (Nat.le_refl k), rstB_take d l (Nat.le_refl k), List.length_append, List.length_append, tailB_len, tailB_len]
  have h1 := bodB_mono d l k (l.length - k)
  have h2 := rstB_mono d l k (l.length - k)
  rw [show k + (l.length - k) = l.length by omega] at h1 h2
  omega
theorem buildB_take {l : List Rw} {d : Int} (h : (buildB l d).2 = 0) {k : Nat} (hk : k ≤ l.length) : (buildB (l.take k) d).2 = 0 ∧ (k = l.length → (buildB (l.take k) d).1 = (buildB l d).1) ∧ (k < l.length → (buildB (l.take k) d).1.length < (buildB l d).1.length) := by
  obtain ⟨h1, h2, h3⟩ := buildB_ok h
  have hle : (blkB d.toNat (l.take k)).length ≤ (blkB d.toNat l).length := by
    rcases Nat.lt_or_ge k l.length with h | h
    · exact Nat.le_of_lt (blkB_less _ h)
    · rw [List.take_of_length_le h]; exact Nat.le_refl _
  have e : buildB (l.take k) d = (blkB d.toNat (l.take k), 0) := by
    unfold buildB
    rw [if_neg (by simpa using chkA_take h1 k), if_neg (by omega)]
  rw [e, h3]
  exact ⟨rfl, (fun h => by rw [List.take_of_length_le (by omega)]), fun h => blkB_less _ h⟩
set_option maxRecDepth 100000 in
set_option maxHeartbeats 8000000 in
theorem grows_walk (a : Option Addr) (n c b o : Nat) (l : List Rw) (d : Int) (hd : (Lit.int .i64 d).wf = true) (m : Int) (hm : (Lit.int .i64 m).wf = true) (w : World) (h0 : Rs a n c b o l w ∧ ∀ v ∈ l, RwIn v) :
    Calls Try.prog 8 #[.slice a n c, .int .i64 d, .int .i64 m] w fun e w' => e = .returned (.bool true) ∧ Below w.heap.size w w' := by
  have AW := Lib.hid (fun u => awake_any u)
  have h := h0.1
  have q0 := h.cap
  have m0 := h.most
  clear h0
  by_cases g1 : (300 : Int) < (n : Int)
  · go_enter Try.func8, Try.ntmps8
    go_wp2_with (go_at_call 10; ((with_reducible refine (AW.out _).mono ?_); rintro e w1 ⟨rfl, hb1⟩))
    go_returns
    exact ⟨rfl, hb1⟩
  have d1 : decide ((300 : Int) < (n : Int)) = false := by simpa using g1
  by_cases g2 : m < 0
  · go_enter Try.func8, Try.ntmps8
    go_wp2_with (go_at_call 10; ((with_reducible refine (AW.out _).mono ?_); rintro e w1 ⟨rfl, hb1⟩))
    go_returns
    exact ⟨rfl, hb1⟩
  have d2 : decide (m < 0) = false := by simpa using g2
  by_cases g3 : (n : Int) < m
  · go_enter Try.func8, Try.ntmps8
    go_wp2_with (go_at_call 10; ((with_reducible refine (AW.out _).mono ?_); rintro e w1 ⟨rfl, hb1⟩))
    go_returns
    exact ⟨rfl, hb1⟩
  obtain ⟨k, rfl⟩ : ∃ k : Nat, m = (k : Int) := ⟨m.toNat, by omega⟩
  have d3 : decide ((n : Int) < (k : Int)) = false := by simpa using g3
  have d3b : decide (n < k) = false := by rw [decide_eq_false_iff_not]; omega
  have d2b : decide ((k : Int) < 0) = false := d2
  have hkn : k ≤ n := by omega
  have SU := slr_upto a n c k (by omega)
  have B1 := Lib.hid (build_any d h)
  have hl := h.len
  have hU := Lib.hid (h.upto hkn)
  have hErr := Lib.hid (@buildB_err l d)
  have hTk := Lib.hid (fun e => @buildB_take l d e k (by omega))
  obtain ⟨⟨S, e1⟩, hS⟩ := named (buildB l d)
  rw [← hS.out] at B1 hErr hTk
  simp only at B1 hErr hTk
  by_cases he : e1 = 0
  · subst he
    obtain ⟨t1, t2, t3⟩ := hTk.out rfl
    have B2 : Hid (∀ u, Rs a k c b o (l.take k) u → Calls Try.prog 12 #[.slice a k c, .int .i64 d] u fun e w' => e = .returned (.tuple #[.string ⟨(buildB (l.take k) d).1.toArray⟩, .int .i64 0]) ∧ Below u.heap.size u w') := Lib.hid (fun u hu => by have := build_any d hu; rw [t1] at this; exact this)
    obtain ⟨T, hT⟩ := named (buildB (l.take k) d).1
    rw [← hT.out] at B2 t2 t3
    have t2 := Lib.hid t2
    have t3 := Lib.hid t3
    clear hS hT t1 hTk hErr
    by_cases hkk : k = n
    · subst hkk
      obtain rfl := t2.out hl.symm
      have q1 : (T == T) = true := beq_self_eq_true T
      replace hl := Lib.hid hl
      go_enter Try.func8, Try.ntmps8
      go_wp2_with (first
        | (go_at_call 12; ((with_reducible refine B1.out.mono ?_); rintro e w1 ⟨rfl, hb1⟩; have U1 := Lib.hid (hU.out.below hb1 (Nat.le_refl _)); have W1 := Lib.hid hb1; clear hb1))
        | (go_at_call 12; ((with_reducible refine (B2.out _ U1.out).mono ?_); rintro e w2 ⟨rfl, hb2⟩; have W2 := Lib.hid (below_of W1.out hb2); clear hb2))
        | (go_at_call 10; ((with_reducible refine (AW.out _).mono ?_); rintro e w3 ⟨rfl, hb3⟩; have W3 := Lib.hid (below_of W2.out hb3); clear hb3)))
      go_returns
      exact ⟨rfl, W3.out⟩
    · have hlt := t3.out (by omega)
      have q1 : (S == T) = false := by rw [beq_eq_false_iff_ne]; intro e; rw [e] at hlt; omega
      have q2 : ((k : Int) == (n : Int)) = false := by rw [beq_eq_false_iff_ne]; omega
      have q3 : (k == n) = false := by rw [beq_eq_false_iff_ne]; exact hkk
      have q4 : (T.length : Int) < (S.length : Int) := by omega
      replace hl := Lib.hid hl
      go_enter Try.func8, Try.ntmps8
      go_wp2_with (first
        | (go_at_call 12; ((with_reducible refine B1.out.mono ?_); rintro e w1 ⟨rfl, hb1⟩; have U1 := Lib.hid (hU.out.below hb1 (Nat.le_refl _)); have W1 := Lib.hid hb1; clear hb1))
        | (go_at_call 12; ((with_reducible refine (B2.out _ U1.out).mono ?_); rintro e w2 ⟨rfl, hb2⟩; have W2 := Lib.hid (below_of W1.out hb2); clear hb2))
        | (go_at_call 10; ((with_reducible refine (AW.out _).mono ?_); rintro e w3 ⟨rfl, hb3⟩; have W3 := Lib.hid (below_of W2.out hb3); clear hb3)))
      go_returns
      exact ⟨rfl, W3.out⟩
  · have hs : S = [] := hErr.out he
    have q1 : ((e1 : Int) != 0) = true := by rw [bne_iff_ne]; omega
    subst hs
    clear hS hTk hErr hU SU
    go_enter Try.func8, Try.ntmps8
    go_wp2_with (first
      | (go_at_call 12; ((with_reducible refine B1.out.mono ?_); rintro e w1 ⟨rfl, hb1⟩; have W1 := Lib.hid hb1; clear hb1))
      | (go_at_call 10; ((with_reducible refine (AW.out _).mono ?_); rintro e w3 ⟨rfl, hb3⟩; have W3 := Lib.hid (below_of W1.out hb3); clear hb3)))
    go_returns
    exact ⟨rfl, W3.out⟩
--LAW freshetlaw11.BlockGrows grows_walk rows:ra int:d int:m
--BEGIN
namespace BlockGrowsProof
open Go.ChangeShapes Go.WideShapes Go.ChangeAt Go.RowKit
open Go.ChangeMaps (open_string shut_string)
theorem own : ownKnob Try.prog.godebug = none := by kernel_rfl
set_option maxRecDepth 100000 in
theorem lifted (os : Os) (started : os.Started) (H : Type) (enc : TypeId × Value → H) :
    ReturnsInHanded {} Try.checked os 8 .any (Rows.blockGrowsSpec.pre6 enc Try.prog Try.f8 Rows.blockGrowsRow.domain false) (Rows.blockGrowsSpec.post enc Try.prog Try.f8 false true false false) := by
  refine returnsInHanded_of_change_sized (C := Try.checked) own started (by kernel_rfl) Try.func8
    (ChangeSpec.witness6 (enc := enc) (C := Try.checked) false ⟨#[], #[.slice none 0 0, .int .i64 0, .int .i64 0], []⟩ 8 (by kernel_rfl) (by kernel_rfl) (by kernel_rfl) (by kernel_rfl)) ?_
  intro W base args ds gs before hval0 hW _ hsz _
  have hval : ∀ (j : Nat) t v, Try.f8.params[j]? = some t → args[j]? = some v → Value.okWide Try.prog W .any base t v := hval0
  have hW' := hW
  obtain ⟨p, q, hA0, hV, rfl, hfz, hnd⟩ := hW
  have hA : DataW.TrodAll enc Try.prog W 0 (fun _ => true) true Try.f8.params.toList args.toList ds p := hA0
  rw [Try.params8] at hA hval hsz
  obtain ⟨v0, vs0, d0, ds0, p0, q0, hargs, rfl, rfl, h0, r0⟩ := trodAll_cons hA
  obtain ⟨v1, vs1, d1, ds1, p1, q1, rfl, rfl, rfl, h1, r1⟩ := trodAll_cons r0
  obtain ⟨v2, vs2, d2, ds2, p2, q2, rfl, rfl, rfl, h2, r2⟩ := trodAll_cons r1
  obtain ⟨rfl, rfl, rfl⟩ := trodAll_nil r2
  obtain rfl : args = #[v0, v1, v2] := by cases args; simp_all
  obtain ⟨rfl, rfl⟩ := trodVars_none hV
  obtain ⟨a0, n0, c0, rfl⟩ := okWide_slice Try.underlying22 (hval 0 22 v0 rfl rfl)
  have k0 := h0
  obtain ⟨fu0, hf0⟩ := h0
  obtain ⟨b0, o0, ra, ia0⟩ := open_rows hf0 hsz (j := 0) rfl rfl
  have lt0 : ∀ x ∈ p0, x.block < W.heap.size := fun x hx => hW'.lt x (by simp only [List.mem_append]; simp [hx])
  obtain ⟨d, rfl, rfl, rfl, m1⟩ := open_int Try.underlying3 (hval 1 3 v1 rfl rfl) h1
  obtain ⟨m, rfl, rfl, rfl, m2⟩ := open_int Try.underlying3 (hval 2 3 v2 rfl rfl) h2
  clear hA0 hval0
  simp only [List.append_nil] at hW'
  refine (grows_walk a0 n0 c0 b0 o0 ra d m1 m m2 W ia0).mono fun e W' ⟨he, hg⟩ => ?_
  subst he
  exact ⟨_, rfl, _, _, _, [], _, [], hW', (trodAll_cons_mk (shut_bool Try.underlying4 _) trodAll_mk0), (trodAll_cons_mk (Below.trod laid_out (by kernel_rfl) (of_decide_eq_true (by kernel_rfl)) k0 hg lt0) (trodAll_cons_mk (shut_int Try.underlying3 m1) (trodAll_cons_mk (shut_int Try.underlying3 m2) trodAll_mk0))), rfl, hg.frame _, fun h => by cases h⟩
theorem holds : Rows.BlockGrowsSaid :=
  OpenClaim.holds_of_wide 8 Try.f8 rfl rfl rfl rfl rfl rfl rfl ⟨rfl, rfl, rfl, rfl, rfl⟩ rfl rfl rfl rfl rfl (by kernel_rfl) Try.func8 (by kernel_rfl)
    (of_decide_eq_true (by kernel_rfl)) (by unfold Func.isWrapper; first | (rw [if_pos (by decide +kernel)]; kernel_rfl) | (rw [if_neg (by decide +kernel)]; exact ⟨rfl, rfl⟩))
    (fun os started H enc _ => lifted os started H enc)
end BlockGrowsProof
--END
end Go.Proofs.Ytpdjndnehcpeiaa
