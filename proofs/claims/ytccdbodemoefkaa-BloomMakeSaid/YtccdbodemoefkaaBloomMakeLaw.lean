/-
  P10.1: the filter of any keys, with any number of bits, is the document's, or refused; the keys stay. Condition: at most 400 keys (else the law is its own check).
-/
import Derived.Test.YtccdbodemoefkaaBloomOut
import Derived.Test.YtccdbodemoefkaaLaidOut
import Derived.Test.YtccdbodemoefkaaAppendSrc
import Derived.Laws.EntriesVeiled
namespace Go.Proofs.Ytccdbodemoefkaa
set_option maxRecDepth 100000
open Go.RowKit
theorem info_str : (Try.prog.info? 9).map (fun i => (i.zero, i.size, i.bytes)) = some (some (.string ⟨#[]⟩), 1, 16) := by kernel_rfl
theorem row_zero {w : World} {g B size : Nat} {e : TypeId} (h : w.heap[g]? = some (.cells #[] e (0, 0))) (hB : B ≤ g) : w.ownsRow B e size (.slice (some ⟨g, 0, none⟩) 0 0) 0 [] :=
  ⟨by simp, .inr ⟨g, 0, #[], rfl, hB, h, Nat.le_refl _, by unfold maxLen; omega, by simp, by simp⟩⟩
theorem texts_one (X : List ByteArray) : ∀ u ∈ (X.map fun s => Value.string s), u.oneCell' = true := by
  intro u hu
  obtain ⟨x, _, rfl⟩ := List.mem_map.1 hu
  rfl
theorem makeL_other (a : Option Addr) (n c : Nat) (bits : Int) (h : 400 < n) (w : World) :
    Calls Try.prog 3 #[.slice a n c, .int .i64 bits] w fun e w' => e = .returned (.bool true) ∧ Below w.heap.size w w' := by
  have i1 : (400 : Int) < (n : Int) := by omega
  go_enter Try.func3, Try.ntmps3
  go_wp2_with (go_at_call 6; (with_reducible refine (awake_any _).mono ?_); rintro e w1 ⟨rfl, b1⟩)
  go_returns
  exact ⟨rfl, b1⟩
set_option maxHeartbeats 4000000 in
theorem makeL_good (a : Option Addr) (n c b o : Nat) (X : List ByteArray) (bits : Int) (hn : n ≤ 400) (w : World) (ht : TextsAt a n c b o X w) (hX : ∀ x ∈ X, x.size ≤ maxLen) :
    Calls Try.prog 3 #[.slice a n c, .int .i64 bits] w fun e w' => e = .returned (.bool true) ∧ Below w.heap.size w w' := by
  have HX := Lib.hid hX
  have HT := Lib.hid ht
  have hxl : (X.map fun s => Value.string s).length = n * 1 := by rw [List.length_map, ht.len, Nat.mul_one]
  have HXL := Lib.hid hxl
  have HL := Lib.hid ht.len
  obtain ⟨T, hT⟩ := named (outT X bits)
  obtain ⟨E, hE⟩ := named (outE bits)
  have i1 : (n : Int) ≤ 400 := by omega
  clear ht hX hxl
  go_enter Try.func3, Try.ntmps3
  go_upto_region 4 with (at_builtin; (refine wpList_append_src rfl (.tmp 15) (.tmp 16) 22 rfl w.heap.size 9 1 16 (.string ⟨#[]⟩) Try.underlying22 info_str rfl (by decide) (by decide) _ 0 [] a n c (X.map fun s => Value.string s) (row_zero (heap_alloc_new w _) (Nat.le_refl _)) HT.out.nil HXL.out (fun p hp j u hu => by subst hp; exact (HT.out.below (below_alloc _ _) (Nat.le_refl _)).row j u hu) (by rfl) (by rfl) (texts_one X) (by omega) (by omega) (by simp) ?_); intro v2 u2 own2 grow2 sh2; obtain ⟨qa, qc, rfl⟩ := sh2; have B2 := Lib.hid ((below_alloc w _).grown grow2 (by simp) (fun k hk => by cases hk; exact Nat.le_refl _)); rw [Nat.zero_add, List.nil_append, ← HL.out] at own2; have own2 := Lib.hid own2; rw [Nat.zero_add]; clear grow2)
  obtain ⟨ra, rc, rb, er, R2, _⟩ := textsAt_row own2.out
  cases er
  rw [HL.out] at R2
  have R2 := Lib.hid R2
  have M1 := Lib.hid (make_out bits qa n qc rb 0 X u2 R2.out HX.out (by omega))
  rw [← hT.out, ← hE.out] at M1
  have M2 := Lib.hid (fun (u : World) (hb : Below w.heap.size w u) => refmake_out bits a n c b o X u (HT.out.below hb (Nat.le_refl _)) HX.out (by omega))
  rw [← hT.out, ← hE.out] at M2
  clear own2
  go_upto_region 6 with (first
    | (go_at_call 7; (with_reducible refine M1.out.mono ?_); rintro e w3 ⟨rfl, b3⟩; have B3 := Lib.hid (B2.out.trans (b3.mono B2.out.size)); have R3 := Lib.hid (R2.out.below b3 (Nat.le_refl _)); clear b3)
    | (go_at_call 8; (with_reducible refine (M2.out _ B3.out).mono ?_); rintro e w4 ⟨rfl, b4⟩; have B4 := Lib.hid (B3.out.trans (b4.mono B3.out.size)); have R4 := Lib.hid (R3.out.below b4 (Nat.le_refl _)); clear b4)
    | fail "no arm")
  have K4 := Lib.hid (HT.out.below B4.out (Nat.le_refl _))
  clear M1 M2
  go_wp2
  go_loopw [10] (fun d wr => ∃ i : Nat, i ≤ n ∧ d = .int .i64 i ∧ Hid (Below w4.heap.size w4 wr)) (fun d _ => n - (intOf d).toNat)
  case atStart => exact ⟨0, by omega, rfl, Lib.hid (Below.refl _ _)⟩
  case round =>
    obtain ⟨i, hi, rfl, hb⟩ := hrel
    by_cases hlt : i < n
    · have hiX : i < X.length := by rw [HL.out]; exact hlt
      have h1 := (R4.out.below hb.out (Nat.le_refl _)).cell hiX
      have h2 := (K4.out.below hb.out (Nat.le_refl _)).cell hiX
      rw [Nat.zero_add] at h1
      have a1 := (R4.out.addr (by omega)).1
      have a2 := (K4.out.addr (by omega)).1
      obtain ⟨x, hx⟩ := named X[i]
      rw [← hx.out] at h1 h2
      have i2 : (i : Int) < (n : Int) := by omega
      have i3 : (0 : Int) ≤ (i : Int) := by omega
      subst a1 a2
      go_wp2
      go_region
      go_wp2
      go_roundw
      case rel => exact ⟨i + 1, by omega, by go_num, Lib.hid hb.out.drew⟩
      case measure => simp [intOf]; omega
    · obtain rfl : i = n := by omega
      go_wp2_with (go_at_call 6; (with_reducible refine (awake_any _).mono ?_); rintro e w9 ⟨rfl, b9⟩)
      go_returns
      exact ⟨rfl, B4.out.trans ((below_of hb.out b9).mono B4.out.size)⟩
theorem makeL_walk (a : Option Addr) (n c b o : Nat) (X : List ByteArray) (bits : Int) (_ : (Lit.int .i64 bits).wf = true) (w : World) (hX : TextsAt a n c b o X w ∧ ∀ v ∈ X, v.size ≤ reachBytes) :
    Calls Try.prog 3 #[.slice a n c, .int .i64 bits] w fun e w' => e = .returned (.bool true) ∧ Below w.heap.size w w' := by
  by_cases h : 400 < n
  · exact makeL_other a n c bits h w
  · exact makeL_good a n c b o X bits (by omega) w hX.1 (reach_texts hX.2)
--LAW freshetlaw10.BloomMake makeL_walk texts:t int:bits
--BEGIN
namespace BloomMakeProof
open Go.ChangeShapes Go.WideShapes Go.ChangeAt Go.RowKit
open Go.ChangeMaps (open_string shut_string)
theorem own : ownKnob Try.prog.godebug = none := by kernel_rfl
set_option maxRecDepth 100000 in
theorem lifted (os : Os) (started : os.Started) (H : Type) (enc : TypeId × Value → H) :
    ReturnsInHanded {} Try.checked os 3 .any (Rows.bloomMakeSpec.pre6 enc Try.prog Try.f3 Rows.bloomMakeRow.domain false) (Rows.bloomMakeSpec.post enc Try.prog Try.f3 false true false false) := by
  refine returnsInHanded_of_change_sized (C := Try.checked) own started (by kernel_rfl) Try.func3
    (ChangeSpec.witness6 (enc := enc) (C := Try.checked) false ⟨#[], #[.slice none 0 0, .int .i64 0], []⟩ 8 (by kernel_rfl) (by kernel_rfl) (by kernel_rfl) (by kernel_rfl)) ?_
  intro W base args ds gs before hval0 hW _ hsz _
  have hval : ∀ (j : Nat) t v, Try.f3.params[j]? = some t → args[j]? = some v → Value.okWide Try.prog W .any base t v := hval0
  have hW' := hW
  obtain ⟨p, q, hA0, hV, rfl, hfz, hnd⟩ := hW
  have hA : DataW.TrodAll enc Try.prog W 0 (fun _ => true) true Try.f3.params.toList args.toList ds p := hA0
  rw [Try.params3] at hA hval hsz
  obtain ⟨v0, vs0, d0, ds0, p0, q0, hargs, rfl, rfl, h0, r0⟩ := trodAll_cons hA
  obtain ⟨v1, vs1, d1, ds1, p1, q1, rfl, rfl, rfl, h1, r1⟩ := trodAll_cons r0
  obtain ⟨rfl, rfl, rfl⟩ := trodAll_nil r1
  obtain rfl : args = #[v0, v1] := by cases args; simp_all
  obtain ⟨rfl, rfl⟩ := trodVars_none hV
  obtain ⟨a0, n0, c0, rfl⟩ := okWide_slice Try.underlying22 (hval 0 22 v0 rfl rfl)
  have k0 := h0
  obtain ⟨fu0, hf0⟩ := h0
  obtain ⟨b0, o0, t, ia0⟩ := open_texts hf0 hsz (j := 0) rfl rfl
  have lt0 : ∀ x ∈ p0, x.block < W.heap.size := fun x hx => hW'.lt x (by simp only [List.mem_append]; simp [hx])
  obtain ⟨bits, rfl, rfl, rfl, m1⟩ := open_int Try.underlying3 (hval 1 3 v1 rfl rfl) h1
  clear hA0 hval0
  simp only [List.append_nil] at hW'
  refine (makeL_walk a0 n0 c0 b0 o0 t bits m1 W ia0).mono fun e W' ⟨he, hg⟩ => ?_
  subst he
  exact ⟨_, rfl, _, _, _, [], _, [], hW', (trodAll_cons_mk (shut_bool Try.underlying4 _) trodAll_mk0), (trodAll_cons_mk (Below.trod laid_out (by kernel_rfl) (of_decide_eq_true (by kernel_rfl)) k0 hg lt0) (trodAll_cons_mk (shut_int Try.underlying3 m1) trodAll_mk0)), rfl, hg.frame _, fun h => by cases h⟩
theorem holds : Rows.BloomMakeSaid :=
  OpenClaim.holds_of_wide 3 Try.f3 rfl rfl rfl rfl rfl rfl rfl ⟨rfl, rfl, rfl, rfl, rfl⟩ rfl rfl rfl rfl rfl (by kernel_rfl) Try.func3 (by kernel_rfl)
    (of_decide_eq_true (by kernel_rfl)) (by unfold Func.isWrapper; first | (rw [if_pos (by decide +kernel)]; kernel_rfl) | (rw [if_neg (by decide +kernel)]; exact ⟨rfl, rfl⟩))
    (fun os started H enc _ => lifted os started H enc)
end BloomMakeProof
--END
end Go.Proofs.Ytccdbodemoefkaa
