/-
  MergeAt: At answers as the document's, and the rows that are handed in stand as they were. Condition: at most 200 rows (the law's own).
-/
import Derived.Test.YtkkegdhnkefogaaMergeAwake
import Derived.Test.YtkkegdhnkefogaaMergePairs
import Derived.Test.YtkkegdhnkefogaaMergeOwn
import Derived.Test.YtkkegdhnkefogaaLaidOut
namespace Go.Proofs.Ytkkegdhnkefogaa
set_option maxRecDepth 100000
open Go.RowKit
/-- Both answers of At, in one shape. -/
theorem AtD.both {l : List Rw} {q : Nat} : ∃ (L : List (ByteArray × ByteArray)) (E : Nat), ∀ w e w', AtD l q w e w' → ∃ v, e = .returned (.tuple #[v, .int .i64 (E : Int)]) ∧ w'.ownsRow w.heap.size 47 2 v L.length (rowP L) ∧ Below w.heap.size w w' := by
  cases ho : ordR l with
  | true => exact ⟨atL q l, 0, fun w e w' h => h.yes ho⟩
  | false => exact ⟨[], 2, fun w e w' h => by obtain ⟨h1, h2⟩ := h.no ho; exact ⟨_, h1, World.ownsRow_nil _ _ _ _, h2⟩⟩
set_option maxRecDepth 100000 in
set_option maxHeartbeats 8000000 in
theorem atL_walk (a : Option Addr) (n c b o : Nat) (l : List Rw) (sq : Int) (hsq : (Lit.int .u64 sq).wf = true) (w : World) (h0 : Rs a n c b o l w ∧ ∀ v ∈ l, RwIn v) :
    Calls Try.prog 4 #[.slice a n c, .int .u64 sq] w fun e w' => e = .returned (.bool true) ∧ Below w.heap.size w w' := by
  have hr : 0 ≤ sq ∧ sq ≤ 18446744073709551615 := by simpa [Lit.wf, IntKind.min, IntKind.max, IntKind.signed, IntKind.bits] using hsq
  obtain ⟨q, rfl⟩ : ∃ q : Nat, sq = (q : Int) := ⟨sq.toNat, by omega⟩
  clear hsq hr
  have AW := Lib.hid (fun u => mawake_any u)
  have h := h0.1
  have hIn := h0.2
  have q0 := h.cap
  have m0 := h.most
  clear h0
  by_cases g1 : (200 : Int) < (n : Int)
  · go_enter Try.func4, Try.ntmps4
    go_wp2_with (go_at_call 11; ((with_reducible refine (AW.out _).mono ?_); rintro e w1 ⟨rfl, hb1⟩))
    go_returns
    exact ⟨rfl, hb1⟩
  have hn : n ≤ 200 := by omega
  have hl := Lib.hid h.len
  have OW := Lib.hid (own_anyM h (by omega))
  have h := Lib.hid h
  obtain ⟨L, E, hAD⟩ := AtD.both (l := l) (q := q)
  have PC : Hid (∀ g cc u, Rs (some ⟨g, 0, none⟩) n cc g 0 l u → Calls Try.prog 17 #[.slice (some ⟨g, 0, none⟩) n cc, .int .u64 (q : Int)] u fun e w' => ∃ v, e = .returned (.tuple #[v, .int .i64 (E : Int)]) ∧ w'.ownsRow u.heap.size 47 2 v L.length (rowP L) ∧ Below u.heap.size u w') := Lib.hid (fun g cc u hu => (mat_any hu (by omega) (fun x hx => ⟨(hIn x hx).1, (hIn x hx).2.1⟩) q).mono fun e w' hh => hAD _ _ _ hh)
  have RC : Hid (∀ u, Rs a n c b o l u → Calls Try.prog 18 #[.slice a n c, .int .u64 (q : Int)] u fun e w' => ∃ v, e = .returned (.tuple #[v, .int .i64 (E : Int)]) ∧ w'.ownsRow u.heap.size 47 2 v L.length (rowP L) ∧ Below u.heap.size u w') := Lib.hid (fun u hu => (refat_any hu (by omega) q).mono fun e w' hh => hAD _ _ _ hh)
  have TK : Hid (∀ g cc u, Rs (some ⟨g, 0, none⟩) (n + 1) cc g 0 (l ++ [markM]) u → Rs (some ⟨g, 0, none⟩) n cc g 0 l u) := Lib.hid (fun g cc u hu => by have := hu.upto (k := n) (by omega); rw [← hl.out, markR_takeM] at this; rw [← hl.out]; exact this)
  have KC : Hid (∀ g cc u, Rs (some ⟨g, 0, none⟩) (n + 1) cc g 0 (l ++ [markM]) u → Rs a n c b o l u → Calls Try.prog 15 #[.slice (some ⟨g, 0, none⟩) n cc, .slice a n c] u fun e w' => e = .returned (.bool true) ∧ Below u.heap.size u w') := Lib.hid (fun g cc u h1 h2 => kept_anyM h1 h2 (by omega))
  have SP : Hid (∀ u B1 B2 v1 v2, u.ownsRow B1 47 2 v1 L.length (rowP L) → u.ownsRow B2 47 2 v2 L.length (rowP L) → Calls Try.prog 19 #[v1, v2] u fun e w' => e = .returned (.bool true) ∧ Below u.heap.size u w') := Lib.hid (fun u B1 B2 v1 v2 h1 h2 => samepairs_any h1 h2)
  have s2 : ((E : Int) == (E : Int)) = true := by simp
  have s3 : (E == E) = true := beq_self_eq_true E
  clear hAD
  go_enter Try.func4, Try.ntmps4
  go_wp2_with (first
    | (go_at_call 12; ((with_reducible refine OW.out.mono ?_); rintro e w1 hh; obtain ⟨g, c1, rfl, hg, hR1, hb1⟩ := hh; have H1 := Lib.hid (h.out.below hb1 (Nat.le_refl _)); have K1 := Lib.hid hR1; have W1 := Lib.hid hb1; clear hb1 hR1 hg))
    | (go_at_call 17; ((with_reducible refine (PC.out _ _ _ (TK.out _ _ _ K1.out)).mono ?_); rintro e w2 ⟨v2, rfl, ho2, hb2⟩; have H2 := Lib.hid (H1.out.below hb2 (Nat.le_refl _)); have K2 := Lib.hid (K1.out.below hb2 (Nat.le_refl _)); have W2 := Lib.hid (below_of W1.out hb2); have O2 := Lib.hid ho2; clear hb2 ho2))
    | (go_at_call 18; ((with_reducible refine (RC.out _ H2.out).mono ?_); rintro e w3 ⟨v3, rfl, ho3, hb3⟩; have H3 := Lib.hid (H2.out.below hb3 (Nat.le_refl _)); have K3 := Lib.hid (K2.out.below hb3 (Nat.le_refl _)); have W3 := Lib.hid (below_of W2.out hb3); have O3 := Lib.hid ho3; have Q3 := Lib.hid (own_belowM O2.out hb3); clear hb3 ho3))
    | (go_at_call 19; ((with_reducible refine (SP.out _ _ _ _ _ Q3.out O3.out).mono ?_); rintro e w4 ⟨rfl, hb4⟩; have H4 := Lib.hid (H3.out.below hb4 (Nat.le_refl _)); have K4 := Lib.hid (K3.out.below hb4 (Nat.le_refl _)); have W4 := Lib.hid (below_of W3.out hb4); clear hb4))
    | (go_at_call 15; ((with_reducible refine (KC.out _ _ _ K4.out H4.out).mono ?_); rintro e w5 ⟨rfl, hb5⟩; have W5 := Lib.hid (below_of W4.out hb5); clear hb5))
    | (go_at_call 11; ((with_reducible refine (AW.out _).mono ?_); rintro e w6 ⟨rfl, hb6⟩; have W6 := Lib.hid (below_of W5.out hb6); clear hb6)))
  go_returns
  exact ⟨rfl, W6.out⟩
--LAW freshetlaw13.MergeAt atL_walk rows:l uint64:sq
--BEGIN
namespace MergeAtProof
open Go.ChangeShapes Go.WideShapes Go.ChangeAt Go.RowKit
open Go.ChangeMaps (open_string shut_string)
theorem own : ownKnob Try.prog.godebug = none := by kernel_rfl
set_option maxRecDepth 100000 in
theorem lifted (os : Os) (started : os.Started) (H : Type) (enc : TypeId × Value → H) :
    ReturnsInHanded {} Try.checked os 4 .any (Rows.mergeAtSpec.pre6 enc Try.prog Try.f4 Rows.mergeAtRow.domain false) (Rows.mergeAtSpec.post enc Try.prog Try.f4 false true false false) := by
  refine returnsInHanded_of_change_sized (C := Try.checked) own started (by kernel_rfl) Try.func4
    (ChangeSpec.witness6 (enc := enc) (C := Try.checked) false ⟨#[], #[.slice none 0 0, .int .u64 0], []⟩ 8 (by kernel_rfl) (by kernel_rfl) (by kernel_rfl) (by kernel_rfl)) ?_
  intro W base args ds gs before hval0 hW _ hsz _
  have hval : ∀ (j : Nat) t v, Try.f4.params[j]? = some t → args[j]? = some v → Value.okWide Try.prog W .any base t v := hval0
  have hW' := hW
  obtain ⟨p, q, hA0, hV, rfl, hfz, hnd⟩ := hW
  have hA : DataW.TrodAll enc Try.prog W 0 (fun _ => true) true Try.f4.params.toList args.toList ds p := hA0
  rw [Try.params4] at hA hval hsz
  obtain ⟨v0, vs0, d0, ds0, p0, q0, hargs, rfl, rfl, h0, r0⟩ := trodAll_cons hA
  obtain ⟨v1, vs1, d1, ds1, p1, q1, rfl, rfl, rfl, h1, r1⟩ := trodAll_cons r0
  obtain ⟨rfl, rfl, rfl⟩ := trodAll_nil r1
  obtain rfl : args = #[v0, v1] := by cases args; simp_all
  obtain ⟨rfl, rfl⟩ := trodVars_none hV
  obtain ⟨a0, n0, c0, rfl⟩ := okWide_slice Try.underlying25 (hval 0 25 v0 rfl rfl)
  have k0 := h0
  obtain ⟨fu0, hf0⟩ := h0
  obtain ⟨b0, o0, l, ia0⟩ := open_rows hf0 hsz (j := 0) rfl rfl
  have lt0 : ∀ x ∈ p0, x.block < W.heap.size := fun x hx => hW'.lt x (by simp only [List.mem_append]; simp [hx])
  obtain ⟨sq, rfl, rfl, rfl, m1⟩ := open_int Try.underlying31 (hval 1 31 v1 rfl rfl) h1
  clear hA0 hval0
  simp only [List.append_nil] at hW'
  refine (atL_walk a0 n0 c0 b0 o0 l sq m1 W ia0).mono fun e W' ⟨he, hg⟩ => ?_
  subst he
  exact ⟨_, rfl, _, _, _, [], _, [], hW', (trodAll_cons_mk (shut_bool Try.underlying4 _) trodAll_mk0), (trodAll_cons_mk (Below.trod laid_out (by kernel_rfl) (of_decide_eq_true (by kernel_rfl)) k0 hg lt0) (trodAll_cons_mk (shut_int Try.underlying31 m1) trodAll_mk0)), rfl, hg.frame _, fun h => by cases h⟩
theorem holds : Rows.MergeAtSaid :=
  OpenClaim.holds_of_wide 4 Try.f4 rfl rfl rfl rfl rfl rfl rfl ⟨rfl, rfl, rfl, rfl, rfl⟩ rfl rfl rfl rfl rfl (by kernel_rfl) Try.func4 (by kernel_rfl)
    (of_decide_eq_true (by kernel_rfl)) (by unfold Func.isWrapper; first | (rw [if_pos (by decide +kernel)]; kernel_rfl) | (rw [if_neg (by decide +kernel)]; exact ⟨rfl, rfl⟩))
    (fun os started H enc _ => lifted os started H enc)
end MergeAtProof
--END
end Go.Proofs.Ytkkegdhnkefogaa
