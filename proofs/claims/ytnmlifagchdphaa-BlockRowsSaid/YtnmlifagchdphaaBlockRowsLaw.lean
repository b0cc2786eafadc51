/-
  BlockRows: Rows answers as the document's. Condition: at most 4096 bytes (the law's own).
-/
import Derived.Test.YtnmlifagchdphaaBlockAwake
import Derived.Test.YtnmlifagchdphaaLaidOut
import Derived.Test.YtnmlifagchdphaaBlockSlices
import Derived.Test.YtnmlifagchdphaaBlockBuilt
import Derived.Test.YtnmlifagchdphaaBlockRefRows
namespace Go.Proofs.Ytnmlifagchdphaa
set_option maxRecDepth 100000
open Go.RowKit
/-- What Rows answers of bytes. -/
def Ans (L : List UInt8) (l : List Rw) (E : Nat) : Prop := ((∃ d, IsB L l d) ∧ E = 0) ∨ ((∀ l d, ¬ IsB L l d) ∧ l = [] ∧ E = 7)
open Classical in
theorem ans_is (L : List UInt8) : ∃ l E, Ans L l E := by
  by_cases h : ∃ l d, IsB L l d
  · obtain ⟨l, d, h⟩ := h
    exact ⟨l, 0, .inl ⟨⟨d, h⟩, rfl⟩⟩
  · exact ⟨[], 7, .inr ⟨fun l d hB => h ⟨l, d, hB⟩, rfl, rfl⟩⟩
theorem RowsD.ans {L : List UInt8} {l : List Rw} {E : Nat} {w w' : World} {e : Ending} (h : RowsD L w e w') (hA : Ans L l E) : ∃ a n c b, e = .returned (.tuple #[.slice a n c, .int .i64 (E : Int)]) ∧ Rs a n c b 0 l w' ∧ Below w.heap.size w w' := by
  rcases hA with ⟨⟨d, hB⟩, rfl⟩ | ⟨hno, rfl, rfl⟩
  · obtain ⟨a, c, b, h1, h2, h3⟩ := h.yes hB
    exact ⟨a, _, c, b, h1, h2, h3⟩
  · rcases h with ⟨l', d', a, c, b, h1, _⟩ | ⟨_, h2, h3⟩
    · exact absurd h1 (hno l' d')
    · exact ⟨none, 0, 0, 0, h2, ⟨rfl, Nat.le_refl _, by omega, fun h => absurd h (by simp), RwsAt.nil _ _ _⟩, h3⟩
set_option maxRecDepth 100000 in
set_option maxHeartbeats 8000000 in
theorem rows_walk (s : ByteArray) (hs : s.size ≤ reachBytes) (w : World) : Calls Try.prog 3 #[.string s] w fun e w' => e = .returned (.bool true) ∧ Below w.heap.size w w' := by
  obtain ⟨L, rfl⟩ : ∃ L : List UInt8, s = ⟨L.toArray⟩ := ⟨s.toList, (ofL s).symm⟩
  rw [ofList_size] at hs
  unfold reachBytes at hs
  have AW := Lib.hid (fun u => awake_any u)
  by_cases hbig : 4096 < L.length
  · have g1 : (4096 : Int) < (L.length : Int) := by omega
    go_enter Try.func3, Try.ntmps3
    go_wp2_with (go_at_call 5; ((with_reducible refine (AW.out _).mono ?_); rintro e w1 ⟨rfl, hb1⟩))
    go_returns
    exact ⟨rfl, hb1⟩
  have g1 : ¬ (4096 : Int) < (L.length : Int) := by omega
  have RW := Lib.hid (fun u => rows_any L (by omega) u)
  have RR := Lib.hid (fun u => rows_ref L (by omega) u)
  obtain ⟨l, E, hA⟩ := ans_is L
  have hA := Lib.hid hA
  have s2 : (E == E) = true := beq_self_eq_true E
  go_enter Try.func3, Try.ntmps3
  go_wp2_with (first
    | (go_at_call 6; ((with_reducible refine (RW.out _).mono ?_); rintro e w1 hh; obtain ⟨a1, n1, c1, b1, rfl, hR1, hb1⟩ := hh.ans hA.out; have R1 := Lib.hid hR1; have W1 := Lib.hid hb1; clear hb1 hR1))
    | (go_at_call 7; ((with_reducible refine (RR.out _).mono ?_); rintro e w2 hh; obtain ⟨a2, n2, c2, b2, rfl, hR2, hb2⟩ := hh.ans hA.out; have R2 := Lib.hid hR2; have Q1 := Lib.hid (R1.out.below hb2 (Nat.le_refl _)); have W2 := Lib.hid (below_of W1.out hb2); clear hb2 hR2))
    | (go_at_call 8; ((with_reducible refine (same_rowsB Q1.out R2.out).mono ?_); rintro e w3 ⟨rfl, hb3⟩; have W3 := Lib.hid (below_of W2.out hb3); clear hb3))
    | (go_at_call 5; ((with_reducible refine (AW.out _).mono ?_); rintro e w4 ⟨rfl, hb4⟩; have W4 := Lib.hid (below_of W3.out hb4); clear hb4)))
  go_returns
  exact ⟨rfl, W4.out⟩
--LAW freshetlaw11.BlockRows rows_walk string:s
--BEGIN
namespace BlockRowsProof
open Go.ChangeShapes Go.WideShapes Go.ChangeAt Go.RowKit
open Go.ChangeMaps (open_string shut_string)
theorem own : ownKnob Try.prog.godebug = none := by kernel_rfl
set_option maxRecDepth 100000 in
theorem lifted (os : Os) (started : os.Started) (H : Type) (enc : TypeId × Value → H) :
    ReturnsInHanded {} Try.checked os 3 .any (Rows.blockRowsSpec.pre6 enc Try.prog Try.f3 Rows.blockRowsRow.domain false) (Rows.blockRowsSpec.post enc Try.prog Try.f3 false true false false) := by
  refine returnsInHanded_of_change_sized (C := Try.checked) own started (by kernel_rfl) Try.func3
    (ChangeSpec.witness6 (enc := enc) (C := Try.checked) false ⟨#[], #[.string .empty], []⟩ 8 (by kernel_rfl) (by kernel_rfl) (by kernel_rfl) (by kernel_rfl)) ?_
  intro W base args ds gs before hval0 hW _ hsz _
  have hval : ∀ (j : Nat) t v, Try.f3.params[j]? = some t → args[j]? = some v → Value.okWide Try.prog W .any base t v := hval0
  have hW' := hW
  obtain ⟨p, q, hA0, hV, rfl, hfz, hnd⟩ := hW
  have hA : DataW.TrodAll enc Try.prog W 0 (fun _ => true) true Try.f3.params.toList args.toList ds p := hA0
  rw [Try.params3] at hA hval hsz
  obtain ⟨v0, vs0, d0, ds0, p0, q0, hargs, rfl, rfl, h0, r0⟩ := trodAll_cons hA
  obtain ⟨rfl, rfl, rfl⟩ := trodAll_nil r0
  obtain rfl : args = #[v0] := by cases args; simp_all
  obtain ⟨rfl, rfl⟩ := trodVars_none hV
  obtain ⟨s, rfl, rfl, rfl, m0⟩ := open_string Try.underlying9 (hval 0 9 v0 rfl rfl) h0
  have z0 : s.size ≤ reachBytes := by have := sized_string hsz (j := 0) (t := 9) (bytes := s.data.toList) rfl rfl; simpa using this
  clear hA0 hval0
  simp only [List.append_nil] at hW'
  refine (rows_walk s z0 W).mono fun e W' ⟨he, hg⟩ => ?_
  subst he
  exact ⟨_, rfl, _, _, _, [], [], [], hW', (trodAll_cons_mk (shut_bool Try.underlying4 _) trodAll_mk0), (trodAll_cons_mk (shut_string Try.underlying9 m0) trodAll_mk0), rfl, hg.frame _, fun h => by cases h⟩
theorem holds : Rows.BlockRowsSaid :=
  OpenClaim.holds_of_wide 3 Try.f3 rfl rfl rfl rfl rfl rfl rfl ⟨rfl, rfl, rfl, rfl, rfl⟩ rfl rfl rfl rfl rfl (by kernel_rfl) Try.func3 (by kernel_rfl)
    (of_decide_eq_true (by kernel_rfl)) (by unfold Func.isWrapper; first | (rw [if_pos (by decide +kernel)]; kernel_rfl) | (rw [if_neg (by decide +kernel)]; exact ⟨rfl, rfl⟩))
    (fun os started H enc _ => lifted os started H enc)
end BlockRowsProof
--END
end Go.Proofs.Ytnmlifagchdphaa
