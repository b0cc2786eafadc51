/-
  BlockSeek: Seek tells of all bytes the rows that the document's Seek tells, or that they are no block. Condition: at most 4096 bytes (the law's own).
-/
import Derived.Test.YtnmlifagchdphaaPack12
namespace Go.Proofs.Ytnmlifagchdphaa
set_option maxRecDepth 100000
open Go.RowKit
theorem SeekD.ans {L : List UInt8} {l : List Rw} {E q : Nat} {k : ByteArray} {w w' : World} {e : Ending} (h : SeekD L k q w e w') (hA : Ans L l E) : ∃ a n c b o, e = .returned (.tuple #[.slice a n c, .int .i64 (E : Int)]) ∧ Rs a n c b o (l.drop (plc l k q)) w' ∧ Below w.heap.size w w' := by
  rcases hA with ⟨⟨d, hB⟩, rfl⟩ | ⟨hno, rfl, rfl⟩
  · obtain ⟨a, c, b, o, h1, h2, h3⟩ := h.yes hB
    exact ⟨a, _, c, b, o, h1, h2, h3⟩
  · rcases h with ⟨l', d', a, c, b, o, h1, _⟩ | ⟨_, h2, h3⟩
    · exact absurd h1 (hno l' d')
    · exact ⟨none, 0, 0, 0, 0, h2, ⟨by simp, Nat.le_refl _, by omega, fun h => absurd h (by simp), by simpa using RwsAt.nil _ _ _⟩, h3⟩
theorem RowsD.no {L : List UInt8} {w w' : World} {e : Ending} (h : RowsD L w e w') (hno : ∀ l d, ¬ IsB L l d) : e = .returned (.tuple #[.slice none 0 0, .int .i64 7]) ∧ Below w.heap.size w w' := by
  rcases h with ⟨l', d', a, c, b, h1, _⟩ | ⟨_, h2, h3⟩
  · exact absurd h1 (hno l' d')
  · exact ⟨h2, h3⟩
set_option maxRecDepth 100000 in
set_option maxHeartbeats 4000000 in
/-- The document's Seek. -/
theorem seek_ref (L : List UInt8) (hL : L.length ≤ 4096) (k : ByteArray) (q : Nat) (w : World) :
    Calls Try.prog 10 #[.string ⟨L.toArray⟩, .string k, .int .u64 (q : Int)] w (SeekD L k q w) := by
  have RR := Lib.hid (fun u => rows_ref L (by omega) u)
  by_cases hE : ∃ l d, IsB L l d
  · obtain ⟨l, d, hB⟩ := hE
    have hlen : l.length ≤ 1024 := by
      have := hB.1
      unfold chkA at this
      split at this
      · cases this
      · split at this
        · cases this
        · split at this
          · cases this
          · omega
    obtain ⟨N, hN⟩ := named l.length
    obtain ⟨P, hP⟩ := named (plc l k q)
    have hp := plc_le l k q
    have hPN : P ≤ N := by rw [hN.out, hP.out]; exact hp
    have hBd := Lib.hid hB
    have PR : Hid (∀ (a : Option Addr) (c b : Nat) (u : World), Rs a N c b 0 l u → Calls Try.prog 22 #[.slice a N c, .string k, .int .u64 (q : Int)] u fun e w' => e = .returned (.int .i64 (P : Int)) ∧ Below u.heap.size u w') := Lib.hid (fun a c b u h => by rw [hP.out]; exact place_ref h (by rw [hN.out]; omega) k q)
    go_enter Try.func10, Try.ntmps10
    go_wp2_with (go_at_call 7; ((with_reducible refine (RR.out _).mono ?_); rintro e w1 hh; obtain ⟨a1, c1, b1, rfl, hR1, hb1⟩ := hh.yes hBd.out; rw [← hN.out] at hR1 ⊢; have R1 := Lib.hid hR1; have W1 := Lib.hid hb1; clear hb1 hR1))
    have SF := slr_from a1 N c1 P hPN (P : Int) rfl
    go_wp2_with (go_at_call 22; ((with_reducible refine (PR.out _ _ _ _ R1.out).mono ?_); rintro e w2 ⟨rfl, hb2⟩; have W2 := Lib.hid (below_of W1.out hb2); have R2 := Lib.hid (R1.out.below hb2 (Nat.le_refl _)); clear hb2))
    go_returns
    refine .inl ⟨l, d, _, _, b1, 0 + P * 4, hBd.out, by rw [← hN.out, ← hP.out]; rfl, ?_, W2.out⟩
    rw [← hN.out, ← hP.out]
    exact R2.out.from hPN
  · have hno : ∀ l d, ¬ IsB L l d := fun l d h => hE ⟨l, d, h⟩
    have hno := Lib.hid hno
    clear hE
    go_enter Try.func10, Try.ntmps10
    go_wp2_with (go_at_call 7; ((with_reducible refine (RR.out _).mono ?_); rintro e w1 hh; obtain ⟨rfl, hb1⟩ : e = .returned (.tuple #[.slice none 0 0, .int .i64 7]) ∧ Below w.heap.size w w1 := (hh.no hno.out); have W1 := Lib.hid hb1; clear hb1))
    go_returns
    exact .inr ⟨hno.out, rfl, W1.out⟩
set_option maxRecDepth 100000 in
set_option maxHeartbeats 8000000 in
theorem seek_walk (s : ByteArray) (hs : s.size ≤ reachBytes) (key : ByteArray) (hkey : key.size ≤ reachBytes) (sq : Int) (hsq : (Lit.int .u64 sq).wf = true) (w : World) : Calls Try.prog 4 #[.string s, .string key, .int .u64 sq] w fun e w' => e = .returned (.bool true) ∧ Below w.heap.size w w' := by
  obtain ⟨L, rfl⟩ : ∃ L : List UInt8, s = ⟨L.toArray⟩ := ⟨s.toList, (ofL s).symm⟩
  rw [ofList_size] at hs
  unfold reachBytes at hs
  have hr : 0 ≤ sq ∧ sq ≤ 18446744073709551615 := by simpa [Lit.wf, IntKind.min, IntKind.max, IntKind.signed, IntKind.bits] using hsq
  obtain ⟨q, rfl⟩ : ∃ q : Nat, sq = (q : Int) := ⟨sq.toNat, by omega⟩
  clear hsq hr
  have AW := Lib.hid (fun u => awake_any u)
  by_cases hbig : 4096 < L.length
  · have g1 : (4096 : Int) < (L.length : Int) := by omega
    go_enter Try.func4, Try.ntmps4
    go_wp2_with (go_at_call 5; ((with_reducible refine (AW.out _).mono ?_); rintro e w1 ⟨rfl, hb1⟩))
    go_returns
    exact ⟨rfl, hb1⟩
  have g1 : ¬ (4096 : Int) < (L.length : Int) := by omega
  have RW := Lib.hid (fun u => seek_any L (by omega) key q u)
  have RR := Lib.hid (fun u => seek_ref L (by omega) key q u)
  obtain ⟨l, E, hA⟩ := ans_is L
  have hA := Lib.hid hA
  have s2 : (E == E) = true := beq_self_eq_true E
  go_enter Try.func4, Try.ntmps4
  go_wp2_with (first
    | (go_at_call 9; ((with_reducible refine (RW.out _).mono ?_); rintro e w1 hh; obtain ⟨a1, n1, c1, b1, o1, rfl, hR1, hb1⟩ := hh.ans hA.out; have R1 := Lib.hid hR1; have W1 := Lib.hid hb1; clear hb1 hR1))
    | (go_at_call 10; ((with_reducible refine (RR.out _).mono ?_); rintro e w2 hh; obtain ⟨a2, n2, c2, b2, o2, rfl, hR2, hb2⟩ := hh.ans hA.out; have R2 := Lib.hid hR2; have Q1 := Lib.hid (R1.out.below hb2 (Nat.le_refl _)); have W2 := Lib.hid (below_of W1.out hb2); clear hb2 hR2))
    | (go_at_call 8; ((with_reducible refine (same_rowsB Q1.out R2.out).mono ?_); rintro e w3 ⟨rfl, hb3⟩; have W3 := Lib.hid (below_of W2.out hb3); clear hb3))
    | (go_at_call 5; ((with_reducible refine (AW.out _).mono ?_); rintro e w4 ⟨rfl, hb4⟩; have W4 := Lib.hid (below_of W3.out hb4); clear hb4)))
  go_returns
  exact ⟨rfl, W4.out⟩
--LAW freshetlaw11.BlockSeek seek_walk string:s string:key uint64:sq
--BEGIN
namespace BlockSeekProof
open Go.ChangeShapes Go.WideShapes Go.ChangeAt Go.RowKit
open Go.ChangeMaps (open_string shut_string)
theorem own : ownKnob Try.prog.godebug = none := by kernel_rfl
set_option maxRecDepth 100000 in
theorem lifted (os : Os) (started : os.Started) (H : Type) (enc : TypeId × Value → H) :
    ReturnsInHanded {} Try.checked os 4 .any (Rows.blockSeekSpec.pre6 enc Try.prog Try.f4 Rows.blockSeekRow.domain false) (Rows.blockSeekSpec.post enc Try.prog Try.f4 false true false false) := by
  refine returnsInHanded_of_change_sized (C := Try.checked) own started (by kernel_rfl) Try.func4
    (ChangeSpec.witness6 (enc := enc) (C := Try.checked) false ⟨#[], #[.string .empty, .string .empty, .int .u64 0], []⟩ 8 (by kernel_rfl) (by kernel_rfl) (by kernel_rfl) (by kernel_rfl)) ?_
  intro W base args ds gs before hval0 hW _ hsz _
  have hval : ∀ (j : Nat) t v, Try.f4.params[j]? = some t → args[j]? = some v → Value.okWide Try.prog W .any base t v := hval0
  have hW' := hW
  obtain ⟨p, q, hA0, hV, rfl, hfz, hnd⟩ := hW
  have hA : DataW.TrodAll enc Try.prog W 0 (fun _ => true) true Try.f4.params.toList args.toList ds p := hA0
  rw [Try.params4] at hA hval hsz
  obtain ⟨v0, vs0, d0, ds0, p0, q0, hargs, rfl, rfl, h0, r0⟩ := trodAll_cons hA
  obtain ⟨v1, vs1, d1, ds1, p1, q1, rfl, rfl, rfl, h1, r1⟩ := trodAll_cons r0
  obtain ⟨v2, vs2, d2, ds2, p2, q2, rfl, rfl, rfl, h2, r2⟩ := trodAll_cons r1
  obtain ⟨rfl, rfl, rfl⟩ := trodAll_nil r2
  obtain rfl : args = #[v0, v1, v2] := by cases args; simp_all
  obtain ⟨rfl, rfl⟩ := trodVars_none hV
  obtain ⟨s, rfl, rfl, rfl, m0⟩ := open_string Try.underlying9 (hval 0 9 v0 rfl rfl) h0
  obtain ⟨key, rfl, rfl, rfl, m1⟩ := open_string Try.underlying9 (hval 1 9 v1 rfl rfl) h1
  obtain ⟨sq, rfl, rfl, rfl, m2⟩ := open_int Try.underlying29 (hval 2 29 v2 rfl rfl) h2
  have z0 : s.size ≤ reachBytes := by have := sized_string hsz (j := 0) (t := 9) (bytes := s.data.toList) rfl rfl; simpa using this
  have z1 : key.size ≤ reachBytes := by have := sized_string hsz (j := 1) (t := 9) (bytes := key.data.toList) rfl rfl; simpa using this
  clear hA0 hval0
  simp only [List.append_nil] at hW'
  refine (seek_walk s z0 key z1 sq m2 W).mono fun e W' ⟨he, hg⟩ => ?_
  subst he
  exact ⟨_, rfl, _, _, _, [], [], [], hW', (trodAll_cons_mk (shut_bool Try.underlying4 _) trodAll_mk0), (trodAll_cons_mk (shut_string Try.underlying9 m0) (trodAll_cons_mk (shut_string Try.underlying9 m1) (trodAll_cons_mk (shut_int Try.underlying29 m2) trodAll_mk0))), rfl, hg.frame _, fun h => by cases h⟩
theorem holds : Rows.BlockSeekSaid :=
  OpenClaim.holds_of_wide 4 Try.f4 rfl rfl rfl rfl rfl rfl rfl ⟨rfl, rfl, rfl, rfl, rfl⟩ rfl rfl rfl rfl rfl (by kernel_rfl) Try.func4 (by kernel_rfl)
    (of_decide_eq_true (by kernel_rfl)) (by unfold Func.isWrapper; first | (rw [if_pos (by decide +kernel)]; kernel_rfl) | (rw [if_neg (by decide +kernel)]; exact ⟨rfl, rfl⟩))
    (fun os started H enc _ => lifted os started H enc)
end BlockSeekProof
--END
end Go.Proofs.Ytnmlifagchdphaa
