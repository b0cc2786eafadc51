/-
  TableNone: a table that is not there, or that nobody opened, answers ErrNil, and tells nothing. No condition.
-/
import Derived.Test.YthppkjbcdlhgeaaPack8
namespace Go.Proofs.Ythppkjbcdlhgeaa
set_option maxRecDepth 100000
open Go.RowKit
set_option maxRecDepth 100000 in
set_option maxHeartbeats 2000000 in
theorem scan_shut {p : Option Addr} {w : World} (h : Shut p w) (k q : ByteArray) : Calls Try.prog 9 #[.pointer p, .string k, .string q] w fun e w' => e = .returned (.tuple #[.slice none 0 0, .int .i64 1]) ∧ Below w.heap.size w w' := by
  obtain ⟨v0, hv0⟩ : ∃ v, v = (((w.alloc (.cells #[.string k] 9)).alloc (.cells #[.string q] 9)).alloc (.cells #[.slice none 0 0] 32)).alloc (.cells #[.int .i64 0] 29) := ⟨_, rfl⟩
  have hb0 : Below w.heap.size w v0 := by rw [hv0]; exact (((below_alloc w _).alloc (by simp) _).alloc (by simp; omega) _).alloc (by simp; omega) _
  have IO := Lib.hid (isOpen_shut (h.below hb0))
  have X1 : Boxed v0 (w.heap.size + 2) 32 (.slice none 0 0) := by
    have := (Boxed.new ((w.alloc (.cells #[.string k] 9)).alloc (.cells #[.string q] 9)) 32 (.slice none 0 0)).alloc (.cells #[.int .i64 0] 29)
    rw [World.size_alloc, World.size_alloc] at this
    rw [hv0]; exact this
  have X2 : Boxed v0 (w.heap.size + 3) 29 (.int .i64 0) := by
    have := Boxed.new (((w.alloc (.cells #[.string k] 9)).alloc (.cells #[.string q] 9)).alloc (.cells #[.slice none 0 0] 32)) 29 (.int .i64 0)
    rw [World.size_alloc, World.size_alloc, World.size_alloc] at this
    rw [hv0]; exact this
  have c1 := X1.cell
  have f1 := X1.frozen
  have c2 := X2.cell
  have f2 := X2.frozen
  subst hv0
  go_enter Try.func9, Try.ntmps9
  go_wp2_with (go_at_call 20; ((with_reducible refine IO.out.mono ?_); rintro e w1 ⟨rfl, rfl⟩))
  have Y1 : Boxed ((((w.alloc (.cells #[.string k] 9)).alloc (.cells #[.string q] 9)).alloc (.cells #[.slice none 0 0] 32)).alloc (.cells #[.int .i64 1] 29)) (w.heap.size + 1 + 1) 32 (.slice none 0 0) := by
    have := (Boxed.new ((w.alloc (.cells #[.string k] 9)).alloc (.cells #[.string q] 9)) 32 (.slice none 0 0)).alloc (.cells #[.int .i64 1] 29)
    rw [World.size_alloc, World.size_alloc] at this
    exact this
  have Y2 : Boxed ((((w.alloc (.cells #[.string k] 9)).alloc (.cells #[.string q] 9)).alloc (.cells #[.slice none 0 0] 32)).alloc (.cells #[.int .i64 1] 29)) (w.heap.size + 1 + 1 + 1) 29 (.int .i64 1) := by
    have := Boxed.new (((w.alloc (.cells #[.string k] 9)).alloc (.cells #[.string q] 9)).alloc (.cells #[.slice none 0 0] 32)) 29 (.int .i64 1)
    rw [World.size_alloc, World.size_alloc, World.size_alloc] at this
    exact this
  have BB : Below w.heap.size w ((((w.alloc (.cells #[.string k] 9)).alloc (.cells #[.string q] 9)).alloc (.cells #[.slice none 0 0] 32)).alloc (.cells #[.int .i64 1] 29)) := (((below_alloc w _).alloc (by simp) _).alloc (by simp; omega) _).alloc (by simp; omega) _
  have y1 := Y1.cell
  have y2 := Y2.cell
  generalize ((((w.alloc (.cells #[.string k] 9)).alloc (.cells #[.string q] 9)).alloc (.cells #[.slice none 0 0] 32)).alloc (.cells #[.int .i64 1] 29)) = VZ at *
  refine bodyPost_ret (v := .tuple #[.slice none 0 0, .int .i64 1]) (by simp [results, Try.results9, go_sem, y1, y2]) rfl ⟨rfl, BB⟩
theorem shut_nil (w : World) : Shut none w := .inl rfl
theorem shut_zero {p : Nat} {w : World} (h : w.heap[p]? = some (.cells #[.string ⟨#[]⟩, .slice none 0 0] 26 (0, 0))) : Shut (some ⟨p, 0, none⟩) w := .inr ⟨p, rfl, none, 0, 0, 0, h, Pts.nil _ _⟩
set_option maxRecDepth 100000 in
set_option maxHeartbeats 8000000 in
theorem none_walk (key : ByteArray) (hk : key.size ≤ reachBytes) (q : Int) (hq : (Lit.int .u64 q).wf = true) (tt : ByteArray) (ht : tt.size ≤ reachBytes) (w : World) : Calls Try.prog 3 #[.string key, .int .u64 q, .string tt] w fun e w' => e = .returned (.bool true) ∧ Below w.heap.size w w' := by
  have hr : 0 ≤ q ∧ q ≤ 18446744073709551615 := by simpa [Lit.wf, IntKind.min, IntKind.max, IntKind.signed, IntKind.bits] using hq
  obtain ⟨at', rfl⟩ : ∃ n : Nat, q = (n : Int) := ⟨q.toNat, by omega⟩
  clear hq hr hk ht
  have AW := Lib.hid (fun u => tawake_any u)
  have GC := Lib.hid (fun (p : Option Addr) (u : World) (h : Shut p u) => get_shut h key at')
  have SC := Lib.hid (fun (p : Option Addr) (u : World) (h : Shut p u) => scan_shut h key tt)
  have LC := Lib.hid (fun (p : Option Addr) (u : World) (h : Shut p u) => len_shut h)
  have FC := Lib.hid (fun (p : Option Addr) (u : World) (h : Shut p u) => first_shut h)
  have TC := Lib.hid (fun (p : Option Addr) (u : World) (h : Shut p u) => last_shut h)
  have MC := Lib.hid (fun (p : Option Addr) (u : World) (h : Shut p u) => may_shut h key)
  have S0 := Lib.hid (shut_zero (heap_alloc_new w (.cells #[.string ⟨#[]⟩, .slice none 0 0] 26)))
  have W0 := Lib.hid (below_alloc w (.cells #[.string ⟨#[]⟩, .slice none 0 0] 26))
  simp only [rwZ] at GC
  go_enter Try.func3, Try.ntmps3
  go_wp2_with fail
  generalize w.alloc (.cells #[.string ⟨#[]⟩, .slice none 0 0] 26) = w0 at *
  obtain ⟨g, hg⟩ := named w.heap.size
  rw [← hg.out] at S0 ⊢
  go_loopw [7, 9] (fun a d wr => ∃ (j : Nat) (p : Option Addr), j ≤ 2 ∧ d = .int .i64 (j : Int) ∧ a = .pointer p ∧ Hid (j = 0 → p = none) ∧ Hid (Shut (some ⟨g, 0, none⟩) wr) ∧ Hid (Below w.heap.size w wr)) (fun _ d _ => 2 - (intOf d).toNat)
  case atStart => exact ⟨0, none, by omega, rfl, rfl, Lib.hid (fun _ => rfl), S0, W0⟩
  case round =>
    obtain ⟨j, p, hj, rfl, rfl, hp, hS, hB⟩ := hrel
    rcases (show j = 0 ∨ j = 1 ∨ j = 2 by omega) with rfl | rfl | rfl
    · obtain rfl := hp.out rfl
      go_wp2_with (first
        | (go_at_call 8; ((with_reducible refine (GC.out _ _ (shut_nil _)).mono ?_); rintro e w1 ⟨rfl, hb1⟩; have X1 := Lib.hid (RowAt.new rwZ w1); have S1 := Lib.hid ((hS.out.below hb1).below (below_alloc w1 (.cells #[.string ⟨#[]⟩, .int .u64 0, .int .i64 0, .string ⟨#[]⟩] 28))); have B1 := Lib.hid (below_of (below_of hB.out hb1) (below_alloc w1 (.cells #[.string ⟨#[]⟩, .int .u64 0, .int .i64 0, .string ⟨#[]⟩] 28))); clear hb1))
        | (go_at_call 9; ((with_reducible refine (SC.out _ _ (shut_nil _)).mono ?_); rintro e w2 ⟨rfl, hb2⟩; have S2 := Lib.hid (S1.out.below hb2); have B2 := Lib.hid (below_of B1.out hb2); obtain ⟨⟨c0, c1, c2, c3⟩, _⟩ := (X1.out.below hb2).cells; simp only [rwZ] at c0 c1 c2 c3; clear hb2))
        | (go_at_call 10; ((with_reducible refine (LC.out _ _ (shut_nil _)).mono ?_); rintro e w3 ⟨rfl, hb2⟩; have S3 := Lib.hid (S2.out.below hb2); have B3 := Lib.hid (below_of B2.out hb2); clear hb2))
        | (go_at_call 11; ((with_reducible refine (FC.out _ _ (shut_nil _)).mono ?_); rintro e w4 ⟨rfl, hb2⟩; have S4 := Lib.hid (S3.out.below hb2); have B4 := Lib.hid (below_of B3.out hb2); clear hb2))
        | (go_at_call 12; ((with_reducible refine (TC.out _ _ (shut_nil _)).mono ?_); rintro e w5 ⟨rfl, hb2⟩; have S5 := Lib.hid (S4.out.below hb2); have B5 := Lib.hid (below_of B4.out hb2); clear hb2))
        | (go_at_call 13; ((with_reducible refine (MC.out _ _ (shut_nil _)).mono ?_); rintro e w6 ⟨rfl, hb2⟩; have S6 := Lib.hid (S5.out.below hb2); have B6 := Lib.hid (below_of B5.out hb2); clear hb2))
        | fail "no arm")
      go_roundw
      case rel => exact ⟨1, _, by omega, rfl, rfl, Lib.hid (fun h => absurd h (by omega)), S6, B6⟩
      case measure => simp [intOf]
    · skip
      go_wp2_with (first
        | (go_at_call 8; ((with_reducible refine (GC.out _ _ hS.out).mono ?_); rintro e w1 ⟨rfl, hb1⟩; have X1 := Lib.hid (RowAt.new rwZ w1); have S1 := Lib.hid ((hS.out.below hb1).below (below_alloc w1 (.cells #[.string ⟨#[]⟩, .int .u64 0, .int .i64 0, .string ⟨#[]⟩] 28))); have B1 := Lib.hid (below_of (below_of hB.out hb1) (below_alloc w1 (.cells #[.string ⟨#[]⟩, .int .u64 0, .int .i64 0, .string ⟨#[]⟩] 28))); clear hb1))
        | (go_at_call 9; ((with_reducible refine (SC.out _ _ S1.out).mono ?_); rintro e w2 ⟨rfl, hb2⟩; have S2 := Lib.hid (S1.out.below hb2); have B2 := Lib.hid (below_of B1.out hb2); obtain ⟨⟨c0, c1, c2, c3⟩, _⟩ := (X1.out.below hb2).cells; simp only [rwZ] at c0 c1 c2 c3; clear hb2))
        | (go_at_call 10; ((with_reducible refine (LC.out _ _ S2.out).mono ?_); rintro e w3 ⟨rfl, hb2⟩; have S3 := Lib.hid (S2.out.below hb2); have B3 := Lib.hid (below_of B2.out hb2); clear hb2))
        | (go_at_call 11; ((with_reducible refine (FC.out _ _ S3.out).mono ?_); rintro e w4 ⟨rfl, hb2⟩; have S4 := Lib.hid (S3.out.below hb2); have B4 := Lib.hid (below_of B3.out hb2); clear hb2))
        | (go_at_call 12; ((with_reducible refine (TC.out _ _ S4.out).mono ?_); rintro e w5 ⟨rfl, hb2⟩; have S5 := Lib.hid (S4.out.below hb2); have B5 := Lib.hid (below_of B4.out hb2); clear hb2))
        | (go_at_call 13; ((with_reducible refine (MC.out _ _ S5.out).mono ?_); rintro e w6 ⟨rfl, hb2⟩; have S6 := Lib.hid (S5.out.below hb2); have B6 := Lib.hid (below_of B5.out hb2); clear hb2))
        | fail "no arm")
      go_roundw
      case rel => exact ⟨2, _, by omega, rfl, rfl, Lib.hid (fun h => absurd h (by omega)), S6, B6⟩
      case measure => simp [intOf]
    · go_wp2_with (go_at_call 14; ((with_reducible refine (AW.out _).mono ?_); rintro e w9 ⟨rfl, hb9⟩))
      go_returns
      exact ⟨rfl, below_of hB.out hb9⟩
--LAW freshetlaw12.TableNone none_walk string:key uint64:q string:tt
--BEGIN
namespace TableNoneProof
open Go.ChangeShapes Go.WideShapes Go.ChangeAt Go.RowKit
open Go.ChangeMaps (open_string shut_string)
theorem own : ownKnob Try.prog.godebug = none := by kernel_rfl
set_option maxRecDepth 100000 in
theorem lifted (os : Os) (started : os.Started) (H : Type) (enc : TypeId × Value → H) :
    ReturnsInHanded {} Try.checked os 3 .any (Rows.tableNoneSpec.pre6 enc Try.prog Try.f3 Rows.tableNoneRow.domain false) (Rows.tableNoneSpec.post enc Try.prog Try.f3 false true false false) := by
  refine returnsInHanded_of_change_sized (C := Try.checked) own started (by kernel_rfl) Try.func3
    (ChangeSpec.witness6 (enc := enc) (C := Try.checked) false ⟨#[], #[.string .empty, .int .u64 0, .string .empty], []⟩ 8 (by kernel_rfl) (by kernel_rfl) (by kernel_rfl) (by kernel_rfl)) ?_
  intro W base args ds gs before hval0 hW _ hsz _
  have hval : ∀ (j : Nat) t v, Try.f3.params[j]? = some t → args[j]? = some v → Value.okWide Try.prog W .any base t v := hval0
  have hW' := hW
  obtain ⟨p, q, hA0, hV, rfl, hfz, hnd⟩ := hW
  have hA : DataW.TrodAll enc Try.prog W 0 (fun _ => true) true Try.f3.params.toList args.toList ds p := hA0
  rw [Try.params3] at hA hval hsz
  obtain ⟨v0, vs0, d0, ds0, p0, q0, hargs, rfl, rfl, h0, r0⟩ := trodAll_cons hA
  obtain ⟨v1, vs1, d1, ds1, p1, q1, rfl, rfl, rfl, h1, r1⟩ := trodAll_cons r0
  obtain ⟨v2, vs2, d2, ds2, p2, q2, rfl, rfl, rfl, h2, r2⟩ := trodAll_cons r1
  obtain ⟨rfl, rfl, rfl⟩ := trodAll_nil r2
  obtain rfl : args = #[v0, v1, v2] := by cases args; simp_all
  obtain ⟨rfl, rfl⟩ := trodVars_none hV
  obtain ⟨key, rfl, rfl, rfl, m0⟩ := open_string Try.underlying9 (hval 0 9 v0 rfl rfl) h0
  obtain ⟨q, rfl, rfl, rfl, m1⟩ := open_int Try.underlying22 (hval 1 22 v1 rfl rfl) h1
  obtain ⟨tt, rfl, rfl, rfl, m2⟩ := open_string Try.underlying9 (hval 2 9 v2 rfl rfl) h2
  have z0 : key.size ≤ reachBytes := by have := sized_string hsz (j := 0) (t := 9) (bytes := key.data.toList) rfl rfl; simpa using this
  have z2 : tt.size ≤ reachBytes := by have := sized_string hsz (j := 2) (t := 9) (bytes := tt.data.toList) rfl rfl; simpa using this
  clear hA0 hval0
  simp only [List.append_nil] at hW'
  refine (none_walk key z0 q m1 tt z2 W).mono fun e W' ⟨he, hg⟩ => ?_
  subst he
  exact ⟨_, rfl, _, _, _, [], [], [], hW', (trodAll_cons_mk (shut_bool Try.underlying4 _) trodAll_mk0), (trodAll_cons_mk (shut_string Try.underlying9 m0) (trodAll_cons_mk (shut_int Try.underlying22 m1) (trodAll_cons_mk (shut_string Try.underlying9 m2) trodAll_mk0))), rfl, hg.frame _, fun h => by cases h⟩
theorem holds : Rows.TableNoneSaid :=
  OpenClaim.holds_of_wide 3 Try.f3 rfl rfl rfl rfl rfl rfl rfl ⟨rfl, rfl, rfl, rfl, rfl⟩ rfl rfl rfl rfl rfl (by kernel_rfl) Try.func3 (by kernel_rfl)
    (of_decide_eq_true (by kernel_rfl)) (by unfold Func.isWrapper; first | (rw [if_pos (by decide +kernel)]; kernel_rfl) | (rw [if_neg (by decide +kernel)]; exact ⟨rfl, rfl⟩))
    (fun os started H enc _ => lifted os started H enc)
end TableNoneProof
--END
end Go.Proofs.Ythppkjbcdlhgeaa
