/-
  P10.2: of any text and key it is told what the document says. Condition: at most 4096 bytes, and 300 of the key (else the law is its own check).
-/
import Derived.Test.YtccdbodemoefkaaDoorBloomRefHas
import Derived.Test.YtccdbodemoefkaaDoorLaidOut
import Derived.Test.YtccdbodemoefkaaDoorCard
import Derived.Laws.EntriesVeiled
namespace Go.Proofs.YtccdbodemoefkaaDoor
set_option maxRecDepth 100000
open Go.RowKit
theorem hasL_walk (f : ByteArray) (hf : f.size ≤ reachBytes) (key : ByteArray) (hkey : key.size ≤ reachBytes) (w : World) (ht : Tab w) :
    Calls Tryd.prog 3 #[.string f, .string key] w fun e w' => e = .returned (.bool true) ∧ Below w.heap.size w w' := by
  unfold reachBytes at hf hkey
  have AW := Lib.hid (fun u : World => awake_any u)
  by_cases c1 : 4096 < f.size
  · have i1 : (4096 : Int) < (f.size : Int) := by omega
    go_enter Tryd.func3, Tryd.ntmps3
    go_wp2_with (go_at_call 6; (with_reducible refine (AW.out _).mono ?_); rintro e w1 ⟨rfl, b1⟩)
    go_returns
    exact ⟨rfl, b1⟩
  · have i1 : (f.size : Int) ≤ 4096 := by omega
    by_cases c2 : 300 < key.size
    · have i2 : (300 : Int) < (key.size : Int) := by omega
      go_enter Tryd.func3, Tryd.ntmps3
      go_wp2_with (go_at_call 6; (with_reducible refine (AW.out _).mono ?_); rintro e w1 ⟨rfl, b1⟩)
      go_returns
      exact ⟨rfl, b1⟩
    · have i2 : (key.size : Int) ≤ 300 := by omega
      have l1 : f.size ≤ maxLen := by unfold maxLen; omega
      have l2 : key.size ≤ maxLen := by unfold maxLen; omega
      have P1 := Lib.hid (fun u : World => check_any f l1 u)
      have P2 := Lib.hid (fun u : World => refcheck_any f l1 u)
      have P3 := Lib.hid (fun u : World => has_any f key l1 l2 u)
      have P4 := Lib.hid (fun u : World => refhas_any f key l1 l2 u)
      have P5 := Lib.hid (fun (u : World) (hb : Below w.heap.size w u) => ones_any f l1 u (ht.below hb (Nat.le_refl _)))
      have P6 := Lib.hid (fun u : World => refones_any f l1 u)
      obtain ⟨E, hE⟩ := named (if Blm.okB f.data.toList = true then (0 : Int) else 7)
      obtain ⟨H, hH⟩ := named (Blm.hasB f.data.toList key.data.toList)
      obtain ⟨O, hO⟩ := named (Blm.onesB f.data.toList)
      rw [← hE.out] at P1 P2
      rw [← hH.out] at P3 P4
      rw [← hO.out] at P5 P6
      clear l1 l2 ht hf hkey
      go_enter Tryd.func3, Tryd.ntmps3
      go_wp2_with (first
        | (go_at_call 7; (with_reducible refine (P1.out _).mono ?_); rintro e w1 ⟨rfl, rfl⟩)
        | (go_at_call 8; (with_reducible refine (P2.out _).mono ?_); rintro e w2 ⟨rfl, rfl⟩)
        | (go_at_call 9; (with_reducible refine (P3.out _).mono ?_); rintro e w3 ⟨rfl, b3⟩)
        | (go_at_call 10; (with_reducible refine (P4.out _).mono ?_); rintro e w4 ⟨rfl, rfl⟩)
        | (go_at_call 11; (with_reducible refine (P5.out _ b3).mono ?_); rintro e w5 ⟨rfl, b5⟩)
        | (go_at_call 12; (with_reducible refine (P6.out _).mono ?_); rintro e w6 ⟨rfl, rfl⟩)
        | (go_at_call 6; (with_reducible refine (AW.out _).mono ?_); rintro e w7 ⟨rfl, b7⟩)
        | fail "no arm")
      go_returns
      exact ⟨rfl, below_of (below_of b3 b5) b7⟩
--CARDTAB freshetlaw10.BloomHas hasL_walk string:f string:key
--BEGIN
namespace BloomHasProof
open Go.ChangeShapes Go.WideShapes Go.ChangeAt Go.RowKit
open Go.ChangeMaps (open_string shut_string)
theorem own : ownKnob Tryd.prog.godebug = none := by kernel_rfl
theorem reads (os : Os) {H : Type} (enc : TypeId × Value → H) : ∃ places, DataW.whole enc Tryd.prog ((World.laidAll Tryd.prog os Rows.bloomHasRow.laid).forCall (fun _ _ => 0) ⟨#[], #[.string .empty, .string .empty], []⟩).memory Tryd.f3.params.toList Rows.bloomHasSpec.vars false (#[.string .empty, .string .empty] : Array Value).toList 8 = some ([.lit (.string []), .lit (.string [])], [], places) :=
  ⟨[], by kernel_rfl⟩
theorem laid_met (os : Os) (args : Array Value) : laidMetH Tryd.prog Rows.bloomHasRow.laid ((World.laidAll Tryd.prog os Rows.bloomHasRow.laid).forCall (fun _ _ => 0) ⟨#[], args, []⟩).memory := by
  rw [MakeChecks.laidMetH_plain _ _ _ (by kernel_rfl)]; exact laidMet_laidAll _ (by kernel_rfl) (by kernel_rfl)
set_option maxRecDepth 100000 in
theorem lifted (os : Os) (started : os.Started) (H : Type) (enc : TypeId × Value → H) (F : Stop.Interp) :
    ReturnsInHanded {} Tryd.checked os 3 .any ((OpenSpec.ofChange Rows.bloomHasSpec).preRow enc Tryd.prog Tryd.f3 Rows.bloomHasRow.domain false Rows.bloomHasRow.laid) (((OpenSpec.ofChange Rows.bloomHasSpec).at F).post enc Tryd.prog Tryd.f3 false true false false) := by
  obtain ⟨places, hx⟩ := reads os enc
  refine returnsInHanded_of_row (C := Tryd.checked) (s := OpenSpec.ofChange Rows.bloomHasSpec) own started (by kernel_rfl) Tryd.func3
    (witness_row_shaped (enc := enc) (C := Tryd.checked) false (World.laidAll Tryd.prog os Rows.bloomHasRow.laid) #[.string .empty, .string .empty] (World.laidAll_os _ _ _) (World.shaped_of_ZipB (by kernel_rfl) (by kernel_rfl)) (by kernel_rfl)
      (OpenSpec.preRow_of_cond 8 hx (by kernel_rfl) (fun k hk => by cases hk) (by kernel_rfl) (laid_met os _))) ?_
  intro W base args ds gs before hval0 hW _ hcond hsz hlaid hsh _
  have hval : ∀ (j : Nat) t v, Tryd.f3.params[j]? = some t → args[j]? = some v → Value.okWide Tryd.prog W .any base t v := hval0
  have hW' := hW
  obtain ⟨p, q, hA0, hV, rfl, hfz, hnd⟩ := hW
  have hA : DataW.TrodAll enc Tryd.prog W 0 (fun _ => true) true Tryd.f3.params.toList args.toList ds p := hA0
  rw [Tryd.params3] at hA hval hsz
  obtain ⟨v0, vs0, d0, ds0, p0, q0, hargs, rfl, rfl, h0, r0⟩ := trodAll_cons hA
  obtain ⟨v1, vs1, d1, ds1, p1, q1, rfl, rfl, rfl, h1, r1⟩ := trodAll_cons r0
  obtain ⟨rfl, rfl, rfl⟩ := trodAll_nil r1
  obtain rfl : args = #[v0, v1] := by cases args; simp_all
  obtain ⟨rfl, rfl⟩ := trodVars_none hV
  obtain ⟨f, rfl, rfl, rfl, m0⟩ := open_string Tryd.underlying9 (hval 0 9 v0 rfl rfl) h0
  obtain ⟨key, rfl, rfl, rfl, m1⟩ := open_string Tryd.underlying9 (hval 1 9 v1 rfl rfl) h1
  have z0 : f.size ≤ reachBytes := by have := sized_string hsz (j := 0) (t := 9) (bytes := f.data.toList) rfl rfl; simpa using this
  have z1 : key.size ≤ reachBytes := by have := sized_string hsz (j := 1) (t := 9) (bytes := key.data.toList) rfl rfl; simpa using this
  clear hA0 hval0
  simp only [List.append_nil] at hW'
  have hmx := tab_laid (w := W) hlaid
  refine (hasL_walk f z0 key z1 W hmx).mono fun e W' ⟨he, hg⟩ => ?_
  subst he
  exact ⟨_, rfl, _, _, _, [], [], [], hW', (trodAll_cons_mk (shut_bool Tryd.underlying4 _) trodAll_mk0), (trodAll_cons_mk (shut_string Tryd.underlying9 m0) (trodAll_cons_mk (shut_string Tryd.underlying9 m1) trodAll_mk0)), rfl, hg.frame _, fun h => by cases h⟩
theorem said : Rows.BloomHasSaid :=
  OpenClaim.holds_of_cond 3 Tryd.f3 rfl rfl rfl rfl rfl rfl rfl ⟨rfl, rfl, rfl, rfl, rfl⟩ rfl rfl rfl rfl rfl (by kernel_rfl) Tryd.func3 (by kernel_rfl)
    (of_decide_eq_true (by kernel_rfl)) (by unfold Func.isWrapper; first | (rw [if_pos (by decide +kernel)]; kernel_rfl) | (rw [if_neg (by decide +kernel)]; exact ⟨rfl, rfl⟩))
    (fun os started H enc _ F => by rw [OpenClaim.pre_eq_preRow]; exact lifted os started H enc F)
theorem plain (f : FuncId) (fn : Func) (hf : Tryd.pinned.checked.prog.funcNamed "freshet/freshetlaw10.BloomHas" = some f) (hfn : Tryd.pinned.checked.prog.funcs[f]? = some fn) :
    false = Tryd.pinned.checked.prog.looks [] ∧ ∀ (j : Nat) t, fn.params[j]? = some t → Tryd.pinned.checked.prog.wantsStandIn t = false := by
  obtain rfl : f = 3 := Option.some.inj ((show Tryd.prog.funcNamed "freshet/freshetlaw10.BloomHas" = some 3 by kernel_rfl).symm.trans hf) |>.symm
  obtain rfl : fn = Tryd.f3 := (Option.some.inj (Tryd.func3.symm.trans hfn)).symm
  refine ⟨by kernel_rfl, fun j t ht => ?_⟩
  rw [Tryd.params3] at ht
  have hm : t ∈ ([9, 9] : List Nat) := by simpa using Array.mem_of_getElem? ht
  have hall : (([9, 9] : List Nat).all fun u => !Tryd.prog.wantsStandIn u) = true := by kernel_rfl
  exact (show Tryd.prog.wantsStandIn t = false by simpa using List.all_eq_true.1 hall t hm)
theorem holds : Rows.BloomHasCardSaid :=
  Claim7.holds_tied_plain_at .later [] _ _ _ _ said (fun _ h => by cases h) (by kernel_rfl) (fun _ h => by cases h) bloomHas_row_tie rfl ⟨rfl, rfl⟩ (by kernel_rfl) rfl plain (by kernel_rfl)
end BloomHasProof
--END
end Go.Proofs.YtccdbodemoefkaaDoor
