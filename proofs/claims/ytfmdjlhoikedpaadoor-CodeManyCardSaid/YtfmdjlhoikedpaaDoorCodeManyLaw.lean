/-
  Fields, one behind the other, are read back one by one, whatever stands behind (CodeMany). Condition, the statement's own: at most 50 texts.
-/
import Derived.Test.YtfmdjlhoikedpaaDoorCodeCutLaw
import Derived.Test.YtfmdjlhoikedpaaDoorStrsArg
import Derived.Deep.RegionWith
namespace Go.Proofs.YtfmdjlhoikedpaaDoor
open Go.RowKit
/-- The fields of the texts, one behind the other. -/
def flds : List ByteArray → List UInt8
  | [] => []
  | x :: r => Code.uvar x.size ++ x.data.toList ++ flds r
theorem flds_snoc (l : List ByteArray) (x : ByteArray) : flds (l ++ [x]) = flds l ++ (Code.uvar x.size ++ x.data.toList) := by
  induction l with
  | nil => simp [flds]
  | cons y l ih => simp [flds, ih]
theorem flds_len (l : List ByteArray) (h : ∀ s ∈ l, s.size ≤ reachBytes) : (flds l).length ≤ l.length * 140737488351242 := by
  induction l with
  | nil => simp [flds]
  | cons x l ih =>
    have h1 := h x List.mem_cons_self
    unfold reachBytes at h1
    have h2 := ih fun s hs => h s (List.mem_cons_of_mem _ hs)
    have h3 := Code.uvar_ten (n := x.size) (by omega)
    have h4 : x.data.toList.length = x.size := by simp
    rw [flds, List.length_append, List.length_append, List.length_cons, Nat.add_mul]
    omega
theorem flds_app (a b : List ByteArray) : flds (a ++ b) = flds a ++ flds b := by
  induction a with
  | nil => simp [flds]
  | cons x a ih => simp [flds, ih]
theorem list_from (S : ByteArray) (k : Nat) : (S.extract k S.size).data.toList = S.data.toList.drop k := Lib.extract_to_end S k
set_option maxRecDepth 100000 in
set_option maxHeartbeats 4000000 in
theorem codeMany_walk (a0 : Option Addr) (len cap bk off : Nat) (Xs : List ByteArray) (hlen : Xs.length = len) (w : World) (ha : 0 < len → a0 = some ⟨bk, off, none⟩) (hbk : 0 < len → bk < w.heap.size)
    (hcell : ∀ (j : Nat) X, Xs[j]? = some X → w.cell? ⟨bk, off + j, none⟩ = some (.string X)) (hz : ∀ s ∈ Xs, s.size ≤ reachBytes) (p : ByteArray) (hp : p.size ≤ reachBytes) (m : Int) (hm : Max w m) :
    Calls Tryd.prog 11 #[.slice a0 len cap, .string p] w fun e w' => e = .returned (.bool true) ∧ Below w.heap.size w w' := by
  have hB0 := Below.refl w.heap.size w
  unfold reachBytes at hp
  go_enter Tryd.func11, Tryd.ntmps11
  by_cases hg : 50 < len
  · have hg' : (50 : Int) < (len : Int) := by omega
    go_wp2_with (go_at_call 17; refine (awake_any m _ (by assumption)).mono ?_; rintro e w' ⟨rfl, hb⟩; have hB' := below_of (by assumption) hb)
    go_ret
    exact ⟨rfl, by assumption⟩
  have hg' : (len : Int) ≤ 50 := by omega
  have HC := Lib.hid hcell
  have HZ := Lib.hid hz
  have HAd := Lib.hid ha
  clear hcell hz ha
  go_wp2
  go_loopw [5, 6] (fun s d wr => ∃ (i : Nat) (l : List UInt8), i ≤ len ∧ l = flds (Xs.take i) ∧ s = .string ⟨l.toArray⟩ ∧ d = .int .i64 (i : Int) ∧ Below w.heap.size w wr) (fun _ d _ => len - (intOf d).toNat)
  case atStart => exact ⟨0, [], by omega, rfl, rfl, rfl, hB0⟩
  case round =>
    obtain ⟨i, l, hi, hl, rfl, rfl, hB⟩ := hrel
    have HL := Lib.hid hl
    have hll : l.length ≤ i * 140737488351242 := by
      rw [hl]
      have := flds_len (Xs.take i) (fun s hs => HZ.out s (List.mem_of_mem_take hs))
      rw [List.length_take, hlen, Nat.min_eq_left hi] at this
      exact this
    clear hl
    by_cases hlt : i < len
    · have hix : i < Xs.length := by omega
      obtain ⟨X, hX⟩ : ∃ X, Xs[i]? = some X := ⟨Xs[i], List.getElem?_eq_getElem hix⟩
      have hXm : X ∈ Xs := List.mem_of_getElem? hX
      have hXz := HZ.out X hXm
      have hc0 := HC.out i X hX
      have hc1 : wr.cell? ⟨bk, off + i, none⟩ = some (.string X) := (hB.cell (p := ⟨bk, off + i, none⟩) (hbk (by omega))).trans hc0
      obtain rfl := HAd.out (by omega)
      have P := Lib.hid fun u => putfield_any X hXz u
      have hXz' := hXz
      unfold reachBytes at hXz'
      have hul := Code.uvar_ten (n := X.size) (by omega)
      have htk : Xs.take (i + 1) = Xs.take i ++ [X] := by
        rw [List.take_succ_eq_append_getElem hix]
        have : Xs[i] = X := by rw [List.getElem?_eq_getElem hix] at hX; exact Option.some.inj hX
        rw [this]
      have HS := Lib.hid htk
      have hxl : X.data.toList.length = X.size := by simp
      clear htk hc0 hX
      go_wp2_with (first
        | (go_at_call 28; ((with_reducible refine (P.out _).mono ?_); rintro e w' ⟨rfl, hb⟩; have hB' := below_of (by assumption) hb)))
      go_roundw
      case rel => exact ⟨i + 1, l ++ (Code.uvar X.size ++ X.data.toList), by omega, by rw [HS.out, flds_snoc, ← HL.out], rfl, by go_num, by assumption⟩
      case measure => simp [intOf]; omega
    · have hil : i = len := by omega
      subst hil
      have hX : Xs.take i = Xs := List.take_of_length_le (by omega)
      rw [hX] at HL
      clear hX hlt hi
      obtain ⟨S, hS⟩ := named ((⟨l.toArray⟩ : ByteArray) ++ p)
      have hSs : S.size = l.length + p.size := by rw [hS.out, size_app]
      have hSl : S.data.toList = flds Xs ++ p.data.toList := by rw [hS.out, list_app, HL.out]
      have hcat : (⟨l.toArray⟩ : ByteArray) ++ p = S := hS.out.symm
      have HSl := Lib.hid hSl
      clear hSl
      go_wp2
      go_loopw [7, 8] (fun a d wq => ∃ (i2 k : Nat), i2 ≤ i ∧ k = (flds (Xs.take i2)).length ∧ k ≤ S.size ∧ a = .int .i64 (k : Int) ∧ d = .int .i64 (i2 : Int) ∧ Below w.heap.size w wq) (fun _ d _ => i - (intOf d).toNat)
      case atStart => exact ⟨0, 0, by omega, rfl, by omega, rfl, rfl, hB⟩
      case round =>
        obtain ⟨i2, k, hi2, hk, hkS, rfl, rfl, hB2⟩ := hrel
        have HK := Lib.hid hk
        clear hk
        by_cases hlt2 : i2 < i
        · have hix : i2 < Xs.length := by omega
          obtain ⟨X, hX⟩ : ∃ X, Xs[i2]? = some X := ⟨Xs[i2], List.getElem?_eq_getElem hix⟩
          have hXz := HZ.out X (List.mem_of_getElem? hX)
          have hbq : bk < wr.heap.size := Nat.lt_of_lt_of_le (hbk (by omega)) hB2.size
          have hcq : wr.cell? ⟨bk, off + i2, none⟩ = some (.string X) := (hB2.cell (p := ⟨bk, off + i2, none⟩) (hbk (by omega))).trans (HC.out i2 X hX)
          obtain rfl := HAd.out (by omega)
          unfold reachBytes at hXz
          have hXe : Xs[i2] = X := by rw [List.getElem?_eq_getElem hix] at hX; exact Option.some.inj hX
          have htk : Xs.take (i2 + 1) = Xs.take i2 ++ [X] := by rw [List.take_succ_eq_append_getElem hix, hXe]
          have hdr : Xs.drop i2 = X :: Xs.drop (i2 + 1) := by rw [List.drop_eq_getElem_cons hix, hXe]
          have hsp : flds Xs = flds (Xs.take i2) ++ (Code.uvar X.size ++ X.data.toList ++ flds (Xs.drop (i2 + 1))) := by
            conv => lhs; rw [← List.take_append_drop i2 Xs, flds_app, hdr]
            rfl
          obtain ⟨T, hT⟩ := named (S.extract k S.size)
          have hTl : T.data.toList = Code.uvar X.size ++ X.data.toList ++ (flds (Xs.drop (i2 + 1)) ++ p.data.toList) := by
            rw [hT.out, list_from, HSl.out, hsp, HK.out, List.append_assoc, List.drop_left]; simp
          have hTs : T.size = S.size - k := by rw [hT.out, ByteArray.size_extract]; omega
          have hxl : X.data.toList.length = X.size := by simp
          have hfl : (Code.uvar X.size ++ X.data.toList).length + (flds (Xs.drop (i2 + 1)) ++ p.data.toList).length = T.size := by
            have := congrArg List.length hTl
            rw [List.length_append] at this
            rw [← this]; simp
          have e4 := Code.rdField_fld X.data.toList (flds (Xs.drop (i2 + 1)) ++ p.data.toList) (by omega) (X.size : Int) (by omega)
          rw [hxl, ← hTl] at e4
          have hk2 : (flds (Xs.take (i2 + 1))).length = k + (Code.uvar X.size ++ X.data.toList).length := by rw [htk, flds_snoc, List.length_append, ← HK.out]
          obtain ⟨F, hF⟩ := named (Code.uvar X.size ++ X.data.toList).length
          rw [← hF.out] at e4 hfl hk2
          have C : Hid (∀ u, Calls Tryd.prog 26 #[.string T, .int .i64 (X.size : Int)] u fun e w' => e = .returned (.tuple #[.string X, .int .i64 (F : Int), .int .i64 0]) ∧ Below u.heap.size u w') := Lib.hid fun u =>
            (field_gen T (by unfold maxLen; omega) _ (by omega) (Or.inr (by omega)) u).mono fun e w' ⟨he, hb⟩ => ⟨by rw [he, e4]; rfl, hb⟩
          have HK2 := Lib.hid hk2
          have hsl : ∀ u, (Instr.slice 9 (.string S) (some (.int .i64 (k : Int))) none none).run Tryd.prog u = .ok (.string T) u := fun u => by
            rw [run_slice_string_l u 9 S Tryd.underlying9 .i64 (k : Int) (by omega) (by omega), hT.out]
            have : (k : Int).toNat = k := by omega
            rw [this]
          have hkF : k + F ≤ S.size := by omega
          clear hX hXe htk hdr hsp hTl hxl e4 hk2 hcat hix hfl hTs
          go_wp2
          go_region_with (first | (go_at_call 26; ((with_reducible refine (C.out _).mono ?_); rintro e w' ⟨rfl, hb⟩; have hcw : w'.cell? ⟨bk, off + i2, none⟩ = some (.string X) := (hb.cell (p := ⟨bk, off + i2, none⟩) hbq).trans hcq; have hB3 : Below w.heap.size w w' := hB2.drew.trans (hb.mono hB2.size))))
          all_goals go_wp2
          go_roundw
          case rel => exact ⟨i2 + 1, k + F, by omega, HK2.out.symm, hkF, by go_num, by go_num, by assumption⟩
          case measure => simp [intOf]; omega
        · have hil2 : i2 = i := by omega
          subst hil2
          have hX : Xs.take i2 = Xs := List.take_of_length_le (by omega)
          rw [hX] at HK
          have hm2 : Max wr m := carry hB2 hm
          have hsl : ∀ u, (Instr.slice 9 (.string S) (some (.int .i64 (k : Int))) none none).run Tryd.prog u = .ok (.string p) u := fun u => by
            rw [run_slice_string_l u 9 S Tryd.underlying9 .i64 (k : Int) (by omega) (by omega)]
            have e1 : (k : Int).toNat = k := by omega
            have e2 : S.extract k S.size = p := by
              apply ByteArray.ext; apply Array.toList_inj.1
              rw [list_from, HSl.out, HK.out, List.drop_left]
            rw [e1, e2]
          clear hX hlt2 hcat
          go_wp2_with (go_at_call 17; refine (awake_any m _ (by assumption)).mono ?_; rintro e w' ⟨rfl, hb⟩; have hB' := below_of (by assumption) hb)
          go_ret
          exact ⟨rfl, by assumption⟩
--CARD freshetlaw02.CodeMany codeMany_walk strings:l string:p
--BEGIN
namespace CodeManyProof
open Go.ChangeShapes Go.WideShapes Go.ChangeAt Go.RowKit
open Go.ChangeMaps (open_string shut_string)
theorem own : ownKnob Tryd.prog.godebug = none := by kernel_rfl
theorem reads (os : Os) {H : Type} (enc : TypeId × Value → H) : ∃ places, DataW.whole enc Tryd.prog ((World.laidAll Tryd.prog os Rows.codeManyRow.laid).forCall (fun _ _ => 0) ⟨#[], #[.slice none 0 0, .string .empty], []⟩).memory Tryd.f11.params.toList Rows.codeManySpec.vars false (#[.slice none 0 0, .string .empty] : Array Value).toList 8 = some ([.nil, .lit (.string [])], [], places) :=
  ⟨[], by kernel_rfl⟩
theorem laid_met (os : Os) (args : Array Value) : laidMetH Tryd.prog Rows.codeManyRow.laid ((World.laidAll Tryd.prog os Rows.codeManyRow.laid).forCall (fun _ _ => 0) ⟨#[], args, []⟩).memory := by
  rw [MakeChecks.laidMetH_plain _ _ _ (by kernel_rfl)]; exact laidMet_laidAll _ (by kernel_rfl) (by kernel_rfl)
set_option maxRecDepth 100000 in
theorem lifted (os : Os) (started : os.Started) (H : Type) (enc : TypeId × Value → H) (F : Stop.Interp) :
    ReturnsInHanded {} Tryd.checked os 11 .any ((OpenSpec.ofChange Rows.codeManySpec).preRow enc Tryd.prog Tryd.f11 Rows.codeManyRow.domain false Rows.codeManyRow.laid) (((OpenSpec.ofChange Rows.codeManySpec).at F).post enc Tryd.prog Tryd.f11 false true false false) := by
  obtain ⟨places, hx⟩ := reads os enc
  refine returnsInHanded_of_row (C := Tryd.checked) (s := OpenSpec.ofChange Rows.codeManySpec) own started (by kernel_rfl) Tryd.func11
    (witness_row_shaped (enc := enc) (C := Tryd.checked) false (World.laidAll Tryd.prog os Rows.codeManyRow.laid) #[.slice none 0 0, .string .empty] (World.laidAll_os _ _ _) (World.shaped_of_ZipB (by kernel_rfl) (by kernel_rfl)) (by kernel_rfl)
      (OpenSpec.preRow_of_cond 8 hx (by kernel_rfl) (fun k hk => by cases hk) (by kernel_rfl) (laid_met os _))) ?_
  intro W base args ds gs before hval0 hW _ hcond hsz _ hsh _
  have hval : ∀ (j : Nat) t v, Tryd.f11.params[j]? = some t → args[j]? = some v → Value.okWide Tryd.prog W .any base t v := hval0
  have hW' := hW
  obtain ⟨p, q, hA0, hV, rfl, hfz, hnd⟩ := hW
  have hA : DataW.TrodAll enc Tryd.prog W 0 (fun _ => true) true Tryd.f11.params.toList args.toList ds p := hA0
  rw [Tryd.params11] at hA hval hsz
  obtain ⟨v0, vs0, d0, ds0, p0, q0, hargs, rfl, rfl, h0, r0⟩ := trodAll_cons hA
  obtain ⟨v1, vs1, d1, ds1, p1, q1, rfl, rfl, rfl, h1, r1⟩ := trodAll_cons r0
  obtain ⟨rfl, rfl, rfl⟩ := trodAll_nil r1
  obtain rfl : args = #[v0, v1] := by cases args; simp_all
  obtain ⟨rfl, rfl⟩ := trodVars_none hV
  obtain ⟨a0, n0, c0, rfl⟩ := okWide_slice Tryd.underlying43 (hval 0 43 v0 rfl rfl)
  have k0 := h0
  obtain ⟨fu0, hf0⟩ := h0
  obtain ⟨b0, o0, l, len0, ad0, cell0, max0, dd0⟩ := open_strs_arg hf0
  have z0 : ∀ s ∈ l, s.size ≤ reachBytes := by
    intro s hs
    rcases dd0 with h0 | ⟨sp, hd⟩
    · rw [List.length_eq_zero_iff.1 (len0.trans h0)] at hs; cases hs
    · exact sized_strs hsz (j := 0) rfl (by rw [← hd]; rfl) hs
  obtain ⟨p, rfl, rfl, rfl, m1⟩ := open_string Tryd.underlying9 (hval 1 9 v1 rfl rfl) h1
  have lt0 : ∀ x ∈ p0, x.block < W.heap.size := fun x hx => hW'.lt x (by simp only [List.mem_append]; simp [hx])
  have z1 : p.size ≤ reachBytes := by have := sized_string hsz (j := 1) (t := 9) (bytes := p.data.toList) rfl rfl; simpa using this
  clear hA0 hval0
  simp only [List.append_nil] at hW'
  obtain ⟨mx, hmx⟩ := Tryd.laysM155.s1_3 W hsh
  refine (codeMany_walk a0 n0 c0 b0 o0 l len0 W (fun h => (ad0 h).1) (fun h => (ad0 h).2) cell0 z0 p z1 mx hmx).mono fun e W' ⟨he, hg⟩ => ?_
  subst he
  exact ⟨_, rfl, _, _, _, [], _, [], hW', (trodAll_cons_mk (shut_bool Tryd.underlying4 _) trodAll_mk0), (trodAll_cons_mk (Below.trod laid_out (by kernel_rfl) (of_decide_eq_true (by kernel_rfl)) k0 hg lt0) (trodAll_cons_mk (shut_string Tryd.underlying9 m1) trodAll_mk0)), rfl, hg.frame _, fun h => by cases h⟩
theorem said : Rows.CodeManySaid :=
  OpenClaim.holds_of_cond 11 Tryd.f11 rfl rfl rfl rfl rfl rfl rfl ⟨rfl, rfl, rfl, rfl, rfl⟩ rfl rfl rfl rfl rfl (by kernel_rfl) Tryd.func11 (by kernel_rfl)
    (of_decide_eq_true (by kernel_rfl)) (by unfold Func.isWrapper; first | (rw [if_pos (by decide +kernel)]; kernel_rfl) | (rw [if_neg (by decide +kernel)]; exact ⟨rfl, rfl⟩))
    (fun os started H enc _ F => by rw [OpenClaim.pre_eq_preRow]; exact lifted os started H enc F)
theorem plain (f : FuncId) (fn : Func) (hf : Tryd.pinned.checked.prog.funcNamed "freshet/freshetlaw02.CodeMany" = some f) (hfn : Tryd.pinned.checked.prog.funcs[f]? = some fn) :
    false = Tryd.pinned.checked.prog.looks [] ∧ ∀ (j : Nat) t, fn.params[j]? = some t → Tryd.pinned.checked.prog.wantsStandIn t = false := by
  obtain rfl : f = 11 := Option.some.inj ((show Tryd.prog.funcNamed "freshet/freshetlaw02.CodeMany" = some 11 by kernel_rfl).symm.trans hf) |>.symm
  obtain rfl : fn = Tryd.f11 := (Option.some.inj (Tryd.func11.symm.trans hfn)).symm
  refine ⟨by kernel_rfl, fun j t ht => ?_⟩
  rw [Tryd.params11] at ht
  have hm : t ∈ ([43, 9] : List Nat) := by simpa using Array.mem_of_getElem? ht
  have hall : (([43, 9] : List Nat).all fun u => !Tryd.prog.wantsStandIn u) = true := by kernel_rfl
  exact (show Tryd.prog.wantsStandIn t = false by simpa using List.all_eq_true.1 hall t hm)
theorem holds : Rows.CodeManyCardSaid :=
  Claim7.holds_tied_plain_at .later [] _ _ _ _ said (fun _ h => by cases h) (by kernel_rfl) (fun _ h => by cases h) codeMany_row_tie rfl ⟨rfl, rfl⟩ (by kernel_rfl) rfl plain (by kernel_rfl)
end CodeManyProof
--END
end Go.Proofs.YtfmdjlhoikedpaaDoor
