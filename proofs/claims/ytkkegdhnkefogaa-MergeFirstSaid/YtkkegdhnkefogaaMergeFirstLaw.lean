/-
  MergeFirst: merging the first lists first changes nothing. Condition: at most 20 lists, of at most 60 rows (the law's own).
-/
import Derived.Test.YtkkegdhnkefogaaMergeCut
import Derived.Test.YtkkegdhnkefogaaMergeArg
import Derived.Test.YtkkegdhnkefogaaMergeAwake
import Derived.Test.YtkkegdhnkefogaaLaidOut
namespace Go.Proofs.Ytkkegdhnkefogaa
set_option maxRecDepth 100000
open Go.RowKit
theorem MergeD.yes {L : List (List Rw)} {w w' : World} {e : Ending} (h : MergeD L w e w') (ho : L.all ordR = true) : ∃ v, e = .returned (.tuple #[v, .int .i64 0]) ∧ w'.ownsRow w.heap.size 42 4 v (mergeL L).length (rowR (mergeL L)) ∧ Below w.heap.size w w' := by
  rcases h with ⟨h1, _⟩ | ⟨_, h2⟩
  · rw [ho] at h1; cases h1
  · exact h2
theorem MergeD.no {L : List (List Rw)} {w w' : World} {e : Ending} (h : MergeD L w e w') (ho : L.all ordR = false) : e = .returned (.tuple #[.slice none 0 0, .int .i64 2]) ∧ Below w.heap.size w w' := by
  rcases h with ⟨_, h1, h2⟩ | ⟨h1, _⟩
  · exact ⟨h1, h2⟩
  · rw [ho] at h1; cases h1
theorem own_one {w : World} {t : TypeId} {u : Value} (hu : u.oneCell' = true) : (w.alloc (.cells #[u] t)).ownsRow w.heap.size t 1 (.slice (some ⟨w.heap.size, 0, none⟩) 1 1) 1 [u] :=
  ⟨by simp, .inr ⟨w.heap.size, 1, #[u], rfl, Nat.le_refl _, heap_alloc_new w _, Nat.le_refl _, by unfold maxLen; omega, by simp, by simp⟩⟩
theorem mergeL_in {L : List (List Rw)} (hs : ∀ l ∈ L, SortedR l) {x : Rw} (hx : x ∈ mergeL L) : ∃ l ∈ L, x ∈ l := FinL_in ((mergeL_mem hs x).1 hx)
theorem mergeL_len (L : List (List Rw)) : (mergeL L).length ≤ (L.map List.length).sum := by
  have := foldL_len L []
  simpa [foldL, mergeL] using this
theorem sum_drop_le : ∀ (L : List (List Rw)) (j : Nat), ((L.drop j).map List.length).sum ≤ (L.map List.length).sum
  | [], j => by simp
  | l :: L, 0 => Nat.le_refl _
  | l :: L, j + 1 => by have := sum_drop_le L j; simp only [List.drop_succ_cons, List.map_cons, List.sum_cons]; omega
set_option maxRecDepth 100000 in
set_option maxHeartbeats 8000000 in
theorem mergefirst_walk (a : Option Addr) (n c b o : Nat) (ls : List Lr) (up : Int) (hup : (Lit.int .i64 up).wf = true) (w : World) (h0 : SlOf 1 cellsLr a n c b o ls w ∧ ∀ v ∈ ls, LrAt v w) :
    Calls Try.prog 7 #[.slice a n c, .int .i64 up] w fun e w' => e = .returned (.bool true) ∧ Below w.heap.size w w' := by
  obtain ⟨L, hLn⟩ := named (ls.map (·.l))
  have h := rl_of h0.1 h0.2
  have hIn := rl_in h0.2
  rw [← hLn.out] at h hIn
  clear h0 hLn
  have hcap := h.cap
  have hmost := h.most
  have hlen := Lib.hid h.len
  have AW := Lib.hid (fun u => mawake_any u)
  have MC := many_any h
  cases hmy : manyB L with
  | true =>
    rw [hmy] at MC
    have MC := Lib.hid MC
    go_enter Try.func7, Try.ntmps7
    go_wp2_with (first
      | (go_at_call 10; ((with_reducible refine MC.out.mono ?_); rintro e w1 ⟨rfl, hb1⟩))
      | (go_at_call 11; ((with_reducible refine (AW.out _).mono ?_); rintro e w2 ⟨rfl, hb2⟩)))
    go_returns
    exact ⟨rfl, hb1.trans (hb2.mono hb1.size)⟩
  | false =>
    rw [hmy] at MC
    have MC := Lib.hid MC
    obtain ⟨hL20, hL60⟩ := many_no hmy
    have hn : n ≤ 20 := by have := hlen.out; omega
    have hsum : Hid ((L.map List.length).sum ≤ 1200) := Lib.hid (by have := sum_few hL60; have : L.length * 60 ≤ 20 * 60 := Nat.mul_le_mul_right _ hL20; omega)
    have hsm : Hid (∀ l ∈ L, ∀ x ∈ l, SmallR x) := Lib.hid (fun l hl x hx => ⟨(hIn l hl x hx).1, (hIn l hl x hx).2.1⟩)
    have h := Lib.hid h
    clear hIn hL60 hmy hL20
    by_cases hu0 : up < 0
    · go_enter Try.func7, Try.ntmps7
      go_wp2_with (first
        | (go_at_call 10; ((with_reducible refine MC.out.mono ?_); rintro e w1 ⟨rfl, hb1⟩))
        | (go_at_call 11; ((with_reducible refine (AW.out _).mono ?_); rintro e w2 ⟨rfl, hb2⟩)))
      go_returns
      exact ⟨rfl, hb1.trans (hb2.mono hb1.size)⟩
    · by_cases hun : (n : Int) < up
      · go_enter Try.func7, Try.ntmps7
        go_wp2_with (first
          | (go_at_call 10; ((with_reducible refine MC.out.mono ?_); rintro e w1 ⟨rfl, hb1⟩))
          | (go_at_call 11; ((with_reducible refine (AW.out _).mono ?_); rintro e w2 ⟨rfl, hb2⟩)))
        go_returns
        exact ⟨rfl, hb1.trans (hb2.mono hb1.size)⟩
      · obtain ⟨k, rfl⟩ : ∃ k : Nat, up = (k : Int) := ⟨up.toNat, by omega⟩
        have hk : k ≤ n := by omega
        have hk0 : (0 : Int) ≤ (k : Int) := by omega
        have hkn : (k : Int) ≤ (n : Int) := by omega
        clear hup
        have PC : Hid (∀ u, Below w.heap.size w u → Calls Try.prog 13 #[.slice a n c] u (MergeD L u)) := Lib.hid (fun u hu => merge_any ((h.out.keep hu).mono hu.size) (by omega) hsm.out (by have := hsum.out; omega))
        cases ho : L.all ordR with
        | false =>
          go_enter Try.func7, Try.ntmps7
          go_wp2_with (first
            | (go_at_call 10; ((with_reducible refine MC.out.mono ?_); rintro e w1 ⟨rfl, hb1⟩))
            | (go_at_call 13; ((with_reducible refine (PC.out _ hb1).mono ?_); rintro e w2 hd; obtain ⟨rfl, hb2⟩ := hd.no ho; have hb2 := hb1.trans (hb2.mono hb1.size)))
            | (go_at_call 11; ((with_reducible refine (AW.out _).mono ?_); rintro e w3 ⟨rfl, hb3⟩)))
          go_returns
          exact ⟨rfl, hb2.trans (hb3.mono hb2.size)⟩
        | true =>
          have hs := all_sorted ho
          have hsT : ∀ l ∈ L.take k, SortedR l := fun l hl => hs l (List.mem_of_mem_take hl)
          have hsD : ∀ l ∈ L.drop k, SortedR l := fun l hl => hs l (List.mem_of_mem_drop hl)
          have hoT : Hid ((L.take k).all ordR = true) := Lib.hid (List.all_eq_true.2 fun l hl => (ordR_sorted l).2 (hsT l hl))
          have hoB : Hid ((mergeL (L.take k) :: L.drop k).all ordR = true) := Lib.hid (List.all_eq_true.2 fun l hl => (ordR_sorted l).2 (by
            rcases List.mem_cons.1 hl with rfl | hl
            · exact mergeL_sorted hsT
            · exact hsD l hl))
          have hEq : Hid (mergeL (mergeL (L.take k) :: L.drop k) = mergeL L) := Lib.hid (by rw [mergeL_first hsT hsD, List.take_append_drop])
          have hMl : Hid ((mergeL (L.take k)).length ≤ 1200) := Lib.hid (by have h1 := mergeL_len (L.take k); have h2 := sum_take_le L k; have := hsum.out; omega)
          have TC : Hid (∀ u, Below w.heap.size w u → Calls Try.prog 13 #[.slice a k c] u (MergeD (L.take k) u)) := Lib.hid (fun u hu => merge_any (((h.out.keep hu).mono hu.size).upto hk) (by omega) (fun l hl => hsm.out l (List.mem_of_mem_take hl)) (by have := hsum.out; have := sum_take_le L k; omega))
          have BC : Hid (∀ u p c2, RL u.heap.size p (n - k + 1) c2 (mergeL (L.take k) :: L.drop k) u → Calls Try.prog 13 #[.slice p (n - k + 1) c2] u (MergeD (mergeL (L.take k) :: L.drop k) u)) := Lib.hid (fun u p c2 hu => merge_any hu (by omega) (fun l hl x hx => by
            rcases List.mem_cons.1 hl with rfl | hl
            · obtain ⟨l2, k1, k2⟩ := mergeL_in hsT hx
              exact hsm.out l2 (List.mem_of_mem_take k1) x k2
            · exact hsm.out l (List.mem_of_mem_drop hl) x hx) (by
            have h1 := hMl.out
            have h2 := sum_drop_le L k
            have h3 := hsum.out
            simp only [List.map_cons, List.sum_cons]; omega))
          have SU := sll_upto a n c k (by omega)
          have SF := sll_from a n c k hk
          have ho := Lib.hid ho
          clear hs hsT hsD
          go_enter Try.func7, Try.ntmps7
          go_upto_region 7 with (first
            | (go_at_call 10; ((with_reducible refine MC.out.mono ?_); rintro e w1 ⟨rfl, hb1⟩; have B1 := Lib.hid hb1; clear hb1))
            | (go_at_call 13; ((with_reducible refine (PC.out _ B1.out).mono ?_); rintro e w2 hd; obtain ⟨v2, rfl, o2, hb2⟩ := hd.yes ho.out; have B2 := Lib.hid (B1.out.trans (hb2.mono B1.out.size)); have O2 := Lib.hid o2; clear hd o2 hb2))
            | (go_at_call 13; ((with_reducible refine (TC.out _ B2.out).mono ?_); rintro e w3 hd; obtain ⟨v3, rfl, o3, hb3⟩ := hd.yes hoT.out; have B3 := Lib.hid (B2.out.trans (hb3.mono B2.out.size)); have O3 := Lib.hid o3; have Q3 := Lib.hid (own_below O2.out hb3); clear hd o3 hb3)))
          obtain ⟨x3, c3, b3, rfl, R3, _⟩ := rs_of_row O3.out
          obtain ⟨x2, c2, b2, rfl, R2, _⟩ := rs_of_row Q3.out
          have H4 := Lib.hid (((h.out.keep B3.out).from hk).keep ((below_alloc w3 (.cells #[.slice x3 (mergeL (L.take k)).length c3] 25)).mono B3.out.size))
          have W4 := Lib.hid (own_one (w := w3) (t := 25) (u := .slice x3 (mergeL (L.take k)).length c3) rfl)
          have R4 := Lib.hid (R3.below (below_alloc w3 (.cells #[.slice x3 (mergeL (L.take k)).length c3] 25)) (Nat.le_refl _))
          have hxb : Hid (0 < (mergeL (L.take k)).length → b3 ≠ w3.heap.size) := Lib.hid (fun h0 e => by have := (R3.addr h0).2; omega)
          have hz3 : Hid (w.heap.size ≤ w3.heap.size) := Lib.hid B3.out.size
          have O2' := Lib.hid (own_below Q3.out (below_alloc w3 (.cells #[.slice x3 (mergeL (L.take k)).length c3] 25)))
          clear R3 R2
          go_wp2_with (first
            | (at_builtin; refine wpList_append_lists rfl _ _ rfl w3.heap.size (.slice (some ⟨w3.heap.size, 0, none⟩) 1 1) 1 [.slice x3 (mergeL (L.take k)).length c3] (fromL a c k) (n - k) (c - k) w.heap.size (L.drop k) rfl rfl W4.out H4.out (by omega) (by omega) (by rw [World.size_alloc]; omega) ?_; intro v5 w5 vs hown hgrow hvs hsh; clear hsh;
                have Z5 : Hid (Below w3.heap.size w3 w5) := Lib.hid ((below_alloc w3 (.cells #[.slice x3 (mergeL (L.take k)).length c3] 25)).trans ⟨hgrow.os, hgrow.tape, hgrow.output, hgrow.size, fun q hq => hgrow.block q (by rw [World.size_alloc]; omega) (fun e => by simp [Value.ownBlock] at e; omega)⟩);
                have BL := rl_cons R4.out hxb.out hz3.out (by rw [World.size_alloc]; have := hz3.out; omega) (by rw [List.length_drop, hlen.out]) hown hgrow hvs;
                obtain ⟨p5, c5, rfl, hRL⟩ := BL; have RL5 := Lib.hid hRL; clear hRL hown hgrow hvs;
                have B5 := Lib.hid (B3.out.trans (Z5.out.mono hz3.out)); have Q5 := Lib.hid (own_below Q3.out Z5.out); have BC5 := Lib.hid (BC.out _ _ _ RL5.out))
            | (go_at_call 13; ((with_reducible refine BC5.out.mono ?_); rintro e w6 hd; obtain ⟨v6, rfl, o6, hb6⟩ := hd.yes hoB.out; have B6 := Lib.hid (B5.out.trans (hb6.mono B5.out.size)); have o6' := o6; rw [hEq.out] at o6'; have Q6 := Lib.hid (own_below Q5.out hb6); obtain ⟨x6, c6, b6, hv6, R6, _⟩ := rs_of_row o6'; obtain ⟨x7, c7, b7, hv7, R7, _⟩ := rs_of_row Q6.out; subst hv6; cases hv7; have SC := Lib.hid (same_rowsB R7 R6); clear hd o6 o6' hb6 R6 R7))
            | (go_at_call 16; ((with_reducible refine SC.out.mono ?_); rintro e w7 ⟨rfl, hb7⟩; have B7 := Lib.hid (B6.out.trans (hb7.mono B6.out.size)); clear hb7))
            | (go_at_call 11; ((with_reducible refine (AW.out _).mono ?_); rintro e w8 ⟨rfl, hb8⟩; have B8 := Lib.hid (B7.out.trans (hb8.mono B7.out.size)); clear hb8)))
          go_returns
          exact ⟨rfl, B8.out⟩
--LAW freshetlaw13.MergeFirst mergefirst_walk rls:ls int:up
--BEGIN
namespace MergeFirstProof
open Go.ChangeShapes Go.WideShapes Go.ChangeAt Go.RowKit
open Go.ChangeMaps (open_string shut_string)
theorem own : ownKnob Try.prog.godebug = none := by kernel_rfl
set_option maxRecDepth 100000 in
theorem lifted (os : Os) (started : os.Started) (H : Type) (enc : TypeId × Value → H) :
    ReturnsInHanded {} Try.checked os 7 .any (Rows.mergeFirstSpec.pre6 enc Try.prog Try.f7 Rows.mergeFirstRow.domain false) (Rows.mergeFirstSpec.post enc Try.prog Try.f7 false true false false) := by
  refine returnsInHanded_of_change_sized (C := Try.checked) own started (by kernel_rfl) Try.func7
    (ChangeSpec.witness6 (enc := enc) (C := Try.checked) false ⟨#[], #[.slice none 0 0, .int .i64 0], []⟩ 8 (by kernel_rfl) (by kernel_rfl) (by kernel_rfl) (by kernel_rfl)) ?_
  intro W base args ds gs before hval0 hW _ hsz _
  have hval : ∀ (j : Nat) t v, Try.f7.params[j]? = some t → args[j]? = some v → Value.okWide Try.prog W .any base t v := hval0
  have hW' := hW
  obtain ⟨p, q, hA0, hV, rfl, hfz, hnd⟩ := hW
  have hA : DataW.TrodAll enc Try.prog W 0 (fun _ => true) true Try.f7.params.toList args.toList ds p := hA0
  rw [Try.params7] at hA hval hsz
  obtain ⟨v0, vs0, d0, ds0, p0, q0, hargs, rfl, rfl, h0, r0⟩ := trodAll_cons hA
  obtain ⟨v1, vs1, d1, ds1, p1, q1, rfl, rfl, rfl, h1, r1⟩ := trodAll_cons r0
  obtain ⟨rfl, rfl, rfl⟩ := trodAll_nil r1
  obtain rfl : args = #[v0, v1] := by cases args; simp_all
  obtain ⟨rfl, rfl⟩ := trodVars_none hV
  obtain ⟨a0, n0, c0, rfl⟩ := okWide_slice Try.underlying22 (hval 0 22 v0 rfl rfl)
  have k0 := h0
  obtain ⟨fu0, hf0⟩ := h0
  obtain ⟨b0, o0, ls, ia0⟩ := open_rls hf0 hsz (j := 0) rfl rfl
  have lt0 : ∀ x ∈ p0, x.block < W.heap.size := fun x hx => hW'.lt x (by simp only [List.mem_append]; simp [hx])
  obtain ⟨up, rfl, rfl, rfl, m1⟩ := open_int Try.underlying3 (hval 1 3 v1 rfl rfl) h1
  clear hA0 hval0
  simp only [List.append_nil] at hW'
  refine (mergefirst_walk a0 n0 c0 b0 o0 ls up m1 W ia0).mono fun e W' ⟨he, hg⟩ => ?_
  subst he
  exact ⟨_, rfl, _, _, _, [], _, [], hW', (trodAll_cons_mk (shut_bool Try.underlying4 _) trodAll_mk0), (trodAll_cons_mk (Below.trod laid_out (by kernel_rfl) (of_decide_eq_true (by kernel_rfl)) k0 hg lt0) (trodAll_cons_mk (shut_int Try.underlying3 m1) trodAll_mk0)), rfl, hg.frame _, fun h => by cases h⟩
theorem holds : Rows.MergeFirstSaid :=
  OpenClaim.holds_of_wide 7 Try.f7 rfl rfl rfl rfl rfl rfl rfl ⟨rfl, rfl, rfl, rfl, rfl⟩ rfl rfl rfl rfl rfl (by kernel_rfl) Try.func7 (by kernel_rfl)
    (of_decide_eq_true (by kernel_rfl)) (by unfold Func.isWrapper; first | (rw [if_pos (by decide +kernel)]; kernel_rfl) | (rw [if_neg (by decide +kernel)]; exact ⟨rfl, rfl⟩))
    (fun os started H enc _ => lifted os started H enc)
end MergeFirstProof
--END
end Go.Proofs.Ytkkegdhnkefogaa
