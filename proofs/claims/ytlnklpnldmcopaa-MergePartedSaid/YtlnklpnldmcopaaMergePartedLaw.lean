/-
  MergeParted: rows that are parted into lists are made one again as they were. Condition: at most 100 rows (the law's own).
-/
import Derived.Test.YtlnklpnldmcopaaPack15
import Derived.Deep.AppendLies
namespace Go.Proofs.Ytlnklpnldmcopaa
set_option maxRecDepth 100000
open Go.RowKit
theorem info_lists : (Try.prog.info? 22).map (fun i => (i.zero, i.size, i.bytes)) = some (some (.slice none 0 0), 1, 24) := by kernel_rfl
/-- The five lists as they begin. -/
theorem pl_new {B : Nat} {v : Value} {w : World} (h : w.ownsRow B 22 1 v 5 (List.replicate 5 (.slice none 0 0))) : ∃ G cap, v = .slice (some ⟨G, 0, none⟩) 5 cap ∧ 5 ≤ cap ∧ cap ≤ 9223372036854775807 ∧ PL B G (fun _ => []) (fun _ => .slice none 0 0) w := by
  rcases h.2 with ⟨_, e⟩ | ⟨g, cap, cur, rfl, hg, hb, hn, hm, hs, ht⟩
  · cases e
  · refine ⟨g, cap, rfl, hn, hm, ⟨cur, hb, fun k hk => ?_⟩, fun k _ => World.ownsRow_nil _ _ _ _, fun j k _ _ _ r hr => (by cases hr), hg⟩
    have h1 : w.cell? ⟨g, k, none⟩ = some (.slice none 0 0) := by
      refine (World.ownsRow.cellAt h k (by omega)).trans ?_
      rw [List.getElem?_replicate, if_pos hk]
    unfold World.cell? at h1
    rw [hb] at h1
    exact h1
theorem app_bounds (j : Nat) (h : j < 5) : j + 1 ≤ maxLen ∧ (j + 1) * 24 ≤ 140737488355328 := by unfold maxLen; omega
theorem below_app {B : Nat} {v : Value} {n size : Nat} {e : TypeId} {xs : List Value} {w w' : World} {tmp : Obj} (ho : w.ownsRow B e size v n xs) (hz : B ≤ w.heap.size) (hgrow : (w.alloc tmp).grownBy w' v.ownBlock) : Below B w w' :=
  ((below_alloc w tmp).mono hz).trans ⟨hgrow.os, hgrow.tape, hgrow.output, hgrow.size, fun q hq => hgrow.block q (by rw [World.size_alloc]; omega) (fun e => by have := (World.ownsRow.lt ho q e.symm).1; omega)⟩
theorem wr_small (m : Nat) (h : m < 5) : IntKind.i64.wrap (m : Int) = (m : Int) ∧ wrap64 (m : Int) = (m : Int) := by
  refine ⟨?_, ?_⟩
  · rw [IntKind.wrap_i64]; omega
  · unfold wrap64; omega
theorem back_w (j m : Nat) (h : j < 5) (hm : m = 4 - j) : m < 5 ∧ IntKind.i64.wrap (4 - (j : Int)) = (m : Int) ∧ wrap64 (4 - (j : Int)) = (m : Int) := by
  have e : (4 - (j : Int)) = (m : Int) := by omega
  have h5 : m < 5 := by omega
  rw [e]
  exact ⟨h5, (wr_small m h5).1, (wr_small m h5).2⟩
/-- The lists the other way round. -/
def backV (vf : Nat → Value) (i : Nat) : List Value := (List.range i).map fun j => vf (4 - j)
theorem backV_succ (vf : Nat → Value) (i : Nat) : backV vf (i + 1) = backV vf i ++ [vf (4 - i)] := by unfold backV; rw [List.range_succ, List.map_append]; rfl
theorem rl_back {B G : Nat} {P : Nat → List Rw} {vf : Nat → Value} {v : Value} {w : World} (h : PL B G P vf w) (hv : w.ownsRow B 22 1 v 5 (backV vf 5)) : ∃ p c, v = .slice p 5 c ∧ RL w.heap.size p 5 c [P 4, P 3, P 2, P 1, P 0] w := by
  rcases hv.2 with ⟨_, e⟩ | ⟨g, cap, cur, rfl, hg, hb, hn, hm, _⟩
  · cases e
  · refine ⟨_, cap, rfl, rfl, hn, hm, g, 0, fun _ => ⟨rfl, (Array.getElem?_eq_some_iff.1 hb).1⟩, fun j l hl => ?_⟩
    have hj : j < 5 := (List.getElem?_eq_some_iff.1 hl).1
    have hP : l = P (4 - j) := by
      match j, hj, hl with
      | 0, _, hl => simpa using hl.symm
      | 1, _, hl => simpa using hl.symm
      | 2, _, hl => simpa using hl.symm
      | 3, _, hl => simpa using hl.symm
      | 4, _, hl => simpa using hl.symm
    subst hP
    obtain ⟨a, c, b, e, hR, _⟩ := rs_of_row (h.own (4 - j) (by omega))
    rw [Nat.zero_add]
    refine ⟨a, _, c, b, 0, (World.ownsRow.cellAt hv j (by omega)).trans ?_, hR, fun h0 => (hR.addr h0).2⟩
    unfold backV
    rw [List.getElem?_map, List.getElem?_range hj, ← e]; rfl
theorem pl_other {B G : Nat} {P : Nat → List Rw} {vf : Nat → Value} {v : Value} {n : Nat} {xs : List Value} {w w' : World} (h : PL B G P vf w) (hv : v.ownBlock ≠ some G) (tmp : Obj) {g m cap : Nat} (ho : w.ownsRow B 22 1 v n xs) (hgrow : (w.alloc tmp).grownBy w' v.ownBlock) (hat : v.ownBlock = some g ∨ g = (w.alloc tmp).heap.size) : PL B G P vf w' ∧ (Value.slice (some ⟨g, 0, none⟩) m cap).ownBlock ≠ some G := by
  have hA := h.below (below_alloc w tmp)
  obtain ⟨cs, k1, k2⟩ := hA.blk
  have hsz := h.size.1
  refine ⟨⟨⟨cs, (hgrow.block G (by rw [World.size_alloc]; omega) (fun e => hv e.symm)).trans k1, k2⟩, fun k hk => (hA.own k hk).kept hgrow ?_, h.dis, h.low⟩, fun e => ?_⟩
  · cases hk2 : (vf k).ownBlock with
    | none => exact .inl rfl
    | some r =>
      refine .inr (fun e => ?_)
      obtain ⟨_, cs2, hc2⟩ := own_block (hA.own k hk) r hk2
      obtain ⟨_, cs3, hc3⟩ := own_block (ho.alloc tmp) r e.symm
      rw [hc2] at hc3; cases hc3
  · have e : g = G := by simpa [Value.ownBlock] using e
    rcases hat with h4 | h4
    · exact hv (by rw [h4, e])
    · rw [World.size_alloc] at h4; omega
theorem tmod5 (y : Int) : ∃ t : Int, y.tmod 5 = t ∧ t < 5 ∧ -5 < t := by
  refine ⟨y.tmod 5, rfl, ?_, ?_⟩
  · exact Int.tmod_lt_of_pos y (by decide)
  · obtain ⟨n, rfl | rfl⟩ := Int.eq_nat_or_neg y
    · have h := Int.tmod_nonneg (a := (n : Int)) 5 (by omega)
      omega
    · rw [Int.neg_tmod]
      have h := Int.tmod_lt_of_pos (n : Int) (b := 5) (by decide)
      omega
theorem wr_five {k : Nat} {t5 : Int} (hk : (k : Int) = t5 + 5) (h5 : k < 5) : wrap64 (t5 + 5) = (k : Int) ∧ IntKind.i64.wrap (t5 + 5) = (k : Int) := by
  rw [← hk]
  exact ⟨(wr_small k h5).2, (wr_small k h5).1⟩
theorem app_row (n : Nat) (h : n ≤ 100) : n + 1 ≤ maxLen ∧ (n + 1) * 48 ≤ 140737488355328 := by unfold maxLen; omega
theorem own_shape2 {B n : Nat} {e : TypeId} {size : Nat} {v : Value} {xs : List Value} {w : World} (h : w.ownsRow B e size v n xs) : ∃ (x : Option Addr) (y z : Nat), v = .slice x n z := by
  rcases h.2 with ⟨h1, h2⟩ | ⟨g, cap, cur, h1, _⟩
  · exact ⟨none, 0, 0, by rw [h1, h2]⟩
  · exact ⟨_, 0, cap, h1⟩
theorem cap_of {B n z : Nat} {e : TypeId} {size : Nat} {x : Option Addr} {xs : List Value} {w : World} (_ : w.ownsRow B e size (.slice x n z) n xs) : True := trivial
theorem pl_keep {B G : Nat} {P : Nat → List Rw} {vf : Nat → Value} {w w' : World} {tmp : Obj} {k : Nat} (hk : k < 5) (h : PL B G P vf w) (hgrow : (w.alloc tmp).grownBy w' (vf k).ownBlock) : w'.cell? ⟨G, k, none⟩ = some (vf k) ∧ w'.frozen? ⟨G, k, none⟩ = false := by
  have hA := h.below (below_alloc w tmp)
  obtain ⟨cs1, k1, k2⟩ := hA.blk
  have hGA : w'.heap[G]? = some (.cells cs1 22 (0, 0)) := by
    refine (hgrow.block G (by rw [World.size_alloc]; have := h.size.1; omega) (fun e => ?_)).trans k1
    obtain ⟨_, cs', hc'⟩ := own_block (hA.own k hk) G e.symm
    rw [k1] at hc'; cases hc'
  exact ⟨by simp [World.cell?, hGA, k2 k hk], by simp [World.frozen?, hGA]⟩
theorem Pt.sum {l : List Rw} {P : Nat → List Rw} (h : Pt l P) {p : List Rw} (hp : p ∈ [P 0, P 1, P 2, P 3, P 4]) : p.Sublist l := by
  have : p = P 0 ∨ p = P 1 ∨ p = P 2 ∨ p = P 3 ∨ p = P 4 := by simpa using hp
  rcases this with rfl | rfl | rfl | rfl | rfl <;> exact h.sub _ (by omega)
set_option maxRecDepth 100000 in
set_option maxHeartbeats 16000000 in
theorem parted_walk (a : Option Addr) (n c b o : Nat) (l : List Rw) (a1 : Option Addr) (n1 c1 b1 o1 : Nat) (l1 : List Int) (w : World) (h0 : Rs a n c b o l w ∧ ∀ v ∈ l, RwIn v) (h1 : SlOf 1 cellsI a1 n1 c1 b1 o1 l1 w ∧ ∀ v ∈ l1, (Lit.int .i64 v).wf = true) :
    Calls Try.prog 4 #[.slice a n c, .slice a1 n1 c1] w fun e w' => e = .returned (.bool true) ∧ Below w.heap.size w w' := by
  have AW := Lib.hid (fun u => mawake_any u)
  have h := h0.1
  have hIn := Lib.hid h0.2
  have q0 := h.cap
  have m0 := h.most
  have q1 := h1.1.cap
  have m1 := h1.1.most
  have h1 := Lib.hid h1
  clear h0
  by_cases g1 : (100 : Int) < (n : Int)
  · go_enter Try.func4, Try.ntmps4
    go_wp2_with (go_at_call 7; ((with_reducible refine (AW.out _).mono ?_); rintro e w1 ⟨rfl, hb1⟩))
    refine bodyPost_ret (v := .bool true) (by simp [results, Try.results4, go_sem]) rfl ⟨rfl, ?_⟩
    exact hb1
  have hn : n ≤ 100 := by omega
  have hlen := Lib.hid h.len
  have hfull : Hid (l.take n = l) := Lib.hid (by rw [← h.len, List.take_length])
  have AC : Hid (Calls Try.prog 13 #[.slice a n c, .int .u64 0] w (AtD l 0 w)) := Lib.hid (mat_any h (by omega) (fun x hx => ⟨(hIn.out x hx).1, (hIn.out x hx).2.1⟩) 0)
  have h := Lib.hid h
  obtain ⟨ti, hi, hy0, hy1, hy2⟩ := info_parts info_lists
  obtain ⟨tr, hr, hr0, hr1, hr2⟩ := info_parts info_row
  cases ho : ordR l with
  | false =>
    go_enter Try.func4, Try.ntmps4
    go_wp2_with (first
      | (go_at_call 13; ((with_reducible refine AC.out.mono ?_); rintro e w2 hd; obtain ⟨rfl, hb2⟩ := hd.no ho))
      | (go_at_call 7; ((with_reducible refine (AW.out _).mono ?_); rintro e w3 ⟨rfl, hb3⟩)))
    refine bodyPost_ret (v := .bool true) (by simp [results, Try.results4, go_sem]) rfl ⟨rfl, ?_⟩
    exact hb2.trans (hb3.mono hb2.size)
  | true =>
    have hso := Lib.hid ((ordR_sorted l).1 ho)
    have ho := Lib.hid ho
    have PC : Hid (∀ u p cc (L : List (List Rw)), RL u.heap.size p 5 cc L u → (∀ q ∈ L, q.Sublist l) → mergeL L = l → Calls Try.prog 14 #[.slice p 5 cc] u fun e w' => ∃ v, e = .returned (.tuple #[v, .int .i64 0]) ∧ w'.ownsRow u.heap.size 38 4 v l.length (rowR l) ∧ Below u.heap.size u w') := Lib.hid (fun u p cc L hu hs he => by
      have hl5 := hu.len
      have hq : ∀ q ∈ L, q.length ≤ 100 := fun q hq => by have h1 := (hs q hq).length_le; have := hlen.out; omega
      have hsum := sum_few hq
      rw [hl5] at hsum
      refine (merge_any hu (by omega) (fun q hq x hx => ⟨(hIn.out x ((hs q hq).subset hx)).1, (hIn.out x ((hs q hq).subset hx)).2.1⟩) (by omega)).mono fun e w' hd => ?_
      have := hd.yes (List.all_eq_true.2 fun q hq => (ordR_sorted q).2 (hso.out.sublist (hs q hq)))
      rwa [he] at this)
    go_enter Try.func4, Try.ntmps4
    go_wp2_with (go_at_call 13; ((with_reducible refine AC.out.mono ?_); rintro e w2 hd; obtain ⟨v2, rfl, _, hb2⟩ := hd.yes ho.out; have B2 := Lib.hid hb2; clear hd hb2))
    go_loopw [7, 9] (fun ov iv u => ∃ (i : Nat), i ≤ 5 ∧ iv = .int .i64 (i : Int) ∧ Hid (u.ownsRow w.heap.size 22 1 ov i (List.replicate i (.slice none 0 0))) ∧ Hid (Below w.heap.size w u)) (fun _ iv _ => 5 - (intOf iv).toNat)
    case atStart => exact ⟨0, by omega, rfl, Lib.hid (World.ownsRow_nil _ _ _ _), B2⟩
    case round =>
      obtain ⟨i, hi5, rfl, hO, hB⟩ := hrel
      by_cases hi6 : i = 5
      · subst hi6
        obtain ⟨G, cap, rfl, hc5, hcm, hPL⟩ := pl_new hO.out
        have hPL := Lib.hid hPL
        clear hO
        go_wp2_with fail
        go_loopw [10] (fun iv u => ∃ (i : Nat) (P : Nat → List Rw) (vf : Nat → Value), i ≤ n ∧ iv = .int .i64 (i : Int) ∧ Hid (PL w.heap.size G P vf u) ∧ Hid (Pt (l.take i) P) ∧ Hid (Below w.heap.size w u)) (fun iv _ => n - (intOf iv).toNat)
        case atStart => exact ⟨0, _, _, Nat.zero_le _, rfl, hPL, Lib.hid (by simpa using Pt.nil), hB⟩
        case round =>
          obtain ⟨i, P, vf, hin, rfl, hL, hP, hB⟩ := hrel
          by_cases hie : i = n
          · subst hie
            have i1 : ¬ (i : Int) < (i : Int) := by omega
            rw [hfull.out] at hP
            go_wp2_with fail
            go_loopw [8, 12] (fun bv iv u => ∃ (j : Nat), j ≤ 5 ∧ iv = .int .i64 (j : Int) ∧ Hid (u.ownsRow w.heap.size 22 1 bv j (backV vf j)) ∧ Hid (PL w.heap.size G P vf u ∧ bv.ownBlock ≠ some G) ∧ Hid (Below w.heap.size w u)) (fun _ iv _ => 5 - (intOf iv).toNat)
            case atStart => exact ⟨0, by omega, rfl, Lib.hid (World.ownsRow_nil _ _ _ _), Lib.hid ⟨hL.out, by simp [Value.ownBlock]⟩, hB⟩
            case round =>
              obtain ⟨j, hj5, rfl, hO, hL2, hB2⟩ := hrel
              by_cases hj6 : j = 5
              · subst hj6
                obtain ⟨p8, c8, rfl, hRB⟩ := rl_back hL2.out.1 hO.out
                have hRB := Lib.hid hRB
                have hRL := Lib.hid (hL2.out.1.rl hc5 hcm)
                have M1 := Lib.hid (PC.out _ _ _ _ hRL.out (fun q hq => hP.out.sum hq) (hP.out.merge hso.out).1)
                have M2 : Hid (∀ u, Below wr.heap.size wr u → Calls Try.prog 14 #[.slice p8 5 c8] u fun e w' => ∃ v, e = .returned (.tuple #[v, .int .i64 0]) ∧ w'.ownsRow u.heap.size 38 4 v l.length (rowR l) ∧ Below u.heap.size u w') := Lib.hid (fun u hu => PC.out _ _ _ _ ((hRB.out.keep hu).mono hu.size) (fun q hq => hP.out.sum (by simp only [List.mem_cons, List.not_mem_nil, or_false] at hq ⊢; rcases hq with e | e | e | e | e <;> simp [e])) (hP.out.merge hso.out).2)
                have SC : Hid (∀ u B v, Below w.heap.size w u → u.ownsRow B 38 4 v l.length (rowR l) → Calls Try.prog 11 #[v, .slice a i c] u fun e w' => e = .returned (.bool true) ∧ Below u.heap.size u w') := Lib.hid (fun u B v hu hv => by
                  obtain ⟨x5, y5, z5, rfl, R5, _⟩ := rs_of_row hv
                  exact same_rowsB R5 (h.out.below hu (Nat.le_refl _)))
                clear hRB hRL hO
                go_wp2_with (first
                  | (go_at_call 14; first
                      | ((with_reducible refine M1.out.mono ?_); rintro e w4 ⟨v4, rfl, o4, hb4⟩; have N4 := Lib.hid hb4; have O4 := Lib.hid o4; have B4 := Lib.hid (hB2.out.trans (hb4.mono hB2.out.size)); clear o4 hb4)
                      | ((with_reducible refine (M2.out _ N4.out).mono ?_); rintro e w5 ⟨v5, rfl, o5, hb5⟩; have O5 := Lib.hid o5; have Q5 := Lib.hid (own_below O4.out hb5); have B5 := Lib.hid (B4.out.trans (hb5.mono B4.out.size)); clear o5 hb5))
                  | (go_at_call 11; first
                      | ((with_reducible refine (SC.out _ _ _ B5.out Q5.out).mono ?_); rintro e w6 ⟨rfl, hb6⟩; have O6 := Lib.hid (own_below O5.out hb6); have B6 := Lib.hid (B5.out.trans (hb6.mono B5.out.size)); clear hb6)
                      | ((with_reducible refine (SC.out _ _ _ B6.out O6.out).mono ?_); rintro e w7 ⟨rfl, hb7⟩; have B7 := Lib.hid (B6.out.trans (hb7.mono B6.out.size)); clear hb7))
                  | (go_at_call 7; ((with_reducible refine (AW.out _).mono ?_); rintro e w8 ⟨rfl, hb8⟩; have B8 := Lib.hid (B7.out.trans (hb8.mono B7.out.size)); clear hb8)))
                refine bodyPost_ret (v := .bool true) (by simp [results, Try.results4, go_sem]) rfl ⟨rfl, ?_⟩
                exact B8.out
              · have hjl : j < 5 := by omega
                obtain ⟨p8, c8, rfl⟩ := row_shape hO.out
                have hz : Hid (w.heap.size ≤ wr.heap.size) := Lib.hid hB2.out.size
                clear PC g1 hn q0 m0 q1 m1 i1 hj5 hj6
                rcases (show j = 0 ∨ j = 1 ∨ j = 2 ∨ j = 3 ∨ j = 4 by omega) with rfl | rfl | rfl | rfl | rfl
                · have jc := (hL2.out.1.cell (k := 4) (by decide)).1
                  obtain ⟨x8, y8, z8, hv8⟩ := own_shape (hL2.out.1.own 4 (by decide))
                  rw [hv8] at jc
                  replace hv8 := Lib.hid hv8
                  have hbk : Hid (backV vf (0 + 1) = backV vf 0 ++ [.slice x8 y8 z8]) := Lib.hid (by rw [backV_succ]; show _ ++ [vf 4] = _; rw [hv8.out])
                  go_upto_region 22 with (at_builtin; clear jc; refine wpList_append_lies _ rfl _ _ 36 rfl w.heap.size 22 ti (.slice none 0 0) 1 24 Try.underlying36 hi hy0 hy1 hy2 rfl (by decide) (.slice p8 0 c8) 0 (backV vf 0) (by rfl) (hO.out.alloc _) ⟨wr.heap.size, 0, none⟩ 1 1 [.slice x8 y8 z8] (by rfl) rfl (World.news_of_block (heap_alloc_new _ _)) (by simp [Value.oneCell']) (by decide) (app_bounds 0 (by decide)).1 (app_bounds 0 (by decide)).2 (Nat.le_trans hz.out (by rw [World.size_alloc]; exact Nat.le_succ _)) _ rfl ?_; intro g' cap' w5 hown hgrow hat hlt5; have O5 : Hid (w5.ownsRow w.heap.size 22 1 (.slice (some ⟨g', 0, none⟩) 1 cap') 1 (backV vf 1)) := Lib.hid (by have := hbk.out; rw [this]; exact hown); have L5 : Hid (PL w.heap.size G P vf w5 ∧ (Value.slice (some ⟨g', 0, none⟩) 1 cap').ownBlock ≠ some G) := Lib.hid (pl_other hL2.out.1 hL2.out.2 (.cells #[.slice x8 y8 z8] 22) hO.out hgrow hat); have B5 : Hid (Below w.heap.size w w5) := Lib.hid (hB2.out.trans (below_app hO.out hz.out hgrow)); clear hown hgrow hat hlt5)
                  go_wp2_with fail
                  go_roundw
                  case rel => exact ⟨1, by decide, rfl, O5, L5, B5⟩
                  case measure => simp [intOf]
                · have jc := (hL2.out.1.cell (k := 3) (by decide)).1
                  obtain ⟨x8, y8, z8, hv8⟩ := own_shape (hL2.out.1.own 3 (by decide))
                  rw [hv8] at jc
                  replace hv8 := Lib.hid hv8
                  have hbk : Hid (backV vf (1 + 1) = backV vf 1 ++ [.slice x8 y8 z8]) := Lib.hid (by rw [backV_succ]; show _ ++ [vf 3] = _; rw [hv8.out])
                  go_upto_region 22 with (at_builtin; clear jc; refine wpList_append_lies _ rfl _ _ 36 rfl w.heap.size 22 ti (.slice none 0 0) 1 24 Try.underlying36 hi hy0 hy1 hy2 rfl (by decide) (.slice p8 1 c8) 1 (backV vf 1) (by rfl) (hO.out.alloc _) ⟨wr.heap.size, 0, none⟩ 1 1 [.slice x8 y8 z8] (by rfl) rfl (World.news_of_block (heap_alloc_new _ _)) (by simp [Value.oneCell']) (by decide) (app_bounds 1 (by decide)).1 (app_bounds 1 (by decide)).2 (Nat.le_trans hz.out (by rw [World.size_alloc]; exact Nat.le_succ _)) _ rfl ?_; intro g' cap' w5 hown hgrow hat hlt5; have O5 : Hid (w5.ownsRow w.heap.size 22 1 (.slice (some ⟨g', 0, none⟩) 2 cap') 2 (backV vf 2)) := Lib.hid (by have := hbk.out; rw [this]; exact hown); have L5 : Hid (PL w.heap.size G P vf w5 ∧ (Value.slice (some ⟨g', 0, none⟩) 2 cap').ownBlock ≠ some G) := Lib.hid (pl_other hL2.out.1 hL2.out.2 (.cells #[.slice x8 y8 z8] 22) hO.out hgrow hat); have B5 : Hid (Below w.heap.size w w5) := Lib.hid (hB2.out.trans (below_app hO.out hz.out hgrow)); clear hown hgrow hat hlt5)
                  go_wp2_with fail
                  go_roundw
                  case rel => exact ⟨2, by decide, rfl, O5, L5, B5⟩
                  case measure => simp [intOf]
                · have jc := (hL2.out.1.cell (k := 2) (by decide)).1
                  obtain ⟨x8, y8, z8, hv8⟩ := own_shape (hL2.out.1.own 2 (by decide))
                  rw [hv8] at jc
                  replace hv8 := Lib.hid hv8
                  have hbk : Hid (backV vf (2 + 1) = backV vf 2 ++ [.slice x8 y8 z8]) := Lib.hid (by rw [backV_succ]; show _ ++ [vf 2] = _; rw [hv8.out])
                  go_upto_region 22 with (at_builtin; clear jc; refine wpList_append_lies _ rfl _ _ 36 rfl w.heap.size 22 ti (.slice none 0 0) 1 24 Try.underlying36 hi hy0 hy1 hy2 rfl (by decide) (.slice p8 2 c8) 2 (backV vf 2) (by rfl) (hO.out.alloc _) ⟨wr.heap.size, 0, none⟩ 1 1 [.slice x8 y8 z8] (by rfl) rfl (World.news_of_block (heap_alloc_new _ _)) (by simp [Value.oneCell']) (by decide) (app_bounds 2 (by decide)).1 (app_bounds 2 (by decide)).2 (Nat.le_trans hz.out (by rw [World.size_alloc]; exact Nat.le_succ _)) _ rfl ?_; intro g' cap' w5 hown hgrow hat hlt5; have O5 : Hid (w5.ownsRow w.heap.size 22 1 (.slice (some ⟨g', 0, none⟩) 3 cap') 3 (backV vf 3)) := Lib.hid (by have := hbk.out; rw [this]; exact hown); have L5 : Hid (PL w.heap.size G P vf w5 ∧ (Value.slice (some ⟨g', 0, none⟩) 3 cap').ownBlock ≠ some G) := Lib.hid (pl_other hL2.out.1 hL2.out.2 (.cells #[.slice x8 y8 z8] 22) hO.out hgrow hat); have B5 : Hid (Below w.heap.size w w5) := Lib.hid (hB2.out.trans (below_app hO.out hz.out hgrow)); clear hown hgrow hat hlt5)
                  go_wp2_with fail
                  go_roundw
                  case rel => exact ⟨3, by decide, rfl, O5, L5, B5⟩
                  case measure => simp [intOf]
                · have jc := (hL2.out.1.cell (k := 1) (by decide)).1
                  obtain ⟨x8, y8, z8, hv8⟩ := own_shape (hL2.out.1.own 1 (by decide))
                  rw [hv8] at jc
                  replace hv8 := Lib.hid hv8
                  have hbk : Hid (backV vf (3 + 1) = backV vf 3 ++ [.slice x8 y8 z8]) := Lib.hid (by rw [backV_succ]; show _ ++ [vf 1] = _; rw [hv8.out])
                  go_upto_region 22 with (at_builtin; clear jc; refine wpList_append_lies _ rfl _ _ 36 rfl w.heap.size 22 ti (.slice none 0 0) 1 24 Try.underlying36 hi hy0 hy1 hy2 rfl (by decide) (.slice p8 3 c8) 3 (backV vf 3) (by rfl) (hO.out.alloc _) ⟨wr.heap.size, 0, none⟩ 1 1 [.slice x8 y8 z8] (by rfl) rfl (World.news_of_block (heap_alloc_new _ _)) (by simp [Value.oneCell']) (by decide) (app_bounds 3 (by decide)).1 (app_bounds 3 (by decide)).2 (Nat.le_trans hz.out (by rw [World.size_alloc]; exact Nat.le_succ _)) _ rfl ?_; intro g' cap' w5 hown hgrow hat hlt5; have O5 : Hid (w5.ownsRow w.heap.size 22 1 (.slice (some ⟨g', 0, none⟩) 4 cap') 4 (backV vf 4)) := Lib.hid (by have := hbk.out; rw [this]; exact hown); have L5 : Hid (PL w.heap.size G P vf w5 ∧ (Value.slice (some ⟨g', 0, none⟩) 4 cap').ownBlock ≠ some G) := Lib.hid (pl_other hL2.out.1 hL2.out.2 (.cells #[.slice x8 y8 z8] 22) hO.out hgrow hat); have B5 : Hid (Below w.heap.size w w5) := Lib.hid (hB2.out.trans (below_app hO.out hz.out hgrow)); clear hown hgrow hat hlt5)
                  go_wp2_with fail
                  go_roundw
                  case rel => exact ⟨4, by decide, rfl, O5, L5, B5⟩
                  case measure => simp [intOf]
                · have jc := (hL2.out.1.cell (k := 0) (by decide)).1
                  obtain ⟨x8, y8, z8, hv8⟩ := own_shape (hL2.out.1.own 0 (by decide))
                  rw [hv8] at jc
                  replace hv8 := Lib.hid hv8
                  have hbk : Hid (backV vf (4 + 1) = backV vf 4 ++ [.slice x8 y8 z8]) := Lib.hid (by rw [backV_succ]; show _ ++ [vf 0] = _; rw [hv8.out])
                  go_upto_region 22 with (at_builtin; clear jc; refine wpList_append_lies _ rfl _ _ 36 rfl w.heap.size 22 ti (.slice none 0 0) 1 24 Try.underlying36 hi hy0 hy1 hy2 rfl (by decide) (.slice p8 4 c8) 4 (backV vf 4) (by rfl) (hO.out.alloc _) ⟨wr.heap.size, 0, none⟩ 1 1 [.slice x8 y8 z8] (by rfl) rfl (World.news_of_block (heap_alloc_new _ _)) (by simp [Value.oneCell']) (by decide) (app_bounds 4 (by decide)).1 (app_bounds 4 (by decide)).2 (Nat.le_trans hz.out (by rw [World.size_alloc]; exact Nat.le_succ _)) _ rfl ?_; intro g' cap' w5 hown hgrow hat hlt5; have O5 : Hid (w5.ownsRow w.heap.size 22 1 (.slice (some ⟨g', 0, none⟩) 5 cap') 5 (backV vf 5)) := Lib.hid (by have := hbk.out; rw [this]; exact hown); have L5 : Hid (PL w.heap.size G P vf w5 ∧ (Value.slice (some ⟨g', 0, none⟩) 5 cap').ownBlock ≠ some G) := Lib.hid (pl_other hL2.out.1 hL2.out.2 (.cells #[.slice x8 y8 z8] 22) hO.out hgrow hat); have B5 : Hid (Below w.heap.size w w5) := Lib.hid (hB2.out.trans (below_app hO.out hz.out hgrow)); clear hown hgrow hat hlt5)
                  go_wp2_with fail
                  go_roundw
                  case rel => exact ⟨5, by decide, rfl, O5, L5, B5⟩
                  case measure => simp [intOf]
          · have i1 : (i : Int) < (n : Int) := by omega
            have i2 : (0 : Int) ≤ (i : Int) := by omega
            have hil : i < n := by omega
            clear PC hfull
            by_cases hw : i < n1
            · have w1 : (i : Int) < (n1 : Int) := by omega
              obtain ⟨y, hy⟩ : ∃ y, l1[i]? = some y := ⟨_, List.getElem?_eq_getElem (by rw [h1.out.1.len]; exact hw)⟩
              obtain ⟨ha1, hbl1⟩ := h1.out.1.addr (show 0 < n1 by omega)
              have ha1 : a1 = some ⟨b1, o1, none⟩ := ha1
              subst ha1
              have y0 := (h1.out.1.below hB.out (Nat.le_refl _)).at' i y hy 0 _ rfl
              rw [Nat.mul_one, Nat.add_zero] at y0
              obtain ⟨t5, ht5, hlt5, hgt5⟩ := tmod5 y
              replace hy := Lib.hid hy
              clear hbl1
              by_cases hneg : t5 < 0
              · obtain ⟨k, hk⟩ : ∃ k : Nat, (k : Int) = t5 + 5 := ⟨(t5 + 5).toNat, by omega⟩
                have hk5 : k < 5 := by omega
                obtain ⟨hk1, hk2⟩ := wr_five hk hk5
                have k1 : (k : Int) < 5 := by omega
                have k2 : (0 : Int) ≤ (k : Int) := by omega
                clear hlt5 hgt5 hk
                obtain ⟨x, hx⟩ : ∃ x, l[i]? = some x := ⟨_, List.getElem?_eq_getElem (by rw [hlen.out]; exact hil)⟩
                obtain ⟨ha, hbl⟩ := h.out.addr (by omega)
                have ha : a = some ⟨b, o, none⟩ := ha
                subst ha
                have XC := Lib.hid (fun (u : World) (hu : Below w.heap.size w u) => ((h.out.below hu (Nat.le_refl _)).at' i x hx))
                have hnx : Hid (l.take (i + 1) = l.take i ++ [x]) := Lib.hid (by rw [List.take_add_one, hx]; rfl)
                have hlen5 : Hid ((P k).length ≤ 100) := Lib.hid (by have := (hP.out.sub k hk5).length_le; rw [List.length_take] at this; omega)
                obtain ⟨x8, y8, z8, hv8⟩ := own_shape2 (hL.out.own k hk5)
                have hbd := Lib.hid (app_row (P k).length hlen5.out)
                obtain ⟨xk, xs, xi, xv⟩ := x
                have SS : Hid (∀ u : World, u.cell? ⟨G, k, none⟩ = some (vf k) → Below w.heap.size w u → (u.cell? ⟨G, k, none⟩ = some (.slice x8 (P k).length z8) ∧ u.cell? ⟨b, o + i * 4, none⟩ = some (.string xk) ∧ u.cell? ⟨b, o + i * 4 + 1, none⟩ = some (.int .u64 (xs : Int)) ∧ u.cell? ⟨b, o + i * 4 + 2, none⟩ = some (.int .i64 xi) ∧ u.cell? ⟨b, o + i * 4 + 3, none⟩ = some (.string xv))) := Lib.hid (fun u h1 h2 => ⟨by rw [h1, hv8], (XC.out u h2).1, (XC.out u h2).2.1, (XC.out u h2).2.2.1, (XC.out u h2).2.2.2⟩)
                have D0 : Hid (PL w.heap.size G P vf wr.drew) := Lib.hid (hL.out.below (Below.refl _ _).drew)
                have E0 : Hid (Below w.heap.size w wr.drew) := Lib.hid hB.out.drew
                have S0 := Lib.hid (SS.out _ (D0.out.cell hk5).1 E0.out)
                replace hv8 := Lib.hid hv8
                replace hx := Lib.hid hx
                clear g1 hlen5 hbl m1 q1 hil
                go_upto_region 19 with fail
                refine wp_region_E 13 (S := (fun u => u.cell? ⟨G, k, none⟩ = some (.slice x8 (P k).length z8) ∧ u.cell? ⟨b, o + i * 4, none⟩ = some (.string xk) ∧ u.cell? ⟨b, o + i * 4 + 1, none⟩ = some (.int .u64 (xs : Int)) ∧ u.cell? ⟨b, o + i * 4 + 2, none⟩ = some (.int .i64 xi) ∧ u.cell? ⟨b, o + i * 4 + 3, none⟩ = some (.string xv))) (by kernel_rfl) (S0.out) (fun hHeld => ?_)
                refine heldE2_take (i := 0) (v := ?_) rfl (by kernel_rfl) (by kernel_rfl) (by kernel_rfl) (fun _ _ _ h => h) (by rfl) (fun w hSw => ?_) (by assumption) ?_; rotate_left 1; focus (((try dsimp only at hSw); first | (go_simp; done) | (go_simp; with_reducible rfl)))
                try simp only [Act.put, List.setIfInBounds_toArray, List.set_cons_zero, List.set_cons_succ]
                refine heldE2_take (i := 1) (v := ?_) rfl (by kernel_rfl) (by kernel_rfl) (by kernel_rfl) (fun _ _ _ h => h) (by rfl) (fun w hSw => ?_) (by assumption) ?_; rotate_left 1; focus (((try dsimp only at hSw); first | (go_simp; done) | (go_simp; with_reducible rfl)))
                try simp only [Act.put, List.setIfInBounds_toArray, List.set_cons_zero, List.set_cons_succ]
                refine heldE2_take (i := 2) (v := ?_) rfl (by kernel_rfl) (by kernel_rfl) (by kernel_rfl) (fun _ _ _ h => h) (by rfl) (fun w hSw => ?_) (by assumption) ?_; rotate_left 1; focus (((try dsimp only at hSw); first | (go_simp; done) | (go_simp; with_reducible rfl)))
                try simp only [Act.put, List.setIfInBounds_toArray, List.set_cons_zero, List.set_cons_succ]
                refine heldE2_take (i := 3) (v := ?_) rfl (by kernel_rfl) (by kernel_rfl) (by kernel_rfl) (fun _ _ _ h => h) (by rfl) (fun w hSw => ?_) (by assumption) ?_; rotate_left 1; focus (((try dsimp only at hSw); first | (go_simp; done) | (go_simp; with_reducible rfl)))
                try simp only [Act.put, List.setIfInBounds_toArray, List.set_cons_zero, List.set_cons_succ]
                refine heldE2_take (i := 4) (v := ?_) rfl (by kernel_rfl) (by kernel_rfl) (by kernel_rfl) (fun _ _ _ h => h) (by rfl) (fun w hSw => ?_) (by assumption) ?_; rotate_left 1; focus (((try dsimp only at hSw); first | (go_simp; done) | (go_simp; with_reducible rfl)))
                try simp only [Act.put, List.setIfInBounds_toArray, List.set_cons_zero, List.set_cons_succ]
                refine heldE2_take (i := 5) (v := ?_) rfl (by kernel_rfl) (by kernel_rfl) (by kernel_rfl) (fun _ _ _ h => h) (by rfl) (fun w hSw => ?_) (by assumption) ?_; rotate_left 1; focus (((try dsimp only at hSw); first | (go_simp; done) | (go_simp; with_reducible rfl)))
                try simp only [Act.put, List.setIfInBounds_toArray, List.set_cons_zero, List.set_cons_succ]
                refine heldE2_take (i := 6) (v := ?_) rfl (by kernel_rfl) (by kernel_rfl) (by kernel_rfl) (fun _ _ _ h => h) (by rfl) (fun w hSw => ?_) (by assumption) ?_; rotate_left 1; focus (((try dsimp only at hSw); first | (go_simp; done) | (go_simp; with_reducible rfl)))
                try simp only [Act.put, List.setIfInBounds_toArray, List.set_cons_zero, List.set_cons_succ]
                refine heldE2_take (i := 7) (v := ?_) rfl (by kernel_rfl) (by kernel_rfl) (by kernel_rfl) (fun _ _ _ h => h) (by rfl) (fun w hSw => ?_) (by assumption) ?_; rotate_left 1; focus (((try dsimp only at hSw); first | (go_simp; done) | (go_simp; with_reducible rfl)))
                try simp only [Act.put, List.setIfInBounds_toArray, List.set_cons_zero, List.set_cons_succ]
                refine heldE2_take (i := 8) (v := ?_) rfl (by kernel_rfl) (by kernel_rfl) (by kernel_rfl) (fun _ _ _ h => h) (by rfl) (fun w hSw => ?_) (by assumption) ?_; rotate_left 1; focus (((try dsimp only at hSw); first | (go_simp; done) | (go_simp; with_reducible rfl)))
                try simp only [Act.put, List.setIfInBounds_toArray, List.set_cons_zero, List.set_cons_succ]
                refine heldE2_take (i := 9) (v := ?_) rfl (by kernel_rfl) (by kernel_rfl) (by kernel_rfl) (fun _ _ _ h => h) (by rfl) (fun w hSw => ?_) (by assumption) ?_; rotate_left 1; focus (((try dsimp only at hSw); first | (go_simp; done) | (go_simp; with_reducible rfl)))
                try simp only [Act.put, List.setIfInBounds_toArray, List.set_cons_zero, List.set_cons_succ]
                refine heldE_call (i := 10) (by kernel_rfl) rfl (by rfl) (fun K hK => ?_)
                go_simp
                refine hK.out _ _ (SS.out _ ((D0.out.below (below_alloc _ _)).cell hk5).1 (E0.out.alloc E0.out.size _)) (fun hHeld => ?_)
                try simp only [Act.put, List.setIfInBounds_toArray, List.set_cons_zero, List.set_cons_succ]
                refine heldE_call (i := 11) (by kernel_rfl) rfl (by rfl) (fun K hK => ?_)
                refine wp_append_lies _ (.tmp 64) (.tmp 69) 22 rfl w.heap.size 38 tr (.agg #[.string .empty, .int .u64 0, .int .i64 0, .string .empty]) 4 48 Try.underlying22 hr hr0 hr1 hr2 rfl (by decide) (.slice x8 (P k).length z8) (P k).length (rowR (P k)) (by rfl) ((by have := D0.out.own k hk5; rw [hv8.out] at this; exact this.alloc _)) ⟨wr.heap.size, 0, none⟩ 1 1 [.string xk, .int .u64 (xs : Int), .int .i64 xi, .string xv] (by rfl) rfl (World.news_of_block (heap_alloc_new _ _)) (by simp [Value.oneCell']) (by decide) hbd.out.1 hbd.out.2 (by simp only [World.size_drew, World.size_alloc]; have := E0.out.size; simp only [World.size_drew] at this; omega) _ rfl ?_
                intro g9 cap9 w8 hown8 hgrow8 hat8 _
                have F8 := D0.out.push hk5 (x := ⟨xk, xs, xi, xv⟩) (tmp := (.cells #[.string xk, .int .u64 (xs : Int), .int .i64 xi, .string xv] 38)) (g := g9) (cap := cap9) hown8 (by rw [hv8.out]; exact hgrow8) (by rw [hv8.out]; exact hat8)
                have P8 := Lib.hid F8.1
                have Q8 := Lib.hid (E0.out.trans F8.2)
                have K8 := Lib.hid (pl_keep hk5 D0.out (by rw [hv8.out]; exact hgrow8))
                have B8 := Lib.hid (E0.out.trans (below_app (by have := D0.out.own k hk5; rw [hv8.out] at this; exact this) E0.out.size hgrow8))
                clear F8 hown8 hgrow8 hat8
                refine hK.out _ _ (SS.out _ K8.out.1 B8.out) (fun hHeld => ?_)
                try simp only [Act.put, List.setIfInBounds_toArray, List.set_cons_zero, List.set_cons_succ]
                refine heldE2_take (i := 12) (v := ?_) rfl (by kernel_rfl) (by kernel_rfl) (by kernel_rfl) (fun _ _ _ h => h) (by rfl) (fun w hSw => ?_) (by assumption) ?_; rotate_left 1; focus (((try dsimp only at hSw); first | (go_simp; done) | (go_simp; with_reducible rfl)))
                try simp only [Act.put, List.setIfInBounds_toArray, List.set_cons_zero, List.set_cons_succ]
                refine heldE_last (by kernel_rfl) rfl (by rfl) (fun K hK => ?_)
                obtain ⟨k8, f8⟩ := K8.out
                go_simp
                refine hK.out _ _ ?_
                try simp only [Act.put, List.setIfInBounds_toArray, List.set_cons_zero, List.set_cons_succ]
                refine wpE_done (by kernel_rfl) ?_ _
                go_wp2_with fail
                go_roundw
                case rel => exact ⟨i + 1, by omega, by go_num, _, ⟨_, P8⟩, Lib.hid (by rw [hnx.out]; exact hP.out.push hk5 _)⟩
                case measure => simp [intOf]; omega
              · obtain ⟨k, hk⟩ : ∃ k : Nat, t5 = (k : Int) := ⟨t5.toNat, by omega⟩
                subst hk
                have hk5 : k < 5 := by omega
                have k1 : (k : Int) < 5 := by omega
                have k2 : (0 : Int) ≤ (k : Int) := by omega
                have k3 : ¬ (k : Int) < 0 := by omega
                clear hlt5 hgt5 hneg
                obtain ⟨x, hx⟩ : ∃ x, l[i]? = some x := ⟨_, List.getElem?_eq_getElem (by rw [hlen.out]; exact hil)⟩
                obtain ⟨ha, hbl⟩ := h.out.addr (by omega)
                have ha : a = some ⟨b, o, none⟩ := ha
                subst ha
                have XC := Lib.hid (fun (u : World) (hu : Below w.heap.size w u) => ((h.out.below hu (Nat.le_refl _)).at' i x hx))
                have hnx : Hid (l.take (i + 1) = l.take i ++ [x]) := Lib.hid (by rw [List.take_add_one, hx]; rfl)
                have hlen5 : Hid ((P k).length ≤ 100) := Lib.hid (by have := (hP.out.sub k hk5).length_le; rw [List.length_take] at this; omega)
                obtain ⟨x8, y8, z8, hv8⟩ := own_shape2 (hL.out.own k hk5)
                have hbd := Lib.hid (app_row (P k).length hlen5.out)
                obtain ⟨xk, xs, xi, xv⟩ := x
                have SS : Hid (∀ u : World, u.cell? ⟨G, k, none⟩ = some (vf k) → Below w.heap.size w u → (u.cell? ⟨G, k, none⟩ = some (.slice x8 (P k).length z8) ∧ u.cell? ⟨b, o + i * 4, none⟩ = some (.string xk) ∧ u.cell? ⟨b, o + i * 4 + 1, none⟩ = some (.int .u64 (xs : Int)) ∧ u.cell? ⟨b, o + i * 4 + 2, none⟩ = some (.int .i64 xi) ∧ u.cell? ⟨b, o + i * 4 + 3, none⟩ = some (.string xv))) := Lib.hid (fun u h1 h2 => ⟨by rw [h1, hv8], (XC.out u h2).1, (XC.out u h2).2.1, (XC.out u h2).2.2.1, (XC.out u h2).2.2.2⟩)
                have D0 : Hid (PL w.heap.size G P vf wr.drew) := Lib.hid (hL.out.below (Below.refl _ _).drew)
                have E0 : Hid (Below w.heap.size w wr.drew) := Lib.hid hB.out.drew
                have S0 := Lib.hid (SS.out _ (D0.out.cell hk5).1 E0.out)
                replace hv8 := Lib.hid hv8
                replace hx := Lib.hid hx
                clear g1 hlen5 hbl m1 q1 hil
                go_upto_region 19 with fail
                refine wp_region_E 13 (S := (fun u => u.cell? ⟨G, k, none⟩ = some (.slice x8 (P k).length z8) ∧ u.cell? ⟨b, o + i * 4, none⟩ = some (.string xk) ∧ u.cell? ⟨b, o + i * 4 + 1, none⟩ = some (.int .u64 (xs : Int)) ∧ u.cell? ⟨b, o + i * 4 + 2, none⟩ = some (.int .i64 xi) ∧ u.cell? ⟨b, o + i * 4 + 3, none⟩ = some (.string xv))) (by kernel_rfl) (S0.out) (fun hHeld => ?_)
                refine heldE2_take (i := 0) (v := ?_) rfl (by kernel_rfl) (by kernel_rfl) (by kernel_rfl) (fun _ _ _ h => h) (by rfl) (fun w hSw => ?_) (by assumption) ?_; rotate_left 1; focus (((try dsimp only at hSw); first | (go_simp; done) | (go_simp; with_reducible rfl)))
                try simp only [Act.put, List.setIfInBounds_toArray, List.set_cons_zero, List.set_cons_succ]
                refine heldE2_take (i := 1) (v := ?_) rfl (by kernel_rfl) (by kernel_rfl) (by kernel_rfl) (fun _ _ _ h => h) (by rfl) (fun w hSw => ?_) (by assumption) ?_; rotate_left 1; focus (((try dsimp only at hSw); first | (go_simp; done) | (go_simp; with_reducible rfl)))
                try simp only [Act.put, List.setIfInBounds_toArray, List.set_cons_zero, List.set_cons_succ]
                refine heldE2_take (i := 2) (v := ?_) rfl (by kernel_rfl) (by kernel_rfl) (by kernel_rfl) (fun _ _ _ h => h) (by rfl) (fun w hSw => ?_) (by assumption) ?_; rotate_left 1; focus (((try dsimp only at hSw); first | (go_simp; done) | (go_simp; with_reducible rfl)))
                try simp only [Act.put, List.setIfInBounds_toArray, List.set_cons_zero, List.set_cons_succ]
                refine heldE2_take (i := 3) (v := ?_) rfl (by kernel_rfl) (by kernel_rfl) (by kernel_rfl) (fun _ _ _ h => h) (by rfl) (fun w hSw => ?_) (by assumption) ?_; rotate_left 1; focus (((try dsimp only at hSw); first | (go_simp; done) | (go_simp; with_reducible rfl)))
                try simp only [Act.put, List.setIfInBounds_toArray, List.set_cons_zero, List.set_cons_succ]
                refine heldE2_take (i := 4) (v := ?_) rfl (by kernel_rfl) (by kernel_rfl) (by kernel_rfl) (fun _ _ _ h => h) (by rfl) (fun w hSw => ?_) (by assumption) ?_; rotate_left 1; focus (((try dsimp only at hSw); first | (go_simp; done) | (go_simp; with_reducible rfl)))
                try simp only [Act.put, List.setIfInBounds_toArray, List.set_cons_zero, List.set_cons_succ]
                refine heldE2_take (i := 5) (v := ?_) rfl (by kernel_rfl) (by kernel_rfl) (by kernel_rfl) (fun _ _ _ h => h) (by rfl) (fun w hSw => ?_) (by assumption) ?_; rotate_left 1; focus (((try dsimp only at hSw); first | (go_simp; done) | (go_simp; with_reducible rfl)))
                try simp only [Act.put, List.setIfInBounds_toArray, List.set_cons_zero, List.set_cons_succ]
                refine heldE2_take (i := 6) (v := ?_) rfl (by kernel_rfl) (by kernel_rfl) (by kernel_rfl) (fun _ _ _ h => h) (by rfl) (fun w hSw => ?_) (by assumption) ?_; rotate_left 1; focus (((try dsimp only at hSw); first | (go_simp; done) | (go_simp; with_reducible rfl)))
                try simp only [Act.put, List.setIfInBounds_toArray, List.set_cons_zero, List.set_cons_succ]
                refine heldE2_take (i := 7) (v := ?_) rfl (by kernel_rfl) (by kernel_rfl) (by kernel_rfl) (fun _ _ _ h => h) (by rfl) (fun w hSw => ?_) (by assumption) ?_; rotate_left 1; focus (((try dsimp only at hSw); first | (go_simp; done) | (go_simp; with_reducible rfl)))
                try simp only [Act.put, List.setIfInBounds_toArray, List.set_cons_zero, List.set_cons_succ]
                refine heldE2_take (i := 8) (v := ?_) rfl (by kernel_rfl) (by kernel_rfl) (by kernel_rfl) (fun _ _ _ h => h) (by rfl) (fun w hSw => ?_) (by assumption) ?_; rotate_left 1; focus (((try dsimp only at hSw); first | (go_simp; done) | (go_simp; with_reducible rfl)))
                try simp only [Act.put, List.setIfInBounds_toArray, List.set_cons_zero, List.set_cons_succ]
                refine heldE2_take (i := 9) (v := ?_) rfl (by kernel_rfl) (by kernel_rfl) (by kernel_rfl) (fun _ _ _ h => h) (by rfl) (fun w hSw => ?_) (by assumption) ?_; rotate_left 1; focus (((try dsimp only at hSw); first | (go_simp; done) | (go_simp; with_reducible rfl)))
                try simp only [Act.put, List.setIfInBounds_toArray, List.set_cons_zero, List.set_cons_succ]
                refine heldE_call (i := 10) (by kernel_rfl) rfl (by rfl) (fun K hK => ?_)
                go_simp
                refine hK.out _ _ (SS.out _ ((D0.out.below (below_alloc _ _)).cell hk5).1 (E0.out.alloc E0.out.size _)) (fun hHeld => ?_)
                try simp only [Act.put, List.setIfInBounds_toArray, List.set_cons_zero, List.set_cons_succ]
                refine heldE_call (i := 11) (by kernel_rfl) rfl (by rfl) (fun K hK => ?_)
                refine wp_append_lies _ (.tmp 64) (.tmp 69) 22 rfl w.heap.size 38 tr (.agg #[.string .empty, .int .u64 0, .int .i64 0, .string .empty]) 4 48 Try.underlying22 hr hr0 hr1 hr2 rfl (by decide) (.slice x8 (P k).length z8) (P k).length (rowR (P k)) (by rfl) ((by have := D0.out.own k hk5; rw [hv8.out] at this; exact this.alloc _)) ⟨wr.heap.size, 0, none⟩ 1 1 [.string xk, .int .u64 (xs : Int), .int .i64 xi, .string xv] (by rfl) rfl (World.news_of_block (heap_alloc_new _ _)) (by simp [Value.oneCell']) (by decide) hbd.out.1 hbd.out.2 (by simp only [World.size_drew, World.size_alloc]; have := E0.out.size; simp only [World.size_drew] at this; omega) _ rfl ?_
                intro g9 cap9 w8 hown8 hgrow8 hat8 _
                have F8 := D0.out.push hk5 (x := ⟨xk, xs, xi, xv⟩) (tmp := (.cells #[.string xk, .int .u64 (xs : Int), .int .i64 xi, .string xv] 38)) (g := g9) (cap := cap9) hown8 (by rw [hv8.out]; exact hgrow8) (by rw [hv8.out]; exact hat8)
                have P8 := Lib.hid F8.1
                have Q8 := Lib.hid (E0.out.trans F8.2)
                have K8 := Lib.hid (pl_keep hk5 D0.out (by rw [hv8.out]; exact hgrow8))
                have B8 := Lib.hid (E0.out.trans (below_app (by have := D0.out.own k hk5; rw [hv8.out] at this; exact this) E0.out.size hgrow8))
                clear F8 hown8 hgrow8 hat8
                refine hK.out _ _ (SS.out _ K8.out.1 B8.out) (fun hHeld => ?_)
                try simp only [Act.put, List.setIfInBounds_toArray, List.set_cons_zero, List.set_cons_succ]
                refine heldE2_take (i := 12) (v := ?_) rfl (by kernel_rfl) (by kernel_rfl) (by kernel_rfl) (fun _ _ _ h => h) (by rfl) (fun w hSw => ?_) (by assumption) ?_; rotate_left 1; focus (((try dsimp only at hSw); first | (go_simp; done) | (go_simp; with_reducible rfl)))
                try simp only [Act.put, List.setIfInBounds_toArray, List.set_cons_zero, List.set_cons_succ]
                refine heldE_last (by kernel_rfl) rfl (by rfl) (fun K hK => ?_)
                obtain ⟨k8, f8⟩ := K8.out
                go_simp
                refine hK.out _ _ ?_
                try simp only [Act.put, List.setIfInBounds_toArray, List.set_cons_zero, List.set_cons_succ]
                refine wpE_done (by kernel_rfl) ?_ _
                go_wp2_with fail
                go_roundw
                case rel => exact ⟨i + 1, by omega, by go_num, _, ⟨_, P8⟩, Lib.hid (by rw [hnx.out]; exact hP.out.push hk5 _)⟩
                case measure => simp [intOf]; omega
            · have w1 : ¬ (i : Int) < (n1 : Int) := by omega
              have hk5 : 0 < 5 := by decide
              obtain ⟨x, hx⟩ : ∃ x, l[i]? = some x := ⟨_, List.getElem?_eq_getElem (by rw [hlen.out]; exact hil)⟩
              obtain ⟨ha, hbl⟩ := h.out.addr (by omega)
              have ha : a = some ⟨b, o, none⟩ := ha
              subst ha
              have XC := Lib.hid (fun (u : World) (hu : Below w.heap.size w u) => ((h.out.below hu (Nat.le_refl _)).at' i x hx))
              have hnx : Hid (l.take (i + 1) = l.take i ++ [x]) := Lib.hid (by rw [List.take_add_one, hx]; rfl)
              have hlen5 : Hid ((P 0).length ≤ 100) := Lib.hid (by have := (hP.out.sub 0 hk5).length_le; rw [List.length_take] at this; omega)
              obtain ⟨x8, y8, z8, hv8⟩ := own_shape2 (hL.out.own 0 hk5)
              have hbd := Lib.hid (app_row (P 0).length hlen5.out)
              obtain ⟨xk, xs, xi, xv⟩ := x
              have SS : Hid (∀ u : World, u.cell? ⟨G, 0, none⟩ = some (vf 0) → Below w.heap.size w u → (u.cell? ⟨G, 0, none⟩ = some (.slice x8 (P 0).length z8) ∧ u.cell? ⟨b, o + i * 4, none⟩ = some (.string xk) ∧ u.cell? ⟨b, o + i * 4 + 1, none⟩ = some (.int .u64 (xs : Int)) ∧ u.cell? ⟨b, o + i * 4 + 2, none⟩ = some (.int .i64 xi) ∧ u.cell? ⟨b, o + i * 4 + 3, none⟩ = some (.string xv))) := Lib.hid (fun u h1 h2 => ⟨by rw [h1, hv8], (XC.out u h2).1, (XC.out u h2).2.1, (XC.out u h2).2.2.1, (XC.out u h2).2.2.2⟩)
              have D0 : Hid (PL w.heap.size G P vf wr.drew) := Lib.hid (hL.out.below (Below.refl _ _).drew)
              have E0 : Hid (Below w.heap.size w wr.drew) := Lib.hid hB.out.drew
              have S0 := Lib.hid (SS.out _ (D0.out.cell hk5).1 E0.out)
              replace hv8 := Lib.hid hv8
              replace hx := Lib.hid hx
              clear g1 hlen5 hbl m1 q1 hil
              go_upto_region 19 with fail
              refine wp_region_E 13 (S := (fun u => u.cell? ⟨G, 0, none⟩ = some (.slice x8 (P 0).length z8) ∧ u.cell? ⟨b, o + i * 4, none⟩ = some (.string xk) ∧ u.cell? ⟨b, o + i * 4 + 1, none⟩ = some (.int .u64 (xs : Int)) ∧ u.cell? ⟨b, o + i * 4 + 2, none⟩ = some (.int .i64 xi) ∧ u.cell? ⟨b, o + i * 4 + 3, none⟩ = some (.string xv))) (by kernel_rfl) (S0.out) (fun hHeld => ?_)
              refine heldE2_take (i := 0) (v := ?_) rfl (by kernel_rfl) (by kernel_rfl) (by kernel_rfl) (fun _ _ _ h => h) (by rfl) (fun w hSw => ?_) (by assumption) ?_; rotate_left 1; focus (((try dsimp only at hSw); first | (go_simp; done) | (go_simp; with_reducible rfl)))
              try simp only [Act.put, List.setIfInBounds_toArray, List.set_cons_zero, List.set_cons_succ]
              refine heldE2_take (i := 1) (v := ?_) rfl (by kernel_rfl) (by kernel_rfl) (by kernel_rfl) (fun _ _ _ h => h) (by rfl) (fun w hSw => ?_) (by assumption) ?_; rotate_left 1; focus (((try dsimp only at hSw); first | (go_simp; done) | (go_simp; with_reducible rfl)))
              try simp only [Act.put, List.setIfInBounds_toArray, List.set_cons_zero, List.set_cons_succ]
              refine heldE2_take (i := 2) (v := ?_) rfl (by kernel_rfl) (by kernel_rfl) (by kernel_rfl) (fun _ _ _ h => h) (by rfl) (fun w hSw => ?_) (by assumption) ?_; rotate_left 1; focus (((try dsimp only at hSw); first | (go_simp; done) | (go_simp; with_reducible rfl)))
              try simp only [Act.put, List.setIfInBounds_toArray, List.set_cons_zero, List.set_cons_succ]
              refine heldE2_take (i := 3) (v := ?_) rfl (by kernel_rfl) (by kernel_rfl) (by kernel_rfl) (fun _ _ _ h => h) (by rfl) (fun w hSw => ?_) (by assumption) ?_; rotate_left 1; focus (((try dsimp only at hSw); first | (go_simp; done) | (go_simp; with_reducible rfl)))
              try simp only [Act.put, List.setIfInBounds_toArray, List.set_cons_zero, List.set_cons_succ]
              refine heldE2_take (i := 4) (v := ?_) rfl (by kernel_rfl) (by kernel_rfl) (by kernel_rfl) (fun _ _ _ h => h) (by rfl) (fun w hSw => ?_) (by assumption) ?_; rotate_left 1; focus (((try dsimp only at hSw); first | (go_simp; done) | (go_simp; with_reducible rfl)))
              try simp only [Act.put, List.setIfInBounds_toArray, List.set_cons_zero, List.set_cons_succ]
              refine heldE2_take (i := 5) (v := ?_) rfl (by kernel_rfl) (by kernel_rfl) (by kernel_rfl) (fun _ _ _ h => h) (by rfl) (fun w hSw => ?_) (by assumption) ?_; rotate_left 1; focus (((try dsimp only at hSw); first | (go_simp; done) | (go_simp; with_reducible rfl)))
              try simp only [Act.put, List.setIfInBounds_toArray, List.set_cons_zero, List.set_cons_succ]
              refine heldE2_take (i := 6) (v := ?_) rfl (by kernel_rfl) (by kernel_rfl) (by kernel_rfl) (fun _ _ _ h => h) (by rfl) (fun w hSw => ?_) (by assumption) ?_; rotate_left 1; focus (((try dsimp only at hSw); first | (go_simp; done) | (go_simp; with_reducible rfl)))
              try simp only [Act.put, List.setIfInBounds_toArray, List.set_cons_zero, List.set_cons_succ]
              refine heldE2_take (i := 7) (v := ?_) rfl (by kernel_rfl) (by kernel_rfl) (by kernel_rfl) (fun _ _ _ h => h) (by rfl) (fun w hSw => ?_) (by assumption) ?_; rotate_left 1; focus (((try dsimp only at hSw); first | (go_simp; done) | (go_simp; with_reducible rfl)))
              try simp only [Act.put, List.setIfInBounds_toArray, List.set_cons_zero, List.set_cons_succ]
              refine heldE2_take (i := 8) (v := ?_) rfl (by kernel_rfl) (by kernel_rfl) (by kernel_rfl) (fun _ _ _ h => h) (by rfl) (fun w hSw => ?_) (by assumption) ?_; rotate_left 1; focus (((try dsimp only at hSw); first | (go_simp; done) | (go_simp; with_reducible rfl)))
              try simp only [Act.put, List.setIfInBounds_toArray, List.set_cons_zero, List.set_cons_succ]
              refine heldE2_take (i := 9) (v := ?_) rfl (by kernel_rfl) (by kernel_rfl) (by kernel_rfl) (fun _ _ _ h => h) (by rfl) (fun w hSw => ?_) (by assumption) ?_; rotate_left 1; focus (((try dsimp only at hSw); first | (go_simp; done) | (go_simp; with_reducible rfl)))
              try simp only [Act.put, List.setIfInBounds_toArray, List.set_cons_zero, List.set_cons_succ]
              refine heldE_call (i := 10) (by kernel_rfl) rfl (by rfl) (fun K hK => ?_)
              go_simp
              refine hK.out _ _ (SS.out _ ((D0.out.below (below_alloc _ _)).cell hk5).1 (E0.out.alloc E0.out.size _)) (fun hHeld => ?_)
              try simp only [Act.put, List.setIfInBounds_toArray, List.set_cons_zero, List.set_cons_succ]
              refine heldE_call (i := 11) (by kernel_rfl) rfl (by rfl) (fun K hK => ?_)
              refine wp_append_lies _ (.tmp 64) (.tmp 69) 22 rfl w.heap.size 38 tr (.agg #[.string .empty, .int .u64 0, .int .i64 0, .string .empty]) 4 48 Try.underlying22 hr hr0 hr1 hr2 rfl (by decide) (.slice x8 (P 0).length z8) (P 0).length (rowR (P 0)) (by rfl) ((by have := D0.out.own 0 hk5; rw [hv8.out] at this; exact this.alloc _)) ⟨wr.heap.size, 0, none⟩ 1 1 [.string xk, .int .u64 (xs : Int), .int .i64 xi, .string xv] (by rfl) rfl (World.news_of_block (heap_alloc_new _ _)) (by simp [Value.oneCell']) (by decide) hbd.out.1 hbd.out.2 (by simp only [World.size_drew, World.size_alloc]; have := E0.out.size; simp only [World.size_drew] at this; omega) _ rfl ?_
              intro g9 cap9 w8 hown8 hgrow8 hat8 _
              have F8 := D0.out.push hk5 (x := ⟨xk, xs, xi, xv⟩) (tmp := (.cells #[.string xk, .int .u64 (xs : Int), .int .i64 xi, .string xv] 38)) (g := g9) (cap := cap9) hown8 (by rw [hv8.out]; exact hgrow8) (by rw [hv8.out]; exact hat8)
              have P8 := Lib.hid F8.1
              have Q8 := Lib.hid (E0.out.trans F8.2)
              have K8 := Lib.hid (pl_keep hk5 D0.out (by rw [hv8.out]; exact hgrow8))
              have B8 := Lib.hid (E0.out.trans (below_app (by have := D0.out.own 0 hk5; rw [hv8.out] at this; exact this) E0.out.size hgrow8))
              clear F8 hown8 hgrow8 hat8
              refine hK.out _ _ (SS.out _ K8.out.1 B8.out) (fun hHeld => ?_)
              try simp only [Act.put, List.setIfInBounds_toArray, List.set_cons_zero, List.set_cons_succ]
              refine heldE2_take (i := 12) (v := ?_) rfl (by kernel_rfl) (by kernel_rfl) (by kernel_rfl) (fun _ _ _ h => h) (by rfl) (fun w hSw => ?_) (by assumption) ?_; rotate_left 1; focus (((try dsimp only at hSw); first | (go_simp; done) | (go_simp; with_reducible rfl)))
              try simp only [Act.put, List.setIfInBounds_toArray, List.set_cons_zero, List.set_cons_succ]
              refine heldE_last (by kernel_rfl) rfl (by rfl) (fun K hK => ?_)
              obtain ⟨k8, f8⟩ := K8.out
              go_simp
              refine hK.out _ _ ?_
              try simp only [Act.put, List.setIfInBounds_toArray, List.set_cons_zero, List.set_cons_succ]
              refine wpE_done (by kernel_rfl) ?_ _
              go_wp2_with fail
              go_roundw
              case rel => exact ⟨i + 1, by omega, by go_num, _, ⟨_, P8⟩, Lib.hid (by rw [hnx.out]; exact hP.out.push hk5 _)⟩
              case measure => simp [intOf]; omega
      · have i2 : (i : Int) < 5 := by omega
        have hil : i < 5 := by omega
        have iw : wrap64 ((i : Int) + 1) = ((i + 1 : Nat) : Int) := by unfold wrap64; omega
        obtain ⟨p7, c7, rfl⟩ := row_shape hO.out
        have hz : Hid (w.heap.size ≤ wr.heap.size) := Lib.hid hB.out.size
        go_wp2_with (at_builtin; refine wpList_append_lies _ rfl _ _ 36 rfl w.heap.size 22 ti (.slice none 0 0) 1 24 Try.underlying36 hi hy0 hy1 hy2 rfl (by decide) (.slice p7 i c7) i (List.replicate i (.slice none 0 0)) (by rfl) (hO.out.alloc _) ⟨wr.heap.size, 0, none⟩ 1 1 [.slice none 0 0] (by rfl) rfl (World.news_of_block (heap_alloc_new _ _)) (by simp [Value.oneCell']) (by decide) (by unfold maxLen; omega) (by omega) (by have := hz.out; rw [World.size_alloc]; omega) _ rfl ?_; intro g' cap' w5 hown hgrow hat hlt5; have O5 : Hid (w5.ownsRow w.heap.size 22 1 (.slice (some ⟨g', 0, none⟩) (i + 1) cap') (i + 1) (List.replicate (i + 1) (.slice none 0 0))) := Lib.hid (by rw [List.replicate_succ']; exact hown); have B5 : Hid (Below w.heap.size w w5) := Lib.hid (hB.out.trans (((below_alloc wr _).mono hz.out).trans ⟨hgrow.os, hgrow.tape, hgrow.output, hgrow.size, fun q hq => hgrow.block q (by rw [World.size_alloc]; have := hz.out; omega) (fun e => by have := (World.ownsRow.lt hO.out q e.symm).1; omega)⟩)); clear hown hgrow hat hlt5)
        go_roundw
        case rel => exact ⟨i + 1, hil, by first | rfl | rw [iw], O5, B5⟩
        case measure => simp [intOf] <;> omega
--LAW freshetlaw13.MergeParted parted_walk rows:l nums:l1
--BEGIN
namespace MergePartedProof
open Go.ChangeShapes Go.WideShapes Go.ChangeAt Go.RowKit
open Go.ChangeMaps (open_string shut_string)
theorem own : ownKnob Try.prog.godebug = none := by kernel_rfl
set_option maxRecDepth 100000 in
theorem lifted (os : Os) (started : os.Started) (H : Type) (enc : TypeId × Value → H) :
    ReturnsInHanded {} Try.checked os 4 .any (Rows.mergePartedSpec.pre6 enc Try.prog Try.f4 Rows.mergePartedRow.domain false) (Rows.mergePartedSpec.post enc Try.prog Try.f4 false true false false) := by
  refine returnsInHanded_of_change_sized (C := Try.checked) own started (by kernel_rfl) Try.func4
    (ChangeSpec.witness6 (enc := enc) (C := Try.checked) false ⟨#[], #[.slice none 0 0, .slice none 0 0], []⟩ 8 (by kernel_rfl) (by kernel_rfl) (by kernel_rfl) (by kernel_rfl)) ?_
  intro W base args ds gs before hval0 hW _ hsz _
  have hval : ∀ (j : Nat) t v, Try.f4.params[j]? = some t → args[j]? = some v → Value.okWide Try.prog W .any base t v := hval0
  have hW' := hW
  obtain ⟨p, q, hA0, hV, rfl, hfz, hnd⟩ := hW
  have hA : DataW.TrodAll enc Try.prog W 0 (fun _ => true) true Try.f4.params.toList args.toList ds p := hA0
  rw [Try.params4] at hA hval hsz
  obtain ⟨v0, vs0, d0, ds0, p0, q0, hargs, rfl, rfl, h0, r0⟩ := trodAll_cons hA
  obtain ⟨v1, vs1, d1, ds1, p1, q1, rfl, rfl, rfl, h1, r1⟩ := trodAll_cons r0
  obtain ⟨rfl, rfl, rfl⟩ := trodAll_nil r1
  obtain rfl : args = #[v0, v1] := by cases args; simp_all
  obtain ⟨rfl, rfl⟩ := trodVars_none hV
  obtain ⟨a0, n0, c0, rfl⟩ := okWide_slice Try.underlying22 (hval 0 22 v0 rfl rfl)
  have k0 := h0
  obtain ⟨fu0, hf0⟩ := h0
  obtain ⟨b0, o0, l, ia0⟩ := open_rows hf0 hsz (j := 0) rfl rfl
  have lt0 : ∀ x ∈ p0, x.block < W.heap.size := fun x hx => hW'.lt x (by simp only [List.mem_append]; simp [hx])
  obtain ⟨a1, n1, c1, rfl⟩ := okWide_slice Try.underlying31 (hval 1 31 v1 rfl rfl)
  have k1 := h1
  obtain ⟨fu1, hf1⟩ := h1
  obtain ⟨b1, o1, l1, ia1⟩ := open_nums hf1 hsz (j := 1) rfl rfl
  have lt1 : ∀ x ∈ p1, x.block < W.heap.size := fun x hx => hW'.lt x (by simp only [List.mem_append]; simp [hx])
  clear hA0 hval0
  simp only [List.append_nil] at hW'
  refine (parted_walk a0 n0 c0 b0 o0 l a1 n1 c1 b1 o1 l1 W ia0 ia1).mono fun e W' ⟨he, hg⟩ => ?_
  subst he
  exact ⟨_, rfl, _, _, _, [], _, [], hW', (trodAll_cons_mk (shut_bool Try.underlying4 _) trodAll_mk0), (trodAll_cons_mk (Below.trod laid_out (by kernel_rfl) (of_decide_eq_true (by kernel_rfl)) k0 hg lt0) (trodAll_cons_mk (Below.trod laid_out (by kernel_rfl) (of_decide_eq_true (by kernel_rfl)) k1 hg lt1) trodAll_mk0)), rfl, hg.frame _, fun h => by cases h⟩
theorem holds : Rows.MergePartedSaid :=
  OpenClaim.holds_of_wide 4 Try.f4 rfl rfl rfl rfl rfl rfl rfl ⟨rfl, rfl, rfl, rfl, rfl⟩ rfl rfl rfl rfl rfl (by kernel_rfl) Try.func4 (by kernel_rfl)
    (of_decide_eq_true (by kernel_rfl)) (by unfold Func.isWrapper; first | (rw [if_pos (by decide +kernel)]; kernel_rfl) | (rw [if_neg (by decide +kernel)]; exact ⟨rfl, rfl⟩))
    (fun os started H enc _ => lifted os started H enc)
end MergePartedProof
--END
end Go.Proofs.Ytlnklpnldmcopaa
