/-
  The contract of the program's At. Condition: at most 1000000 rows, texts of less than 2^48 bytes.
-/
import Derived.Test.YtkkegdhnkefogaaMergeKeys
import Derived.Test.YtkkegdhnkefogaaMergeRefAt
import Derived.Test.YtkkegdhnkefogaaMergeCopied
import Derived.Test.YtkkegdhnkefogaaBlockOrder
import Derived.Test.YtkkegdhnkefogaaStays
import Derived.RangeFuncWrites
namespace Go.Proofs.Ytkkegdhnkefogaa
set_option maxRecDepth 100000
open Go.RowKit
attribute [local go_sem] Oper.semAt_some
/-- What stands while At goes over the keys. -/
structure AtI (N M q n c b o : Nat) (a : Option Addr) (l : List Rw) (w0 : World) (PA : List (ByteArray × ByteArray)) (W : World) : Prop where
  bq : Boxed W N 31 (.int .u64 (q : Int))
  bf : Boxed W M 57 (.func (.func 32) #[] #[.pointer (some ⟨N, 0, none⟩)])
  row : ∃ v, Boxed W (M + 1) 32 v ∧ W.ownsRow N 47 2 v PA.length (rowP PA)
  bl : Boxed W (M + 1 + 1) 25 (.slice a n c)
  bel : Below N w0 W
theorem AtI.stays {N M q n c b o : Nat} {a : Option Addr} {l : List Rw} {w0 : World} {PA : List (ByteArray × ByteArray)} {W W' : World} (h : AtI N M q n c b o a l w0 PA W) (hs : Stays W W') (hB : Below N W W') : AtI N M q n c b o a l w0 PA W' := by
  obtain ⟨v, h1, h2⟩ := h.row
  exact ⟨hs.2 _ _ _ _ h.bq, hs.2 _ _ _ _ h.bf, ⟨v, hs.2 _ _ _ _ h1, ownsRow_stays h2 hs⟩, hs.2 _ _ _ _ h.bl, h.bel.trans hB⟩
theorem AtI.grow {N M q n c b o : Nat} {a : Option Addr} {l : List Rw} {w0 : World} {PA : List (ByteArray × ByteArray)} {W W' : World} (h : AtI N M q n c b o a l w0 PA W) (hN : N ≤ W.heap.size) (hb : Below W.heap.size W W') : AtI N M q n c b o a l w0 PA W' := h.stays (Stays.of_below hb) (hb.mono hN)
/-- Another pair. -/
theorem AtI.more {N M q n c b o : Nat} {a : Option Addr} {l : List Rw} {w0 : World} {PA : List (ByteArray × ByteArray)} {W w1 : World} (h : AtI N M q n c b o a l w0 PA W) (hM : N < M) (hN : N ≤ W.heap.size) (x : ByteArray × ByteArray) {v v' : Value} {tmp : Obj} (hv : Boxed W (M + 1) 32 v) (hr : W.ownsRow N 47 2 v PA.length (rowP PA))
    (hown : w1.ownsRow N 47 2 v' (PA.length + 1) (rowP (PA ++ [x]))) (hgrow : (W.alloc tmp).grownBy w1 v.ownBlock) :
    AtI N M q n c b o a l w0 (PA ++ [x]) (w1.setCell ⟨M + 1, 0, none⟩ v') ∧ KeepsOthers W (w1.setCell ⟨M + 1, 0, none⟩ v') ∧ Below N W (w1.setCell ⟨M + 1, 0, none⟩ v') ∧ Boxed w1 (M + 1) 32 v := by
  obtain ⟨a1, a2, a3, a4, a5⟩ := hv.appended (by decide) hr hN (by omega) hown hgrow
  exact ⟨⟨stays_appended hr hgrow h.bq (by omega) (by decide), stays_appended hr hgrow h.bf (by omega) (by decide), ⟨v', a2, by rw [List.length_append]; exact a3⟩, stays_appended hr hgrow h.bl (by omega) (by decide), h.bel.trans a5⟩, a4, a5, a1⟩
theorem rs_run {n c b o : Nat} {l : List Rw} {W : World} (h : Rs (some ⟨b, o, none⟩) n c b o l W) {k r : Nat} (hr : k + r ≤ n) (h1 : 1 ≤ r) : Rs (some ⟨b, o + k * 4, none⟩) r r b (o + k * 4) ((l.drop k).take r) W := by
  have h2 := (h.from (k := k) (by omega)).upto (k := r) (by omega)
  have hc := h.cap
  have hm := h.most
  have e : fromA (some ⟨b, o, none⟩) c k = some ⟨b, o + k * 4, none⟩ := by
    unfold fromA
    rw [if_neg (by omega)]
    simp [addr_add]
  rw [e] at h2
  exact ⟨h2.len, Nat.le_refl _, by omega, h2.addr, h2.at'⟩
theorem Fst.no {P : Rw → Bool} {l : List Rw} {r : Int} (h : Fst P l r) (hn : ∀ (i : Nat) y, l[i]? = some y → P y = false) : r = -1 := by
  rcases h with ⟨h, _⟩ | ⟨j, x, h, hx, hp, _⟩
  · exact h
  · rw [hn j x hx] at hp; cases hp
theorem Fst.at {P : Rw → Bool} {l : List Rw} {r : Int} (h : Fst P l r) {j : Nat} {x : Rw} (hx : l[j]? = some x) (hp : P x = true) (hno : ∀ (i : Nat) y, i < j → l[i]? = some y → P y = false) : r = (j : Int) := by
  rcases h with ⟨_, h⟩ | ⟨i, y, h, hy, hq, hno2⟩
  · rw [h j x hx] at hp; cases hp
  · rcases Nat.lt_trichotomy i j with h1 | h1 | h1
    · rw [hno i y h1 hy] at hq; cases hq
    · rw [h, h1]
    · rw [hno2 j x h1 hx] at hp; cases hp
theorem fst_ex (P : Rw → Bool) : ∀ l : List Rw, (∀ (i : Nat) y, l[i]? = some y → P y = false) ∨ ∃ (j : Nat) (x : Rw), l[j]? = some x ∧ P x = true ∧ ∀ (i : Nat) y, i < j → l[i]? = some y → P y = false
  | [] => .inl fun i y h => by simp at h
  | x :: r => by
    cases hx : P x with
    | true => exact .inr ⟨0, x, rfl, hx, fun i y hi => absurd hi (by omega)⟩
    | false =>
      rcases fst_ex P r with h | ⟨j, z, hz, hp, hno⟩
      · refine .inl fun i y hy => ?_
        cases i with
        | zero => obtain rfl : x = y := by simpa using hy
                  exact hx
        | succ i => exact h i y (by simpa using hy)
      · refine .inr ⟨j + 1, z, by simpa using hz, hp, fun i y hi hy => ?_⟩
        cases i with
        | zero => obtain rfl : x = y := by simpa using hy
                  exact hx
        | succ i => exact hno i y (by omega) (by simpa using hy)
theorem isAt_enters : ∀ (args : Array Value) (w : World), (callFunc 32 args).run Try.prog w = .ok (.enter 32 args) w := enters_of Try.func32 (by kernel_rfl) rfl
set_option maxRecDepth 100000 in
set_option maxHeartbeats 8000000 in
theorem mat_any {a : Option Addr} {n c b o : Nat} {l : List Rw} {w : World} (h : Rs a n c b o l w) (hn : n ≤ 1000000) (hs : ∀ x ∈ l, x.key.size ≤ 281474976710656 ∧ x.val.size ≤ 281474976710656) (q : Nat) :
    Calls Try.prog 17 #[.slice a n c, .int .u64 (q : Int)] w (AtD l q w) := by
  have m0 := h.most
  have q0 := h.cap
  have hlen := Lib.hid h.len
  have hmf := makes_funcM
  obtain ⟨N, hN⟩ := named w.heap.size
  have W0 := Lib.hid (below_alloc w (.cells #[.int .u64 (q : Int)] 31))
  have bq0 := Lib.hid (Boxed.new w 31 (.int .u64 (q : Int)))
  have OC := Lib.hid (order_any (h.below W0.out (Nat.le_refl _)))
  have h := Lib.hid h
  cases ho : ordR l with
  | false =>
    rw [ho] at OC
    have ho := Lib.hid ho
    go_enter Try.func17, Try.ntmps17
    go_wp2_with (go_at_call 23; ((with_reducible refine OC.out.mono ?_); rintro e w1 ⟨rfl, hb1⟩))
    go_returns
    exact .inl ⟨ho.out, rfl, below_of W0.out hb1⟩
  | true =>
    rw [ho] at OC
    have ho := Lib.hid ho
    obtain ⟨i0, hi, hy0, hy1, hy2⟩ := info_parts infoPr
    refine (callsIn_wide (n := 6)).1 ?_
    refine callsIn_of_wp_marks Try.func17 rfl trivial ?_ rfl
    simp only [Try.ntmps17, List.size_toArray, List.length_cons, List.length_nil, Nat.reduceAdd, Nat.reduceSub, Array.replicate_succ, Array.replicate_zero, List.push_toArray, List.append_toArray, List.nil_append, List.cons_append]
    refine wpIn_wide.2 ?_
    have BC := Lib.hid (fun u => bykeys_any a n c u)
    go_wp2_with (first
      | (go_at_call 23; ((with_reducible refine OC.out.mono ?_); rintro e w1 ⟨rfl, hb1⟩))
      | (go_at_call 33; ((with_reducible refine (BC.out _).mono ?_); rintro e w2 ⟨rfl, rfl⟩)))
    have hz1 : N + 1 ≤ w1.heap.size := by have := hb1.size; rw [World.size_alloc] at this; rw [hN.out]; exact this
    have hB1 : Hid (Below N w w1) := Lib.hid (by rw [hN.out]; exact below_of W0.out hb1)
    have bq1 : Hid (Boxed w1 N 31 (.int .u64 (q : Int))) := Lib.hid (by rw [hN.out]; exact (hb1.block _ bq0.out.lt).trans bq0.out)
    clear bq0 W0 hb1
    obtain ⟨M, hM⟩ := named w1.heap.size
    rw [← hN.out, ← hM.out]
    rw [← hM.out] at hz1
    have hz2' : ((((w1.alloc (.cells #[.func (.func 32) #[] #[.pointer (some ⟨N, 0, none⟩)]] 57)).alloc (.cells #[.slice none 0 0] 32)).alloc (.cells #[.slice a n c] 25))).heap.size = M + 3 := by simp [hM.out]
    have bf2 : Boxed (((w1.alloc (.cells #[.func (.func 32) #[] #[.pointer (some ⟨N, 0, none⟩)]] 57)).alloc (.cells #[.slice none 0 0] 32)).alloc (.cells #[.slice a n c] 25)) M 57 (.func (.func 32) #[] #[.pointer (some ⟨N, 0, none⟩)]) := by rw [hM.out]; exact ((Boxed.new w1 _ _).alloc _).alloc _
    have bv2 : Boxed (((w1.alloc (.cells #[.func (.func 32) #[] #[.pointer (some ⟨N, 0, none⟩)]] 57)).alloc (.cells #[.slice none 0 0] 32)).alloc (.cells #[.slice a n c] 25)) (M + 1) 32 (.slice none 0 0) := by
      have := (Boxed.new (w1.alloc (.cells #[.func (.func 32) #[] #[.pointer (some ⟨N, 0, none⟩)]] 57)) 32 (.slice none 0 0)).alloc (.cells #[.slice a n c] 25)
      rw [World.size_alloc, ← hM.out] at this; exact this
    have bl2 : Boxed (((w1.alloc (.cells #[.func (.func 32) #[] #[.pointer (some ⟨N, 0, none⟩)]] 57)).alloc (.cells #[.slice none 0 0] 32)).alloc (.cells #[.slice a n c] 25)) (M + 1 + 1) 25 (.slice a n c) := by
      have := Boxed.new ((w1.alloc (.cells #[.func (.func 32) #[] #[.pointer (some ⟨N, 0, none⟩)]] 57)).alloc (.cells #[.slice none 0 0] 32)) 25 (.slice a n c)
      rw [World.size_alloc, World.size_alloc, ← hM.out] at this; exact this
    have bq2 : Boxed (((w1.alloc (.cells #[.func (.func 32) #[] #[.pointer (some ⟨N, 0, none⟩)]] 57)).alloc (.cells #[.slice none 0 0] 32)).alloc (.cells #[.slice a n c] 25)) N 31 (.int .u64 (q : Int)) := ((bq1.out.alloc _).alloc _).alloc _
    have bb2 : Below N w (((w1.alloc (.cells #[.func (.func 32) #[] #[.pointer (some ⟨N, 0, none⟩)]] 57)).alloc (.cells #[.slice none 0 0] 32)).alloc (.cells #[.slice a n c] 25)) := ((hB1.out.alloc (by have := hM.out; omega) _).alloc (by have := hM.out; simp; omega) _).alloc (by have := hM.out; simp; omega) _
    generalize (((w1.alloc (.cells #[.func (.func 32) #[] #[.pointer (some ⟨N, 0, none⟩)]] 57)).alloc (.cells #[.slice none 0 0] 32)).alloc (.cells #[.slice a n c] 25)) = V at *
    have D1 : AtI N M q n c b o a l w [] V := ⟨bq2, bf2, ⟨_, bv2, World.ownsRow_nil _ _ _ _⟩, bl2, bb2⟩
    clear bf2 bv2 bl2 bq2 bb2 bq1 hB1 hM
    have hRs : Hid (∀ A, Below N w A → Rs a n c b o l A) := Lib.hid (fun A hA => h.out.below hA (by rw [hN.out]; exact Nat.le_refl _))
    have SU := keys_until (n := n) (c := c) (b := b) (o := o) (l := l) (a := a) hn (fun A => ∃ PA, AtI N M q n c b o a l w PA A ∧ M + 3 ≤ A.heap.size) (M + 1 + 1)
      (fun A C ⟨PA, hA, hs⟩ hAC => ⟨PA, hA.grow (by omega) hAC, Nat.le_trans hs hAC.size⟩) (fun A ⟨PA, hA, _⟩ => hA.bl.cell) (fun A ⟨PA, hA, _⟩ => hRs.out A hA.bel) N V
    have hord : Hid (SortedR l) := Lib.hid ((ordR_sorted l).1 ho.out)
    refine (wpIn_wide (n := 6)).1 ?_
    refine wpIn_range_untilW (gf := 48) (lb := #[.pointer (some ⟨M + 1 + 1, 0, none⟩)]) rfl (enters_of Try.func48 (by kernel_rfl) rfl) (B := N) (by omega) SU (fun _ => rfl)
      (fun pre W => (AtI N M q n c b o a l w (pairsOf (selL (sees q) none (l.take (totK pre)))) W ∧ M + 3 ≤ W.heap.size) ∧ Brk l (totK pre) ∧ totK pre ≤ n)
      (fun _ _ _ => False)
      (fun s X Y row h hg hr => ⟨⟨h.1.1.stays (stays_own hg (fun r e => (hr r e).2)) ((Below.refl N X).grown hg (by have := h.1.2; omega) (fun k e => by have := (hr k e).1; omega)), Nat.le_trans h.1.2 hg.size⟩, h.2⟩)
      (fun c s X Y row h hg hr => h)
      (fun pre W h => ⟨_, h.1⟩)
      ⟨⟨D1, by omega⟩, brk_zero l, Nat.zero_le _⟩
      (fun x a' W => a' = { tmps := #[.slice a n c, .int .u64 (q : Int), undef, .pointer (some ⟨N, 0, none⟩), .slice none 0 0, .int .i64 0, .pointer (some ⟨M, 0, none⟩), .pointer (some ⟨M + 1, 0, none⟩), .slice (some ⟨b, o + x.1 * 4, none⟩) x.2 x.2, undef, undef, .slice a n c, .bool true, .bool false, .func (.func 32) #[] #[.pointer (some ⟨N, 0, none⟩)], .slice a n c, .func (.func 48) #[] #[.pointer (some ⟨M + 1 + 1, 0, none⟩)], .slice (some ⟨b, o + x.1 * 4, none⟩) x.2 x.2, undef, undef, undef, undef, undef, undef, undef, undef, undef, undef, undef, undef, undef, undef, undef, undef, undef, undef, undef, undef, undef, undef, undef, undef, undef, undef, undef], defers := [] })
      (fun x a' _ X Y row h hg hr => h)
      ?assign ?body ?done ?stop
    case assign =>
      rintro l' pre x W K' hI hK
      unfold encRun at *
      gi_wp2
      exact hK _ _ (KeepsFrom.refl _ _) (Below.refl _ _) hI rfl
    case body =>
      rintro l' pre x a' W hok ⟨⟨hD, hz⟩, hbrk, htot⟩ rfl
      obtain ⟨k, r⟩ := x
      obtain ⟨hk1, hk2, hrun⟩ := hok
      simp only at hk1 hk2 hrun ⊢
      rw [← hk1] at hD hbrk htot
      have hRW := hRs.out W hD.bel
      obtain ⟨rfl, hbN⟩ := hRW.addr (by omega)
      have hrl : k + r ≤ n := by have := hrun.le; rw [hlen.out] at this; exact this
      have hr1 := hrun.pos
      have hSeg := rs_run hRW hrl hr1
      have hpl := atL_run (n := q) hord.out hrun hbrk
      have hbrk2 := Lib.hid hrun.brk
      have htk : Hid (totK (pre ++ [(k, r)]) = k + r) := Lib.hid (by rw [totK_snoc, ← hk1])
      have hNW : N ≤ W.heap.size := by omega
      have IC0 := index_any 32 #[.pointer (some ⟨N, 0, none⟩)] isAt_enters (fun x => decide (x.seq ≤ q)) hSeg (fun x u hu => isAt_any x q N u ((hD.grow hNW hu).bq.cell))
      have hPl : (pairsOf (selL (sees q) none (l.take k))).length ≤ 1000000 := by
        have := atL_len q (l.take k)
        unfold atL at this
        rw [List.length_take] at this
        omega
      obtain ⟨PA, hPA⟩ := named (pairsOf (selL (sees q) none (l.take k)))
      rw [← hPA.out] at hD hpl hPl
      have cf := hD.bf.cell
      have hSegL := Lib.hid hSeg.len
      replace hrun := Lib.hid hrun
      replace hk1 := Lib.hid hk1
      rcases fst_ex (fun x => decide (x.seq ≤ q)) ((l.drop k).take r) with hno | ⟨j, x, hx, hp, hno⟩
      · have IC : Hid (Calls Try.prog 34 #[.slice (some ⟨b, o + k * 4, none⟩) r r, .func (.func 32) #[] #[.pointer (some ⟨N, 0, none⟩)]] W fun e w' => e = .returned (.int .i64 (-1)) ∧ Below W.heap.size W w') := Lib.hid (IC0.mono (fun e w' ⟨ri, hf, he, hb⟩ => by rw [hf.no hno] at he; exact ⟨he, hb⟩))
        have hpl2 : Hid (pairsOf (selL (sees q) none (l.take (totK (pre ++ [(k, r)])))) = PA) := Lib.hid (by rw [htk.out, hpl, find_no hno, List.append_nil])
        have hD := Lib.hid hD
        clear IC0 hpl hno hSeg hRW
        gi_wp2_with (refine ⟨trivial, ?_⟩; gi_at_call 34; with_reducible refine (CallsIn.inRound l' (callsIn_wide.2 IC.out)).mono ?_; rintro e w2 ⟨rfl, hb2⟩)
        exact ⟨(keeps_below hb2).from _, hb2.mono hNW, ⟨by rw [hpl2.out]; exact hD.out.grow hNW hb2, Nat.le_trans hz hb2.size⟩, by rw [htk.out]; exact hbrk2.out, by rw [htk.out]; exact hrl⟩
      · have IC : Hid (Calls Try.prog 34 #[.slice (some ⟨b, o + k * 4, none⟩) r r, .func (.func 32) #[] #[.pointer (some ⟨N, 0, none⟩)]] W fun e w' => e = .returned (.int .i64 (j : Int)) ∧ Below W.heap.size W w') := Lib.hid (IC0.mono (fun e w' ⟨ri, hf, he, hb⟩ => by rw [hf.at hx hp hno] at he; exact ⟨he, hb⟩))
        have hjr : j < r := by have := (List.getElem?_eq_some_iff.1 hx).1; rw [hSeg.len] at this; exact this
        have hpl2 : Hid (pairsOf (selL (sees q) none (l.take (totK (pre ++ [(k, r)])))) = PA ++ pairsOf [x]) := Lib.hid (by rw [htk.out, hpl, find_at hx hp hno])
        obtain ⟨x', hx', _, x0, x1, x2, x3⟩ := hSeg.at4 hjr
        obtain rfl : x' = x := by rw [hx] at hx'; exact (Option.some.inj hx').symm
        have hxl : x' ∈ l := List.mem_of_mem_drop (List.mem_of_mem_take (List.mem_of_getElem? hx))
        have CP := Lib.hid (fun u => copied_any x' (hs x' hxl).1 (hs x' hxl).2 u)
        obtain ⟨xk, xs, xi, xv⟩ := x'
        simp only at x0 x1 x2 x3 CP
        have j0 : (j : Int) < (r : Int) := by omega
        have j1 : (0 : Int) ≤ (j : Int) := by omega
        clear IC0 hpl hno hSeg hRW hx hx' hp hxl
        by_cases hk : xi = 1
        · have hpl3 : Hid (pairsOf (selL (sees q) none (l.take (totK (pre ++ [(k, r)])))) = PA ++ [(xk, xv)]) := Lib.hid (by rw [hpl2.out]; simp [pairsOf, hk])
          subst hk
          have k1 : ((1 : Int) == 1) = true := rfl
          obtain ⟨v, hv, hr⟩ := hD.row
          have hv := Lib.hid hv
          have hr := Lib.hid hr
          have hD := Lib.hid hD
          clear hpl2
          gi_wp2_with (first
            | (refine ⟨trivial, ?_⟩; gi_at_call 34; with_reducible refine (CallsIn.inRound l' (callsIn_wide.2 IC.out)).mono ?_; rintro e w2 ⟨rfl, hb2⟩; have y0 := cell_keep hb2 x0; have y1 := cell_keep hb2 x1; have y2 := cell_keep hb2 x2; have y3 := cell_keep hb2 x3; have B2 := Lib.hid hb2; clear hb2)
            | (refine ⟨trivial, ?_⟩; gi_at_call 28; with_reducible refine (CallsIn.inRound l' (callsIn_wide.2 (CP.out _))).mono ?_; rintro e w3 ⟨rfl, hb3⟩; have B4 := Lib.hid (below_of (below_of B2.out hb3) (below_alloc w3 (.cells #[.string xk, .int .u64 (xs : Int), .int .i64 1, .string xv] 42))); have D4 := Lib.hid (hD.out.grow hNW B4.out); have hv4 := Lib.hid ((Stays.of_below B4.out).box hv.out); have hr4 := Lib.hid (ownsRow_stays hr.out (Stays.of_below B4.out)); have cv4 := Boxed.cell hv4.out; have hX4 := RowAt.new ⟨xk, xs, 1, xv⟩ w3; obtain ⟨⟨e0, e1, e2, e3⟩, _⟩ := hX4.cells; clear hb3)
            | (gi_at_builtin; refine wpListIn_append_own _ rfl _ _ 32 rfl N 47 i0 (.agg #[.string .empty, .string .empty]) 2 32 Try.underlying32 hi hy0 hy1 hy2 rfl (by decide) _ PA.length (rowP PA) rfl (hr4.out.alloc _) ⟨w3.heap.size + 1, 0, none⟩ 1 1 [.string xk, .string xv] rfl rfl (World.news_of_block (by have := heap_alloc_new (w3.alloc (.cells #[.string xk, .int .u64 (xs : Int), .int .i64 1, .string xv] 42)) (.cells #[.string xk, .string xv] 47); rw [World.size_alloc] at this; exact this)) (by simp [Value.oneCell']) (by unfold maxLen; omega) (by omega) (by have := B4.out.size; rw [World.size_alloc]; omega) ?_; intro v' w5 hown' hgrow _; obtain ⟨f1, f2, f3, f4⟩ := D4.out.more (by omega) (Nat.le_trans hNW B4.out.size) (xk, xv) hv4.out hr4.out (by rw [rowP_snoc]; exact hown') hgrow; have c5 := f4.cell; have g5 := f4.frozen; obtain ⟨s1, s2, s3, rfl⟩ := own_shape hown'))
          refine ⟨((keeps_below B4.out).trans f2).from _, (B4.out.mono hNW).trans f3, ⟨by rw [hpl3.out]; exact f1, ?_⟩, by rw [htk.out]; exact hbrk2.out, by rw [htk.out]; exact hrl⟩
          exact Nat.le_trans hz (Nat.le_trans B4.out.size f3.size)
        · have hpl3 : Hid (pairsOf (selL (sees q) none (l.take (totK (pre ++ [(k, r)])))) = PA) := Lib.hid (by rw [hpl2.out]; simp [pairsOf, hk])
          have k1 : (xi == 1) = false := by rw [beq_eq_false_iff_ne]; exact hk
          have hD := Lib.hid hD
          clear hpl2 hk
          gi_wp2_with (refine ⟨trivial, ?_⟩; gi_at_call 34; with_reducible refine (CallsIn.inRound l' (callsIn_wide.2 IC.out)).mono ?_; rintro e w2 ⟨rfl, hb2⟩; have y2 := cell_keep hb2 x2)
          exact ⟨(keeps_below hb2).from _, hb2.mono hNW, ⟨by rw [hpl3.out]; exact hD.out.grow hNW hb2, Nat.le_trans hz hb2.size⟩, by rw [htk.out]; exact hbrk2.out, by rw [htk.out]; exact hrl⟩
    case done =>
      rintro D xs W hD hS ⟨⟨hI, hz⟩, hbrk, htot⟩ hK
      obtain ⟨v, hv, hr⟩ := hI.row
      obtain ⟨q1, q2, q3, rfl⟩ := own_shape hr
      have cv := hv.cell
      have hr := Lib.hid hr
      have hI := Lib.hid hI
      have hfin : Hid (pairsOf (selL (sees q) none (l.take (totK xs))) = atL q l) := Lib.hid (by
        have e : totK xs = l.length := by rw [hlen.out]; exact hS
        unfold atL; rw [e, List.take_length])
      have BF : Below N W (W.putObj D (.deferred none)) := (Below.refl N _).grown (grownBy_putObj' _ D (.deferred none)) (by omega) (fun k e => by cases e; omega)
      go_wp2
      refine ⟨by simp, .inl ⟨_, _, rfl, run_takeDeferred hK, ?_⟩⟩
      refine ⟨.tuple #[.slice q1 q2 q3, .int .i64 0], ?_, ?_⟩
      · simp [results, Try.results17, go_sem]
      · refine .inr ⟨ho.out, _, rfl, ?_, by rw [← hN.out]; exact hI.out.bel.trans BF⟩
        rw [← hN.out, ← hfin.out]
        exact ownsRow_putObj hr.out (.deferred none) hK rfl
    case stop =>
      rintro D cd pre W hD hF
      exact hF.elim
end Go.Proofs.Ytkkegdhnkefogaa
