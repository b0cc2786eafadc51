/-
  EditBack: an edit that is written is read back, bytes that are read are written so, and two edits have two texts. Condition: at most 300 in each list (the law's own).
-/
import Derived.Test.YthkdijapmamdbaaEditAwake
import Derived.Test.YthkdijapmamdbaaEditDecode
import Derived.Test.YthkdijapmamdbaaEditSameEd2
import Derived.Test.YthkdijapmamdbaaEditBackMath
import Derived.Test.YthkdijapmamdbaaEditEncErr
namespace Go.Proofs.Ythkdijapmamdbaa
set_option maxRecDepth 100000
open Go.RowKit
theorem DecD.yesB {l : List UInt8} {r : Ending} {w' : World} (h : DecD l r w') (hp : DecP l) : ∃ hg ha, r = .returned (.tuple #[edV (decRaw l) hg ha, .int .i64 0]) ∧ EdAt (decRaw l) hg ha w' := by
  rcases h with h | h
  · exact h.2
  · exact absurd hp h.1
theorem DecD.noB {l : List UInt8} {r : Ending} {w' : World} (h : DecD l r w') (hp : ¬ DecP l) : r = .returned (.tuple #[zEV, .int .i64 7]) := by
  rcases h with h | h
  · exact absurd h.1 hp
  · exact h.2
theorem len_encE {e : Ed} (h : EdIn e) (hL : ListedP e) (hg : e.gone.length ≤ 256) (ha : e.added.length ≤ 256) : (encE e).length ≤ 600000 := by
  have a := uvar_le e.log h.1
  have b := uvar_le e.next h.2.1
  have c := uvar_le e.seq h.2.2.1
  have d := uvar_le e.gone.length (by omega)
  have f := uvar_le e.added.length (by omega)
  have g := flat_len encG 30 e.gone (fun y hy => len_encG y (h.2.2.2.1 y hy))
  have i := flat_len encP 2000 e.added (fun y hy => len_encP y (hL.2 y hy) (h.2.2.2.2 y hy))
  unfold encE
  simp only [List.length_append]
  omega
/-- Can the edit be written? -/
def EncP (e : Ed) : Prop := ListedP e ∧ e.gone.length ≤ 256 ∧ e.added.length ≤ 256
/-- What Encode answers. -/
theorem enc_yes {e : Ed} {hg ha : Hd} {w : World} (hE : EdAt e hg ha w) (iE : EdIn e) (hy : EncP e) : Calls Try.prog 24 #[edV e hg ha] w fun r w' => r = .returned (.tuple #[.string ⟨(encE e).toArray⟩, .int .i64 0]) ∧ Below w.heap.size w w' :=
  encode_main hE iE hy.1 (by rw [← hE.gone.len]; exact hy.2.1) (by rw [← hE.added.len]; exact hy.2.2)
theorem enc_no {e : Ed} (hy : ¬ EncP e) : ∃ c : Nat, c ≠ 0 ∧ c ≤ 10 ∧ ∀ {hg ha : Hd} {w : World}, EdAt e hg ha w → Calls Try.prog 24 #[edV e hg ha] w fun r w' => r = .returned (.tuple #[.string .empty, .int .i64 (c : Int)]) ∧ Below w.heap.size w w' := by
  by_cases hL : ListedP e
  · exact ⟨3, by decide, by decide, fun h => enc_long h hL (fun hl => hy ⟨hL, by rw [h.gone.len]; exact hl.1, by rw [h.added.len]; exact hl.2⟩)⟩
  · exact ⟨2, by decide, by decide, fun h => enc_arg h hL⟩
/-- What was written is read back. -/
theorem dec_back {e : Ed} (iE : EdIn e) (hy : EncP e) (u : World) : Calls Try.prog 19 #[.string ⟨(encE e).toArray⟩] u fun r w' => (∃ hg ha, r = .returned (.tuple #[edV e hg ha, .int .i64 0]) ∧ EdAt e hg ha w') ∧ Below u.heap.size u w' := by
  have hl := len_encE iE hy.1 hy.2.1 hy.2.2
  have hs : (⟨(encE e).toArray⟩ : ByteArray).size ≤ reachBytes := by
    have : (⟨(encE e).toArray⟩ : ByteArray).size = (encE e).length := by show (encE e).toArray.size = _; simp
    unfold reachBytes
    omega
  obtain ⟨h1, h2⟩ := dec_enc iE hy.1 hy.2.1 hy.2.2
  refine (decode_any ⟨(encE e).toArray⟩ hs u).mono fun r w' h => ⟨?_, h.2⟩
  have h3 := h.1.yesB h1
  rw [show (⟨(encE e).toArray⟩ : ByteArray).data.toList = encE e from by simp] at h3
  rw [h2] at h3
  exact h3
theorem enc_inj {a b : Ed} (ia : EdIn a) (ya : EncP a) (ib : EdIn b) (yb : EncP b) : ((⟨(encE a).toArray⟩ : ByteArray).toList == (⟨(encE b).toArray⟩ : ByteArray).toList) = tf (a = b) := by
  have e : ∀ l : List UInt8, (⟨l.toArray⟩ : ByteArray).toList = l := fun l => by rw [ByteArray.toList_eq]
  rw [e, e]
  by_cases h : a = b
  · rw [tf_true h, h]; simp
  · rw [tf_false h, beq_eq_false_iff_ne]
    intro h1
    apply h
    rw [← (dec_enc ia ya.1 ya.2.1 ya.2.2).2, ← (dec_enc ib yb.1 yb.2.1 yb.2.2).2, h1]
theorem dec_text {s : ByteArray} (h : DecP s.data.toList) : (⟨(encE (decRaw s.data.toList)).toArray⟩ : ByteArray) = s := by rw [enc_dec h]
theorem dec_encP {l : List UInt8} (h : DecP l) : EncP (decRaw l) := ⟨h.2, decRaw_lens⟩
structure TwoE (a b : Ed) (ga aa gb ab : Hd) (w wr : World) : Prop where
  x : EdB w.heap.size a ga aa wr
  y : EdB (w.heap.size + 1) b gb ab wr
  f : Below w.heap.size w wr
theorem TwoE.below {a b : Ed} {ga aa gb ab : Hd} {w wr u : World} (h : TwoE a b ga aa gb ab w wr) (hb : Below wr.heap.size wr u) : TwoE a b ga aa gb ab w u := ⟨h.x.below hb, h.y.below hb, below_of h.f hb⟩
theorem TwoE.new (a b : Ed) (ga aa gb ab : Hd) (w : World) : TwoE a b ga aa gb ab w ((w.alloc (edO a ga aa)).alloc (edO b gb ab)) := by
  refine ⟨(EdB.new a ga aa w).below (below_alloc _ _), ?_, (below_alloc w _).alloc (by simp) _⟩
  have := EdB.new b gb ab (w.alloc (edO a ga aa))
  rwa [World.size_alloc] at this
theorem ne_num (c : Nat) (h : c ≠ 0) : ((c : Int) == 0) = false ∧ ¬ (c : Int) = 0 ∧ ((c : Int) != 0) = true := by
  have : ¬ (c : Int) = 0 := by omega
  exact ⟨by simpa using this, this, by simpa using this⟩
set_option maxRecDepth 100000 in
set_option maxHeartbeats 16000000 in
theorem back_walk (a : Ed) (ga aa : Hd) (b : Ed) (gb ab : Hd) (s : ByteArray) (hs : s.size ≤ reachBytes) (w : World) (hA : EdAt a ga aa w) (iA : EdIn a) (hB : EdAt b gb ab w) (iB : EdIn b) :
    Calls Try.prog 7 #[edV a ga aa, edV b gb ab, .string s] w fun r w' => r = .returned (.bool true) ∧ Below w.heap.size w w' := by
  have AW := Lib.hid (fun u => eawake_any u)
  have LA := Lib.hid (fun u => long_any a ga aa u)
  have LB := Lib.hid (fun u => long_any b gb ab u)
  have T0 := Lib.hid (TwoE.new a b ga aa gb ab w)
  by_cases m1 : ga.n ≤ 300 ∧ aa.n ≤ 300
  rotate_left 1
  · rw [tf_true m1] at LA
    clear m1 hA hB iA iB hs
    obtain ⟨c0, c1, c2, c3, c4⟩ := T0.out.x.cells
    go_enter Try.func7, Try.ntmps7
    go_wp2_with (first
      | (go_at_call 9; ((with_reducible refine (LA.out _).mono ?_); rintro r w1 ⟨rfl, hb1⟩; have B1 := Lib.hid (below_of T0.out.f hb1); clear hb1))
      | (go_at_call 10; ((with_reducible refine (AW.out _).mono ?_); rintro r w2 ⟨rfl, hb2⟩; have B2 := Lib.hid (below_of B1.out hb2); clear hb2)))
    go_returns
    exact ⟨rfl, B2.out⟩
  rw [tf_false (fun h => h m1)] at LA
  by_cases m2 : gb.n ≤ 300 ∧ ab.n ≤ 300
  rotate_left 1
  · rw [tf_true m2] at LB
    clear m1 m2 hA hB iA iB hs
    obtain ⟨c0, c1, c2, c3, c4⟩ := T0.out.x.cells
    go_enter Try.func7, Try.ntmps7
    go_wp2_with (first
      | (go_at_call 9; ((with_reducible refine (LA.out _).mono ?_); rintro r w1 ⟨rfl, hb1⟩; have T1 := Lib.hid (T0.out.below hb1); obtain ⟨d0, d1, d2, d3, d4⟩ := T1.out.y.cells; clear hb1))
      | (go_at_call 9; ((with_reducible refine (LB.out _).mono ?_); rintro r w1' ⟨rfl, hb1⟩; have B1 := Lib.hid (below_of T1.out.f hb1); clear hb1))
      | (go_at_call 10; ((with_reducible refine (AW.out _).mono ?_); rintro r w2 ⟨rfl, hb2⟩; have B2 := Lib.hid (below_of B1.out hb2); clear hb2)))
    go_returns
    exact ⟨rfl, B2.out⟩
  rw [tf_false (fun h => h m2)] at LB
  clear m1 m2
  have AA := Lib.hid (fun u (hu : Below w.heap.size w u) => hA.below hu)
  have AB := Lib.hid (fun u (hu : Below w.heap.size w u) => hB.below hu)
  have SE := Lib.hid (fun (e f : Ed) (hg ha hp hq : Hd) u (h : EdAt e hg ha u) (k : EdAt f hp hq u) => sameedit_any h k)
  have DS : Hid ((DecP s.data.toList ∧ (∀ u, Calls Try.prog 19 #[.string s] u fun r w' => (∃ hg ha, r = .returned (.tuple #[edV (decRaw s.data.toList) hg ha, .int .i64 0]) ∧ EdAt (decRaw s.data.toList) hg ha w') ∧ Below u.heap.size u w') ∧ (∀ hg ha u, EdAt (decRaw s.data.toList) hg ha u → Calls Try.prog 24 #[edV (decRaw s.data.toList) hg ha] u fun r w' => r = .returned (.tuple #[.string s, .int .i64 0]) ∧ Below u.heap.size u w')) ∨ (∀ u, Calls Try.prog 19 #[.string s] u fun r w' => r = .returned (.tuple #[zEV, .int .i64 7]) ∧ Below u.heap.size u w')) := Lib.hid (by
    by_cases hd : DecP s.data.toList
    · exact .inl ⟨hd, fun u => (decode_any s hs u).mono fun r w' h => ⟨h.1.yesB hd, h.2⟩, fun hg ha u h => by
        have := enc_yes h (decRaw_in _) (dec_encP hd)
        rw [dec_text hd] at this
        exact this⟩
    · exact .inr fun u => (decode_any s hs u).mono fun r w' h => ⟨h.1.noB hd, h.2⟩)
  obtain ⟨e, he⟩ := named (decRaw s.data.toList)
  rw [← he.out] at DS
  replace he := Lib.hid trivial
  obtain ⟨B, hBq⟩ := named (tf (a = b))
  obtain ⟨c0, c1, c2, c3, c4⟩ := T0.out.x.cells
  obtain ⟨X, hX⟩ := named (⟨(encE a).toArray⟩ : ByteArray)
  obtain ⟨Y, hY⟩ := named (⟨(encE b).toArray⟩ : ByteArray)
  by_cases ya : EncP a
  ·
    have EA : Hid (∀ u, EdAt a ga aa u → Calls Try.prog 24 #[edV a ga aa] u fun r w' => r = .returned (.tuple #[.string X, .int .i64 0]) ∧ Below u.heap.size u w') := Lib.hid (fun u hu => by rw [hX.out]; exact enc_yes hu iA ya)
    have DA : Hid (∀ u, Calls Try.prog 19 #[.string X] u fun r w' => (∃ hg ha, r = .returned (.tuple #[edV a hg ha, .int .i64 0]) ∧ EdAt a hg ha w') ∧ Below u.heap.size u w') := Lib.hid (fun u => by rw [hX.out]; exact dec_back iA ya u)
    by_cases yb : EncP b
    ·
      have EB : Hid (∀ u, EdAt b gb ab u → Calls Try.prog 24 #[edV b gb ab] u fun r w' => r = .returned (.tuple #[.string Y, .int .i64 0]) ∧ Below u.heap.size u w') := Lib.hid (fun u hu => by rw [hY.out]; exact enc_yes hu iB yb)
      have XY : (X.toList == Y.toList) = B := by rw [hX.out, hY.out, hBq.out]; exact enc_inj iA ya iB yb
      have SB : Hid (∀ u, Below w.heap.size w u → Calls Try.prog 16 #[edV a ga aa, edV b gb ab] u fun r w' => r = .returned (.bool B) ∧ Below u.heap.size u w') := Lib.hid (fun u hu => by rw [hBq.out]; exact SE.out a b ga aa gb ab u (AA.out _ hu) (AB.out _ hu))
      replace hX := Lib.hid trivial
      replace hY := Lib.hid trivial
      replace hBq := Lib.hid trivial
      clear iA iB ya yb hA hB hs
      go_enter Try.func7, Try.ntmps7
      go_upto_region 5 with (first
        | (go_at_call 9; ((with_reducible refine (LA.out _).mono ?_); rintro r w1 ⟨rfl, hb1⟩; have T1 := Lib.hid (T0.out.below hb1); obtain ⟨d0, d1, d2, d3, d4⟩ := T1.out.y.cells; clear hb1))
        | (go_at_call 9; ((with_reducible refine (LB.out _).mono ?_); rintro r w2 ⟨rfl, hb2⟩; have T2 := Lib.hid (T1.out.below hb2); obtain ⟨e0, e1, e2, e3, e4⟩ := T2.out.x.cells; clear hb2))
        | (go_at_call 24; ((with_reducible refine (EA.out _ (AA.out _ T2.out.f)).mono ?_); rintro r w3 ⟨rfl, hb3⟩; have T3 := Lib.hid (T2.out.below hb3); obtain ⟨f0, f1, f2, f3, f4⟩ := T3.out.y.cells; clear hb3))
        | (go_at_call 24; ((with_reducible refine (EB.out _ (AB.out _ T3.out.f)).mono ?_); rintro r w4 ⟨rfl, hb4⟩; have T4 := Lib.hid (T3.out.below hb4); clear hb4)))
      clear T0 T1 T2 T3 c0 c1 c2 c3 c4 d0 d1 d2 d3 d4 e0 e1 e2 e3 e4 f0 f1 f2 f3 f4
      go_upto_region 7 with (go_at_call 19; ((with_reducible refine (DA.out _).mono ?_); rintro r w5 ⟨⟨hc, hd, rfl, hE5⟩, hb5⟩; have T5 := Lib.hid ((T4.out.below hb5).below (below_alloc w5 (edO a hc hd))); have E5 := Lib.hid (hE5.below (below_alloc w5 (edO a hc hd))); have Q5 := Lib.hid (EdB.new a hc hd w5); clear hb5 hE5))
      obtain ⟨p5, hp5⟩ := named w5.heap.size
      obtain ⟨u5, hu5⟩ := named (w5.alloc (edO a hc hd))
      rw [← hu5.out] at T5 E5 Q5
      rw [← hp5.out] at Q5
      rw [← hu5.out, ← hp5.out]
      replace hu5 := Lib.hid trivial
      replace hp5 := Lib.hid trivial
      obtain ⟨c0, c1, c2, c3, c4⟩ := T5.out.x.cells
      obtain ⟨d0, d1, d2, d3, d4⟩ := T5.out.y.cells
      obtain ⟨e0, e1, e2, e3, e4⟩ := Q5.out.cells
      have SA := Lib.hid (SE.out a a hc hd ga aa u5 E5.out (AA.out _ T5.out.f))
      rw [tf_true rfl] at SA
      go_upto_region 9 with (first
        | (go_at_call 16; ((with_reducible refine SA.out.mono ?_); rintro r w6 ⟨rfl, hb6⟩; have T6 := Lib.hid (T5.out.below hb6); obtain ⟨f0, f1, f2, f3, f4⟩ := T6.out.x.cells; obtain ⟨g0, g1, g2, g3, g4⟩ := T6.out.y.cells; clear hb6))
        | (go_at_call 16; ((with_reducible refine (SB.out _ T6.out.f).mono ?_); rintro r w7 ⟨rfl, hb7⟩; have T7 := Lib.hid (T6.out.below hb7); clear hb7)))
      have T8 := T7
      clear c0 c1 c2 c3 c4 d0 d1 d2 d3 d4 e0 e1 e2 e3 e4 f0 f1 f2 f3 f4 g0 g1 g2 g3 g4 T4 T5 T6 T7
      rcases DS.out with ⟨_, DY, DE⟩ | DN
      · replace DY := Lib.hid DY
        replace DE := Lib.hid DE
        replace DS := Lib.hid trivial
        go_upto_region 10 with (go_at_call 19; ((with_reducible refine (DY.out _).mono ?_); rintro r w9 ⟨⟨hp, hq, rfl, hE9⟩, hb9⟩; have B9 := Lib.hid (below_of (below_of T8.out.f hb9) (below_alloc w9 (edO e hp hq))); have E9 := Lib.hid (hE9.below (below_alloc w9 (edO e hp hq))); have Q9 := Lib.hid (EdB.new e hp hq w9); clear hb9 hE9))
        obtain ⟨p9, hp9⟩ := named w9.heap.size
        obtain ⟨u9, hu9⟩ := named (w9.alloc (edO e hp hq))
        rw [← hu9.out] at B9 E9 Q9
        rw [← hp9.out] at Q9
        rw [← hu9.out, ← hp9.out]
        replace hu9 := Lib.hid trivial
        replace hp9 := Lib.hid trivial
        obtain ⟨h0, h1, h2, h3, h4⟩ := Q9.out.cells
        go_wp2_with (first
          | (go_at_call 24; ((with_reducible refine (DE.out _ _ _ E9.out).mono ?_); rintro r w10 ⟨rfl, hb10⟩; have B10 := Lib.hid (below_of B9.out hb10); clear hb10))
          | (go_at_call 10; ((with_reducible refine (AW.out _).mono ?_); rintro r w11 ⟨rfl, hb11⟩; have B11 := Lib.hid (below_of B10.out hb11); clear hb11)))
        go_returns
        exact ⟨rfl, B11.out⟩
      · replace DN := Lib.hid DN
        replace DS := Lib.hid trivial
        go_upto_region 10 with (go_at_call 19; ((with_reducible refine (DN.out _).mono ?_); rintro r w9 ⟨rfl, hb9⟩; have B9 := Lib.hid (below_of (below_of T8.out.f hb9) (below_alloc w9 zE)); clear hb9))
        go_wp2_with (go_at_call 10; ((with_reducible refine (AW.out _).mono ?_); rintro r w11 ⟨rfl, hb11⟩; have B11 := Lib.hid (below_of B9.out hb11); clear hb11))
        go_returns
        exact ⟨rfl, B11.out⟩
    ·
      obtain ⟨cb, hb0, hb1', hcb⟩ := enc_no yb
      obtain ⟨k1, k2, k3⟩ := ne_num cb hb0
      have EB : Hid (∀ u, EdAt b gb ab u → Calls Try.prog 24 #[edV b gb ab] u fun r w' => r = .returned (.tuple #[.string .empty, .int .i64 (cb : Int)]) ∧ Below u.heap.size u w') := Lib.hid (fun u hu => hcb hu)
      replace hX := Lib.hid trivial
      replace hY := Lib.hid trivial
      replace hBq := Lib.hid trivial
      clear iA iB ya yb hA hB hs
      go_enter Try.func7, Try.ntmps7
      go_upto_region 5 with (first
        | (go_at_call 9; ((with_reducible refine (LA.out _).mono ?_); rintro r w1 ⟨rfl, hb1⟩; have T1 := Lib.hid (T0.out.below hb1); obtain ⟨d0, d1, d2, d3, d4⟩ := T1.out.y.cells; clear hb1))
        | (go_at_call 9; ((with_reducible refine (LB.out _).mono ?_); rintro r w2 ⟨rfl, hb2⟩; have T2 := Lib.hid (T1.out.below hb2); obtain ⟨e0, e1, e2, e3, e4⟩ := T2.out.x.cells; clear hb2))
        | (go_at_call 24; ((with_reducible refine (EA.out _ (AA.out _ T2.out.f)).mono ?_); rintro r w3 ⟨rfl, hb3⟩; have T3 := Lib.hid (T2.out.below hb3); obtain ⟨f0, f1, f2, f3, f4⟩ := T3.out.y.cells; clear hb3))
        | (go_at_call 24; ((with_reducible refine (EB.out _ (AB.out _ T3.out.f)).mono ?_); rintro r w4 ⟨rfl, hb4⟩; have T4 := Lib.hid (T3.out.below hb4); clear hb4)))
      clear T0 T1 T2 T3 c0 c1 c2 c3 c4 d0 d1 d2 d3 d4 e0 e1 e2 e3 e4 f0 f1 f2 f3 f4
      go_upto_region 7 with (go_at_call 19; ((with_reducible refine (DA.out _).mono ?_); rintro r w5 ⟨⟨hc, hd, rfl, hE5⟩, hb5⟩; have T5 := Lib.hid ((T4.out.below hb5).below (below_alloc w5 (edO a hc hd))); have E5 := Lib.hid (hE5.below (below_alloc w5 (edO a hc hd))); have Q5 := Lib.hid (EdB.new a hc hd w5); clear hb5 hE5))
      obtain ⟨p5, hp5⟩ := named w5.heap.size
      obtain ⟨u5, hu5⟩ := named (w5.alloc (edO a hc hd))
      rw [← hu5.out] at T5 E5 Q5
      rw [← hp5.out] at Q5
      rw [← hu5.out, ← hp5.out]
      replace hu5 := Lib.hid trivial
      replace hp5 := Lib.hid trivial
      obtain ⟨c0, c1, c2, c3, c4⟩ := T5.out.x.cells
      obtain ⟨d0, d1, d2, d3, d4⟩ := T5.out.y.cells
      obtain ⟨e0, e1, e2, e3, e4⟩ := Q5.out.cells
      have SA := Lib.hid (SE.out a a hc hd ga aa u5 E5.out (AA.out _ T5.out.f))
      rw [tf_true rfl] at SA
      go_upto_region 9 with (first
        | (go_at_call 16; ((with_reducible refine SA.out.mono ?_); rintro r w6 ⟨rfl, hb6⟩; have T6 := Lib.hid (T5.out.below hb6); obtain ⟨f0, f1, f2, f3, f4⟩ := T6.out.x.cells; obtain ⟨g0, g1, g2, g3, g4⟩ := T6.out.y.cells; clear hb6))
      )
      have T8 := T6
      clear c0 c1 c2 c3 c4 d0 d1 d2 d3 d4 e0 e1 e2 e3 e4 f0 f1 f2 f3 f4 g0 g1 g2 g3 g4 T4 T5 T6
      rcases DS.out with ⟨_, DY, DE⟩ | DN
      · replace DY := Lib.hid DY
        replace DE := Lib.hid DE
        replace DS := Lib.hid trivial
        go_upto_region 10 with (go_at_call 19; ((with_reducible refine (DY.out _).mono ?_); rintro r w9 ⟨⟨hp, hq, rfl, hE9⟩, hb9⟩; have B9 := Lib.hid (below_of (below_of T8.out.f hb9) (below_alloc w9 (edO e hp hq))); have E9 := Lib.hid (hE9.below (below_alloc w9 (edO e hp hq))); have Q9 := Lib.hid (EdB.new e hp hq w9); clear hb9 hE9))
        obtain ⟨p9, hp9⟩ := named w9.heap.size
        obtain ⟨u9, hu9⟩ := named (w9.alloc (edO e hp hq))
        rw [← hu9.out] at B9 E9 Q9
        rw [← hp9.out] at Q9
        rw [← hu9.out, ← hp9.out]
        replace hu9 := Lib.hid trivial
        replace hp9 := Lib.hid trivial
        obtain ⟨h0, h1, h2, h3, h4⟩ := Q9.out.cells
        go_wp2_with (first
          | (go_at_call 24; ((with_reducible refine (DE.out _ _ _ E9.out).mono ?_); rintro r w10 ⟨rfl, hb10⟩; have B10 := Lib.hid (below_of B9.out hb10); clear hb10))
          | (go_at_call 10; ((with_reducible refine (AW.out _).mono ?_); rintro r w11 ⟨rfl, hb11⟩; have B11 := Lib.hid (below_of B10.out hb11); clear hb11)))
        go_returns
        exact ⟨rfl, B11.out⟩
      · replace DN := Lib.hid DN
        replace DS := Lib.hid trivial
        go_upto_region 10 with (go_at_call 19; ((with_reducible refine (DN.out _).mono ?_); rintro r w9 ⟨rfl, hb9⟩; have B9 := Lib.hid (below_of (below_of T8.out.f hb9) (below_alloc w9 zE)); clear hb9))
        go_wp2_with (go_at_call 10; ((with_reducible refine (AW.out _).mono ?_); rintro r w11 ⟨rfl, hb11⟩; have B11 := Lib.hid (below_of B9.out hb11); clear hb11))
        go_returns
        exact ⟨rfl, B11.out⟩
  ·
    obtain ⟨ca, ha0, ha1, hca⟩ := enc_no ya
    obtain ⟨n1, n2, n3⟩ := ne_num ca ha0
    have EA : Hid (∀ u, EdAt a ga aa u → Calls Try.prog 24 #[edV a ga aa] u fun r w' => r = .returned (.tuple #[.string .empty, .int .i64 (ca : Int)]) ∧ Below u.heap.size u w') := Lib.hid (fun u hu => hca hu)
    by_cases yb : EncP b
    ·
      have EB : Hid (∀ u, EdAt b gb ab u → Calls Try.prog 24 #[edV b gb ab] u fun r w' => r = .returned (.tuple #[.string Y, .int .i64 0]) ∧ Below u.heap.size u w') := Lib.hid (fun u hu => by rw [hY.out]; exact enc_yes hu iB yb)
      replace hX := Lib.hid trivial
      replace hY := Lib.hid trivial
      replace hBq := Lib.hid trivial
      clear iA iB ya yb hA hB hs
      go_enter Try.func7, Try.ntmps7
      go_upto_region 5 with (first
        | (go_at_call 9; ((with_reducible refine (LA.out _).mono ?_); rintro r w1 ⟨rfl, hb1⟩; have T1 := Lib.hid (T0.out.below hb1); obtain ⟨d0, d1, d2, d3, d4⟩ := T1.out.y.cells; clear hb1))
        | (go_at_call 9; ((with_reducible refine (LB.out _).mono ?_); rintro r w2 ⟨rfl, hb2⟩; have T2 := Lib.hid (T1.out.below hb2); obtain ⟨e0, e1, e2, e3, e4⟩ := T2.out.x.cells; clear hb2))
        | (go_at_call 24; ((with_reducible refine (EA.out _ (AA.out _ T2.out.f)).mono ?_); rintro r w3 ⟨rfl, hb3⟩; have T3 := Lib.hid (T2.out.below hb3); obtain ⟨f0, f1, f2, f3, f4⟩ := T3.out.y.cells; clear hb3))
        | (go_at_call 24; ((with_reducible refine (EB.out _ (AB.out _ T3.out.f)).mono ?_); rintro r w4 ⟨rfl, hb4⟩; have T4 := Lib.hid (T3.out.below hb4); clear hb4)))
      clear T0 T1 T2 T3 c0 c1 c2 c3 c4 d0 d1 d2 d3 d4 e0 e1 e2 e3 e4 f0 f1 f2 f3 f4
      go_upto_region 9 with fail
      have T8 := T4
      clear T4
      rcases DS.out with ⟨_, DY, DE⟩ | DN
      · replace DY := Lib.hid DY
        replace DE := Lib.hid DE
        replace DS := Lib.hid trivial
        go_upto_region 10 with (go_at_call 19; ((with_reducible refine (DY.out _).mono ?_); rintro r w9 ⟨⟨hp, hq, rfl, hE9⟩, hb9⟩; have B9 := Lib.hid (below_of (below_of T8.out.f hb9) (below_alloc w9 (edO e hp hq))); have E9 := Lib.hid (hE9.below (below_alloc w9 (edO e hp hq))); have Q9 := Lib.hid (EdB.new e hp hq w9); clear hb9 hE9))
        obtain ⟨p9, hp9⟩ := named w9.heap.size
        obtain ⟨u9, hu9⟩ := named (w9.alloc (edO e hp hq))
        rw [← hu9.out] at B9 E9 Q9
        rw [← hp9.out] at Q9
        rw [← hu9.out, ← hp9.out]
        replace hu9 := Lib.hid trivial
        replace hp9 := Lib.hid trivial
        obtain ⟨h0, h1, h2, h3, h4⟩ := Q9.out.cells
        go_wp2_with (first
          | (go_at_call 24; ((with_reducible refine (DE.out _ _ _ E9.out).mono ?_); rintro r w10 ⟨rfl, hb10⟩; have B10 := Lib.hid (below_of B9.out hb10); clear hb10))
          | (go_at_call 10; ((with_reducible refine (AW.out _).mono ?_); rintro r w11 ⟨rfl, hb11⟩; have B11 := Lib.hid (below_of B10.out hb11); clear hb11)))
        go_returns
        exact ⟨rfl, B11.out⟩
      · replace DN := Lib.hid DN
        replace DS := Lib.hid trivial
        go_upto_region 10 with (go_at_call 19; ((with_reducible refine (DN.out _).mono ?_); rintro r w9 ⟨rfl, hb9⟩; have B9 := Lib.hid (below_of (below_of T8.out.f hb9) (below_alloc w9 zE)); clear hb9))
        go_wp2_with (go_at_call 10; ((with_reducible refine (AW.out _).mono ?_); rintro r w11 ⟨rfl, hb11⟩; have B11 := Lib.hid (below_of B9.out hb11); clear hb11))
        go_returns
        exact ⟨rfl, B11.out⟩
    ·
      obtain ⟨cb, hb0, hb1', hcb⟩ := enc_no yb
      obtain ⟨k1, k2, k3⟩ := ne_num cb hb0
      have EB : Hid (∀ u, EdAt b gb ab u → Calls Try.prog 24 #[edV b gb ab] u fun r w' => r = .returned (.tuple #[.string .empty, .int .i64 (cb : Int)]) ∧ Below u.heap.size u w') := Lib.hid (fun u hu => hcb hu)
      replace hX := Lib.hid trivial
      replace hY := Lib.hid trivial
      replace hBq := Lib.hid trivial
      clear iA iB ya yb hA hB hs
      go_enter Try.func7, Try.ntmps7
      go_upto_region 5 with (first
        | (go_at_call 9; ((with_reducible refine (LA.out _).mono ?_); rintro r w1 ⟨rfl, hb1⟩; have T1 := Lib.hid (T0.out.below hb1); obtain ⟨d0, d1, d2, d3, d4⟩ := T1.out.y.cells; clear hb1))
        | (go_at_call 9; ((with_reducible refine (LB.out _).mono ?_); rintro r w2 ⟨rfl, hb2⟩; have T2 := Lib.hid (T1.out.below hb2); obtain ⟨e0, e1, e2, e3, e4⟩ := T2.out.x.cells; clear hb2))
        | (go_at_call 24; ((with_reducible refine (EA.out _ (AA.out _ T2.out.f)).mono ?_); rintro r w3 ⟨rfl, hb3⟩; have T3 := Lib.hid (T2.out.below hb3); obtain ⟨f0, f1, f2, f3, f4⟩ := T3.out.y.cells; clear hb3))
        | (go_at_call 24; ((with_reducible refine (EB.out _ (AB.out _ T3.out.f)).mono ?_); rintro r w4 ⟨rfl, hb4⟩; have T4 := Lib.hid (T3.out.below hb4); clear hb4)))
      clear T0 T1 T2 T3 c0 c1 c2 c3 c4 d0 d1 d2 d3 d4 e0 e1 e2 e3 e4 f0 f1 f2 f3 f4
      go_upto_region 9 with fail
      have T8 := T4
      clear T4
      rcases DS.out with ⟨_, DY, DE⟩ | DN
      · replace DY := Lib.hid DY
        replace DE := Lib.hid DE
        replace DS := Lib.hid trivial
        go_upto_region 10 with (go_at_call 19; ((with_reducible refine (DY.out _).mono ?_); rintro r w9 ⟨⟨hp, hq, rfl, hE9⟩, hb9⟩; have B9 := Lib.hid (below_of (below_of T8.out.f hb9) (below_alloc w9 (edO e hp hq))); have E9 := Lib.hid (hE9.below (below_alloc w9 (edO e hp hq))); have Q9 := Lib.hid (EdB.new e hp hq w9); clear hb9 hE9))
        obtain ⟨p9, hp9⟩ := named w9.heap.size
        obtain ⟨u9, hu9⟩ := named (w9.alloc (edO e hp hq))
        rw [← hu9.out] at B9 E9 Q9
        rw [← hp9.out] at Q9
        rw [← hu9.out, ← hp9.out]
        replace hu9 := Lib.hid trivial
        replace hp9 := Lib.hid trivial
        obtain ⟨h0, h1, h2, h3, h4⟩ := Q9.out.cells
        go_wp2_with (first
          | (go_at_call 24; ((with_reducible refine (DE.out _ _ _ E9.out).mono ?_); rintro r w10 ⟨rfl, hb10⟩; have B10 := Lib.hid (below_of B9.out hb10); clear hb10))
          | (go_at_call 10; ((with_reducible refine (AW.out _).mono ?_); rintro r w11 ⟨rfl, hb11⟩; have B11 := Lib.hid (below_of B10.out hb11); clear hb11)))
        go_returns
        exact ⟨rfl, B11.out⟩
      · replace DN := Lib.hid DN
        replace DS := Lib.hid trivial
        go_upto_region 10 with (go_at_call 19; ((with_reducible refine (DN.out _).mono ?_); rintro r w9 ⟨rfl, hb9⟩; have B9 := Lib.hid (below_of (below_of T8.out.f hb9) (below_alloc w9 zE)); clear hb9))
        go_wp2_with (go_at_call 10; ((with_reducible refine (AW.out _).mono ?_); rintro r w11 ⟨rfl, hb11⟩; have B11 := Lib.hid (below_of B9.out hb11); clear hb11))
        go_returns
        exact ⟨rfl, B11.out⟩
--LAW freshetlaw14.EditBack back_walk edit:a edit:b string:s
--BEGIN
namespace EditBackProof
open Go.ChangeShapes Go.WideShapes Go.ChangeAt Go.RowKit
open Go.ChangeMaps (open_string shut_string)
theorem own : ownKnob Try.prog.godebug = none := by kernel_rfl
set_option maxRecDepth 100000 in
theorem lifted (os : Os) (started : os.Started) (H : Type) (enc : TypeId × Value → H) :
    ReturnsInHanded {} Try.checked os 7 .any (Rows.editBackSpec.pre6 enc Try.prog Try.f7 Rows.editBackRow.domain false) (Rows.editBackSpec.post enc Try.prog Try.f7 false true false false) := by
  refine returnsInHanded_of_change_sized (C := Try.checked) own started (by kernel_rfl) Try.func7
    (ChangeSpec.witness6 (enc := enc) (C := Try.checked) false ⟨#[], #[.agg #[.int .u64 0, .int .u64 0, .int .u64 0, .slice none 0 0, .slice none 0 0], .agg #[.int .u64 0, .int .u64 0, .int .u64 0, .slice none 0 0, .slice none 0 0], .string .empty], []⟩ 8 (by kernel_rfl) (by kernel_rfl) (by kernel_rfl) (by kernel_rfl)) ?_
  intro W base args ds gs before hval0 hW _ hsz _
  have hval : ∀ (j : Nat) t v, Try.f7.params[j]? = some t → args[j]? = some v → Value.okWide Try.prog W .any base t v := hval0
  have hW' := hW
  obtain ⟨p, q, hA0, hV, rfl, hfz, hnd⟩ := hW
  have hA : DataW.TrodAll enc Try.prog W 0 (fun _ => true) true Try.f7.params.toList args.toList ds p := hA0
  rw [Try.params7] at hA hval hsz
  obtain ⟨v0, vs0, d0, ds0, p0, q0, hargs, rfl, rfl, h0, r0⟩ := trodAll_cons hA
  obtain ⟨v1, vs1, d1, ds1, p1, q1, rfl, rfl, rfl, h1, r1⟩ := trodAll_cons r0
  obtain ⟨v2, vs2, d2, ds2, p2, q2, rfl, rfl, rfl, h2, r2⟩ := trodAll_cons r1
  obtain ⟨rfl, rfl, rfl⟩ := trodAll_nil r2
  obtain rfl : args = #[v0, v1, v2] := by cases args; simp_all
  obtain ⟨rfl, rfl⟩ := trodVars_none hV
  have k0 := h0
  obtain ⟨a, hg0, ha0, rfl, ia0, im0⟩ := open_ed (hval 0 30 v0 rfl rfl) h0 hsz (j := 0) rfl rfl
  have lt0 : ∀ x ∈ p0, x.block < W.heap.size := fun x hx => hW'.lt x (by simp only [List.mem_append]; simp [hx])
  have k1 := h1
  obtain ⟨b, hg1, ha1, rfl, ia1, im1⟩ := open_ed (hval 1 30 v1 rfl rfl) h1 hsz (j := 1) rfl rfl
  have lt1 : ∀ x ∈ p1, x.block < W.heap.size := fun x hx => hW'.lt x (by simp only [List.mem_append]; simp [hx])
  obtain ⟨s, rfl, rfl, rfl, m2⟩ := open_string Try.underlying9 (hval 2 9 v2 rfl rfl) h2
  have z2 : s.size ≤ reachBytes := by have := sized_string hsz (j := 2) (t := 9) (bytes := s.data.toList) rfl rfl; simpa using this
  clear hA0 hval0
  simp only [List.append_nil] at hW'
  refine (back_walk a hg0 ha0 b hg1 ha1 s z2 W ia0 im0 ia1 im1).mono fun e W' ⟨he, hg⟩ => ?_
  subst he
  exact ⟨_, rfl, _, _, _, [], _, [], hW', (trodAll_cons_mk (shut_bool Try.underlying4 _) trodAll_mk0), (trodAll_cons_mk (Below.trod laid_out (by kernel_rfl) (of_decide_eq_true (by kernel_rfl)) k0 hg lt0) (trodAll_cons_mk (Below.trod laid_out (by kernel_rfl) (of_decide_eq_true (by kernel_rfl)) k1 hg lt1) (trodAll_cons_mk (shut_string Try.underlying9 m2) trodAll_mk0))), rfl, hg.frame _, fun h => by cases h⟩
theorem holds : Rows.EditBackSaid :=
  OpenClaim.holds_of_wide 7 Try.f7 rfl rfl rfl rfl rfl rfl rfl ⟨rfl, rfl, rfl, rfl, rfl⟩ rfl rfl rfl rfl rfl (by kernel_rfl) Try.func7 (by kernel_rfl)
    (of_decide_eq_true (by kernel_rfl)) (by unfold Func.isWrapper; first | (rw [if_pos (by decide +kernel)]; kernel_rfl) | (rw [if_neg (by decide +kernel)]; exact ⟨rfl, rfl⟩))
    (fun os started H enc _ => lifted os started H enc)
end EditBackProof
--END
end Go.Proofs.Ythkdijapmamdbaa
