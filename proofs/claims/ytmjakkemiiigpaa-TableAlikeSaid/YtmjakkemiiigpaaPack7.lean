/-
  The contract of dataBlocks. Condition: at most 1024 rows that are in order and valid but for a length.
-/
import Derived.Test.YtmjakkemiiigpaaPack6
import Derived.Sort.CutIn
namespace Go.Proofs.Ytmjakkemiiigpaa
set_option maxRecDepth 100000
open Go.RowKit
attribute [local go_sem] Oper.semAt_some
theorem build_keys {l : List Rw} {d : Int} (h : (buildB l d).2 = 0) : ∀ i, (rwAt l i).key.size ≤ 520 := fun i => by
  unfold buildB at h
  by_cases hc : chkA l d = 0
  · have hv := (chkA_ok hc).2.2.2.1
    unfold rwAt
    rw [List.getD_eq_getElem?_getD]
    cases hx : l[i]? with
    | none => show (0 : Nat) ≤ 520; omega
    | some x => exact (chkR_ok (hv x (List.mem_of_getElem? hx))).2.2.2.2.2.1
  · rw [if_pos (by simpa using hc)] at h; exact absurd h hc
/-- Do the rows from k on, so many, fit? -/
def fitAt (l : List Rw) (B R : Int) (k j : Nat) : Bool := fitB B R (chunk l (k, j))
/-- All data blocks stand. -/
structure Good (l : List Rw) (B R : Int) (xs : List (Nat × Nat)) : Prop where
  div : Divs l.length (fitAt l B R) xs
  ok : ∀ x ∈ xs, (buildB (chunk l x) R).2 = 0
  most : (dtx l R xs).length ≤ 262144
def DataD (l : List Rw) (B R : Int) (w : World) (e : Ending) (w' : World) : Prop :=
  (∃ xs v s, Good l B R xs ∧ tot xs = l.length ∧ s = dtx l R xs ∧ e = .returned (.tuple #[.string ⟨s.toArray⟩, v, .int .i64 0]) ∧ w'.ownsRow w.heap.size 39 4 v xs.length (rowR (entG l R 0 xs)) ∧ Below w.heap.size w w') ∨
  ((∀ xs, Good l B R xs → tot xs ≠ l.length) ∧ e = .returned (.tuple #[.string ⟨#[]⟩, .slice none 0 0, .int .i64 3]) ∧ Below w.heap.size w w')
theorem data_start {w v : World} {B R K : Int} (hv : v = ((((w.alloc (.cells #[.int .i64 B, .int .i64 R, .int .i64 K] 24)).alloc (.cells #[.string ⟨#[]⟩] 9)).alloc (.cells #[.slice none 0 0] 22)).alloc (.cells #[.int .i64 0] 27)).alloc (.cells #[.pointer none, .slice none 0 0] 93)) :
    OptAt w.heap.size B R K v ∧ Boxed v (w.heap.size + 1) 9 (.string ⟨#[]⟩) ∧ Boxed v (w.heap.size + 2) 22 (.slice none 0 0) ∧ Boxed v (w.heap.size + 3) 27 (.int .i64 0) ∧ Bld w.heap.size (w.heap.size + 4) [] v ∧ Below w.heap.size w v ∧ v.heap.size = w.heap.size + 5 := by
  obtain ⟨v1, h1⟩ : ∃ x, x = w.alloc (.cells #[.int .i64 B, .int .i64 R, .int .i64 K] 24) := ⟨_, rfl⟩
  rw [← h1] at hv
  obtain ⟨v2, h2⟩ : ∃ x, x = v1.alloc (.cells #[.string ⟨#[]⟩] 9) := ⟨_, rfl⟩
  rw [← h2] at hv
  obtain ⟨v3, h3⟩ : ∃ x, x = v2.alloc (.cells #[.slice none 0 0] 22) := ⟨_, rfl⟩
  rw [← h3] at hv
  obtain ⟨v4, h4⟩ : ∃ x, x = v3.alloc (.cells #[.int .i64 0] 27) := ⟨_, rfl⟩
  rw [← h4] at hv
  have z1 : v1.heap.size = w.heap.size + 1 := by rw [h1, World.size_alloc]
  have z2 : v2.heap.size = w.heap.size + 2 := by rw [h2, World.size_alloc, z1]
  have z3 : v3.heap.size = w.heap.size + 3 := by rw [h3, World.size_alloc, z2]
  have z4 : v4.heap.size = w.heap.size + 4 := by rw [h4, World.size_alloc, z3]
  have z5 : v.heap.size = w.heap.size + 5 := by rw [hv, World.size_alloc, z4]
  have b1 : Below w.heap.size w v1 := by rw [h1]; exact below_alloc _ _
  have b2 : Below v1.heap.size v1 v2 := by rw [h2]; exact below_alloc _ _
  have b3 : Below v2.heap.size v2 v3 := by rw [h3]; exact below_alloc _ _
  have b4 : Below v3.heap.size v3 v4 := by rw [h4]; exact below_alloc _ _
  have b5 : Below v4.heap.size v4 v := by rw [hv]; exact below_alloc _ _
  have c4 := below_of b4 b5
  have c3 := below_of b3 c4
  have c2 := below_of b2 c3
  have X1 : OptAt w.heap.size B R K v1 := by rw [h1]; exact heap_alloc_new _ _
  have X2 : Boxed v2 (w.heap.size + 1) 9 (.string ⟨#[]⟩) := by rw [h2, ← z1]; exact Boxed.new _ _ _
  have X3 : Boxed v3 (w.heap.size + 2) 22 (.slice none 0 0) := by rw [h3, ← z2]; exact Boxed.new _ _ _
  have X4 : Boxed v4 (w.heap.size + 3) 27 (.int .i64 0) := by rw [h4, ← z3]; exact Boxed.new _ _ _
  refine ⟨X1.below c2, (c3.block _ X2.lt).trans X2, (c4.block _ X3.lt).trans X3, (b5.block _ X4.lt).trans X4, ?_, below_of b1 c2, z5⟩
  have Y := bld_new v4
  rw [← hv, z4] at Y
  have KB : ∀ p, Lib.BuilderAt 93 5 (w.heap.size + 4) (w.heap.size + 4) p (Lib.byteCells []) v → Lib.BuilderAt 93 5 w.heap.size (w.heap.size + 4) p (Lib.byteCells []) v := fun p h => by
    obtain ⟨hB, u, hbk, hown2, hne⟩ := h
    refine ⟨by omega, u, hbk, ⟨hown2.1, ?_⟩, hne⟩
    rcases hown2.2 with e | ⟨g, cap, cur, e1, e2, e3, e4⟩
    · exact .inl e
    · exact .inr ⟨g, cap, cur, e1, by omega, e3, e4⟩
  rcases Y with h | h
  · exact .inl (KB _ h)
  · exact .inr (KB _ h)
set_option maxRecDepth 100000 in
set_option maxHeartbeats 8000000 in
theorem data_any {a : Option Addr} {n c b o : Nat} {l : List Rw} {w : World} (h : Rs a n c b o l w) (hn : n ≤ 1024) (B R K : Int) (h3 : ∀ k j, (buildB (chunk l (k, j)) R).2 = 0 ∨ (buildB (chunk l (k, j)) R).2 = 3) :
    Calls Try.prog 20 #[.slice a n c, optV B R K] w (DataD l B R w) := by
  have hlen := h.len
  have hcap := h.cap
  have hmf := makes_func
  obtain ⟨N, hN⟩ := named w.heap.size
  refine (callsIn_wide (n := 6)).1 ?_
  refine callsIn_of_wp_marks Try.func20 rfl trivial ?_ rfl
  simp only [Try.ntmps20, List.size_toArray, List.length_cons, List.length_nil, Nat.reduceAdd, Nat.reduceSub, Array.replicate_succ, Array.replicate_zero, List.push_toArray, List.append_toArray, List.nil_append, List.cons_append]
  refine wpIn_wide.2 ?_
  have PA := Lib.hid (fun u => tparts_any a n c 46 #[.pointer (some ⟨w.heap.size, 0, none⟩)] u)
  obtain ⟨v0, hv0⟩ : ∃ v, v = ((((w.alloc (.cells #[.int .i64 B, .int .i64 R, .int .i64 K] 24)).alloc (.cells #[.string ⟨#[]⟩] 9)).alloc (.cells #[.slice none 0 0] 22)).alloc (.cells #[.int .i64 0] 27)).alloc (.cells #[.pointer none, .slice none 0 0] 93) := ⟨_, rfl⟩
  obtain ⟨s1, s2, s3, s4, s5, s6, s7⟩ := data_start hv0
  have PA := Lib.hid (tparts_any a n c 46 #[.pointer (some ⟨w.heap.size, 0, none⟩)] v0)
  rw [s7] at PA
  go_wp2_with (rw [← hv0]; go_at_call 47; ((with_reducible refine PA.out.mono ?_); rintro e w1 ⟨rfl, hp1, hp2, hz1, hb1⟩))
  have big1 : w1.heap.size = w.heap.size + 7 := by rw [hz1]
  replace hb1 : Below v0.heap.size v0 w1 := by rw [s7]; exact hb1
  have D1 : DB w w.heap.size 46 B R K n c b o l [] [] w1 := ⟨s1.below hb1, (hb1.block _ s2.lt).trans s2, ⟨_, (hb1.block _ s3.lt).trans s3, World.ownsRow_nil _ _ _ _⟩, (hb1.block _ s4.lt).trans s4, bld_stays s5 (Stays.of_below hb1), hp2, fun h0 => by
    have := h.below (below_of s6 hb1) (Nat.le_refl _)
    rwa [(h.addr h0).1] at this, below_of s6 hb1, by omega⟩
  have hp3 := hp1.cell
  have hbN : 0 < n → b < w.heap.size := fun h0 => (h.addr h0).2
  have ha : 0 < n → a = some ⟨b, o, none⟩ := fun h0 => (h.addr h0).1
  have hP : ∀ k i j, k < n → 1 ≤ i → i ≤ j → j ≤ n - k → fitAt l B R k j = true → fitAt l B R k i = true := fun k i j h1 h2 h3 h4 h5 => by
    have e : chunk l (k, i) = (chunk l (k, j)).take i := by unfold chunk; simp only; rw [List.take_take, Nat.min_eq_left h3]
    unfold fitAt at h5 ⊢
    rw [e]; exact fit_take h5 i
  have SU := parts_until 46 #[.pointer (some ⟨w.heap.size, 0, none⟩)] fit_enters (n := n) (c := c) (b := b) (o := o) (l := l) (a := a) ha (by omega) (fitAt l B R) hP
    (fun A => ∃ es text, DB w w.heap.size 46 B R K n c b o l es text A) (w.heap.size + 5) (w.heap.size + 6)
    (fun A C ⟨es, text, hA⟩ hAC => ⟨es, text, hA.grow hbN hAC⟩) (fun A ⟨es, text, hA⟩ => hA.fit) (fun A ⟨es, text, hA⟩ h0 => hA.rs h0)
    (fun A ⟨es, text, hA⟩ k j hk hj1 hj2 => by
      have hr := rs_rest (hA.rs (by omega)) hk
      have hr2 := hr.upto (k := j) hj2
      exact fit_clo hr2 B R K _ hA.opt |>.mono fun e A' hh => hh)
    w.heap.size w1 (by omega) hp3
  clear hp1 hp2 hp3 hz1 s1 s2 s3 s4 s5 s6 PA
  clear hv0 s7 hb1 
  obtain ⟨N, hN⟩ := named w.heap.size
  rw [← hN.out] at SU D1 big1 hbN ⊢
  rw [show N + 1 + 1 = N + 2 from rfl, show N + 2 + 1 = N + 3 from rfl, show N + 3 + 1 = N + 4 from rfl, show N + 4 + 1 = N + 5 from rfl, show N + 5 + 1 = N + 6 from rfl]
  refine (wpIn_wide (n := 6)).1 ?_
  refine wpIn_range_untilW (gf := 73) (lb := #[.pointer (some ⟨N + 5, 0, none⟩), .pointer (some ⟨N + 6, 0, none⟩)]) rfl (enters_of Try.func73 (by kernel_rfl) rfl) (B := N) (by omega) SU (fun _ => rfl)
    (fun pre W => DB w N 46 B R K n c b o l (entG l R 0 pre) (dtx l R pre) W ∧ Divs n (fitAt l B R) pre ∧ (∀ x ∈ pre, (buildB (chunk l x) R).2 = 0) ∧ (dtx l R pre).length ≤ 262144)
    (fun cd _ W => cd = .ret ∧ (∀ xs, Good l B R xs → tot xs ≠ l.length) ∧ Boxed W (N + 1) 9 (.string ⟨#[]⟩) ∧ Boxed W (N + 2) 22 (.slice none 0 0) ∧ Boxed W (N + 3) 27 (.int .i64 3) ∧ Below N w W)
    (fun s X Y row h hg hr => ⟨h.1.stays hbN (stays_own hg (fun r e => (hr r e).2)) ((Below.refl N X).grown hg (by have := h.1.big; omega) (fun k e => by have := (hr k e).1; omega)), h.2⟩)
    (fun cd s X Y row h hg hr => by
      obtain ⟨h1, h2, h3, h4, h5, h6⟩ := h
      have hst := stays_own hg (fun r e => (hr r e).2)
      exact ⟨h1, h2, hst.2 _ _ _ _ h3, hst.2 _ _ _ _ h4, hst.2 _ _ _ _ h5, h6.grown hg (by rw [hN.out]; exact h6.size) (fun k e => by have := (hr k e).1; omega)⟩)
    (fun pre W h => ⟨_, _, h.1⟩)
    ⟨D1, divs_nil _ _, (fun x hx => by cases hx), by simp [dtx]⟩
    (fun x a' W => a' = { tmps := #[.slice a n c, optV B R K, undef, .pointer (some ⟨N, 0, none⟩), .pointer (some ⟨N + 1, 0, none⟩), .pointer (some ⟨N + 2, 0, none⟩), .pointer (some ⟨N + 3, 0, none⟩), .func (.func 46) #[] #[.pointer (some ⟨N, 0, none⟩)], .pointer (some ⟨N + 4, 0, none⟩), .slice (some ⟨b, o + x.1 * 4, none⟩) x.2 (c - x.1), undef, undef, .func (.func 46) #[] #[.pointer (some ⟨N, 0, none⟩)], .slice a n c, .func (.func 46) #[] #[.pointer (some ⟨N, 0, none⟩)],
      .func (.func 73) #[] #[.pointer (some ⟨N + 5, 0, none⟩), .pointer (some ⟨N + 6, 0, none⟩)], .slice (some ⟨b, o + x.1 * 4, none⟩) x.2 (c - x.1), undef, undef, undef, undef, undef, undef, undef, undef, undef, undef, undef, undef, undef, undef, undef, undef, undef, undef, undef, undef, undef, undef, undef, undef, undef, undef], defers := [] })
    (fun x a' _ X Y row h hg hr => h)
    ?assign ?body ?done ?stop
  case assign =>
    rintro l' pre x W K' hI hK
    unfold encPart at *
    gi_wp2
    exact hK _ _ (KeepsFrom.refl _ _) (Below.refl _ _) hI rfl
  case body =>
    rintro l' pre x a' W hok ⟨hD, hdv, hgood, hmost⟩ rfl
    have hdv2 := divs_snoc hdv hok
    have hpl : pre.length ≤ 1024 := by have := divs_len hdv; have := hok.1; have := hok.2.1; omega
    obtain ⟨k, r⟩ := x
    obtain ⟨hk1, hk2, hr1, hr2, _⟩ := hok
    simp only at hk1 hk2 hr1 hr2 ⊢
    replace hk1 := Lib.hid hk1
    have hRs := (rs_rest (hD.rs (by omega)) hk2).upto hr2
    have hRs : Rs (some ⟨b, o + k * 4, none⟩) r (c - k) b (o + k * 4) (chunk l (k, r)) W := hRs
    have hchl : (chunk l (k, r)).length = r := hRs.len
    obtain ⟨c0, c1, c2⟩ := hD.opt.cells
    have f4 := hD.r4.frozen
    have c4 := hD.r4.cell
    obtain ⟨v5, h5, hrow⟩ := hD.r5
    have f5 := h5.frozen
    have c5 := h5.cell
    have f6 := hD.r6.frozen
    have c6 := hD.r6.cell
    have BC := Lib.hid (build_any R hRs)
    have hE3 := h3 k r
    have hS64 : (buildB (chunk l (k, r)) R).1.length ≤ 65536 := by
      unfold buildB
      split
      · simp
      · split
        · simp
        · simp only; omega
    obtain ⟨CH, hCH⟩ := named (chunk l (k, r))
    rw [← hCH.out] at BC hE3 hS64 hRs hchl
    obtain ⟨⟨S, E⟩, hSE⟩ := named (buildB CH R)
    rw [← hSE.out] at BC hE3 hS64
    simp only at BC hE3 hS64
    have FM := Lib.hid (fun u => framed_any S E (by omega) u)
    have ENT : Hid (∀ u, Rs (some ⟨b, o + k * 4, none⟩) r (c - k) b (o + k * 4) CH u → Calls Try.prog 48 #[.slice (some ⟨b, o + k * 4, none⟩) r (c - k)] u fun e w' => e = .returned (enV (enOf CH)) ∧ Below u.heap.size u w') := Lib.hid (fun u h => entryOf_any h)
    obtain ⟨i0, hi, hz0, hz1, hz2⟩ := info_parts info_rowB
    rcases hE3 with rfl | rfl
    · obtain ⟨FR, hFR⟩ := named (Frame.put S)
      have lFR : FR.length ≤ 65600 := by
        rw [hFR.out, Frame.put_length]
        have := Code.uvar_ten (n := S.length) (by omega)
        omega
      have BC0 : Hid (Calls Try.prog 24 #[.slice (some ⟨b, o + k * 4, none⟩) r (c - k), .int .i64 R] W fun e w' => e = .returned (.tuple #[.string ⟨S.toArray⟩, .int .i64 0]) ∧ Below W.heap.size W w') := BC
      have FM0 : Hid (∀ u, Calls Try.prog 21 #[.string ⟨S.toArray⟩, .int .i64 0] u fun e w' => e = .returned (.tuple #[.string ⟨FR.toArray⟩, .int .i64 0]) ∧ Below u.heap.size u w') := Lib.hid (fun u => by
        have := FM.out u
        have e : frmR S 0 = (FR, 0) := by unfold frmR putOf; rw [if_pos rfl, if_neg (by omega), hFR.out]
        rw [e] at this
        exact this)
      clear BC FM
      obtain ⟨TX, hTX⟩ := named (dtx l R pre)
      obtain ⟨ES, hES⟩ := named (entG l R 0 pre)
      rw [← hTX.out, ← hES.out] at hD
      rw [← hTX.out] at hmost
      have LEN : Hid (∀ u, Bld N (N + 4) TX u → Calls Try.prog 50 #[.pointer (some ⟨N + 4, 0, none⟩)] u fun e w' => e = .returned (.int .i64 (TX.length : Int)) ∧ Below u.heap.size u w') := Lib.hid (fun u h => bld_len h)
      have ROW : Hid (∀ u, Calls Try.prog 49 #[enV (enOf CH), .int .i64 (TX.length : Int)] u fun e w' => e = .returned (rowV (enRow (enOf CH) TX.length)) ∧ Below u.heap.size u w') := Lib.hid (fun u => row_any2 (enOf CH) TX.length (by
        have := build_keys (l := CH) (d := R) (by rw [← hSE.out])
        unfold enOf
        split
        · exact Nat.zero_le _
        · exact Nat.le_trans (this _) (by omega)) (by
        unfold enOf
        split
        · show (0 : Nat) < _; omega
        · show CH.length < _; rw [hchl]; omega) (by omega) u)
      obtain ⟨EN, hEN⟩ := named (enOf CH)
      rw [← hEN.out] at ENT ROW
      obtain ⟨X, hX⟩ := named (enRow EN TX.length)
      rw [← hX.out] at ROW
      have hD := Lib.hid hD
      clear hrow
      obtain ⟨xk, xs, xi, xv⟩ := X
      obtain ⟨ef, el, es1, ec⟩ := EN
      try simp only at ROW ENT
      gi_upto_region 8 with (first
        | (refine ⟨trivial, ?_⟩; gi_at_call 24; with_reducible refine (CallsIn.inRound l' (callsIn_wide.2 BC0.out)).mono ?_; rintro e w2 ⟨rfl, hb2⟩; have DD2 := Lib.hid (hD.out.grow hbN hb2); obtain ⟨c0', c1', c2'⟩ := DD2.out.opt.cells; have hb2 := Lib.hid hb2)
        | (refine ⟨trivial, ?_⟩; gi_at_call 21; with_reducible refine (CallsIn.inRound l' (callsIn_wide.2 (FM0.out _))).mono ?_; rintro e w3 ⟨rfl, hb3⟩; have DD3 := Lib.hid (DD2.out.grow hbN hb3); have hb3 := Lib.hid hb3))
      obtain ⟨v5, h5, hr5⟩ := DD3.out.r5
      have c5 := h5.cell
      have f5 := h5.frozen
      have lES := entG_len l R 0 pre
      rw [← hES.out] at lES
      have RR3 := Lib.hid (show Rs (some ⟨b, o + k * 4, none⟩) r (c - k) b (o + k * 4) CH w3 from hRs.below (below_of hb2.out hb3.out) (Nat.le_refl _))
      have RR3d := Lib.hid (RR3.out.below (Below.refl _ w3).drew (Nat.le_refl _))
      have big3 := DD3.out.big
      have h5 := Lib.hid h5
      have hr5 := Lib.hid hr5
      clear c0 c1 c2 c4 f4 c6 f6 c0' c1' c2'
      --REGION8
      have lES2 : Hid (ES.length ≤ 1024) := Lib.hid (by rw [lES]; exact hpl)
      refine wpIn_mono (Q := (fun e a' w' => e = .normal ∧ ∃ z0 z1 z2 z3 z4 z5 z6, a' = { tmps := #[.slice a n c, optV B R K, undef, .pointer (some ⟨N, 0, none⟩), .pointer (some ⟨N + 1, 0, none⟩), .pointer (some ⟨N + 2, 0, none⟩), .pointer (some ⟨N + 3, 0, none⟩), .func (.func 46) #[] #[.pointer (some ⟨N, 0, none⟩)], .pointer (some ⟨N + 4, 0, none⟩), .slice (some ⟨b, o + k * 4, none⟩) r (c - k), .string ⟨FR.toArray⟩, .int .i64 0, .func (.func 46) #[] #[.pointer (some ⟨N, 0, none⟩)], .slice a n c, .func (.func 46) #[] #[.pointer (some ⟨N, 0, none⟩)], .func (.func 73) #[] #[.pointer (some ⟨N + 5, 0, none⟩), .pointer (some ⟨N + 6, 0, none⟩)], .slice (some ⟨b, o + k * 4, none⟩) r (c - k), .tuple #[.string ⟨FR.toArray⟩, .int .i64 0], .slice (some ⟨b, o + k * 4, none⟩) r (c - k), .pointer (some ⟨N, 1, none⟩), .int .i64 R, .tuple #[.string ⟨S.toArray⟩, .int .i64 0], .string ⟨S.toArray⟩, .int .i64 0, .tuple #[.string ⟨FR.toArray⟩, .int .i64 0], .string ⟨FR.toArray⟩, .int .i64 0, .int .i64 0, .bool false, undef, z0, z1, z2, z3, z4, z5, z6, undef, undef, undef, undef, undef, undef], defers := [] } ∧ DB w N 46 B R K n c b o l (ES ++ [⟨xk, xs, xi, xv⟩]) TX w' ∧ KeepsOthers w3 w' ∧ Below N w3 w')) ?_ ?_
      · clear lES
        refine round_held (S := fun _ => True) (noDefer_spec (by kernel_rfl)) (fun h => by obtain ⟨_, _, h, _⟩ := h; cases h) (by kernel_rfl) trivial (fun hHeld => ?_)
        refine held_take (i := 1) (v := ?_) rfl (by kernel_rfl) (by kernel_rfl) (by kernel_rfl) (fun _ _ _ h => (by cases h.1)) (by rfl) (fun w hSw => ?_) (by assumption) ?_; rotate_left 1; focus (((try dsimp only at hSw); first | (go_simp; done) | (go_simp; with_reducible rfl)))
        try simp only [Act.put, List.setIfInBounds_toArray, List.set_cons_zero, List.set_cons_succ]
        refine held_two (i := 0) (j := 2) (by kernel_rfl) rfl rfl (by rfl) (by rfl) (fun K hK => ?_) (fun K hK => ?_)
        · go_simp
          refine hK.out _ _ trivial (fun hHeld => ?_)
          try simp only [Act.put, List.setIfInBounds_toArray, List.set_cons_zero, List.set_cons_succ]
          refine held_call (i := 2) (by kernel_rfl) rfl (by rfl) (fun K hK => ?_)
          go_simp
          refine (ENT.out _ RR3d.out).mono ?_
          rintro e w4 ⟨rfl, hb4⟩
          have hb4' : Below w3.heap.size w3 w4 := below_of (w := w3) (Below.refl _ w3).drew hb4
          have c54 := cell_keep hb4' c5
          have BL4 := Lib.hid (bld_stays DD3.out.bld (Stays.of_below hb4'))
          replace hb4' := Lib.hid hb4'
          clear hb4
          refine hK.out _ _ trivial (fun hHeld => ?_)
          try simp only [Act.put, List.setIfInBounds_toArray, List.set_cons_zero, List.set_cons_succ]
          refine held_call (i := 3) (by kernel_rfl) rfl (by rfl) (fun K hK => ?_)
          go_simp
          refine (LEN.out _ BL4.out).mono ?_
          rintro e w5 ⟨rfl, hb5⟩
          have hb5' := Lib.hid (below_of hb4'.out hb5)
          have c55 := cell_keep hb5'.out c5
          clear hb5
          refine hK.out _ _ trivial (fun hHeld => ?_)
          try simp only [Act.put, List.setIfInBounds_toArray, List.set_cons_zero, List.set_cons_succ]
          refine held_call (i := 4) (by kernel_rfl) rfl (by rfl) (fun K hK => ?_)
          go_simp
          refine (ROW.out _).mono ?_
          rintro e w6 ⟨rfl, hb6⟩
          have hb6' := Lib.hid (below_of hb5'.out hb6)
          have c56 := cell_keep hb6'.out c5
          have DD6 := Lib.hid (DD3.out.grow hbN hb6'.out)
          have h56 : Hid (Boxed w6 (N + 2) 22 v5) := Lib.hid ((hb6'.out.block _ h5.out.lt).trans h5.out)
          have hr6 := Lib.hid (ownsRow_stays hr5.out (Stays.of_below hb6'.out))
          have K6 := Lib.hid (keeps_below hb6'.out)
          have big6 := DD6.out.big
          clear hb6
          refine hK.out _ _ trivial (fun hHeld => ?_)
          try simp only [Act.put, List.setIfInBounds_toArray, List.set_cons_zero, List.set_cons_succ]
          refine held_call (i := 5) (by kernel_rfl) rfl (by rfl) (fun K hK => ?_)
          go_simp
          have c5a := (h56.out.alloc (.cells #[.string xk, .int .u64 (xs : Int), .int .i64 xi, .string xv] 39)).cell
          refine hK.out _ _ trivial (fun hHeld => ?_)
          try simp only [Act.put, List.setIfInBounds_toArray, List.set_cons_zero, List.set_cons_succ]
          refine held_call (i := 6) (by kernel_rfl) rfl (by rfl) (fun K hK => ?_)
          refine wp_append_own _ (.tmp 30) (.tmp 35) 22 rfl N 39 i0 (.agg #[.string .empty, .int .u64 0, .int .i64 0, .string .empty]) 4 48 Try.underlying22 hi hz0 hz1 hz2 rfl (by decide) v5 ES.length (rowR ES) (by rfl) (hr6.out.alloc _) ⟨w6.heap.size, 0, none⟩ 1 1 [.string xk, .int .u64 (xs : Int), .int .i64 xi, .string xv] (by rfl) rfl (World.news_of_block (heap_alloc_new _ _)) (row_oneB ⟨xk, xs, xi, xv⟩) (by have := lES2.out; unfold maxLen; omega) (by have := lES2.out; omega) (by rw [World.size_alloc]; omega) ?_
          intro v' w7 hown' hgrow _
          have hown2 : w7.ownsRow N 39 4 v' (ES.length + 1) (rowR (ES ++ [⟨xk, xs, xi, xv⟩])) := by rw [rowR_snoc]; exact hown'
          obtain ⟨hv1, _⟩ := h56.out.appended (by decide) hr6.out (by omega) (by omega) hown' hgrow
          have DD7 := Lib.hid (DD6.out.appended hbN ⟨xk, xs, xi, xv⟩ h56.out hr6.out hown2 hgrow)
          have c57 := hv1.cell
          have f57 := hv1.frozen
          obtain ⟨q1, q2, q3, rfl⟩ := own_shape hown'
          clear hv1 hown' hown2
          refine hK.out _ _ trivial (fun hHeld => ?_)
          try simp only [Act.put, List.setIfInBounds_toArray, List.set_cons_zero, List.set_cons_succ]
          refine held_call (i := 7) (by kernel_rfl) rfl (by rfl) (fun K hK => ?_)
          go_simp
          refine hK.out _ _ trivial (fun hHeld => ?_)
          try simp only [Act.put, List.setIfInBounds_toArray, List.set_cons_zero, List.set_cons_succ]
          refine wpAnyH_done (by kernel_rfl) ?_ _
          exact ⟨rfl, _, _, _, _, _, _, _, rfl, DD7.out.1, K6.out.trans DD7.out.2.1, (hb6'.out.mono (by omega)).trans DD7.out.2.2⟩
        · go_simp
          refine (ENT.out _ RR3d.out).mono ?_
          rintro e w4 ⟨rfl, hb4⟩
          have hb4' : Below w3.heap.size w3 w4 := below_of (w := w3) (Below.refl _ w3).drew hb4
          have c54 := cell_keep hb4' c5
          have BL4 := Lib.hid (bld_stays DD3.out.bld (Stays.of_below hb4'))
          replace hb4' := Lib.hid hb4'
          clear hb4
          refine hK.out _ _ trivial (fun hHeld => ?_)
          try simp only [Act.put, List.setIfInBounds_toArray, List.set_cons_zero, List.set_cons_succ]
          refine held_two (i := 0) (j := 3) (by kernel_rfl) rfl rfl (by rfl) (by rfl) (fun K hK => ?_) (fun K hK => ?_)
          · go_simp
            refine hK.out _ _ trivial (fun hHeld => ?_)
            try simp only [Act.put, List.setIfInBounds_toArray, List.set_cons_zero, List.set_cons_succ]
            refine held_call (i := 3) (by kernel_rfl) rfl (by rfl) (fun K hK => ?_)
            go_simp
            refine (LEN.out _ BL4.out).mono ?_
            rintro e w5 ⟨rfl, hb5⟩
            have hb5' := Lib.hid (below_of hb4'.out hb5)
            have c55 := cell_keep hb5'.out c5
            clear hb5
            refine hK.out _ _ trivial (fun hHeld => ?_)
            try simp only [Act.put, List.setIfInBounds_toArray, List.set_cons_zero, List.set_cons_succ]
            refine held_call (i := 4) (by kernel_rfl) rfl (by rfl) (fun K hK => ?_)
            go_simp
            refine (ROW.out _).mono ?_
            rintro e w6 ⟨rfl, hb6⟩
            have hb6' := Lib.hid (below_of hb5'.out hb6)
            have c56 := cell_keep hb6'.out c5
            have DD6 := Lib.hid (DD3.out.grow hbN hb6'.out)
            have h56 : Hid (Boxed w6 (N + 2) 22 v5) := Lib.hid ((hb6'.out.block _ h5.out.lt).trans h5.out)
            have hr6 := Lib.hid (ownsRow_stays hr5.out (Stays.of_below hb6'.out))
            have K6 := Lib.hid (keeps_below hb6'.out)
            have big6 := DD6.out.big
            clear hb6
            refine hK.out _ _ trivial (fun hHeld => ?_)
            try simp only [Act.put, List.setIfInBounds_toArray, List.set_cons_zero, List.set_cons_succ]
            refine held_call (i := 5) (by kernel_rfl) rfl (by rfl) (fun K hK => ?_)
            go_simp
            have c5a := (h56.out.alloc (.cells #[.string xk, .int .u64 (xs : Int), .int .i64 xi, .string xv] 39)).cell
            refine hK.out _ _ trivial (fun hHeld => ?_)
            try simp only [Act.put, List.setIfInBounds_toArray, List.set_cons_zero, List.set_cons_succ]
            refine held_call (i := 6) (by kernel_rfl) rfl (by rfl) (fun K hK => ?_)
            refine wp_append_own _ (.tmp 30) (.tmp 35) 22 rfl N 39 i0 (.agg #[.string .empty, .int .u64 0, .int .i64 0, .string .empty]) 4 48 Try.underlying22 hi hz0 hz1 hz2 rfl (by decide) v5 ES.length (rowR ES) (by rfl) (hr6.out.alloc _) ⟨w6.heap.size, 0, none⟩ 1 1 [.string xk, .int .u64 (xs : Int), .int .i64 xi, .string xv] (by rfl) rfl (World.news_of_block (heap_alloc_new _ _)) (row_oneB ⟨xk, xs, xi, xv⟩) (by have := lES2.out; unfold maxLen; omega) (by have := lES2.out; omega) (by rw [World.size_alloc]; omega) ?_
            intro v' w7 hown' hgrow _
            have hown2 : w7.ownsRow N 39 4 v' (ES.length + 1) (rowR (ES ++ [⟨xk, xs, xi, xv⟩])) := by rw [rowR_snoc]; exact hown'
            obtain ⟨hv1, _⟩ := h56.out.appended (by decide) hr6.out (by omega) (by omega) hown' hgrow
            have DD7 := Lib.hid (DD6.out.appended hbN ⟨xk, xs, xi, xv⟩ h56.out hr6.out hown2 hgrow)
            have c57 := hv1.cell
            have f57 := hv1.frozen
            obtain ⟨q1, q2, q3, rfl⟩ := own_shape hown'
            clear hv1 hown' hown2
            refine hK.out _ _ trivial (fun hHeld => ?_)
            try simp only [Act.put, List.setIfInBounds_toArray, List.set_cons_zero, List.set_cons_succ]
            refine held_call (i := 7) (by kernel_rfl) rfl (by rfl) (fun K hK => ?_)
            go_simp
            refine hK.out _ _ trivial (fun hHeld => ?_)
            try simp only [Act.put, List.setIfInBounds_toArray, List.set_cons_zero, List.set_cons_succ]
            refine wpAnyH_done (by kernel_rfl) ?_ _
            exact ⟨rfl, _, _, _, _, _, _, _, rfl, DD7.out.1, K6.out.trans DD7.out.2.1, (hb6'.out.mono (by omega)).trans DD7.out.2.2⟩
          · go_simp
            refine (LEN.out _ BL4.out).mono ?_
            rintro e w5 ⟨rfl, hb5⟩
            have hb5' := Lib.hid (below_of hb4'.out hb5)
            have c55 := cell_keep hb5'.out c5
            clear hb5
            refine hK.out _ _ trivial (fun hHeld => ?_)
            try simp only [Act.put, List.setIfInBounds_toArray, List.set_cons_zero, List.set_cons_succ]
            refine held_two (i := 0) (j := 4) (by kernel_rfl) rfl rfl (by rfl) (by rfl) (fun K hK => ?_) (fun K hK => ?_)
            · go_simp
              refine hK.out _ _ trivial (fun hHeld => ?_)
              try simp only [Act.put, List.setIfInBounds_toArray, List.set_cons_zero, List.set_cons_succ]
              refine held_call (i := 4) (by kernel_rfl) rfl (by rfl) (fun K hK => ?_)
              go_simp
              refine (ROW.out _).mono ?_
              rintro e w6 ⟨rfl, hb6⟩
              have hb6' := Lib.hid (below_of hb5'.out hb6)
              have c56 := cell_keep hb6'.out c5
              have DD6 := Lib.hid (DD3.out.grow hbN hb6'.out)
              have h56 : Hid (Boxed w6 (N + 2) 22 v5) := Lib.hid ((hb6'.out.block _ h5.out.lt).trans h5.out)
              have hr6 := Lib.hid (ownsRow_stays hr5.out (Stays.of_below hb6'.out))
              have K6 := Lib.hid (keeps_below hb6'.out)
              have big6 := DD6.out.big
              clear hb6
              refine hK.out _ _ trivial (fun hHeld => ?_)
              try simp only [Act.put, List.setIfInBounds_toArray, List.set_cons_zero, List.set_cons_succ]
              refine held_call (i := 5) (by kernel_rfl) rfl (by rfl) (fun K hK => ?_)
              go_simp
              have c5a := (h56.out.alloc (.cells #[.string xk, .int .u64 (xs : Int), .int .i64 xi, .string xv] 39)).cell
              refine hK.out _ _ trivial (fun hHeld => ?_)
              try simp only [Act.put, List.setIfInBounds_toArray, List.set_cons_zero, List.set_cons_succ]
              refine held_call (i := 6) (by kernel_rfl) rfl (by rfl) (fun K hK => ?_)
              refine wp_append_own _ (.tmp 30) (.tmp 35) 22 rfl N 39 i0 (.agg #[.string .empty, .int .u64 0, .int .i64 0, .string .empty]) 4 48 Try.underlying22 hi hz0 hz1 hz2 rfl (by decide) v5 ES.length (rowR ES) (by rfl) (hr6.out.alloc _) ⟨w6.heap.size, 0, none⟩ 1 1 [.string xk, .int .u64 (xs : Int), .int .i64 xi, .string xv] (by rfl) rfl (World.news_of_block (heap_alloc_new _ _)) (row_oneB ⟨xk, xs, xi, xv⟩) (by have := lES2.out; unfold maxLen; omega) (by have := lES2.out; omega) (by rw [World.size_alloc]; omega) ?_
              intro v' w7 hown' hgrow _
              have hown2 : w7.ownsRow N 39 4 v' (ES.length + 1) (rowR (ES ++ [⟨xk, xs, xi, xv⟩])) := by rw [rowR_snoc]; exact hown'
              obtain ⟨hv1, _⟩ := h56.out.appended (by decide) hr6.out (by omega) (by omega) hown' hgrow
              have DD7 := Lib.hid (DD6.out.appended hbN ⟨xk, xs, xi, xv⟩ h56.out hr6.out hown2 hgrow)
              have c57 := hv1.cell
              have f57 := hv1.frozen
              obtain ⟨q1, q2, q3, rfl⟩ := own_shape hown'
              clear hv1 hown' hown2
              refine hK.out _ _ trivial (fun hHeld => ?_)
              try simp only [Act.put, List.setIfInBounds_toArray, List.set_cons_zero, List.set_cons_succ]
              refine held_call (i := 7) (by kernel_rfl) rfl (by rfl) (fun K hK => ?_)
              go_simp
              refine hK.out _ _ trivial (fun hHeld => ?_)
              try simp only [Act.put, List.setIfInBounds_toArray, List.set_cons_zero, List.set_cons_succ]
              refine wpAnyH_done (by kernel_rfl) ?_ _
              exact ⟨rfl, _, _, _, _, _, _, _, rfl, DD7.out.1, K6.out.trans DD7.out.2.1, (hb6'.out.mono (by omega)).trans DD7.out.2.2⟩
            · go_simp
              refine (ROW.out _).mono ?_
              rintro e w6 ⟨rfl, hb6⟩
              have hb6' := Lib.hid (below_of hb5'.out hb6)
              have c56 := cell_keep hb6'.out c5
              have DD6 := Lib.hid (DD3.out.grow hbN hb6'.out)
              have h56 : Hid (Boxed w6 (N + 2) 22 v5) := Lib.hid ((hb6'.out.block _ h5.out.lt).trans h5.out)
              have hr6 := Lib.hid (ownsRow_stays hr5.out (Stays.of_below hb6'.out))
              have K6 := Lib.hid (keeps_below hb6'.out)
              have big6 := DD6.out.big
              clear hb6
              refine hK.out _ _ trivial (fun hHeld => ?_)
              try simp only [Act.put, List.setIfInBounds_toArray, List.set_cons_zero, List.set_cons_succ]
              refine held_two (i := 0) (j := 5) (by kernel_rfl) rfl rfl (by rfl) (by rfl) (fun K hK => ?_) (fun K hK => ?_)
              · go_simp
                refine hK.out _ _ trivial (fun hHeld => ?_)
                try simp only [Act.put, List.setIfInBounds_toArray, List.set_cons_zero, List.set_cons_succ]
                refine held_call (i := 5) (by kernel_rfl) rfl (by rfl) (fun K hK => ?_)
                go_simp
                have c5a := (h56.out.alloc (.cells #[.string xk, .int .u64 (xs : Int), .int .i64 xi, .string xv] 39)).cell
                refine hK.out _ _ trivial (fun hHeld => ?_)
                try simp only [Act.put, List.setIfInBounds_toArray, List.set_cons_zero, List.set_cons_succ]
                refine held_call (i := 6) (by kernel_rfl) rfl (by rfl) (fun K hK => ?_)
                refine wp_append_own _ (.tmp 30) (.tmp 35) 22 rfl N 39 i0 (.agg #[.string .empty, .int .u64 0, .int .i64 0, .string .empty]) 4 48 Try.underlying22 hi hz0 hz1 hz2 rfl (by decide) v5 ES.length (rowR ES) (by rfl) (hr6.out.alloc _) ⟨w6.heap.size, 0, none⟩ 1 1 [.string xk, .int .u64 (xs : Int), .int .i64 xi, .string xv] (by rfl) rfl (World.news_of_block (heap_alloc_new _ _)) (row_oneB ⟨xk, xs, xi, xv⟩) (by have := lES2.out; unfold maxLen; omega) (by have := lES2.out; omega) (by rw [World.size_alloc]; omega) ?_
                intro v' w7 hown' hgrow _
                have hown2 : w7.ownsRow N 39 4 v' (ES.length + 1) (rowR (ES ++ [⟨xk, xs, xi, xv⟩])) := by rw [rowR_snoc]; exact hown'
                obtain ⟨hv1, _⟩ := h56.out.appended (by decide) hr6.out (by omega) (by omega) hown' hgrow
                have DD7 := Lib.hid (DD6.out.appended hbN ⟨xk, xs, xi, xv⟩ h56.out hr6.out hown2 hgrow)
                have c57 := hv1.cell
                have f57 := hv1.frozen
                obtain ⟨q1, q2, q3, rfl⟩ := own_shape hown'
                clear hv1 hown' hown2
                refine hK.out _ _ trivial (fun hHeld => ?_)
                try simp only [Act.put, List.setIfInBounds_toArray, List.set_cons_zero, List.set_cons_succ]
                refine held_call (i := 7) (by kernel_rfl) rfl (by rfl) (fun K hK => ?_)
                go_simp
                refine hK.out _ _ trivial (fun hHeld => ?_)
                try simp only [Act.put, List.setIfInBounds_toArray, List.set_cons_zero, List.set_cons_succ]
                refine wpAnyH_done (by kernel_rfl) ?_ _
                exact ⟨rfl, _, _, _, _, _, _, _, rfl, DD7.out.1, K6.out.trans DD7.out.2.1, (hb6'.out.mono (by omega)).trans DD7.out.2.2⟩
              · go_simp
                have c5a := (h56.out.alloc (.cells #[.string xk, .int .u64 (xs : Int), .int .i64 xi, .string xv] 39)).cell
                refine hK.out _ _ trivial (fun hHeld => ?_)
                try simp only [Act.put, List.setIfInBounds_toArray, List.set_cons_zero, List.set_cons_succ]
                refine held_call (i := 0) (by kernel_rfl) rfl (by rfl) (fun K hK => ?_)
                go_simp
                refine hK.out _ _ trivial (fun hHeld => ?_)
                try simp only [Act.put, List.setIfInBounds_toArray, List.set_cons_zero, List.set_cons_succ]
                refine held_call (i := 6) (by kernel_rfl) rfl (by rfl) (fun K hK => ?_)
                refine wp_append_own _ (.tmp 30) (.tmp 35) 22 rfl N 39 i0 (.agg #[.string .empty, .int .u64 0, .int .i64 0, .string .empty]) 4 48 Try.underlying22 hi hz0 hz1 hz2 rfl (by decide) v5 ES.length (rowR ES) (by rfl) (hr6.out.alloc _) ⟨w6.heap.size, 0, none⟩ 1 1 [.string xk, .int .u64 (xs : Int), .int .i64 xi, .string xv] (by rfl) rfl (World.news_of_block (heap_alloc_new _ _)) (row_oneB ⟨xk, xs, xi, xv⟩) (by have := lES2.out; unfold maxLen; omega) (by have := lES2.out; omega) (by rw [World.size_alloc]; omega) ?_
                intro v' w7 hown' hgrow _
                have hown2 : w7.ownsRow N 39 4 v' (ES.length + 1) (rowR (ES ++ [⟨xk, xs, xi, xv⟩])) := by rw [rowR_snoc]; exact hown'
                obtain ⟨hv1, _⟩ := h56.out.appended (by decide) hr6.out (by omega) (by omega) hown' hgrow
                have DD7 := Lib.hid (DD6.out.appended hbN ⟨xk, xs, xi, xv⟩ h56.out hr6.out hown2 hgrow)
                have c57 := hv1.cell
                have f57 := hv1.frozen
                obtain ⟨q1, q2, q3, rfl⟩ := own_shape hown'
                clear hv1 hown' hown2
                refine hK.out _ _ trivial (fun hHeld => ?_)
                try simp only [Act.put, List.setIfInBounds_toArray, List.set_cons_zero, List.set_cons_succ]
                refine held_call (i := 7) (by kernel_rfl) rfl (by rfl) (fun K hK => ?_)
                go_simp
                refine hK.out _ _ trivial (fun hHeld => ?_)
                try simp only [Act.put, List.setIfInBounds_toArray, List.set_cons_zero, List.set_cons_succ]
                refine wpAnyH_done (by kernel_rfl) ?_ _
                exact ⟨rfl, _, _, _, _, _, _, _, rfl, DD7.out.1, K6.out.trans DD7.out.2.1, (hb6'.out.mono (by omega)).trans DD7.out.2.2⟩
      rintro e a8 w8 ⟨rfl, z0, z1, z2, z3, z4, z5, z6, rfl, DD8, KO8, BB8⟩
      have KW := Lib.hid (((keeps_below hb2.out).trans (keeps_below hb3.out)).trans KO8)
      have BW := Lib.hid (((hb2.out.mono (by have := hD.out.big; omega)).trans (hb3.out.mono (by have := DD2.out.big; omega))).trans BB8)
      have WS : Hid (Calls Try.prog 51 #[.pointer (some ⟨N + 4, 0, none⟩), .string ⟨FR.toArray⟩] w8 fun e w' => e = .returned (.tuple #[.int .i64 ((⟨FR.toArray⟩ : ByteArray).size : Int), .nilIface]) ∧ Bld N (N + 4) (TX ++ FR) w' ∧ Below N w8 w' ∧ Spares (N + 4) w8 w') := Lib.hid (by
        have := bld_string DD8.bld (by have := DD8.big; omega) ⟨FR.toArray⟩ (by rw [ofList_size]; omega)
        rwa [data_toL] at this)
      have LEN9 : Hid (∀ u, Bld N (N + 4) (TX ++ FR) u → Calls Try.prog 50 #[.pointer (some ⟨N + 4, 0, none⟩)] u fun e w' => e = .returned (.int .i64 ((TX ++ FR).length : Int)) ∧ Below u.heap.size u w') := Lib.hid (fun u h => bld_len h)
      have hdtx : Hid (dtx l R (pre ++ [(k, r)]) = TX ++ FR) := Lib.hid (by rw [dtx_snoc, ← hTX.out, ← hCH.out, ← hSE.out, hFR.out])
      have hent : Hid (entG l R 0 (pre ++ [(k, r)]) = ES ++ [⟨xk, xs, xi, xv⟩]) := Lib.hid (by rw [entG_snoc, ← hES.out, ← hTX.out, ← hCH.out, Nat.zero_add, ← hEN.out, ← hX.out])
      have DD8 := Lib.hid DD8
      obtain ⟨T9, hT9⟩ := named (TX ++ FR)
      rw [← hT9.out] at WS LEN9 hdtx
      clear KO8 BB8 h5 hr5 c5 f5
      by_cases hbig : 262144 < T9.length
      · have g1 : (262144 : Int) < (T9.length : Int) := by omega
        have hno : Hid (∀ xs, Good l B R xs → tot xs ≠ l.length) := Lib.hid (fun xs hx ht => by
          obtain ⟨t, rfl⟩ := divs_prefix (by rw [hlen]; exact hdv2) hx.div ht
          have := hx.most
          rw [dtx_app, hdtx.out, List.length_append] at this
          omega)
        clear hdv hgood hmost hdv2
        gi_wp2_with (first
          | (refine ⟨trivial, ?_⟩; gi_at_call 51; with_reducible refine (CallsIn.inRound l' (callsIn_wide.2 WS.out)).mono ?_; rintro e w9 ⟨rfl, hb9, hB9, hS9⟩; have DD9 := Lib.hid (DD8.out.wrote hbN hb9 hB9 hS9); have K9 := Lib.hid (keeps_spares hS9 DD8.out.bld.at'); clear hb9 hB9 hS9)
          | (refine ⟨trivial, ?_⟩; gi_at_call 50; with_reducible refine (CallsIn.inRound l' (callsIn_wide.2 (LEN9.out _ DD9.out.bld))).mono ?_; rintro e w10 ⟨rfl, hb10⟩; have DD10 := Lib.hid (DD9.out.grow hbN hb10); have K10 := Lib.hid (keeps_below hb10); have c4' := DD10.out.r4.cell; have f4' := DD10.out.r4.frozen; obtain ⟨v5', h5', _⟩ := DD10.out.r5; have c5' := h5'.cell; have f5' := h5'.frozen; have c6' := DD10.out.r6.cell; have f6' := DD10.out.r6.frozen; have h5' := Lib.hid h5'; clear hb10))
        refine ⟨(((KW.out.trans K9.out).trans K10.out).trans (((KeepsOthers.setCell _ _ _).trans (KeepsOthers.setCell _ _ _)).trans (KeepsOthers.setCell _ _ _))).from _, rfl, hno.out, ?_, ?_, ?_, ?_⟩
        · exact ((DD10.out.r4.set _).other (by omega) _).other (by omega) _
        · exact ((h5'.out.other (by omega) _).set _).other (by omega) _
        · exact ((DD10.out.r6.other (by omega) _).other (by omega) _).set _
        · exact (((DD10.out.below.setCell (p := ⟨N + 1, 0, none⟩) (Nat.le_add_right _ _) _).setCell (p := ⟨N + 2, 0, none⟩) (Nat.le_add_right _ _) _).setCell (p := ⟨N + 3, 0, none⟩) (Nat.le_add_right _ _) _)
      · have g1 : ¬ (262144 : Int) < (T9.length : Int) := by omega
        have hI := Lib.hid (And.intro hdv2 (show ∀ x ∈ pre ++ [(k, r)], (buildB (chunk l x) R).2 = 0 from fun x hx => by
          rcases List.mem_append.1 hx with hx | hx
          · exact hgood x hx
          · rw [List.mem_singleton.1 hx, ← hCH.out, ← hSE.out]))
        clear hdv hgood hmost hdv2
        gi_wp2_with (first
          | (refine ⟨trivial, ?_⟩; gi_at_call 51; with_reducible refine (CallsIn.inRound l' (callsIn_wide.2 WS.out)).mono ?_; rintro e w9 ⟨rfl, hb9, hB9, hS9⟩; have DD9 := Lib.hid (DD8.out.wrote hbN hb9 hB9 hS9); have K9 := Lib.hid (keeps_spares hS9 DD8.out.bld.at'); have B9 := Lib.hid (BW.out.trans hB9); clear hb9 hB9 hS9)
          | (refine ⟨trivial, ?_⟩; gi_at_call 50; with_reducible refine (CallsIn.inRound l' (callsIn_wide.2 (LEN9.out _ DD9.out.bld))).mono ?_; rintro e w10 ⟨rfl, hb10⟩; have DD10 := Lib.hid (DD9.out.grow hbN hb10); have K10 := Lib.hid (keeps_below hb10); have B10 := Lib.hid (B9.out.trans (hb10.mono (by have := DD9.out.big; omega))); clear hb10))
        refine ⟨((KW.out.trans K9.out).trans K10.out).from _, B10.out, ?_, hI.out.1, hI.out.2, by rw [hdtx.out]; omega⟩
        rw [hent.out, hdtx.out]
        exact DD10.out
    · have BC3 : Hid (Calls Try.prog 24 #[.slice (some ⟨b, o + k * 4, none⟩) r (c - k), .int .i64 R] W fun e w' => e = .returned (.tuple #[.string ⟨S.toArray⟩, .int .i64 3]) ∧ Below W.heap.size W w') := BC
      have FM3 : Hid (∀ u, Calls Try.prog 21 #[.string ⟨S.toArray⟩, .int .i64 3] u fun e w' => e = .returned (.tuple #[.string ⟨#[]⟩, .int .i64 3]) ∧ Below u.heap.size u w') := FM
      clear BC FM
      have hno : Hid (∀ xs, Good l B R xs → tot xs ≠ l.length) := Lib.hid (fun xs hx ht => by
        obtain ⟨t, rfl⟩ := divs_prefix (by rw [hlen]; exact hdv2) hx.div ht
        have := hx.ok (k, r) (by simp)
        rw [← hCH.out, ← hSE.out] at this
        cases this)
      have hD := Lib.hid hD
      clear hdv hgood hmost hdv2 hrow
      gi_wp2_with (first
        | (refine ⟨trivial, ?_⟩; gi_at_call 24; with_reducible refine (CallsIn.inRound l' (callsIn_wide.2 BC3.out)).mono ?_; rintro e w2 ⟨rfl, hb2⟩; have DD2 := Lib.hid (hD.out.grow hbN hb2); obtain ⟨c0', c1', c2'⟩ := DD2.out.opt.cells; have hb2 := Lib.hid hb2)
        | (refine ⟨trivial, ?_⟩; gi_at_call 21; with_reducible refine (CallsIn.inRound l' (callsIn_wide.2 (FM3.out _))).mono ?_; rintro e w3 ⟨rfl, hb3⟩; have DD3 := Lib.hid (DD2.out.grow hbN hb3); have hb3 := Lib.hid hb3; have c4' := DD3.out.r4.cell; have f4' := DD3.out.r4.frozen; obtain ⟨v5', h5', _⟩ := DD3.out.r5; have c5' := h5'.cell; have f5' := h5'.frozen; have c6' := DD3.out.r6.cell; have f6' := DD3.out.r6.frozen; have h5' := Lib.hid h5'))
      refine ⟨((((keeps_below hb2.out).trans (keeps_below hb3.out)).trans (((KeepsOthers.setCell _ _ _).trans (KeepsOthers.setCell _ _ _)).trans (KeepsOthers.setCell _ _ _)))).from _, rfl, hno.out, ?_, ?_, ?_, ?_⟩
      · exact ((DD3.out.r4.set _).other (by omega) _).other (by omega) _
      · exact ((h5'.out.other (by omega) _).set _).other (by omega) _
      · exact ((DD3.out.r6.other (by omega) _).other (by omega) _).set _
      · exact (((DD3.out.below.setCell (p := ⟨N + 1, 0, none⟩) (Nat.le_add_right _ _) _).setCell (p := ⟨N + 2, 0, none⟩) (Nat.le_add_right _ _) _).setCell (p := ⟨N + 3, 0, none⟩) (Nat.le_add_right _ _) _)
  case done =>
    rintro D xs W hD hst ⟨hDB, hdv, hgood, hmost⟩ hKD
    have hyes : Hid (Good l B R xs ∧ tot xs = l.length) := Lib.hid ⟨⟨by rw [hlen]; exact hdv, hgood, hmost⟩, by rw [hlen]; exact hst⟩
    obtain ⟨v5, h5, hr5⟩ := hDB.r5
    obtain ⟨q1, q2, q3, rfl⟩ := own_shape hr5
    have lES := entG_len l R 0 xs
    have big := hDB.big
    obtain ⟨T, hT⟩ := named (dtx l R xs)
    obtain ⟨ES, hES⟩ := named (entG l R 0 xs)
    rw [← hT.out, ← hES.out] at hDB
    rw [← hES.out] at lES hr5
    have BR := Lib.hid (bld_read (hDB.bld.below (Below.refl _ W).drew) (show N ≤ W.drew.heap.size from by have := hDB.big; show N ≤ W.heap.size; omega))
    have hDB := Lib.hid hDB
    have c5 := h5.cell
    have c4 := hDB.out.r4.cell
    have c6 := hDB.out.r6.cell
    have h5 := Lib.hid h5
    have hr5 := Lib.hid hr5
    clear hdv hgood hmost hst hP
    go_upto_region 12 with fail
    refine wp_mono (Q := (fun e a' w' => e = .normal ∧ a' = { tmps := #[.slice a n c, optV B R K, undef, .pointer (some ⟨N, 0, none⟩), .pointer (some ⟨N + 1, 0, none⟩), .pointer (some ⟨N + 2, 0, none⟩), .pointer (some ⟨N + 3, 0, none⟩), .func (.func 46) #[] #[.pointer (some ⟨N, 0, none⟩)], .pointer (some ⟨N + 4, 0, none⟩), undef, undef, undef, .func (.func 46) #[] #[.pointer (some ⟨N, 0, none⟩)], .slice a n c, .func (.func 46) #[] #[.pointer (some ⟨N, 0, none⟩)], .func (.func 73) #[] #[.pointer (some ⟨N + 5, 0, none⟩), .pointer (some ⟨N + 6, 0, none⟩)], undef, undef, undef, undef, undef, undef, undef, undef, undef, undef, undef, undef, undef, undef, undef, undef, undef, undef, undef, undef, undef, undef, undef, undef, undef, .string ⟨T.toArray⟩, .slice q1 q2 q3], defers := [{ target := .collected D, args := #[] }] } ∧ ∃ w9, w' = ((w9.setCell ⟨N + 1, 0, none⟩ (.string ⟨T.toArray⟩)).setCell ⟨N + 2, 0, none⟩ (.slice q1 q2 q3)).setCell ⟨N + 3, 0, none⟩ (.int .i64 0) ∧ Boxed w9 (N + 1) 9 (.string ⟨#[]⟩) ∧ Boxed w9 (N + 2) 22 (.slice q1 q2 q3) ∧ Boxed w9 (N + 3) 27 (.int .i64 0) ∧ w9.heap[D]? = some (.deferred (some [])) ∧ Hid (Below N W w9) ∧ Hid (w9.ownsRow N 39 4 (.slice q1 q2 q3) ES.length (rowR ES)))) ?_ ?_
    · skip
      refine wp_region_held_drew (S := (fun v => v.cell? ⟨N + 2, 0, none⟩ = some (.slice q1 q2 q3))) (by kernel_rfl) (c5) (fun hHeld => ?_)
      refine held_take (i := 1) (v := ?_) rfl (by kernel_rfl) (by kernel_rfl) (by kernel_rfl) (fun _ _ _ h => (by cases h.1)) (by rfl) (fun w hSw => ?_) (by assumption) ?_; rotate_left 1; focus (((try dsimp only at hSw); first | (go_simp; done) | (go_simp; with_reducible rfl)))
      try simp only [Act.put, List.setIfInBounds_toArray, List.set_cons_zero, List.set_cons_succ]
      refine held_call (i := 0) (by kernel_rfl) rfl (by rfl) (fun K hK => ?_)
      go_simp
      refine BR.out.mono ?_
      rintro e w9 ⟨rfl, hB9, hR9⟩
      have hB9w : Below N W w9 := (Below.refl N W).drew.trans hB9
      have K9 : ∀ {k : Nat} {cs : Array Value} {t : TypeId} {m : Nat × Nat}, W.heap[k]? = some (.cells cs t m) → t ≠ 5 → w9.heap[k]? = some (.cells cs t m) := fun hk ht => rd_keep hDB.out.bld hR9 hk ht
      have r4 : Boxed w9 (N + 1) 9 (.string ⟨#[]⟩) := K9 hDB.out.r4 (by decide)
      have r5 : Boxed w9 (N + 2) 22 (.slice q1 q2 q3) := K9 h5.out (by decide)
      have r6 : Boxed w9 (N + 3) 27 (.int .i64 0) := K9 hDB.out.r6 (by decide)
      have hr9 : w9.ownsRow N 39 4 (.slice q1 q2 q3) ES.length (rowR ES) := rd_row hDB.out.bld hR9 hr5.out (by decide)
      have hK9 : w9.heap[D]? = some (.deferred (some [])) := rd_def hDB.out.bld hR9 hKD
      have d4 := r4.cell
      have g4 := r4.frozen
      have d5 := r5.cell
      have g5 := r5.frozen
      have d6 := r6.cell
      have g6 := r6.frozen
      have hB9w := Lib.hid hB9w
      have hr9 := Lib.hid hr9
      clear hB9 hR9 K9
      refine hK.out _ _ (d5) (fun hHeld => ?_)
      try simp only [Act.put, List.setIfInBounds_toArray, List.set_cons_zero, List.set_cons_succ]
      refine held_call (i := 2) (by kernel_rfl) rfl (by rfl) (fun K hK => ?_)
      go_simp
      
      refine hK.out _ _ ((r5.other (by omega) _).cell) (fun hHeld => ?_)
      try simp only [Act.put, List.setIfInBounds_toArray, List.set_cons_zero, List.set_cons_succ]
      refine held_call (i := 3) (by kernel_rfl) rfl (by rfl) (fun K hK => ?_)
      go_simp
      
      refine hK.out _ _ (((r5.other (by omega) _).set _).cell) (fun hHeld => ?_)
      try simp only [Act.put, List.setIfInBounds_toArray, List.set_cons_zero, List.set_cons_succ]
      refine held_call (i := 4) (by kernel_rfl) rfl (by rfl) (fun K hK => ?_)
      go_simp
      
      refine hK.out _ _ ((((r5.other (by omega) _).set _).other (by omega) _).cell) (fun hHeld => ?_)
      try simp only [Act.put, List.setIfInBounds_toArray, List.set_cons_zero, List.set_cons_succ]
      refine wpAnyH_done (by kernel_rfl) ?_ _
      exact ⟨rfl, rfl, w9, rfl, r4, r5, r6, hK9, hB9w, hr9⟩
    rintro e a8 w8 ⟨rfl, rfl, w9, rfl, r4, r5, r6, hK9, hB9w, hr9⟩
    have N4 : Boxed (((w9.setCell ⟨N + 1, 0, none⟩ (.string ⟨T.toArray⟩)).setCell ⟨N + 2, 0, none⟩ (.slice q1 q2 q3)).setCell ⟨N + 3, 0, none⟩ (.int .i64 0)) (N + 1) 9 (.string ⟨T.toArray⟩) := ((r4.set _).other (by omega) _).other (by omega) _
    have N5 : Boxed (((w9.setCell ⟨N + 1, 0, none⟩ (.string ⟨T.toArray⟩)).setCell ⟨N + 2, 0, none⟩ (.slice q1 q2 q3)).setCell ⟨N + 3, 0, none⟩ (.int .i64 0)) (N + 2) 22 (.slice q1 q2 q3) := ((r5.other (by omega) _).set _).other (by omega) _
    have N6 : Boxed (((w9.setCell ⟨N + 1, 0, none⟩ (.string ⟨T.toArray⟩)).setCell ⟨N + 2, 0, none⟩ (.slice q1 q2 q3)).setCell ⟨N + 3, 0, none⟩ (.int .i64 0)) (N + 3) 27 (.int .i64 0) := ((r6.other (by omega) _).other (by omega) _).set _
    have NK : (((w9.setCell ⟨N + 1, 0, none⟩ (.string ⟨T.toArray⟩)).setCell ⟨N + 2, 0, none⟩ (.slice q1 q2 q3)).setCell ⟨N + 3, 0, none⟩ (.int .i64 0)).heap[D]? = some (.deferred (some [])) := (((KeepsOthers.setCell w9 _ _).trans (KeepsOthers.setCell _ _ _)).trans (KeepsOthers.setCell _ _ _)).same D _ hK9 rfl
    have NR := Lib.hid (((hr9.out.kept (grownBy_setCell' _ (N + 1) (.string ⟨T.toArray⟩)) (.inr (r4.not_row (by decide) hr9.out).symm)).kept (grownBy_setCell' _ (N + 2) (.slice q1 q2 q3)) (.inr (r5.not_row (by decide) hr9.out).symm)).kept (grownBy_setCell' _ (N + 3) (.int .i64 0)) (.inr (r6.not_row (by decide) hr9.out).symm))
    have NB := Lib.hid (((hB9w.out.setCell (p := ⟨N + 1, 0, none⟩) (Nat.le_add_right _ _) (.string ⟨T.toArray⟩)).setCell (p := ⟨N + 2, 0, none⟩) (Nat.le_add_right _ _) (.slice q1 q2 q3)).setCell (p := ⟨N + 3, 0, none⟩) (Nat.le_add_right _ _) (.int .i64 0))
    go_wp2
    generalize (((w9.setCell ⟨N + 1, 0, none⟩ (.string ⟨T.toArray⟩)).setCell ⟨N + 2, 0, none⟩ (.slice q1 q2 q3)).setCell ⟨N + 3, 0, none⟩ (.int .i64 0)) = WZ at *
    have X4 := ((boxed_own (N + 1) 9 (fun _ : Unit => .string ⟨T.toArray⟩)).putObj (s := ()) (.deferred none) N4 NK rfl).cell
    have X5 := ((boxed_own (N + 2) 22 (fun _ : Unit => .slice q1 q2 q3)).putObj (s := ()) (.deferred none) N5 NK rfl).cell
    have X6 := ((boxed_own (N + 3) 27 (fun _ : Unit => .int .i64 0)).putObj (s := ()) (.deferred none) N6 NK rfl).cell
    have BF : Below N WZ (WZ.putObj D (.deferred none)) := (Below.refl N _).grown (grownBy_putObj' _ D (.deferred none)) (by have := (Array.getElem?_eq_some_iff.1 NK).1; omega) (fun k e => by cases e; omega)
    refine ⟨by simp, .inl ⟨_, _, rfl, run_takeDeferred NK, ?_⟩⟩
    refine ⟨.tuple #[.string ⟨T.toArray⟩, .slice q1 q2 q3, .int .i64 0], ?_, ?_⟩
    · simp [results, Try.results20, go_sem, X4, X5, X6]
    · refine .inl ⟨xs, .slice q1 q2 q3, T, hyes.out.1, hyes.out.2, hT.out, rfl, ?_, ?_⟩
      · rw [← hN.out, ← hES.out]
        have := ownsRow_putObj NR.out (.deferred none) NK rfl
        rw [lES] at this
        exact this
      · rw [← hN.out]; exact (hDB.out.below.trans NB.out).trans BF
  case stop =>
    rintro D cd pre W hD ⟨rfl, hno, r4, r5, r6, hB⟩ hK
    have hno := Lib.hid hno
    have X4 := ((boxed_own (N + 1) 9 (fun _ : Unit => .string ⟨#[]⟩)).putObj (s := ()) (.deferred none) r4 hK rfl).cell
    have X5 := ((boxed_own (N + 2) 22 (fun _ : Unit => .slice none 0 0)).putObj (s := ()) (.deferred none) r5 hK rfl).cell
    have X6 := ((boxed_own (N + 3) 27 (fun _ : Unit => .int .i64 3)).putObj (s := ()) (.deferred none) r6 hK rfl).cell
    have BF : Below N W (W.putObj D (.deferred none)) := (Below.refl N _).grown (grownBy_putObj' _ D (.deferred none)) (by have := (Array.getElem?_eq_some_iff.1 hK).1; omega) (fun k e => by cases e; omega)
    refine wpIn_wide.2 ?_
    go_wp2
    refine ⟨by simp, .inl ⟨_, _, rfl, run_takeDeferred hK, ?_⟩⟩
    refine ⟨.tuple #[.string ⟨#[]⟩, .slice none 0 0, .int .i64 3], ?_, ?_⟩
    · simp [results, Try.results20, go_sem, X4, X5, X6]
    · exact .inr ⟨hno.out, rfl, by rw [← hN.out]; exact hB.trans BF⟩
end Go.Proofs.Ytmjakkemiiigpaa
/-
  The contract of offsets: what a table's footer says. Condition: texts of at most 1048576 bytes.
-/
namespace Go.Proofs.Ytmjakkemiiigpaa
set_option maxRecDepth 100000
open Go.RowKit
/-- What the footer says, if it may. -/
def offT (S : List UInt8) : Option (Nat × Nat) :=
  if S.length < 20 ∨ 262144 < S.length then none
  else
    let F := S.drop (S.length - 20)
    let f := leN (F.take 8)
    let i := leN ((F.drop 8).take 8)
    if F = footB f i ∧ f ≤ i ∧ i ≤ S.length - 20 then some (f, i) else none
theorem offT_le {S : List UInt8} {f i : Nat} (h : offT S = some (f, i)) : 20 ≤ S.length ∧ S.length ≤ 262144 ∧ f ≤ i ∧ i ≤ S.length - 20 ∧ S.drop (S.length - 20) = footB f i := by
  unfold offT at h
  split at h
  · cases h
  · rename_i h1
    simp only at h
    split at h
    · rename_i h2
      simp only [Option.some.injEq, Prod.mk.injEq] at h
      obtain ⟨rfl, rfl⟩ := h
      exact ⟨by omega, by omega, h2.2.1, h2.2.2, h2.1⟩
    · cases h
theorem offT_of {A : List UInt8} {f i : Nat} (hf : f ≤ i) (hi : i ≤ A.length) (hz : A.length + 20 ≤ 262144) : offT (A ++ footB f i) = some (f, i) := by
  have hl := footB_len f i
  have e0 : (A ++ footB f i).length = A.length + 20 := by rw [List.length_append, hl]
  have e1 : (A ++ footB f i).drop ((A ++ footB f i).length - 20) = footB f i := by rw [e0, Nat.add_sub_cancel, List.drop_left]
  have e2 : (footB f i).take 8 = leB 8 f := by
    unfold footB
    rw [List.append_assoc, List.take_append_of_le_length (by rw [leB_len]; omega), List.take_of_length_le (by rw [leB_len]; omega)]
  have e3 : ((footB f i).drop 8).take 8 = leB 8 i := by
    unfold footB
    rw [List.append_assoc, List.drop_append_of_le_length (by rw [leB_len]; omega), List.drop_eq_nil_of_le (by rw [leB_len]; omega), List.nil_append, List.take_append_of_le_length (by rw [leB_len]; omega), List.take_of_length_le (by rw [leB_len]; omega)]
  unfold offT
  rw [e0, if_neg (by omega)]
  simp only
  rw [← e0, e1, e2, e3, leN_leB 8 f (by omega), leN_leB 8 i (by omega), if_pos ⟨rfl, hf, by omega⟩]
/-- What offsets answers. -/
def offR (S : List UInt8) : Value := match offT S with | some (f, i) => .tuple #[.int .i64 (f : Int), .int .i64 (i : Int), .bool true] | none => .tuple #[.int .i64 0, .int .i64 0, .bool false]
theorem offsets_short (S : List UInt8) (hS : S.length ≤ 1048576) (hb : S.length < 20 ∨ 262144 < S.length) (w : World) : Calls Try.prog 26 #[.string ⟨S.toArray⟩] w fun e w' => e = .returned (.tuple #[.int .i64 0, .int .i64 0, .bool false]) ∧ Below w.heap.size w w' := by
  by_cases h1 : S.length < 20
  · have g0 : wrap64 ((S.length : Int) - 20) = (S.length : Int) - 20 := by unfold wrap64; omega
    have g1 : ((S.length : Int) - 20 < 0) := by omega
    go_enter Try.func26, Try.ntmps26
    go_wp2_with fail
    go_returns
    exact ⟨rfl, Below.refl _ _⟩
  · have g0 : wrap64 ((S.length : Int) - 20) = (S.length : Int) - 20 := by unfold wrap64; omega
    have g1 : ¬ ((S.length : Int) - 20 < 0) := by omega
    have g2 : (262144 : Int) < (S.length : Int) := by omega
    go_enter Try.func26, Try.ntmps26
    go_wp2_with fail
    go_returns
    exact ⟨rfl, Below.refl _ _⟩
set_option maxRecDepth 100000 in
set_option maxHeartbeats 8000000 in
theorem offsets_long (S : List UInt8) (h1 : 20 ≤ S.length) (h2 : S.length ≤ 262144) (w : World) : Calls Try.prog 26 #[.string ⟨S.toArray⟩] w fun e w' => e = .returned (offR S) ∧ Below w.heap.size w w' := by
  obtain ⟨K, hK⟩ := named (S.length - 20)
  have hKS : K + 20 = S.length := by have := hK.out; omega
  have g0 : wrap64 ((S.length : Int) - 20) = (K : Int) := by unfold wrap64; omega
  have g1 : ¬ ((K : Int) < 0) := by omega
  have g2 : ¬ ((262144 : Int) < (S.length : Int)) := by omega
  have g3 : wrap64 ((K : Int) + 8) = ((K + 8 : Nat) : Int) := by unfold wrap64; omega
  have s1 := exL_from S (S.length - 20)
  have s2 := exL_from S (S.length - 20 + 8)
  have s3 := exL_upto (S.drop K) 8
  have s4 := exL_upto (S.drop (K + 8)) 8
  have g4 : IntKind.i64.wrap ((S.length : Int) - 20 + 8) = (S.length : Int) - 20 + 8 := by rw [IntKind.wrap_i64]; omega
  have f1 := fun u => slL_from S K (by omega) ((S.length : Int) - 20) (by omega) u
  have f2 := fun u => slL_from S (K + 8) (by omega) ((S.length : Int) - 20 + 8) (by omega) u
  have f3 := fun u => slL_upto (S.drop K) 8 (by rw [List.length_drop]; omega) 8 rfl u
  have f4 := fun u => slL_upto (S.drop (K + 8)) 8 (by rw [List.length_drop]; omega) 8 rfl u
  have l1 : (S.drop K).length = 20 := by rw [List.length_drop]; omega
  have l2 : (S.drop (K + 8)).length = 12 := by rw [List.length_drop]; omega
  have eA : (S.drop K).drop 8 = S.drop (K + 8) := by rw [List.drop_drop]
  obtain ⟨F, hF⟩ := named (S.drop K)
  obtain ⟨G, hG⟩ := named (S.drop (K + 8))
  have ef : offT S = if F = footB (leN (F.take 8)) (leN (G.take 8)) ∧ leN (F.take 8) ≤ leN (G.take 8) ∧ leN (G.take 8) ≤ K then some (leN (F.take 8), leN (G.take 8)) else none := by
    unfold offT
    rw [if_neg (by omega), ← hK.out]
    simp only
    rw [eA, ← hF.out, ← hG.out]
  rw [← hK.out, ← hF.out] at s1
  rw [← hF.out] at s3 l1 f1 f3
  rw [← hK.out, ← hG.out] at s2
  rw [← hG.out] at s4 l2 f2 f4
  rw [hK.out] at s2
  rw [hK.out] at s1
  obtain ⟨X, hX⟩ := named (F.take 8)
  obtain ⟨Y, hY⟩ := named (G.take 8)
  have N1 := Lib.hid (fun u => tnum_any X (by rw [hX.out]; exact List.length_take_le _ _) u)
  have N2 := Lib.hid (fun u => tnum_any Y (by rw [hY.out]; exact List.length_take_le _ _) u)
  rw [← hX.out] at s3 ef f3
  rw [← hY.out] at s4 ef f4
  have b1 : leN X < 256 ^ 8 := Nat.lt_of_lt_of_le (leN_lt X) (Nat.pow_le_pow_right (by omega) (by rw [hX.out]; exact List.length_take_le _ _))
  have b2 : leN Y < 256 ^ 8 := Nat.lt_of_lt_of_le (leN_lt Y) (Nat.pow_le_pow_right (by omega) (by rw [hY.out]; exact List.length_take_le _ _))
  obtain ⟨f, hf⟩ := named (leN X)
  obtain ⟨i, hi⟩ := named (leN Y)
  rw [← hf.out] at N1 ef b1
  rw [← hi.out] at N2 ef b2
  have FC := Lib.hid (fun u => foot_any f i u)
  obtain ⟨T, hT⟩ := named (footB f i)
  rw [← hT.out] at FC ef
  have gk : IntKind.u64.wrap ((S.length : Int) - 20) = (S.length : Int) - 20 := by rw [IntKind.wrap_u64]; omega
  have ge : (F.toArray == T.toArray) = decide (F = T) := by rw [Bool.eq_iff_iff]; simp
  replace ef := Lib.hid ef
  clear hf hi hT hX hY hF hG eA
  by_cases c1 : F = T
  · subst c1
    have q1 : (F != F) = false := by simp
    by_cases c2 : f ≤ i
    · have q2 : decide ((i : Int) < (f : Int)) = false := decide_eq_false (by omega)
      have q3 : decide (i < f) = false := decide_eq_false (by omega)
      by_cases c3 : i ≤ K
      · have q4 : decide ((S.length : Int) - 20 < (i : Int)) = false := decide_eq_false (by omega)
        have q5 : IntKind.i64.wrap (f : Int) = (f : Int) := by rw [IntKind.wrap_i64]; omega
        have q6 : IntKind.i64.wrap (i : Int) = (i : Int) := by rw [IntKind.wrap_i64]; omega
        have hr : Hid (offR S = .tuple #[.int .i64 (f : Int), .int .i64 (i : Int), .bool true]) := Lib.hid (by unfold offR; rw [ef.out, if_pos ⟨rfl, c2, c3⟩])
        rw [hr.out]
        clear ef
        have Bd := Lib.hid (Below.refl w.heap.size w).drew
        go_enter Try.func26, Try.ntmps26
        go_upto_region 4 with fail
        refine wp_region_held_drew (S := (fun v => Below w.heap.size w v)) (by kernel_rfl) (Bd.out) (fun hHeld => ?_)
        refine held_take (i := 0) (v := ?_) rfl (by kernel_rfl) (by kernel_rfl) (by kernel_rfl) (fun _ _ _ h => h) (by rfl) (fun w hSw => ?_) (by assumption) ?_; rotate_left 1; focus (((try dsimp only at hSw); first | (go_simp; done) | (go_simp; with_reducible rfl)))
        try simp only [Act.put, List.setIfInBounds_toArray, List.set_cons_zero, List.set_cons_succ]
        refine held_take (i := 1) (v := ?_) rfl (by kernel_rfl) (by kernel_rfl) (by kernel_rfl) (fun _ _ _ h => h) (by rfl) (fun w hSw => ?_) (by assumption) ?_; rotate_left 1; focus (((try dsimp only at hSw); first | (go_simp; done) | (go_simp; with_reducible rfl)))
        try simp only [Act.put, List.setIfInBounds_toArray, List.set_cons_zero, List.set_cons_succ]
        refine held_take (i := 2) (v := ?_) rfl (by kernel_rfl) (by kernel_rfl) (by kernel_rfl) (fun _ _ _ h => h) (by rfl) (fun w hSw => ?_) (by assumption) ?_; rotate_left 1; focus (((try dsimp only at hSw); first | (go_simp; done) | (go_simp; with_reducible rfl)))
        try simp only [Act.put, List.setIfInBounds_toArray, List.set_cons_zero, List.set_cons_succ]
        refine held_take (i := 3) (v := ?_) rfl (by kernel_rfl) (by kernel_rfl) (by kernel_rfl) (fun _ _ _ h => h) (by rfl) (fun w hSw => ?_) (by assumption) ?_; rotate_left 1; focus (((try dsimp only at hSw); first | (go_simp; done) | (go_simp; with_reducible rfl)))
        try simp only [Act.put, List.setIfInBounds_toArray, List.set_cons_zero, List.set_cons_succ]
        refine held_take (i := 5) (v := ?_) rfl (by kernel_rfl) (by kernel_rfl) (by kernel_rfl) (fun _ _ _ h => h) (by rfl) (fun w hSw => ?_) (by assumption) ?_; rotate_left 1; focus (((try dsimp only at hSw); first | (go_simp; done) | (go_simp; with_reducible rfl)))
        try simp only [Act.put, List.setIfInBounds_toArray, List.set_cons_zero, List.set_cons_succ]
        refine held_take (i := 6) (v := ?_) rfl (by kernel_rfl) (by kernel_rfl) (by kernel_rfl) (fun _ _ _ h => h) (by rfl) (fun w hSw => ?_) (by assumption) ?_; rotate_left 1; focus (((try dsimp only at hSw); first | (go_simp; done) | (go_simp; with_reducible rfl)))
        try simp only [Act.put, List.setIfInBounds_toArray, List.set_cons_zero, List.set_cons_succ]
        refine held_take (i := 7) (v := ?_) rfl (by kernel_rfl) (by kernel_rfl) (by kernel_rfl) (fun _ _ _ h => h) (by rfl) (fun w hSw => ?_) (by assumption) ?_; rotate_left 1; focus (((try dsimp only at hSw); first | (go_simp; done) | (go_simp; with_reducible rfl)))
        try simp only [Act.put, List.setIfInBounds_toArray, List.set_cons_zero, List.set_cons_succ]
        refine held_take (i := 8) (v := ?_) rfl (by kernel_rfl) (by kernel_rfl) (by kernel_rfl) (fun _ _ _ h => h) (by rfl) (fun w hSw => ?_) (by assumption) ?_; rotate_left 1; focus (((try dsimp only at hSw); first | (go_simp; done) | (go_simp; with_reducible rfl)))
        try simp only [Act.put, List.setIfInBounds_toArray, List.set_cons_zero, List.set_cons_succ]
        refine held_take (i := 9) (v := ?_) rfl (by kernel_rfl) (by kernel_rfl) (by kernel_rfl) (fun _ _ _ h => h) (by rfl) (fun w hSw => ?_) (by assumption) ?_; rotate_left 1; focus (((try dsimp only at hSw); first | (go_simp; done) | (go_simp; with_reducible rfl)))
        try simp only [Act.put, List.setIfInBounds_toArray, List.set_cons_zero, List.set_cons_succ]
        refine held_call (i := 4) (by kernel_rfl) rfl (by rfl) (fun K hK => ?_)
        go_simp
        refine (N1.out _).mono ?_
        rintro e u1 ⟨rfl, hb1⟩
        have B1 : Hid (Below w.heap.size w u1) := (by first | exact Lib.hid (below_of (w := w) B2.out hb1) | exact Lib.hid (below_of (w := w) Bd.out hb1))
        clear hb1
        refine hK.out _ _ (B1.out) (fun hHeld => ?_)
        try simp only [Act.put, List.setIfInBounds_toArray, List.set_cons_zero, List.set_cons_succ]
        refine held_call (i := 10) (by kernel_rfl) rfl (by rfl) (fun K hK => ?_)
        go_simp
        refine (N2.out _).mono ?_
        rintro e u2 ⟨rfl, hb2⟩
        have B2 : Hid (Below w.heap.size w u2) := (by first | exact Lib.hid (below_of (w := w) B1.out hb2) | exact Lib.hid (below_of (w := w) Bd.out hb2))
        clear hb2
        refine hK.out _ _ (B2.out) (fun hHeld => ?_)
        try simp only [Act.put, List.setIfInBounds_toArray, List.set_cons_zero, List.set_cons_succ]
        refine held_take (i := 11) (v := ?_) rfl (by kernel_rfl) (by kernel_rfl) (by kernel_rfl) (fun _ _ _ h => h) (by rfl) (fun w hSw => ?_) (by assumption) ?_; rotate_left 1; focus (((try dsimp only at hSw); first | (go_simp; done) | (go_simp; with_reducible rfl)))
        try simp only [Act.put, List.setIfInBounds_toArray, List.set_cons_zero, List.set_cons_succ]
        refine held_take (i := 12) (v := ?_) rfl (by kernel_rfl) (by kernel_rfl) (by kernel_rfl) (fun _ _ _ h => h) (by rfl) (fun w hSw => ?_) (by assumption) ?_; rotate_left 1; focus (((try dsimp only at hSw); first | (go_simp; done) | (go_simp; with_reducible rfl)))
        try simp only [Act.put, List.setIfInBounds_toArray, List.set_cons_zero, List.set_cons_succ]
        refine wpAnyH_done (by kernel_rfl) ?_ _
        go_upto_region 5 with fail
        refine wp_region_held_drew (S := (fun v => Below w.heap.size w v)) (by kernel_rfl) (hHeld.drew) (fun hHeld => ?_)
        refine held_take (i := 0) (v := ?_) rfl (by kernel_rfl) (by kernel_rfl) (by kernel_rfl) (fun _ _ _ h => h) (by rfl) (fun w hSw => ?_) (by assumption) ?_; rotate_left 1; focus (((try dsimp only at hSw); first | (go_simp; done) | (go_simp; with_reducible rfl)))
        try simp only [Act.put, List.setIfInBounds_toArray, List.set_cons_zero, List.set_cons_succ]
        refine held_take (i := 1) (v := ?_) rfl (by kernel_rfl) (by kernel_rfl) (by kernel_rfl) (fun _ _ _ h => h) (by rfl) (fun w hSw => ?_) (by assumption) ?_; rotate_left 1; focus (((try dsimp only at hSw); first | (go_simp; done) | (go_simp; with_reducible rfl)))
        try simp only [Act.put, List.setIfInBounds_toArray, List.set_cons_zero, List.set_cons_succ]
        refine held_take (i := 2) (v := ?_) rfl (by kernel_rfl) (by kernel_rfl) (by kernel_rfl) (fun _ _ _ h => h) (by rfl) (fun w hSw => ?_) (by assumption) ?_; rotate_left 1; focus (((try dsimp only at hSw); first | (go_simp; done) | (go_simp; with_reducible rfl)))
        try simp only [Act.put, List.setIfInBounds_toArray, List.set_cons_zero, List.set_cons_succ]
        refine held_take (i := 3) (v := ?_) rfl (by kernel_rfl) (by kernel_rfl) (by kernel_rfl) (fun _ _ _ h => h) (by rfl) (fun w hSw => ?_) (by assumption) ?_; rotate_left 1; focus (((try dsimp only at hSw); first | (go_simp; done) | (go_simp; with_reducible rfl)))
        try simp only [Act.put, List.setIfInBounds_toArray, List.set_cons_zero, List.set_cons_succ]
        refine held_take (i := 4) (v := ?_) rfl (by kernel_rfl) (by kernel_rfl) (by kernel_rfl) (fun _ _ _ h => h) (by rfl) (fun w hSw => ?_) (by assumption) ?_; rotate_left 1; focus (((try dsimp only at hSw); first | (go_simp; done) | (go_simp; with_reducible rfl)))
        try simp only [Act.put, List.setIfInBounds_toArray, List.set_cons_zero, List.set_cons_succ]
        refine held_call (i := 5) (by kernel_rfl) rfl (by rfl) (fun K hK => ?_)
        go_simp
        refine (FC.out _).mono ?_
        rintro e u3 ⟨rfl, hb3⟩
        have B3 : Hid (Below w.heap.size w u3) := Lib.hid (below_of (w := w) hHeld hb3)
        clear hb3
        refine hK.out _ _ (B3.out) (fun hHeld => ?_)
        try simp only [Act.put, List.setIfInBounds_toArray, List.set_cons_zero, List.set_cons_succ]
        refine held_take (i := 6) (v := ?_) rfl (by kernel_rfl) (by kernel_rfl) (by kernel_rfl) (fun _ _ _ h => h) (by rfl) (fun w hSw => ?_) (by assumption) ?_; rotate_left 1; focus (((try dsimp only at hSw); first | (go_simp; done) | (go_simp; with_reducible rfl)))
        try simp only [Act.put, List.setIfInBounds_toArray, List.set_cons_zero, List.set_cons_succ]
        refine held_take (i := 7) (v := ?_) rfl (by kernel_rfl) (by kernel_rfl) (by kernel_rfl) (fun _ _ _ h => h) (by rfl) (fun w hSw => ?_) (by assumption) ?_; rotate_left 1; focus (((try dsimp only at hSw); first | (go_simp; done) | (go_simp; with_reducible rfl)))
        try simp only [Act.put, List.setIfInBounds_toArray, List.set_cons_zero, List.set_cons_succ]
        refine held_take (i := 8) (v := ?_) rfl (by kernel_rfl) (by kernel_rfl) (by kernel_rfl) (fun _ _ _ h => h) (by rfl) (fun w hSw => ?_) (by assumption) ?_; rotate_left 1; focus (((try dsimp only at hSw); first | (go_simp; done) | (go_simp; with_reducible rfl)))
        try simp only [Act.put, List.setIfInBounds_toArray, List.set_cons_zero, List.set_cons_succ]
        refine held_take (i := 9) (v := ?_) rfl (by kernel_rfl) (by kernel_rfl) (by kernel_rfl) (fun _ _ _ h => h) (by rfl) (fun w hSw => ?_) (by assumption) ?_; rotate_left 1; focus (((try dsimp only at hSw); first | (go_simp; done) | (go_simp; with_reducible rfl)))
        try simp only [Act.put, List.setIfInBounds_toArray, List.set_cons_zero, List.set_cons_succ]
        refine held_take (i := 10) (v := ?_) rfl (by kernel_rfl) (by kernel_rfl) (by kernel_rfl) (fun _ _ _ h => h) (by rfl) (fun w hSw => ?_) (by assumption) ?_; rotate_left 1; focus (((try dsimp only at hSw); first | (go_simp; done) | (go_simp; with_reducible rfl)))
        try simp only [Act.put, List.setIfInBounds_toArray, List.set_cons_zero, List.set_cons_succ]
        refine held_take (i := 11) (v := ?_) rfl (by kernel_rfl) (by kernel_rfl) (by kernel_rfl) (fun _ _ _ h => h) (by rfl) (fun w hSw => ?_) (by assumption) ?_; rotate_left 1; focus (((try dsimp only at hSw); first | (go_simp; done) | (go_simp; with_reducible rfl)))
        try simp only [Act.put, List.setIfInBounds_toArray, List.set_cons_zero, List.set_cons_succ]
        refine held_take (i := 12) (v := ?_) rfl (by kernel_rfl) (by kernel_rfl) (by kernel_rfl) (fun _ _ _ h => h) (by rfl) (fun w hSw => ?_) (by assumption) ?_; rotate_left 1; focus (((try dsimp only at hSw); first | (go_simp; done) | (go_simp; with_reducible rfl)))
        try simp only [Act.put, List.setIfInBounds_toArray, List.set_cons_zero, List.set_cons_succ]
        refine held_take (i := 13) (v := ?_) rfl (by kernel_rfl) (by kernel_rfl) (by kernel_rfl) (fun _ _ _ h => h) (by rfl) (fun w hSw => ?_) (by assumption) ?_; rotate_left 1; focus (((try dsimp only at hSw); first | (go_simp; done) | (go_simp; with_reducible rfl)))
        try simp only [Act.put, List.setIfInBounds_toArray, List.set_cons_zero, List.set_cons_succ]
        refine held_take (i := 14) (v := ?_) rfl (by kernel_rfl) (by kernel_rfl) (by kernel_rfl) (fun _ _ _ h => h) (by rfl) (fun w hSw => ?_) (by assumption) ?_; rotate_left 1; focus (((try dsimp only at hSw); first | (go_simp; done) | (go_simp; with_reducible rfl)))
        try simp only [Act.put, List.setIfInBounds_toArray, List.set_cons_zero, List.set_cons_succ]
        refine held_take (i := 15) (v := ?_) rfl (by kernel_rfl) (by kernel_rfl) (by kernel_rfl) (fun _ _ _ h => h) (by rfl) (fun w hSw => ?_) (by assumption) ?_; rotate_left 1; focus (((try dsimp only at hSw); first | (go_simp; done) | (go_simp; with_reducible rfl)))
        try simp only [Act.put, List.setIfInBounds_toArray, List.set_cons_zero, List.set_cons_succ]
        refine held_take (i := 16) (v := ?_) rfl (by kernel_rfl) (by kernel_rfl) (by kernel_rfl) (fun _ _ _ h => h) (by rfl) (fun w hSw => ?_) (by assumption) ?_; rotate_left 1; focus (((try dsimp only at hSw); first | (go_simp; done) | (go_simp; with_reducible rfl)))
        try simp only [Act.put, List.setIfInBounds_toArray, List.set_cons_zero, List.set_cons_succ]
        refine held_take (i := 17) (v := ?_) rfl (by kernel_rfl) (by kernel_rfl) (by kernel_rfl) (fun _ _ _ h => h) (by rfl) (fun w hSw => ?_) (by assumption) ?_; rotate_left 1; focus (((try dsimp only at hSw); first | (go_simp; done) | (go_simp; with_reducible rfl)))
        try simp only [Act.put, List.setIfInBounds_toArray, List.set_cons_zero, List.set_cons_succ]
        refine wpAnyH_done (by kernel_rfl) ?_ _
        go_wp2_with fail
        go_returns
        exact ⟨rfl, hHeld⟩
      · have q4 : decide ((S.length : Int) - 20 < (i : Int)) = true := decide_eq_true (by omega)
        have hr : Hid (offR S = .tuple #[.int .i64 0, .int .i64 0, .bool false]) := Lib.hid (by unfold offR; rw [ef.out, if_neg (fun h => c3 h.2.2)])
        rw [hr.out]
        clear ef
        have Bd := Lib.hid (Below.refl w.heap.size w).drew
        go_enter Try.func26, Try.ntmps26
        go_upto_region 4 with fail
        refine wp_region_held_drew (S := (fun v => Below w.heap.size w v)) (by kernel_rfl) (Bd.out) (fun hHeld => ?_)
        refine held_take (i := 0) (v := ?_) rfl (by kernel_rfl) (by kernel_rfl) (by kernel_rfl) (fun _ _ _ h => h) (by rfl) (fun w hSw => ?_) (by assumption) ?_; rotate_left 1; focus (((try dsimp only at hSw); first | (go_simp; done) | (go_simp; with_reducible rfl)))
        try simp only [Act.put, List.setIfInBounds_toArray, List.set_cons_zero, List.set_cons_succ]
        refine held_take (i := 1) (v := ?_) rfl (by kernel_rfl) (by kernel_rfl) (by kernel_rfl) (fun _ _ _ h => h) (by rfl) (fun w hSw => ?_) (by assumption) ?_; rotate_left 1; focus (((try dsimp only at hSw); first | (go_simp; done) | (go_simp; with_reducible rfl)))
        try simp only [Act.put, List.setIfInBounds_toArray, List.set_cons_zero, List.set_cons_succ]
        refine held_take (i := 2) (v := ?_) rfl (by kernel_rfl) (by kernel_rfl) (by kernel_rfl) (fun _ _ _ h => h) (by rfl) (fun w hSw => ?_) (by assumption) ?_; rotate_left 1; focus (((try dsimp only at hSw); first | (go_simp; done) | (go_simp; with_reducible rfl)))
        try simp only [Act.put, List.setIfInBounds_toArray, List.set_cons_zero, List.set_cons_succ]
        refine held_take (i := 3) (v := ?_) rfl (by kernel_rfl) (by kernel_rfl) (by kernel_rfl) (fun _ _ _ h => h) (by rfl) (fun w hSw => ?_) (by assumption) ?_; rotate_left 1; focus (((try dsimp only at hSw); first | (go_simp; done) | (go_simp; with_reducible rfl)))
        try simp only [Act.put, List.setIfInBounds_toArray, List.set_cons_zero, List.set_cons_succ]
        refine held_take (i := 5) (v := ?_) rfl (by kernel_rfl) (by kernel_rfl) (by kernel_rfl) (fun _ _ _ h => h) (by rfl) (fun w hSw => ?_) (by assumption) ?_; rotate_left 1; focus (((try dsimp only at hSw); first | (go_simp; done) | (go_simp; with_reducible rfl)))
        try simp only [Act.put, List.setIfInBounds_toArray, List.set_cons_zero, List.set_cons_succ]
        refine held_take (i := 6) (v := ?_) rfl (by kernel_rfl) (by kernel_rfl) (by kernel_rfl) (fun _ _ _ h => h) (by rfl) (fun w hSw => ?_) (by assumption) ?_; rotate_left 1; focus (((try dsimp only at hSw); first | (go_simp; done) | (go_simp; with_reducible rfl)))
        try simp only [Act.put, List.setIfInBounds_toArray, List.set_cons_zero, List.set_cons_succ]
        refine held_take (i := 7) (v := ?_) rfl (by kernel_rfl) (by kernel_rfl) (by kernel_rfl) (fun _ _ _ h => h) (by rfl) (fun w hSw => ?_) (by assumption) ?_; rotate_left 1; focus (((try dsimp only at hSw); first | (go_simp; done) | (go_simp; with_reducible rfl)))
        try simp only [Act.put, List.setIfInBounds_toArray, List.set_cons_zero, List.set_cons_succ]
        refine held_take (i := 8) (v := ?_) rfl (by kernel_rfl) (by kernel_rfl) (by kernel_rfl) (fun _ _ _ h => h) (by rfl) (fun w hSw => ?_) (by assumption) ?_; rotate_left 1; focus (((try dsimp only at hSw); first | (go_simp; done) | (go_simp; with_reducible rfl)))
        try simp only [Act.put, List.setIfInBounds_toArray, List.set_cons_zero, List.set_cons_succ]
        refine held_take (i := 9) (v := ?_) rfl (by kernel_rfl) (by kernel_rfl) (by kernel_rfl) (fun _ _ _ h => h) (by rfl) (fun w hSw => ?_) (by assumption) ?_; rotate_left 1; focus (((try dsimp only at hSw); first | (go_simp; done) | (go_simp; with_reducible rfl)))
        try simp only [Act.put, List.setIfInBounds_toArray, List.set_cons_zero, List.set_cons_succ]
        refine held_call (i := 4) (by kernel_rfl) rfl (by rfl) (fun K hK => ?_)
        go_simp
        refine (N1.out _).mono ?_
        rintro e u1 ⟨rfl, hb1⟩
        have B1 : Hid (Below w.heap.size w u1) := (by first | exact Lib.hid (below_of (w := w) B2.out hb1) | exact Lib.hid (below_of (w := w) Bd.out hb1))
        clear hb1
        refine hK.out _ _ (B1.out) (fun hHeld => ?_)
        try simp only [Act.put, List.setIfInBounds_toArray, List.set_cons_zero, List.set_cons_succ]
        refine held_call (i := 10) (by kernel_rfl) rfl (by rfl) (fun K hK => ?_)
        go_simp
        refine (N2.out _).mono ?_
        rintro e u2 ⟨rfl, hb2⟩
        have B2 : Hid (Below w.heap.size w u2) := (by first | exact Lib.hid (below_of (w := w) B1.out hb2) | exact Lib.hid (below_of (w := w) Bd.out hb2))
        clear hb2
        refine hK.out _ _ (B2.out) (fun hHeld => ?_)
        try simp only [Act.put, List.setIfInBounds_toArray, List.set_cons_zero, List.set_cons_succ]
        refine held_take (i := 11) (v := ?_) rfl (by kernel_rfl) (by kernel_rfl) (by kernel_rfl) (fun _ _ _ h => h) (by rfl) (fun w hSw => ?_) (by assumption) ?_; rotate_left 1; focus (((try dsimp only at hSw); first | (go_simp; done) | (go_simp; with_reducible rfl)))
        try simp only [Act.put, List.setIfInBounds_toArray, List.set_cons_zero, List.set_cons_succ]
        refine held_take (i := 12) (v := ?_) rfl (by kernel_rfl) (by kernel_rfl) (by kernel_rfl) (fun _ _ _ h => h) (by rfl) (fun w hSw => ?_) (by assumption) ?_; rotate_left 1; focus (((try dsimp only at hSw); first | (go_simp; done) | (go_simp; with_reducible rfl)))
        try simp only [Act.put, List.setIfInBounds_toArray, List.set_cons_zero, List.set_cons_succ]
        refine wpAnyH_done (by kernel_rfl) ?_ _
        go_upto_region 5 with fail
        refine wp_region_held_drew (S := (fun v => Below w.heap.size w v)) (by kernel_rfl) (hHeld.drew) (fun hHeld => ?_)
        refine held_take (i := 0) (v := ?_) rfl (by kernel_rfl) (by kernel_rfl) (by kernel_rfl) (fun _ _ _ h => h) (by rfl) (fun w hSw => ?_) (by assumption) ?_; rotate_left 1; focus (((try dsimp only at hSw); first | (go_simp; done) | (go_simp; with_reducible rfl)))
        try simp only [Act.put, List.setIfInBounds_toArray, List.set_cons_zero, List.set_cons_succ]
        refine held_take (i := 1) (v := ?_) rfl (by kernel_rfl) (by kernel_rfl) (by kernel_rfl) (fun _ _ _ h => h) (by rfl) (fun w hSw => ?_) (by assumption) ?_; rotate_left 1; focus (((try dsimp only at hSw); first | (go_simp; done) | (go_simp; with_reducible rfl)))
        try simp only [Act.put, List.setIfInBounds_toArray, List.set_cons_zero, List.set_cons_succ]
        refine held_take (i := 2) (v := ?_) rfl (by kernel_rfl) (by kernel_rfl) (by kernel_rfl) (fun _ _ _ h => h) (by rfl) (fun w hSw => ?_) (by assumption) ?_; rotate_left 1; focus (((try dsimp only at hSw); first | (go_simp; done) | (go_simp; with_reducible rfl)))
        try simp only [Act.put, List.setIfInBounds_toArray, List.set_cons_zero, List.set_cons_succ]
        refine held_take (i := 3) (v := ?_) rfl (by kernel_rfl) (by kernel_rfl) (by kernel_rfl) (fun _ _ _ h => h) (by rfl) (fun w hSw => ?_) (by assumption) ?_; rotate_left 1; focus (((try dsimp only at hSw); first | (go_simp; done) | (go_simp; with_reducible rfl)))
        try simp only [Act.put, List.setIfInBounds_toArray, List.set_cons_zero, List.set_cons_succ]
        refine held_take (i := 4) (v := ?_) rfl (by kernel_rfl) (by kernel_rfl) (by kernel_rfl) (fun _ _ _ h => h) (by rfl) (fun w hSw => ?_) (by assumption) ?_; rotate_left 1; focus (((try dsimp only at hSw); first | (go_simp; done) | (go_simp; with_reducible rfl)))
        try simp only [Act.put, List.setIfInBounds_toArray, List.set_cons_zero, List.set_cons_succ]
        refine held_call (i := 5) (by kernel_rfl) rfl (by rfl) (fun K hK => ?_)
        go_simp
        refine (FC.out _).mono ?_
        rintro e u3 ⟨rfl, hb3⟩
        have B3 : Hid (Below w.heap.size w u3) := Lib.hid (below_of (w := w) hHeld hb3)
        clear hb3
        refine hK.out _ _ (B3.out) (fun hHeld => ?_)
        try simp only [Act.put, List.setIfInBounds_toArray, List.set_cons_zero, List.set_cons_succ]
        refine held_take (i := 6) (v := ?_) rfl (by kernel_rfl) (by kernel_rfl) (by kernel_rfl) (fun _ _ _ h => h) (by rfl) (fun w hSw => ?_) (by assumption) ?_; rotate_left 1; focus (((try dsimp only at hSw); first | (go_simp; done) | (go_simp; with_reducible rfl)))
        try simp only [Act.put, List.setIfInBounds_toArray, List.set_cons_zero, List.set_cons_succ]
        refine held_take (i := 7) (v := ?_) rfl (by kernel_rfl) (by kernel_rfl) (by kernel_rfl) (fun _ _ _ h => h) (by rfl) (fun w hSw => ?_) (by assumption) ?_; rotate_left 1; focus (((try dsimp only at hSw); first | (go_simp; done) | (go_simp; with_reducible rfl)))
        try simp only [Act.put, List.setIfInBounds_toArray, List.set_cons_zero, List.set_cons_succ]
        refine held_take (i := 8) (v := ?_) rfl (by kernel_rfl) (by kernel_rfl) (by kernel_rfl) (fun _ _ _ h => h) (by rfl) (fun w hSw => ?_) (by assumption) ?_; rotate_left 1; focus (((try dsimp only at hSw); first | (go_simp; done) | (go_simp; with_reducible rfl)))
        try simp only [Act.put, List.setIfInBounds_toArray, List.set_cons_zero, List.set_cons_succ]
        refine held_take (i := 9) (v := ?_) rfl (by kernel_rfl) (by kernel_rfl) (by kernel_rfl) (fun _ _ _ h => h) (by rfl) (fun w hSw => ?_) (by assumption) ?_; rotate_left 1; focus (((try dsimp only at hSw); first | (go_simp; done) | (go_simp; with_reducible rfl)))
        try simp only [Act.put, List.setIfInBounds_toArray, List.set_cons_zero, List.set_cons_succ]
        refine held_take (i := 10) (v := ?_) rfl (by kernel_rfl) (by kernel_rfl) (by kernel_rfl) (fun _ _ _ h => h) (by rfl) (fun w hSw => ?_) (by assumption) ?_; rotate_left 1; focus (((try dsimp only at hSw); first | (go_simp; done) | (go_simp; with_reducible rfl)))
        try simp only [Act.put, List.setIfInBounds_toArray, List.set_cons_zero, List.set_cons_succ]
        refine held_take (i := 11) (v := ?_) rfl (by kernel_rfl) (by kernel_rfl) (by kernel_rfl) (fun _ _ _ h => h) (by rfl) (fun w hSw => ?_) (by assumption) ?_; rotate_left 1; focus (((try dsimp only at hSw); first | (go_simp; done) | (go_simp; with_reducible rfl)))
        try simp only [Act.put, List.setIfInBounds_toArray, List.set_cons_zero, List.set_cons_succ]
        refine held_take (i := 12) (v := ?_) rfl (by kernel_rfl) (by kernel_rfl) (by kernel_rfl) (fun _ _ _ h => h) (by rfl) (fun w hSw => ?_) (by assumption) ?_; rotate_left 1; focus (((try dsimp only at hSw); first | (go_simp; done) | (go_simp; with_reducible rfl)))
        try simp only [Act.put, List.setIfInBounds_toArray, List.set_cons_zero, List.set_cons_succ]
        refine held_take (i := 13) (v := ?_) rfl (by kernel_rfl) (by kernel_rfl) (by kernel_rfl) (fun _ _ _ h => h) (by rfl) (fun w hSw => ?_) (by assumption) ?_; rotate_left 1; focus (((try dsimp only at hSw); first | (go_simp; done) | (go_simp; with_reducible rfl)))
        try simp only [Act.put, List.setIfInBounds_toArray, List.set_cons_zero, List.set_cons_succ]
        refine held_take (i := 14) (v := ?_) rfl (by kernel_rfl) (by kernel_rfl) (by kernel_rfl) (fun _ _ _ h => h) (by rfl) (fun w hSw => ?_) (by assumption) ?_; rotate_left 1; focus (((try dsimp only at hSw); first | (go_simp; done) | (go_simp; with_reducible rfl)))
        try simp only [Act.put, List.setIfInBounds_toArray, List.set_cons_zero, List.set_cons_succ]
        refine held_take (i := 15) (v := ?_) rfl (by kernel_rfl) (by kernel_rfl) (by kernel_rfl) (fun _ _ _ h => h) (by rfl) (fun w hSw => ?_) (by assumption) ?_; rotate_left 1; focus (((try dsimp only at hSw); first | (go_simp; done) | (go_simp; with_reducible rfl)))
        try simp only [Act.put, List.setIfInBounds_toArray, List.set_cons_zero, List.set_cons_succ]
        refine held_take (i := 16) (v := ?_) rfl (by kernel_rfl) (by kernel_rfl) (by kernel_rfl) (fun _ _ _ h => h) (by rfl) (fun w hSw => ?_) (by assumption) ?_; rotate_left 1; focus (((try dsimp only at hSw); first | (go_simp; done) | (go_simp; with_reducible rfl)))
        try simp only [Act.put, List.setIfInBounds_toArray, List.set_cons_zero, List.set_cons_succ]
        refine held_take (i := 17) (v := ?_) rfl (by kernel_rfl) (by kernel_rfl) (by kernel_rfl) (fun _ _ _ h => h) (by rfl) (fun w hSw => ?_) (by assumption) ?_; rotate_left 1; focus (((try dsimp only at hSw); first | (go_simp; done) | (go_simp; with_reducible rfl)))
        try simp only [Act.put, List.setIfInBounds_toArray, List.set_cons_zero, List.set_cons_succ]
        refine wpAnyH_done (by kernel_rfl) ?_ _
        go_wp2_with fail
        go_returns
        exact ⟨rfl, hHeld⟩
    · have q2 : decide ((i : Int) < (f : Int)) = true := decide_eq_true (by omega)
      have q3 : decide (i < f) = true := decide_eq_true (by omega)
      have hr : Hid (offR S = .tuple #[.int .i64 0, .int .i64 0, .bool false]) := Lib.hid (by unfold offR; rw [ef.out, if_neg (fun h => c2 h.2.1)])
      rw [hr.out]
      clear ef
      have Bd := Lib.hid (Below.refl w.heap.size w).drew
      go_enter Try.func26, Try.ntmps26
      go_upto_region 4 with fail
      refine wp_region_held_drew (S := (fun v => Below w.heap.size w v)) (by kernel_rfl) (Bd.out) (fun hHeld => ?_)
      refine held_take (i := 0) (v := ?_) rfl (by kernel_rfl) (by kernel_rfl) (by kernel_rfl) (fun _ _ _ h => h) (by rfl) (fun w hSw => ?_) (by assumption) ?_; rotate_left 1; focus (((try dsimp only at hSw); first | (go_simp; done) | (go_simp; with_reducible rfl)))
      try simp only [Act.put, List.setIfInBounds_toArray, List.set_cons_zero, List.set_cons_succ]
      refine held_take (i := 1) (v := ?_) rfl (by kernel_rfl) (by kernel_rfl) (by kernel_rfl) (fun _ _ _ h => h) (by rfl) (fun w hSw => ?_) (by assumption) ?_; rotate_left 1; focus (((try dsimp only at hSw); first | (go_simp; done) | (go_simp; with_reducible rfl)))
      try simp only [Act.put, List.setIfInBounds_toArray, List.set_cons_zero, List.set_cons_succ]
      refine held_take (i := 2) (v := ?_) rfl (by kernel_rfl) (by kernel_rfl) (by kernel_rfl) (fun _ _ _ h => h) (by rfl) (fun w hSw => ?_) (by assumption) ?_; rotate_left 1; focus (((try dsimp only at hSw); first | (go_simp; done) | (go_simp; with_reducible rfl)))
      try simp only [Act.put, List.setIfInBounds_toArray, List.set_cons_zero, List.set_cons_succ]
      refine held_take (i := 3) (v := ?_) rfl (by kernel_rfl) (by kernel_rfl) (by kernel_rfl) (fun _ _ _ h => h) (by rfl) (fun w hSw => ?_) (by assumption) ?_; rotate_left 1; focus (((try dsimp only at hSw); first | (go_simp; done) | (go_simp; with_reducible rfl)))
      try simp only [Act.put, List.setIfInBounds_toArray, List.set_cons_zero, List.set_cons_succ]
      refine held_take (i := 5) (v := ?_) rfl (by kernel_rfl) (by kernel_rfl) (by kernel_rfl) (fun _ _ _ h => h) (by rfl) (fun w hSw => ?_) (by assumption) ?_; rotate_left 1; focus (((try dsimp only at hSw); first | (go_simp; done) | (go_simp; with_reducible rfl)))
      try simp only [Act.put, List.setIfInBounds_toArray, List.set_cons_zero, List.set_cons_succ]
      refine held_take (i := 6) (v := ?_) rfl (by kernel_rfl) (by kernel_rfl) (by kernel_rfl) (fun _ _ _ h => h) (by rfl) (fun w hSw => ?_) (by assumption) ?_; rotate_left 1; focus (((try dsimp only at hSw); first | (go_simp; done) | (go_simp; with_reducible rfl)))
      try simp only [Act.put, List.setIfInBounds_toArray, List.set_cons_zero, List.set_cons_succ]
      refine held_take (i := 7) (v := ?_) rfl (by kernel_rfl) (by kernel_rfl) (by kernel_rfl) (fun _ _ _ h => h) (by rfl) (fun w hSw => ?_) (by assumption) ?_; rotate_left 1; focus (((try dsimp only at hSw); first | (go_simp; done) | (go_simp; with_reducible rfl)))
      try simp only [Act.put, List.setIfInBounds_toArray, List.set_cons_zero, List.set_cons_succ]
      refine held_take (i := 8) (v := ?_) rfl (by kernel_rfl) (by kernel_rfl) (by kernel_rfl) (fun _ _ _ h => h) (by rfl) (fun w hSw => ?_) (by assumption) ?_; rotate_left 1; focus (((try dsimp only at hSw); first | (go_simp; done) | (go_simp; with_reducible rfl)))
      try simp only [Act.put, List.setIfInBounds_toArray, List.set_cons_zero, List.set_cons_succ]
      refine held_take (i := 9) (v := ?_) rfl (by kernel_rfl) (by kernel_rfl) (by kernel_rfl) (fun _ _ _ h => h) (by rfl) (fun w hSw => ?_) (by assumption) ?_; rotate_left 1; focus (((try dsimp only at hSw); first | (go_simp; done) | (go_simp; with_reducible rfl)))
      try simp only [Act.put, List.setIfInBounds_toArray, List.set_cons_zero, List.set_cons_succ]
      refine held_call (i := 4) (by kernel_rfl) rfl (by rfl) (fun K hK => ?_)
      go_simp
      refine (N1.out _).mono ?_
      rintro e u1 ⟨rfl, hb1⟩
      have B1 : Hid (Below w.heap.size w u1) := (by first | exact Lib.hid (below_of (w := w) B2.out hb1) | exact Lib.hid (below_of (w := w) Bd.out hb1))
      clear hb1
      refine hK.out _ _ (B1.out) (fun hHeld => ?_)
      try simp only [Act.put, List.setIfInBounds_toArray, List.set_cons_zero, List.set_cons_succ]
      refine held_call (i := 10) (by kernel_rfl) rfl (by rfl) (fun K hK => ?_)
      go_simp
      refine (N2.out _).mono ?_
      rintro e u2 ⟨rfl, hb2⟩
      have B2 : Hid (Below w.heap.size w u2) := (by first | exact Lib.hid (below_of (w := w) B1.out hb2) | exact Lib.hid (below_of (w := w) Bd.out hb2))
      clear hb2
      refine hK.out _ _ (B2.out) (fun hHeld => ?_)
      try simp only [Act.put, List.setIfInBounds_toArray, List.set_cons_zero, List.set_cons_succ]
      refine held_take (i := 11) (v := ?_) rfl (by kernel_rfl) (by kernel_rfl) (by kernel_rfl) (fun _ _ _ h => h) (by rfl) (fun w hSw => ?_) (by assumption) ?_; rotate_left 1; focus (((try dsimp only at hSw); first | (go_simp; done) | (go_simp; with_reducible rfl)))
      try simp only [Act.put, List.setIfInBounds_toArray, List.set_cons_zero, List.set_cons_succ]
      refine held_take (i := 12) (v := ?_) rfl (by kernel_rfl) (by kernel_rfl) (by kernel_rfl) (fun _ _ _ h => h) (by rfl) (fun w hSw => ?_) (by assumption) ?_; rotate_left 1; focus (((try dsimp only at hSw); first | (go_simp; done) | (go_simp; with_reducible rfl)))
      try simp only [Act.put, List.setIfInBounds_toArray, List.set_cons_zero, List.set_cons_succ]
      refine wpAnyH_done (by kernel_rfl) ?_ _
      go_upto_region 5 with fail
      refine wp_region_held_drew (S := (fun v => Below w.heap.size w v)) (by kernel_rfl) (hHeld.drew) (fun hHeld => ?_)
      refine held_take (i := 0) (v := ?_) rfl (by kernel_rfl) (by kernel_rfl) (by kernel_rfl) (fun _ _ _ h => h) (by rfl) (fun w hSw => ?_) (by assumption) ?_; rotate_left 1; focus (((try dsimp only at hSw); first | (go_simp; done) | (go_simp; with_reducible rfl)))
      try simp only [Act.put, List.setIfInBounds_toArray, List.set_cons_zero, List.set_cons_succ]
      refine held_take (i := 1) (v := ?_) rfl (by kernel_rfl) (by kernel_rfl) (by kernel_rfl) (fun _ _ _ h => h) (by rfl) (fun w hSw => ?_) (by assumption) ?_; rotate_left 1; focus (((try dsimp only at hSw); first | (go_simp; done) | (go_simp; with_reducible rfl)))
      try simp only [Act.put, List.setIfInBounds_toArray, List.set_cons_zero, List.set_cons_succ]
      refine held_take (i := 2) (v := ?_) rfl (by kernel_rfl) (by kernel_rfl) (by kernel_rfl) (fun _ _ _ h => h) (by rfl) (fun w hSw => ?_) (by assumption) ?_; rotate_left 1; focus (((try dsimp only at hSw); first | (go_simp; done) | (go_simp; with_reducible rfl)))
      try simp only [Act.put, List.setIfInBounds_toArray, List.set_cons_zero, List.set_cons_succ]
      refine held_take (i := 3) (v := ?_) rfl (by kernel_rfl) (by kernel_rfl) (by kernel_rfl) (fun _ _ _ h => h) (by rfl) (fun w hSw => ?_) (by assumption) ?_; rotate_left 1; focus (((try dsimp only at hSw); first | (go_simp; done) | (go_simp; with_reducible rfl)))
      try simp only [Act.put, List.setIfInBounds_toArray, List.set_cons_zero, List.set_cons_succ]
      refine held_take (i := 4) (v := ?_) rfl (by kernel_rfl) (by kernel_rfl) (by kernel_rfl) (fun _ _ _ h => h) (by rfl) (fun w hSw => ?_) (by assumption) ?_; rotate_left 1; focus (((try dsimp only at hSw); first | (go_simp; done) | (go_simp; with_reducible rfl)))
      try simp only [Act.put, List.setIfInBounds_toArray, List.set_cons_zero, List.set_cons_succ]
      refine held_call (i := 5) (by kernel_rfl) rfl (by rfl) (fun K hK => ?_)
      go_simp
      refine (FC.out _).mono ?_
      rintro e u3 ⟨rfl, hb3⟩
      have B3 : Hid (Below w.heap.size w u3) := Lib.hid (below_of (w := w) hHeld hb3)
      clear hb3
      refine hK.out _ _ (B3.out) (fun hHeld => ?_)
      try simp only [Act.put, List.setIfInBounds_toArray, List.set_cons_zero, List.set_cons_succ]
      refine held_take (i := 6) (v := ?_) rfl (by kernel_rfl) (by kernel_rfl) (by kernel_rfl) (fun _ _ _ h => h) (by rfl) (fun w hSw => ?_) (by assumption) ?_; rotate_left 1; focus (((try dsimp only at hSw); first | (go_simp; done) | (go_simp; with_reducible rfl)))
      try simp only [Act.put, List.setIfInBounds_toArray, List.set_cons_zero, List.set_cons_succ]
      refine held_take (i := 7) (v := ?_) rfl (by kernel_rfl) (by kernel_rfl) (by kernel_rfl) (fun _ _ _ h => h) (by rfl) (fun w hSw => ?_) (by assumption) ?_; rotate_left 1; focus (((try dsimp only at hSw); first | (go_simp; done) | (go_simp; with_reducible rfl)))
      try simp only [Act.put, List.setIfInBounds_toArray, List.set_cons_zero, List.set_cons_succ]
      refine held_take (i := 8) (v := ?_) rfl (by kernel_rfl) (by kernel_rfl) (by kernel_rfl) (fun _ _ _ h => h) (by rfl) (fun w hSw => ?_) (by assumption) ?_; rotate_left 1; focus (((try dsimp only at hSw); first | (go_simp; done) | (go_simp; with_reducible rfl)))
      try simp only [Act.put, List.setIfInBounds_toArray, List.set_cons_zero, List.set_cons_succ]
      refine held_take (i := 9) (v := ?_) rfl (by kernel_rfl) (by kernel_rfl) (by kernel_rfl) (fun _ _ _ h => h) (by rfl) (fun w hSw => ?_) (by assumption) ?_; rotate_left 1; focus (((try dsimp only at hSw); first | (go_simp; done) | (go_simp; with_reducible rfl)))
      try simp only [Act.put, List.setIfInBounds_toArray, List.set_cons_zero, List.set_cons_succ]
      refine held_take (i := 10) (v := ?_) rfl (by kernel_rfl) (by kernel_rfl) (by kernel_rfl) (fun _ _ _ h => h) (by rfl) (fun w hSw => ?_) (by assumption) ?_; rotate_left 1; focus (((try dsimp only at hSw); first | (go_simp; done) | (go_simp; with_reducible rfl)))
      try simp only [Act.put, List.setIfInBounds_toArray, List.set_cons_zero, List.set_cons_succ]
      refine held_take (i := 11) (v := ?_) rfl (by kernel_rfl) (by kernel_rfl) (by kernel_rfl) (fun _ _ _ h => h) (by rfl) (fun w hSw => ?_) (by assumption) ?_; rotate_left 1; focus (((try dsimp only at hSw); first | (go_simp; done) | (go_simp; with_reducible rfl)))
      try simp only [Act.put, List.setIfInBounds_toArray, List.set_cons_zero, List.set_cons_succ]
      refine held_take (i := 12) (v := ?_) rfl (by kernel_rfl) (by kernel_rfl) (by kernel_rfl) (fun _ _ _ h => h) (by rfl) (fun w hSw => ?_) (by assumption) ?_; rotate_left 1; focus (((try dsimp only at hSw); first | (go_simp; done) | (go_simp; with_reducible rfl)))
      try simp only [Act.put, List.setIfInBounds_toArray, List.set_cons_zero, List.set_cons_succ]
      refine held_skip (i := 13) rfl (by kernel_rfl) (by kernel_rfl) (by kernel_rfl) (fun _ _ _ h => h) (by rfl) (by assumption) ?_
      try simp only [Act.put, List.setIfInBounds_toArray, List.set_cons_zero, List.set_cons_succ]
      refine held_skip (i := 14) rfl (by kernel_rfl) (by kernel_rfl) (by kernel_rfl) (fun _ _ _ h => h) (by rfl) (by assumption) ?_
      try simp only [Act.put, List.setIfInBounds_toArray, List.set_cons_zero, List.set_cons_succ]
      refine held_skip (i := 15) rfl (by kernel_rfl) (by kernel_rfl) (by kernel_rfl) (fun _ _ _ h => h) (by rfl) (by assumption) ?_
      try simp only [Act.put, List.setIfInBounds_toArray, List.set_cons_zero, List.set_cons_succ]
      refine held_skip (i := 16) rfl (by kernel_rfl) (by kernel_rfl) (by kernel_rfl) (fun _ _ _ h => h) (by rfl) (by assumption) ?_
      try simp only [Act.put, List.setIfInBounds_toArray, List.set_cons_zero, List.set_cons_succ]
      refine held_take (i := 17) (v := ?_) rfl (by kernel_rfl) (by kernel_rfl) (by kernel_rfl) (fun _ _ _ h => h) (by rfl) (fun w hSw => ?_) (by assumption) ?_; rotate_left 1; focus (((try dsimp only at hSw); first | (go_simp; done) | (go_simp; with_reducible rfl)))
      try simp only [Act.put, List.setIfInBounds_toArray, List.set_cons_zero, List.set_cons_succ]
      refine wpAnyH_done (by kernel_rfl) ?_ _
      go_wp2_with fail
      go_returns
      exact ⟨rfl, hHeld⟩
  · have q1 : (F == T) = false := by rw [beq_eq_false_iff_ne]; exact c1
    have hr : Hid (offR S = .tuple #[.int .i64 0, .int .i64 0, .bool false]) := Lib.hid (by unfold offR; rw [ef.out, if_neg (fun h => c1 h.1)])
    rw [hr.out]
    clear ef
    have Bd := Lib.hid (Below.refl w.heap.size w).drew
    go_enter Try.func26, Try.ntmps26
    go_upto_region 4 with fail
    refine wp_region_held_drew (S := (fun v => Below w.heap.size w v)) (by kernel_rfl) (Bd.out) (fun hHeld => ?_)
    refine held_take (i := 0) (v := ?_) rfl (by kernel_rfl) (by kernel_rfl) (by kernel_rfl) (fun _ _ _ h => h) (by rfl) (fun w hSw => ?_) (by assumption) ?_; rotate_left 1; focus (((try dsimp only at hSw); first | (go_simp; done) | (go_simp; with_reducible rfl)))
    try simp only [Act.put, List.setIfInBounds_toArray, List.set_cons_zero, List.set_cons_succ]
    refine held_take (i := 1) (v := ?_) rfl (by kernel_rfl) (by kernel_rfl) (by kernel_rfl) (fun _ _ _ h => h) (by rfl) (fun w hSw => ?_) (by assumption) ?_; rotate_left 1; focus (((try dsimp only at hSw); first | (go_simp; done) | (go_simp; with_reducible rfl)))
    try simp only [Act.put, List.setIfInBounds_toArray, List.set_cons_zero, List.set_cons_succ]
    refine held_take (i := 2) (v := ?_) rfl (by kernel_rfl) (by kernel_rfl) (by kernel_rfl) (fun _ _ _ h => h) (by rfl) (fun w hSw => ?_) (by assumption) ?_; rotate_left 1; focus (((try dsimp only at hSw); first | (go_simp; done) | (go_simp; with_reducible rfl)))
    try simp only [Act.put, List.setIfInBounds_toArray, List.set_cons_zero, List.set_cons_succ]
    refine held_take (i := 3) (v := ?_) rfl (by kernel_rfl) (by kernel_rfl) (by kernel_rfl) (fun _ _ _ h => h) (by rfl) (fun w hSw => ?_) (by assumption) ?_; rotate_left 1; focus (((try dsimp only at hSw); first | (go_simp; done) | (go_simp; with_reducible rfl)))
    try simp only [Act.put, List.setIfInBounds_toArray, List.set_cons_zero, List.set_cons_succ]
    refine held_take (i := 5) (v := ?_) rfl (by kernel_rfl) (by kernel_rfl) (by kernel_rfl) (fun _ _ _ h => h) (by rfl) (fun w hSw => ?_) (by assumption) ?_; rotate_left 1; focus (((try dsimp only at hSw); first | (go_simp; done) | (go_simp; with_reducible rfl)))
    try simp only [Act.put, List.setIfInBounds_toArray, List.set_cons_zero, List.set_cons_succ]
    refine held_take (i := 6) (v := ?_) rfl (by kernel_rfl) (by kernel_rfl) (by kernel_rfl) (fun _ _ _ h => h) (by rfl) (fun w hSw => ?_) (by assumption) ?_; rotate_left 1; focus (((try dsimp only at hSw); first | (go_simp; done) | (go_simp; with_reducible rfl)))
    try simp only [Act.put, List.setIfInBounds_toArray, List.set_cons_zero, List.set_cons_succ]
    refine held_take (i := 7) (v := ?_) rfl (by kernel_rfl) (by kernel_rfl) (by kernel_rfl) (fun _ _ _ h => h) (by rfl) (fun w hSw => ?_) (by assumption) ?_; rotate_left 1; focus (((try dsimp only at hSw); first | (go_simp; done) | (go_simp; with_reducible rfl)))
    try simp only [Act.put, List.setIfInBounds_toArray, List.set_cons_zero, List.set_cons_succ]
    refine held_take (i := 8) (v := ?_) rfl (by kernel_rfl) (by kernel_rfl) (by kernel_rfl) (fun _ _ _ h => h) (by rfl) (fun w hSw => ?_) (by assumption) ?_; rotate_left 1; focus (((try dsimp only at hSw); first | (go_simp; done) | (go_simp; with_reducible rfl)))
    try simp only [Act.put, List.setIfInBounds_toArray, List.set_cons_zero, List.set_cons_succ]
    refine held_take (i := 9) (v := ?_) rfl (by kernel_rfl) (by kernel_rfl) (by kernel_rfl) (fun _ _ _ h => h) (by rfl) (fun w hSw => ?_) (by assumption) ?_; rotate_left 1; focus (((try dsimp only at hSw); first | (go_simp; done) | (go_simp; with_reducible rfl)))
    try simp only [Act.put, List.setIfInBounds_toArray, List.set_cons_zero, List.set_cons_succ]
    refine held_call (i := 4) (by kernel_rfl) rfl (by rfl) (fun K hK => ?_)
    go_simp
    refine (N1.out _).mono ?_
    rintro e u1 ⟨rfl, hb1⟩
    have B1 : Hid (Below w.heap.size w u1) := (by first | exact Lib.hid (below_of (w := w) B2.out hb1) | exact Lib.hid (below_of (w := w) Bd.out hb1))
    clear hb1
    refine hK.out _ _ (B1.out) (fun hHeld => ?_)
    try simp only [Act.put, List.setIfInBounds_toArray, List.set_cons_zero, List.set_cons_succ]
    refine held_call (i := 10) (by kernel_rfl) rfl (by rfl) (fun K hK => ?_)
    go_simp
    refine (N2.out _).mono ?_
    rintro e u2 ⟨rfl, hb2⟩
    have B2 : Hid (Below w.heap.size w u2) := (by first | exact Lib.hid (below_of (w := w) B1.out hb2) | exact Lib.hid (below_of (w := w) Bd.out hb2))
    clear hb2
    refine hK.out _ _ (B2.out) (fun hHeld => ?_)
    try simp only [Act.put, List.setIfInBounds_toArray, List.set_cons_zero, List.set_cons_succ]
    refine held_take (i := 11) (v := ?_) rfl (by kernel_rfl) (by kernel_rfl) (by kernel_rfl) (fun _ _ _ h => h) (by rfl) (fun w hSw => ?_) (by assumption) ?_; rotate_left 1; focus (((try dsimp only at hSw); first | (go_simp; done) | (go_simp; with_reducible rfl)))
    try simp only [Act.put, List.setIfInBounds_toArray, List.set_cons_zero, List.set_cons_succ]
    refine held_take (i := 12) (v := ?_) rfl (by kernel_rfl) (by kernel_rfl) (by kernel_rfl) (fun _ _ _ h => h) (by rfl) (fun w hSw => ?_) (by assumption) ?_; rotate_left 1; focus (((try dsimp only at hSw); first | (go_simp; done) | (go_simp; with_reducible rfl)))
    try simp only [Act.put, List.setIfInBounds_toArray, List.set_cons_zero, List.set_cons_succ]
    refine wpAnyH_done (by kernel_rfl) ?_ _
    go_upto_region 5 with fail
    refine wp_region_held_drew (S := (fun v => Below w.heap.size w v)) (by kernel_rfl) (hHeld.drew) (fun hHeld => ?_)
    refine held_take (i := 0) (v := ?_) rfl (by kernel_rfl) (by kernel_rfl) (by kernel_rfl) (fun _ _ _ h => h) (by rfl) (fun w hSw => ?_) (by assumption) ?_; rotate_left 1; focus (((try dsimp only at hSw); first | (go_simp; done) | (go_simp; with_reducible rfl)))
    try simp only [Act.put, List.setIfInBounds_toArray, List.set_cons_zero, List.set_cons_succ]
    refine held_take (i := 1) (v := ?_) rfl (by kernel_rfl) (by kernel_rfl) (by kernel_rfl) (fun _ _ _ h => h) (by rfl) (fun w hSw => ?_) (by assumption) ?_; rotate_left 1; focus (((try dsimp only at hSw); first | (go_simp; done) | (go_simp; with_reducible rfl)))
    try simp only [Act.put, List.setIfInBounds_toArray, List.set_cons_zero, List.set_cons_succ]
    refine held_take (i := 2) (v := ?_) rfl (by kernel_rfl) (by kernel_rfl) (by kernel_rfl) (fun _ _ _ h => h) (by rfl) (fun w hSw => ?_) (by assumption) ?_; rotate_left 1; focus (((try dsimp only at hSw); first | (go_simp; done) | (go_simp; with_reducible rfl)))
    try simp only [Act.put, List.setIfInBounds_toArray, List.set_cons_zero, List.set_cons_succ]
    refine held_take (i := 3) (v := ?_) rfl (by kernel_rfl) (by kernel_rfl) (by kernel_rfl) (fun _ _ _ h => h) (by rfl) (fun w hSw => ?_) (by assumption) ?_; rotate_left 1; focus (((try dsimp only at hSw); first | (go_simp; done) | (go_simp; with_reducible rfl)))
    try simp only [Act.put, List.setIfInBounds_toArray, List.set_cons_zero, List.set_cons_succ]
    refine held_take (i := 4) (v := ?_) rfl (by kernel_rfl) (by kernel_rfl) (by kernel_rfl) (fun _ _ _ h => h) (by rfl) (fun w hSw => ?_) (by assumption) ?_; rotate_left 1; focus (((try dsimp only at hSw); first | (go_simp; done) | (go_simp; with_reducible rfl)))
    try simp only [Act.put, List.setIfInBounds_toArray, List.set_cons_zero, List.set_cons_succ]
    refine held_call (i := 5) (by kernel_rfl) rfl (by rfl) (fun K hK => ?_)
    go_simp
    refine (FC.out _).mono ?_
    rintro e u3 ⟨rfl, hb3⟩
    have B3 : Hid (Below w.heap.size w u3) := Lib.hid (below_of (w := w) hHeld hb3)
    clear hb3
    refine hK.out _ _ (B3.out) (fun hHeld => ?_)
    try simp only [Act.put, List.setIfInBounds_toArray, List.set_cons_zero, List.set_cons_succ]
    refine held_take (i := 6) (v := ?_) rfl (by kernel_rfl) (by kernel_rfl) (by kernel_rfl) (fun _ _ _ h => h) (by rfl) (fun w hSw => ?_) (by assumption) ?_; rotate_left 1; focus (((try dsimp only at hSw); first | (go_simp; done) | (go_simp; with_reducible rfl)))
    try simp only [Act.put, List.setIfInBounds_toArray, List.set_cons_zero, List.set_cons_succ]
    refine held_take (i := 7) (v := ?_) rfl (by kernel_rfl) (by kernel_rfl) (by kernel_rfl) (fun _ _ _ h => h) (by rfl) (fun w hSw => ?_) (by assumption) ?_; rotate_left 1; focus (((try dsimp only at hSw); first | (go_simp; done) | (go_simp; with_reducible rfl)))
    try simp only [Act.put, List.setIfInBounds_toArray, List.set_cons_zero, List.set_cons_succ]
    refine held_skip (i := 8) rfl (by kernel_rfl) (by kernel_rfl) (by kernel_rfl) (fun _ _ _ h => h) (by rfl) (by assumption) ?_
    try simp only [Act.put, List.setIfInBounds_toArray, List.set_cons_zero, List.set_cons_succ]
    refine held_skip (i := 9) rfl (by kernel_rfl) (by kernel_rfl) (by kernel_rfl) (fun _ _ _ h => h) (by rfl) (by assumption) ?_
    try simp only [Act.put, List.setIfInBounds_toArray, List.set_cons_zero, List.set_cons_succ]
    refine held_skip (i := 10) rfl (by kernel_rfl) (by kernel_rfl) (by kernel_rfl) (fun _ _ _ h => h) (by rfl) (by assumption) ?_
    try simp only [Act.put, List.setIfInBounds_toArray, List.set_cons_zero, List.set_cons_succ]
    refine held_take (i := 11) (v := ?_) rfl (by kernel_rfl) (by kernel_rfl) (by kernel_rfl) (fun _ _ _ h => h) (by rfl) (fun w hSw => ?_) (by assumption) ?_; rotate_left 1; focus (((try dsimp only at hSw); first | (go_simp; done) | (go_simp; with_reducible rfl)))
    try simp only [Act.put, List.setIfInBounds_toArray, List.set_cons_zero, List.set_cons_succ]
    refine held_take (i := 12) (v := ?_) rfl (by kernel_rfl) (by kernel_rfl) (by kernel_rfl) (fun _ _ _ h => h) (by rfl) (fun w hSw => ?_) (by assumption) ?_; rotate_left 1; focus (((try dsimp only at hSw); first | (go_simp; done) | (go_simp; with_reducible rfl)))
    try simp only [Act.put, List.setIfInBounds_toArray, List.set_cons_zero, List.set_cons_succ]
    refine held_skip (i := 13) rfl (by kernel_rfl) (by kernel_rfl) (by kernel_rfl) (fun _ _ _ h => h) (by rfl) (by assumption) ?_
    try simp only [Act.put, List.setIfInBounds_toArray, List.set_cons_zero, List.set_cons_succ]
    refine held_skip (i := 14) rfl (by kernel_rfl) (by kernel_rfl) (by kernel_rfl) (fun _ _ _ h => h) (by rfl) (by assumption) ?_
    try simp only [Act.put, List.setIfInBounds_toArray, List.set_cons_zero, List.set_cons_succ]
    refine held_skip (i := 15) rfl (by kernel_rfl) (by kernel_rfl) (by kernel_rfl) (fun _ _ _ h => h) (by rfl) (by assumption) ?_
    try simp only [Act.put, List.setIfInBounds_toArray, List.set_cons_zero, List.set_cons_succ]
    refine held_skip (i := 16) rfl (by kernel_rfl) (by kernel_rfl) (by kernel_rfl) (fun _ _ _ h => h) (by rfl) (by assumption) ?_
    try simp only [Act.put, List.setIfInBounds_toArray, List.set_cons_zero, List.set_cons_succ]
    refine held_take (i := 17) (v := ?_) rfl (by kernel_rfl) (by kernel_rfl) (by kernel_rfl) (fun _ _ _ h => h) (by rfl) (fun w hSw => ?_) (by assumption) ?_; rotate_left 1; focus (((try dsimp only at hSw); first | (go_simp; done) | (go_simp; with_reducible rfl)))
    try simp only [Act.put, List.setIfInBounds_toArray, List.set_cons_zero, List.set_cons_succ]
    refine wpAnyH_done (by kernel_rfl) ?_ _
    go_wp2_with fail
    go_returns
    exact ⟨rfl, hHeld⟩
theorem offsets_any (S : List UInt8) (hS : S.length ≤ 1048576) (w : World) : Calls Try.prog 26 #[.string ⟨S.toArray⟩] w fun e w' => e = .returned (offR S) ∧ Below w.heap.size w w' := by
  by_cases h : S.length < 20 ∨ 262144 < S.length
  · have : offR S = .tuple #[.int .i64 0, .int .i64 0, .bool false] := by unfold offR offT; rw [if_pos h]
    rw [this]
    exact offsets_short S hS h w
  · exact offsets_long S (by omega) (by omega) w
end Go.Proofs.Ytmjakkemiiigpaa
