/-
  The contract of Build. Condition: at most 1024 rows.
-/
import Derived.Test.YtmjakkemiiigpaaPack7
namespace Go.Proofs.Ytmjakkemiiigpaa
set_option maxRecDepth 100000
open Go.RowKit
/-- A table's bytes: the data blocks, the filter, the index, the footer. -/
def fltT (l : List Rw) (K : Nat) : List UInt8 := Blm.text ((keysT l).map fun x => x.data.toList) K
def tabT (l : List Rw) (R : Int) (K : Nat) (xs : List (Nat × Nat)) : List UInt8 :=
  dtx l R xs ++ Frame.put (fltT l K) ++ Frame.put (buildB (entG l R 0 xs) 1).1 ++ footB (dtx l R xs).length ((dtx l R xs).length + (Frame.put (fltT l K)).length)
theorem wr_u64 (x : Int) (h0 : 0 ≤ x) (h1 : x ≤ 1000000) : IntKind.u64.wrap x = x := by rw [IntKind.wrap_u64]; omega
theorem wr_w64 (x : Int) (h0 : 0 ≤ x) (h1 : x ≤ 1000000) : wrap64 x = x := by unfold wrap64; omega
theorem flt_len (l : List Rw) (hl : l.length ≤ 1024) {K : Nat} (h1 : 1 ≤ K) (h2 : K ≤ 32) : (fltT l K).length ≤ 262145 := by
  have hk := keysN_len l l.length
  unfold fltT Blm.text
  rw [List.length_cons, Blm.filt_length]
  have := Blm.wide_le ((keysT l).map fun x => x.data.toList).length K (by rw [List.length_map]; unfold keysT; omega) h2
  omega
theorem keysN_mem (l : List Rw) : ∀ j, j ≤ l.length → ∀ k ∈ keysN l j, ∃ x ∈ l, x.key = k
  | 0, _, k, h => by cases h
  | j + 1, hj, k, h => by
    rw [keysN] at h
    rcases List.mem_append.1 h with h | h
    · exact keysN_mem l j (by omega) k h
    · split at h
      · rw [List.mem_singleton.1 h]
        have hx : l[j]? = some l[j] := List.getElem?_eq_getElem (by omega)
        rw [rwAt_some hx]
        exact ⟨_, List.getElem_mem _, rfl⟩
      · cases h
theorem keysT_size {l : List Rw} (h : ∀ x ∈ l, x.key.size ≤ maxLen) : ∀ k ∈ keysT l, k.size ≤ maxLen := fun k hk => by
  obtain ⟨x, hx, rfl⟩ := keysN_mem l l.length (Nat.le_refl _) k hk
  exact h x hx
/-- The table of rows. -/
structure Built (l : List Rw) (B R : Int) (K : Nat) (xs : List (Nat × Nat)) (s : List UInt8) : Prop where
  arg : argT l B R (K : Int) = false
  good : Good l B R xs
  all : tot xs = l.length
  flt : (fltT l K).length ≤ 65536
  idx : (buildB (entG l R 0 xs) 1).2 = 0
  is : s = tabT l R K xs
  most : s.length ≤ 262144
def BuildD (l : List Rw) (B R K : Int) (w : World) (e : Ending) (w' : World) : Prop :=
  (∃ xs s, Built l B R K.toNat xs s ∧ e = .returned (.tuple #[.string ⟨s.toArray⟩, .int .i64 0]) ∧ Below w.heap.size w w') ∨
  ((∀ xs s, ¬ Built l B R K.toNat xs s) ∧ (∃ E : Nat, E = (if argT l B R K = true then 2 else 3) ∧ e = .returned (.tuple #[.string ⟨#[]⟩, .int .i64 (E : Int)])) ∧ Below w.heap.size w w')
theorem buildB_len (l : List Rw) (d : Int) : (buildB l d).1.length ≤ 65536 := by
  unfold buildB
  split
  · simp
  · split
    · simp
    · simp only; omega
theorem argT_parts {l : List Rw} {B R K : Int} (h : argT l B R K = false) : 1 ≤ R ∧ R ≤ 64 ∧ ordR l = true ∧ ∀ x ∈ l, badR x = false := by
  unfold argT at h
  simp only [Bool.or_eq_false_iff, decide_eq_false_iff_not, Bool.not_eq_false'] at h
  obtain ⟨⟨⟨⟨⟨⟨⟨h1, h2⟩, h3⟩, h4⟩, h5⟩, h6⟩, h7⟩, h8⟩ := h
  refine ⟨by omega, by omega, h7, fun x hx => ?_⟩
  rw [Bool.eq_false_iff]
  intro hb
  have : l.any badR = true := List.any_eq_true.2 ⟨x, hx, hb⟩
  rw [h8] at this; cases this
theorem three_of {c : List Rw} {d : Int} (h1 : 1 ≤ d) (h2 : d ≤ 64) (ho : ordR c = true) (hb : ∀ x ∈ c, badR x = false) : (buildB c d).2 = 0 ∨ (buildB c d).2 = 3 := by
  have ha : c.any badR = false := by
    rw [Bool.eq_false_iff]
    intro h
    obtain ⟨x, hx, hq⟩ := List.any_eq_true.1 h
    rw [hb x hx] at hq; cases hq
  have hk : chkA c d = 0 ∨ chkA c d = 3 := by
    unfold chkA
    rw [if_neg (by rw [ho]; simp; omega), if_neg (by rw [ha]; simp)]
    split
    · exact .inr rfl
    · exact .inl rfl
  unfold buildB
  rcases hk with hk | hk
  · rw [if_neg (by rw [hk]; simp)]
    split
    · exact .inr rfl
    · exact .inl rfl
  · rw [if_pos (by rw [hk]; simp)]; exact .inr hk
theorem chunk_at {l : List Rw} {k j i : Nat} {x : Rw} (h : (chunk l (k, j))[i]? = some x) : l[k + i]? = some x ∧ i < j := by
  unfold chunk at h
  simp only at h
  rw [List.getElem?_take] at h
  split at h
  · rw [List.getElem?_drop] at h; exact ⟨h, by assumption⟩
  · cases h
theorem chunk_three {l : List Rw} {B R K : Int} (h : argT l B R K = false) (hl : l.length ≤ 1024) (k j : Nat) : (buildB (chunk l (k, j)) R).2 = 0 ∨ (buildB (chunk l (k, j)) R).2 = 3 := by
  obtain ⟨h1, h2, h3, h4⟩ := argT_parts h
  refine three_of h1 h2 ?_ (fun x hx => h4 x (List.mem_of_mem_drop (List.mem_of_mem_take hx)))
  refine (ordR_iff _).2 fun i x y hx hy => (ordR_iff l).1 h3 (k + i) x y (chunk_at hx).1 (by have := (chunk_at hy).1; rwa [← Nat.add_assoc] at this)
theorem entG_at (l : List Rw) (R : Int) : ∀ (off : Nat) (xs : List (Nat × Nat)) (i : Nat) (y : Rw), (entG l R off xs)[i]? = some y → ∃ x o, xs[i]? = some x ∧ y = enRow (enOf (chunk l x)) o
  | _, [], i, y, h => by simp [entG] at h
  | off, x :: r, 0, y, h => by
    simp [entG] at h
    exact ⟨x, off, rfl, h.symm⟩
  | off, x :: r, i + 1, y, h => by
    rw [entG, List.getElem?_cons_succ] at h
    obtain ⟨x', o, h1, h2⟩ := entG_at l R _ r i y h
    exact ⟨x', o, by simpa using h1, h2⟩
theorem last_of {l : List Rw} {B R : Int} {xs : List (Nat × Nat)} (h : Divs l.length (fitAt l B R) xs) {i : Nat} {x : Nat × Nat} (hx : xs[i]? = some x) : 1 ≤ tot (xs.take (i + 1)) ∧ tot (xs.take i) < tot (xs.take (i + 1)) ∧ ∃ y, l[tot (xs.take (i + 1)) - 1]? = some y ∧ enOf (chunk l x) = ⟨(rwAt l x.1).key, y.key, y.seq, x.2⟩ ∧ (chunk l x).length = x.2 := by
  obtain ⟨h1, h2, h3, h4, _⟩ := h i x hx
  have e : tot (xs.take (i + 1)) = x.1 + x.2 := by rw [List.take_add_one, hx, tot_app, ← h1]; simp [tot]
  rw [e]
  have hlt : x.1 + x.2 - 1 < l.length := by omega
  obtain ⟨y, hy⟩ : ∃ y, l[x.1 + x.2 - 1]? = some y := ⟨_, List.getElem?_eq_getElem hlt⟩
  have hc : (chunk l x).length = x.2 := by unfold chunk; rw [List.length_take, List.length_drop]; omega
  refine ⟨by omega, by omega, y, hy, ?_, hc⟩
  have g : ∀ i, i < x.2 → rwAt (chunk l x) i = rwAt l (x.1 + i) := fun i hi => by
    unfold rwAt chunk
    rw [List.getD_eq_getElem?_getD, List.getD_eq_getElem?_getD, List.getElem?_take, if_pos hi, List.getElem?_drop]
  unfold enOf
  rw [if_neg (by omega), hc, g 0 (by omega), g (x.2 - 1) (by omega), show x.1 + (x.2 - 1) = x.1 + x.2 - 1 by omega, rwAt_some hy, Nat.add_zero]
theorem idx_order {l : List Rw} {B R : Int} (ho : ordR l = true) {xs : List (Nat × Nat)} (hg : Divs l.length (fitAt l B R) xs) : ordR (entG l R 0 xs) = true := by
  have hs := sorted_of ho
  refine (ordR_iff _).2 fun i x y hx hy => ?_
  obtain ⟨cx, ox, hcx, rfl⟩ := entG_at l R 0 xs i x hx
  obtain ⟨cy, oy, hcy, rfl⟩ := entG_at l R 0 xs (i + 1) y hy
  obtain ⟨_, _, u, hu, eu, _⟩ := last_of hg hcx
  obtain ⟨_, k2, v, hv, ev, _⟩ := last_of hg hcy
  have k1 := (last_of hg hcx).1
  rw [eu, ev]
  have e : ahd (enRow ⟨(rwAt l cx.1).key, u.key, u.seq, cx.2⟩ ox) v.key v.seq = ahd u v.key v.seq := rfl
  show ahd (enRow ⟨(rwAt l cx.1).key, u.key, u.seq, cx.2⟩ ox) v.key v.seq = true
  rw [e]
  have := List.pairwise_iff_getElem.1 hs (tot (xs.take (i + 1)) - 1) (tot (xs.take (i + 1 + 1)) - 1) (List.getElem?_eq_some_iff.1 hu).1 (List.getElem?_eq_some_iff.1 hv).1 (by omega)
  rw [(List.getElem?_eq_some_iff.1 hu).2, (List.getElem?_eq_some_iff.1 hv).2] at this
  exact this
theorem idx_bad {l : List Rw} {B R : Int} (hb : ∀ x ∈ l, badR x = false) {xs : List (Nat × Nat)} (hg : Divs l.length (fitAt l B R) xs) : ∀ x ∈ entG l R 0 xs, badR x = false := fun x hx => by
  obtain ⟨i, hi, rfl⟩ := List.getElem_of_mem hx
  obtain ⟨cx, ox, hcx, e⟩ := entG_at l R 0 xs i _ (List.getElem?_eq_getElem hi)
  obtain ⟨_, _, u, hu, eu, _⟩ := last_of hg hcx
  rw [e, eu]
  have h := hb u (List.mem_of_getElem? hu)
  unfold badR at h ⊢
  simp only [decide_eq_false_iff_not] at h ⊢
  unfold enRow
  simp only
  intro hc
  apply h
  rcases hc with hc | hc | hc | hc | hc
  · omega
  · exact .inr (.inl hc)
  · exact .inr (.inr (.inl hc))
  · exact .inr (.inr (.inr (.inl hc)))
  · omega
theorem idx_three {l : List Rw} {B R K : Int} (h : argT l B R K = false) (hl : l.length ≤ 1024) {xs : List (Nat × Nat)} (hg : Good l B R xs) : (buildB (entG l R 0 xs) 1).2 = 0 ∨ (buildB (entG l R 0 xs) 1).2 = 3 := by
  obtain ⟨h1, h2, h3, h4⟩ := argT_parts h
  exact three_of (by omega) (by omega) (idx_order h3 hg.div) (idx_bad h4 hg.div)
theorem good_one {l : List Rw} {B R : Int} {xs ys : List (Nat × Nat)} (h : Good l B R xs) (h' : Good l B R ys) (t : tot xs = l.length) (t' : tot ys = l.length) : xs = ys := by
  obtain ⟨p, rfl⟩ := divs_prefix h.div h'.div t'
  rw [tot_app] at t'
  have : tot p = 0 := by omega
  cases p with
  | nil => simp
  | cons x r =>
    have hd := h'.div xs.length x (by simp)
    have h1 := hd.2.2.1
    simp [tot] at this
    omega
set_option maxRecDepth 100000 in
set_option maxHeartbeats 8000000 in
theorem tbuild_any {a : Option Addr} {n c b o : Nat} {l : List Rw} {w : World} (h : Rs a n c b o l w) (hn : n ≤ 1024) (hkeys : ∀ x ∈ l, x.key.size ≤ maxLen) (B R K : Int) :
    Calls Try.prog 8 #[.slice a n c, optV B R K] w (BuildD l B R K w) := by
  have hlen := h.len
  have W0 := Lib.hid (below_alloc w (.cells #[.int .i64 B, .int .i64 R, .int .i64 K] 24))
  have O0 : Hid (OptAt w.heap.size B R K (w.alloc (.cells #[.int .i64 B, .int .i64 R, .int .i64 K] 24))) := Lib.hid (heap_alloc_new _ _)
  have R0 := Lib.hid (h.below W0.out (Nat.le_refl _))
  obtain ⟨c0, c1, c2⟩ := O0.out.cells
  have AC := Lib.hid (isArg_any R0.out B R K)
  cases ha : argT l B R K with
  | true =>
    rw [ha] at AC
    have hno : Hid (∀ xs s, ¬ Built l B R K.toNat xs s) := Lib.hid (fun xs s hb => by
      have := hb.arg
      have e : ((K.toNat : Nat) : Int) = K ∨ K < 0 := by omega
      rcases e with e | e
      · rw [e, ha] at this; cases this
      · unfold argT at this
        simp at this
        omega)
    go_enter Try.func8, Try.ntmps8
    go_wp2_with (go_at_call 19; ((with_reducible refine AC.out.mono ?_); rintro e w1 ⟨rfl, hb1⟩))
    go_returns
    exact .inr ⟨hno.out, ⟨2, by rw [ha]; rfl, rfl⟩, below_of W0.out hb1⟩
  | false =>
    rw [ha] at AC
    obtain ⟨KN, rfl⟩ : ∃ KN : Nat, K = (KN : Int) := ⟨K.toNat, by unfold argT at ha; simp at ha; omega⟩
    have hK : 1 ≤ KN ∧ KN ≤ 32 := by unfold argT at ha; simp at ha; omega
    have h3 := chunk_three ha (by rw [hlen]; exact hn)
    have DC := Lib.hid (fun (u : World) (hu : Rs a n c b o l u) => data_any hu hn B R (KN : Int) h3)
    have KC := Lib.hid (fun (u : World) (hu : Rs a n c b o l u) => keysOf_any hu (by omega))
    --WAYS
    by_cases hg : ∃ xs, Good l B R xs ∧ tot xs = l.length
    · obtain ⟨xs, hg, ht⟩ := hg
      have DY : Hid (∀ u, Rs a n c b o l u → Calls Try.prog 20 #[.slice a n c, optV B R (KN : Int)] u fun e w' => ∃ q1 q3 qb, e = .returned (.tuple #[.string ⟨(dtx l R xs).toArray⟩, .slice q1 (entG l R 0 xs).length q3, .int .i64 0]) ∧ Rs q1 (entG l R 0 xs).length q3 qb 0 (entG l R 0 xs) w' ∧ Below u.heap.size u w') := Lib.hid (fun u hu => (DC.out u hu).mono fun e w' hh => by
        rcases hh with ⟨ys, v, s, h1, h2, rfl, h4, h5, h6⟩ | ⟨h1, _⟩
        · obtain rfl := good_one hg h1 ht h2
          rw [← entG_len l R 0 xs] at h5
          obtain ⟨q1, q3, qb, e1, r1, _⟩ := rs_of_row h5
          exact ⟨q1, q3, qb, by rw [← e1]; exact h4, r1, h6⟩
        · exact absurd ht (h1 xs hg))
      have hit := idx_three ha (by rw [hlen]; exact hn) hg
      have hmost := hg.most
      have lX := entG_len l R 0 xs
      obtain ⟨NE, hNE⟩ := named (entG l R 0 xs).length
      rw [← hNE.out] at DY lX
      have FTl := Lib.hid (show (fltT l KN).length ≤ 262145 from flt_len l (by rw [hlen]; exact hn) hK.1 hK.2)
      obtain ⟨T, hT⟩ := named (dtx l R xs)
      rw [← hT.out] at DY hmost
      obtain ⟨ES, hES⟩ := named (entG l R 0 xs)
      rw [← hES.out] at DY hit hNE
      clear lX
      obtain ⟨FT, hFT⟩ := named (fltT l KN)
      rw [← hFT.out] at FTl
      have MK : Hid (∀ (ka : Option Addr) (kc kb : Nat) (u : World), TextsAt ka (keysT l).length kc kb 0 (keysT l) u → Calls Try.prog 22 #[.slice ka (keysT l).length kc, .int .i64 (KN : Int)] u fun e w' => e = .returned (.tuple #[.string ⟨FT.toArray⟩, .int .i64 0]) ∧ Below u.heap.size u w') := Lib.hid (fun ka kc kb u hu => by
        have := make_good KN hK.1 hK.2 ka (keysT l).length kc kb 0 (keysT l) u hu (keysT_size hkeys) (by have := keysN_len l l.length; unfold keysT; omega)
        rw [hFT.out]; exact this)
      obtain ⟨KT, hKT⟩ := named (keysT l)
      rw [← hKT.out] at MK KC
      by_cases hf : FT.length ≤ 65536
      · obtain ⟨FR, hFR⟩ := named (Frame.put FT)
        have FF : Hid (∀ u, Calls Try.prog 21 #[.string ⟨FT.toArray⟩, .int .i64 0] u fun e w' => e = .returned (.tuple #[.string ⟨FR.toArray⟩, .int .i64 0]) ∧ Below u.heap.size u w') := Lib.hid (fun u => by
          have := framed_any FT 0 (by omega) u
          have e : frmR FT 0 = (FR, 0) := by unfold frmR putOf; rw [if_pos rfl, if_neg (by omega), hFR.out]
          rw [e] at this
          exact this)
        have lFR : FR.length ≤ 65600 := by
          rw [hFR.out, Frame.put_length]
          have := Code.uvar_ten (n := FT.length) (by omega)
          omega
        have IB : Hid (∀ (q1 : Option Addr) (q3 qb : Nat) (u : World), Rs q1 NE q3 qb 0 ES u → Calls Try.prog 24 #[.slice q1 NE q3, .int .i64 1] u fun e w' => e = .returned (.tuple #[.string ⟨(buildB ES 1).1.toArray⟩, .int .i64 ((buildB ES 1).2 : Nat)]) ∧ Below u.heap.size u w') := Lib.hid (fun q1 q3 qb u hu => build_any 1 hu)
        have lS2 := buildB_len ES 1
        obtain ⟨⟨S2, E2⟩, hS2⟩ := named (buildB ES 1)
        rw [← hS2.out] at IB hit lS2
        simp only at IB hit lS2
        have FG := Lib.hid (fun u => framed_any S2 E2 (by omega) u)
        rcases hit with rfl | rfl
        · obtain ⟨IR, hIR⟩ := named (Frame.put S2)
          have FG0 : Hid (∀ u, Calls Try.prog 21 #[.string ⟨S2.toArray⟩, .int .i64 0] u fun e w' => e = .returned (.tuple #[.string ⟨IR.toArray⟩, .int .i64 0]) ∧ Below u.heap.size u w') := Lib.hid (fun u => by
            have := FG.out u
            have e : frmR S2 0 = (IR, 0) := by unfold frmR putOf; rw [if_pos rfl, if_neg (by omega), hIR.out]
            rw [e] at this
            exact this)
          have lIR : IR.length ≤ 65600 := by
            rw [hIR.out, Frame.put_length]
            have := Code.uvar_ten (n := S2.length) (by omega)
            omega
          have IB0 : Hid (∀ (q1 : Option Addr) (q3 qb : Nat) (u : World), Rs q1 NE q3 qb 0 ES u → Calls Try.prog 24 #[.slice q1 NE q3, .int .i64 1] u fun e w' => e = .returned (.tuple #[.string ⟨S2.toArray⟩, .int .i64 0]) ∧ Below u.heap.size u w') := IB
          obtain ⟨FO, hFO⟩ := named (footB T.length (T.length + FR.length))
          have lFO : FO.length = 20 := by rw [hFO.out, footB_len]
          have FC : Hid (∀ u, Calls Try.prog 25 #[.int .u64 (T.length : Int), .int .u64 ((T.length : Int) + (FR.length : Int))] u fun e w' => e = .returned (.string ⟨FO.toArray⟩) ∧ Below u.heap.size u w') := Lib.hid (fun u => by
            have := foot_any T.length (T.length + FR.length) u
            rw [Int.natCast_add] at this
            rw [hFO.out]; exact this)
          have C1 := cat_ba T FR
          have C2 := cat_ba (T ++ FR) IR
          have C3 := cat_ba (T ++ (FR ++ IR)) FO
          have hall : Hid (tabT l R KN xs = T ++ (FR ++ (IR ++ FO))) := Lib.hid (by
            unfold tabT
            rw [← hT.out, ← hFT.out, ← hFR.out, ← hES.out, ← hS2.out, ← hFO.out]
            simp only
            rw [← hIR.out]
            simp only [List.append_assoc])
          have hS2b : Hid ((buildB (entG l R 0 xs) 1).2 = 0) := Lib.hid (by rw [← hES.out, ← hS2.out])
          have hff : Hid ((fltT l KN).length ≤ 65536) := Lib.hid (by rw [← hFT.out]; exact hf)
          have hgg := Lib.hid (And.intro hg ht)
          clear IB FG hg ht DC hf
          have ub1 : (0 : Int) ≤ (T.length : Int) ∧ (T.length : Int) ≤ 1000000 := by omega
          have ub2 : (0 : Int) ≤ (T.length : Int) + (FR.length : Int) ∧ (T.length : Int) + (FR.length : Int) ≤ 1000000 := by omega
          by_cases hbig : 262144 < T.length + FR.length + IR.length + FO.length
          · have hno : Hid (∀ xs s, ¬ Built l B R ((KN : Int)).toNat xs s) := Lib.hid (fun ys s hb => by
              obtain rfl := good_one hgg.out.1 hb.good hgg.out.2 hb.all
              have h1 := hb.most
              rw [hb.is, Int.toNat_natCast, hall.out] at h1
              simp only [List.length_append] at h1
              omega)
            have g1 : (262144 : Int) < (T.length : Int) + ((FR.length : Int) + ((IR.length : Int) + (FO.length : Int))) := by omega
            have zz1 : ¬ 9223372036854775807 < T.length + FR.length := by have := ub2.2; omega
            have zz2 : ¬ 9223372036854775807 < T.length + FR.length + IR.length := by have := ub2.2; omega
            have zz2b : ¬ 9223372036854775807 < T.length + (FR.length + IR.length) := by have := ub2.2; omega
            have zz3b : ¬ 9223372036854775807 < T.length + (FR.length + IR.length) + FO.length := by have := ub2.2; omega
            have zz3c : ¬ 9223372036854775807 < T.length + (FR.length + (IR.length + FO.length)) := by have := ub2.2; omega
            have zz3 : ¬ 9223372036854775807 < T.length + FR.length + IR.length + FO.length := by have := ub2.2; omega
            have u1 := wr_u64 _ ub1.1 ub1.2
            have u2 := wr_u64 _ ub2.1 ub2.2
            have u3 := wr_w64 _ ub2.1 ub2.2
            clear ub1 ub2 hmost lFR lIR lFO lS2
            try clear hbig
            go_enter Try.func8, Try.ntmps8
            go_upto_region 6 with (first
              | (go_at_call 19; ((with_reducible refine AC.out.mono ?_); rintro e w1 ⟨rfl, hb1⟩; have O1 := Lib.hid (O0.out.below hb1); have R1 := Lib.hid (R0.out.below hb1 (Nat.le_refl _)); have W1 := Lib.hid (below_of W0.out hb1); clear hb1 c0 c1 c2; obtain ⟨c0, c1, c2⟩ := O1.out.cells))
              | (go_at_call 20; ((with_reducible refine (DY.out _ R1.out).mono ?_); rintro e w2 ⟨q1, q3, qb, rfl, hr2, hb2⟩; have O2 := Lib.hid (O1.out.below hb2); have R2 := Lib.hid (R1.out.below hb2 (Nat.le_refl _)); have W2 := Lib.hid (below_of W1.out hb2); have RS2 := Lib.hid hr2; clear hb2 c0 c1 c2 hr2; obtain ⟨c0, c1, c2⟩ := O2.out.cells))
              | fail "no arm")
            refine wp_region_held_drew (S := (fun v => v.cell? ⟨w.heap.size, 2, none⟩ = some (.int .i64 (KN : Int)) ∧ Below w2.heap.size w2 v)) (by kernel_rfl) (⟨c2, (Below.refl _ w2).drew⟩) (fun hHeld => ?_)
            refine held_take (i := 0) (v := ?_) rfl (by kernel_rfl) (by kernel_rfl) (by kernel_rfl) (fun _ _ _ h => h) (by rfl) (fun w hSw => ?_) (by assumption) ?_; rotate_left 1; focus (((try dsimp only at hSw); first | (go_simp; done) | (go_simp; with_reducible rfl)))
            try simp only [Act.put, List.setIfInBounds_toArray, List.set_cons_zero, List.set_cons_succ]
            refine held_take (i := 2) (v := ?_) rfl (by kernel_rfl) (by kernel_rfl) (by kernel_rfl) (fun _ _ _ h => h) (by rfl) (fun w hSw => ?_) (by assumption) ?_; rotate_left 1; focus (((try dsimp only at hSw); first | (go_simp; done) | (go_simp; with_reducible rfl)))
            try simp only [Act.put, List.setIfInBounds_toArray, List.set_cons_zero, List.set_cons_succ]
            refine held_take (i := 3) (v := ?_) rfl (by kernel_rfl) (by kernel_rfl) (by kernel_rfl) (fun _ _ _ h => h) (by rfl) (fun w hSw => ?_) (by assumption) ?_; rotate_left 1; focus (((try dsimp only at hSw); first | (go_simp; done) | (go_simp; with_reducible rfl)))
            try simp only [Act.put, List.setIfInBounds_toArray, List.set_cons_zero, List.set_cons_succ]
            refine held_call (i := 1) (by kernel_rfl) rfl (by rfl) (fun K hK => ?_)
            go_simp
            refine (KC.out _ (R2.out.below hHeld.2 (Nat.le_refl _))).mono ?_
            rintro e w3 ⟨v3, rfl, hr3, hb3⟩
            obtain ⟨ka, kc, kb, rfl, TA3, _⟩ := textsAt_row hr3
            have TA3 := Lib.hid TA3
            clear hr3
            refine hK.out _ _ (⟨cell_keep hb3 hHeld.1, below_of hHeld.2 hb3⟩) (fun hHeld => ?_)
            try simp only [Act.put, List.setIfInBounds_toArray, List.set_cons_zero, List.set_cons_succ]
            refine held_call (i := 4) (by kernel_rfl) rfl (by rfl) (fun K hK => ?_)
            go_simp
            refine (MK.out _ _ _ _ TA3.out).mono ?_
            rintro e w4 ⟨rfl, hb4⟩
            refine hK.out _ _ (⟨cell_keep hb4 hHeld.1, below_of hHeld.2 hb4⟩) (fun hHeld => ?_)
            try simp only [Act.put, List.setIfInBounds_toArray, List.set_cons_zero, List.set_cons_succ]
            refine held_take (i := 5) (v := ?_) rfl (by kernel_rfl) (by kernel_rfl) (by kernel_rfl) (fun _ _ _ h => h) (by rfl) (fun w hSw => ?_) (by assumption) ?_; rotate_left 1; focus (((try dsimp only at hSw); first | (go_simp; done) | (go_simp; with_reducible rfl)))
            try simp only [Act.put, List.setIfInBounds_toArray, List.set_cons_zero, List.set_cons_succ]
            refine held_take (i := 6) (v := ?_) rfl (by kernel_rfl) (by kernel_rfl) (by kernel_rfl) (fun _ _ _ h => h) (by rfl) (fun w hSw => ?_) (by assumption) ?_; rotate_left 1; focus (((try dsimp only at hSw); first | (go_simp; done) | (go_simp; with_reducible rfl)))
            try simp only [Act.put, List.setIfInBounds_toArray, List.set_cons_zero, List.set_cons_succ]
            refine held_call (i := 7) (by kernel_rfl) rfl (by rfl) (fun K hK => ?_)
            go_simp
            refine (FF.out _).mono ?_
            rintro e w5 ⟨rfl, hb5⟩
            refine hK.out _ _ (⟨cell_keep hb5 hHeld.1, below_of hHeld.2 hb5⟩) (fun hHeld => ?_)
            try simp only [Act.put, List.setIfInBounds_toArray, List.set_cons_zero, List.set_cons_succ]
            refine held_take (i := 8) (v := ?_) rfl (by kernel_rfl) (by kernel_rfl) (by kernel_rfl) (fun _ _ _ h => h) (by rfl) (fun w hSw => ?_) (by assumption) ?_; rotate_left 1; focus (((try dsimp only at hSw); first | (go_simp; done) | (go_simp; with_reducible rfl)))
            try simp only [Act.put, List.setIfInBounds_toArray, List.set_cons_zero, List.set_cons_succ]
            refine held_take (i := 9) (v := ?_) rfl (by kernel_rfl) (by kernel_rfl) (by kernel_rfl) (fun _ _ _ h => h) (by rfl) (fun w hSw => ?_) (by assumption) ?_; rotate_left 1; focus (((try dsimp only at hSw); first | (go_simp; done) | (go_simp; with_reducible rfl)))
            try simp only [Act.put, List.setIfInBounds_toArray, List.set_cons_zero, List.set_cons_succ]
            refine held_take (i := 10) (v := ?_) rfl (by kernel_rfl) (by kernel_rfl) (by kernel_rfl) (fun _ _ _ h => h) (by rfl) (fun w hSw => ?_) (by assumption) ?_; rotate_left 1; focus (((try dsimp only at hSw); first | (go_simp; done) | (go_simp; with_reducible rfl)))
            try simp only [Act.put, List.setIfInBounds_toArray, List.set_cons_zero, List.set_cons_succ]
            refine held_take (i := 11) (v := ?_) rfl (by kernel_rfl) (by kernel_rfl) (by kernel_rfl) (fun _ _ _ h => h) (by rfl) (fun w hSw => ?_) (by assumption) ?_; rotate_left 1; focus (((try dsimp only at hSw); first | (go_simp; done) | (go_simp; with_reducible rfl)))
            try simp only [Act.put, List.setIfInBounds_toArray, List.set_cons_zero, List.set_cons_succ]
            refine held_take (i := 12) (v := ?_) rfl (by kernel_rfl) (by kernel_rfl) (by kernel_rfl) (fun _ _ _ h => h) (by rfl) (fun w hSw => ?_) (by assumption) ?_; rotate_left 1; focus (((try dsimp only at hSw); first | (go_simp; done) | (go_simp; with_reducible rfl)))
            try simp only [Act.put, List.setIfInBounds_toArray, List.set_cons_zero, List.set_cons_succ]
            refine wpAnyH_done (by kernel_rfl) ?_ _
            have W5 := Lib.hid (below_of W2.out hHeld.2)
            have RS5 := Lib.hid (RS2.out.below hHeld.2 (Nat.le_refl _))
            clear hHeld
            go_wp2_with (first
              | (go_at_call 24; ((with_reducible refine (IB0.out _ _ _ _ RS5.out).mono ?_); rintro e w6 ⟨rfl, hb6⟩; have W6 := Lib.hid (below_of W5.out hb6); clear hb6))
              | (go_at_call 21; ((with_reducible refine (FG0.out _).mono ?_); rintro e w7 ⟨rfl, hb7⟩; have W7 := Lib.hid (below_of W6.out hb7); clear hb7))
              | (go_at_call 25; ((with_reducible refine (FC.out _).mono ?_); rintro e w8 ⟨rfl, hb8⟩; have W8 := Lib.hid (below_of W7.out hb8); clear hb8))
              | fail "no arm")
            go_returns
            exact .inr ⟨hno.out, ⟨3, by rw [ha]; rfl, rfl⟩, W8.out⟩
          · have hsz : Hid ((T ++ (FR ++ (IR ++ FO))).length ≤ 262144) := Lib.hid (by simp only [List.length_append]; omega)
            have g1 : ¬ (262144 : Int) < (T.length : Int) + ((FR.length : Int) + ((IR.length : Int) + (FO.length : Int))) := by omega
            have zz1 : ¬ 9223372036854775807 < T.length + FR.length := by have := ub2.2; omega
            have zz2 : ¬ 9223372036854775807 < T.length + FR.length + IR.length := by have := ub2.2; omega
            have zz2b : ¬ 9223372036854775807 < T.length + (FR.length + IR.length) := by have := ub2.2; omega
            have zz3b : ¬ 9223372036854775807 < T.length + (FR.length + IR.length) + FO.length := by have := ub2.2; omega
            have zz3c : ¬ 9223372036854775807 < T.length + (FR.length + (IR.length + FO.length)) := by have := ub2.2; omega
            have zz3 : ¬ 9223372036854775807 < T.length + FR.length + IR.length + FO.length := by have := ub2.2; omega
            have u1 := wr_u64 _ ub1.1 ub1.2
            have u2 := wr_u64 _ ub2.1 ub2.2
            have u3 := wr_w64 _ ub2.1 ub2.2
            clear ub1 ub2 hmost lFR lIR lFO lS2
            try clear hbig
            go_enter Try.func8, Try.ntmps8
            go_upto_region 6 with (first
              | (go_at_call 19; ((with_reducible refine AC.out.mono ?_); rintro e w1 ⟨rfl, hb1⟩; have O1 := Lib.hid (O0.out.below hb1); have R1 := Lib.hid (R0.out.below hb1 (Nat.le_refl _)); have W1 := Lib.hid (below_of W0.out hb1); clear hb1 c0 c1 c2; obtain ⟨c0, c1, c2⟩ := O1.out.cells))
              | (go_at_call 20; ((with_reducible refine (DY.out _ R1.out).mono ?_); rintro e w2 ⟨q1, q3, qb, rfl, hr2, hb2⟩; have O2 := Lib.hid (O1.out.below hb2); have R2 := Lib.hid (R1.out.below hb2 (Nat.le_refl _)); have W2 := Lib.hid (below_of W1.out hb2); have RS2 := Lib.hid hr2; clear hb2 c0 c1 c2 hr2; obtain ⟨c0, c1, c2⟩ := O2.out.cells))
              | fail "no arm")
            refine wp_region_held_drew (S := (fun v => v.cell? ⟨w.heap.size, 2, none⟩ = some (.int .i64 (KN : Int)) ∧ Below w2.heap.size w2 v)) (by kernel_rfl) (⟨c2, (Below.refl _ w2).drew⟩) (fun hHeld => ?_)
            refine held_take (i := 0) (v := ?_) rfl (by kernel_rfl) (by kernel_rfl) (by kernel_rfl) (fun _ _ _ h => h) (by rfl) (fun w hSw => ?_) (by assumption) ?_; rotate_left 1; focus (((try dsimp only at hSw); first | (go_simp; done) | (go_simp; with_reducible rfl)))
            try simp only [Act.put, List.setIfInBounds_toArray, List.set_cons_zero, List.set_cons_succ]
            refine held_take (i := 2) (v := ?_) rfl (by kernel_rfl) (by kernel_rfl) (by kernel_rfl) (fun _ _ _ h => h) (by rfl) (fun w hSw => ?_) (by assumption) ?_; rotate_left 1; focus (((try dsimp only at hSw); first | (go_simp; done) | (go_simp; with_reducible rfl)))
            try simp only [Act.put, List.setIfInBounds_toArray, List.set_cons_zero, List.set_cons_succ]
            refine held_take (i := 3) (v := ?_) rfl (by kernel_rfl) (by kernel_rfl) (by kernel_rfl) (fun _ _ _ h => h) (by rfl) (fun w hSw => ?_) (by assumption) ?_; rotate_left 1; focus (((try dsimp only at hSw); first | (go_simp; done) | (go_simp; with_reducible rfl)))
            try simp only [Act.put, List.setIfInBounds_toArray, List.set_cons_zero, List.set_cons_succ]
            refine held_call (i := 1) (by kernel_rfl) rfl (by rfl) (fun K hK => ?_)
            go_simp
            refine (KC.out _ (R2.out.below hHeld.2 (Nat.le_refl _))).mono ?_
            rintro e w3 ⟨v3, rfl, hr3, hb3⟩
            obtain ⟨ka, kc, kb, rfl, TA3, _⟩ := textsAt_row hr3
            have TA3 := Lib.hid TA3
            clear hr3
            refine hK.out _ _ (⟨cell_keep hb3 hHeld.1, below_of hHeld.2 hb3⟩) (fun hHeld => ?_)
            try simp only [Act.put, List.setIfInBounds_toArray, List.set_cons_zero, List.set_cons_succ]
            refine held_call (i := 4) (by kernel_rfl) rfl (by rfl) (fun K hK => ?_)
            go_simp
            refine (MK.out _ _ _ _ TA3.out).mono ?_
            rintro e w4 ⟨rfl, hb4⟩
            refine hK.out _ _ (⟨cell_keep hb4 hHeld.1, below_of hHeld.2 hb4⟩) (fun hHeld => ?_)
            try simp only [Act.put, List.setIfInBounds_toArray, List.set_cons_zero, List.set_cons_succ]
            refine held_take (i := 5) (v := ?_) rfl (by kernel_rfl) (by kernel_rfl) (by kernel_rfl) (fun _ _ _ h => h) (by rfl) (fun w hSw => ?_) (by assumption) ?_; rotate_left 1; focus (((try dsimp only at hSw); first | (go_simp; done) | (go_simp; with_reducible rfl)))
            try simp only [Act.put, List.setIfInBounds_toArray, List.set_cons_zero, List.set_cons_succ]
            refine held_take (i := 6) (v := ?_) rfl (by kernel_rfl) (by kernel_rfl) (by kernel_rfl) (fun _ _ _ h => h) (by rfl) (fun w hSw => ?_) (by assumption) ?_; rotate_left 1; focus (((try dsimp only at hSw); first | (go_simp; done) | (go_simp; with_reducible rfl)))
            try simp only [Act.put, List.setIfInBounds_toArray, List.set_cons_zero, List.set_cons_succ]
            refine held_call (i := 7) (by kernel_rfl) rfl (by rfl) (fun K hK => ?_)
            go_simp
            refine (FF.out _).mono ?_
            rintro e w5 ⟨rfl, hb5⟩
            refine hK.out _ _ (⟨cell_keep hb5 hHeld.1, below_of hHeld.2 hb5⟩) (fun hHeld => ?_)
            try simp only [Act.put, List.setIfInBounds_toArray, List.set_cons_zero, List.set_cons_succ]
            refine held_take (i := 8) (v := ?_) rfl (by kernel_rfl) (by kernel_rfl) (by kernel_rfl) (fun _ _ _ h => h) (by rfl) (fun w hSw => ?_) (by assumption) ?_; rotate_left 1; focus (((try dsimp only at hSw); first | (go_simp; done) | (go_simp; with_reducible rfl)))
            try simp only [Act.put, List.setIfInBounds_toArray, List.set_cons_zero, List.set_cons_succ]
            refine held_take (i := 9) (v := ?_) rfl (by kernel_rfl) (by kernel_rfl) (by kernel_rfl) (fun _ _ _ h => h) (by rfl) (fun w hSw => ?_) (by assumption) ?_; rotate_left 1; focus (((try dsimp only at hSw); first | (go_simp; done) | (go_simp; with_reducible rfl)))
            try simp only [Act.put, List.setIfInBounds_toArray, List.set_cons_zero, List.set_cons_succ]
            refine held_take (i := 10) (v := ?_) rfl (by kernel_rfl) (by kernel_rfl) (by kernel_rfl) (fun _ _ _ h => h) (by rfl) (fun w hSw => ?_) (by assumption) ?_; rotate_left 1; focus (((try dsimp only at hSw); first | (go_simp; done) | (go_simp; with_reducible rfl)))
            try simp only [Act.put, List.setIfInBounds_toArray, List.set_cons_zero, List.set_cons_succ]
            refine held_take (i := 11) (v := ?_) rfl (by kernel_rfl) (by kernel_rfl) (by kernel_rfl) (fun _ _ _ h => h) (by rfl) (fun w hSw => ?_) (by assumption) ?_; rotate_left 1; focus (((try dsimp only at hSw); first | (go_simp; done) | (go_simp; with_reducible rfl)))
            try simp only [Act.put, List.setIfInBounds_toArray, List.set_cons_zero, List.set_cons_succ]
            refine held_take (i := 12) (v := ?_) rfl (by kernel_rfl) (by kernel_rfl) (by kernel_rfl) (fun _ _ _ h => h) (by rfl) (fun w hSw => ?_) (by assumption) ?_; rotate_left 1; focus (((try dsimp only at hSw); first | (go_simp; done) | (go_simp; with_reducible rfl)))
            try simp only [Act.put, List.setIfInBounds_toArray, List.set_cons_zero, List.set_cons_succ]
            refine wpAnyH_done (by kernel_rfl) ?_ _
            have W5 := Lib.hid (below_of W2.out hHeld.2)
            have RS5 := Lib.hid (RS2.out.below hHeld.2 (Nat.le_refl _))
            clear hHeld
            go_wp2_with (first
              | (go_at_call 24; ((with_reducible refine (IB0.out _ _ _ _ RS5.out).mono ?_); rintro e w6 ⟨rfl, hb6⟩; have W6 := Lib.hid (below_of W5.out hb6); clear hb6))
              | (go_at_call 21; ((with_reducible refine (FG0.out _).mono ?_); rintro e w7 ⟨rfl, hb7⟩; have W7 := Lib.hid (below_of W6.out hb7); clear hb7))
              | (go_at_call 25; ((with_reducible refine (FC.out _).mono ?_); rintro e w8 ⟨rfl, hb8⟩; have W8 := Lib.hid (below_of W7.out hb8); clear hb8))
              | fail "no arm")
            go_returns
            refine .inl ⟨xs, T ++ (FR ++ (IR ++ FO)), ⟨by rw [Int.toNat_natCast]; exact ha, hgg.out.1, hgg.out.2, by rw [Int.toNat_natCast]; exact hff.out, hS2b.out, by rw [Int.toNat_natCast]; exact hall.out.symm, hsz.out⟩, rfl, W8.out⟩
        · have FG3 : Hid (∀ u, Calls Try.prog 21 #[.string ⟨S2.toArray⟩, .int .i64 3] u fun e w' => e = .returned (.tuple #[.string ⟨#[]⟩, .int .i64 3]) ∧ Below u.heap.size u w') := FG
          have IB3 : Hid (∀ (q1 : Option Addr) (q3 qb : Nat) (u : World), Rs q1 NE q3 qb 0 ES u → Calls Try.prog 24 #[.slice q1 NE q3, .int .i64 1] u fun e w' => e = .returned (.tuple #[.string ⟨S2.toArray⟩, .int .i64 3]) ∧ Below u.heap.size u w') := IB
          have hno : Hid (∀ xs s, ¬ Built l B R ((KN : Int)).toNat xs s) := Lib.hid (fun ys s hb => by
            obtain rfl := good_one hg hb.good ht hb.all
            have := hb.idx
            rw [← hES.out, ← hS2.out] at this
            cases this)
          clear IB FG hg ht DC hf
          go_enter Try.func8, Try.ntmps8
          go_upto_region 6 with (first
            | (go_at_call 19; ((with_reducible refine AC.out.mono ?_); rintro e w1 ⟨rfl, hb1⟩; have O1 := Lib.hid (O0.out.below hb1); have R1 := Lib.hid (R0.out.below hb1 (Nat.le_refl _)); have W1 := Lib.hid (below_of W0.out hb1); clear hb1 c0 c1 c2; obtain ⟨c0, c1, c2⟩ := O1.out.cells))
            | (go_at_call 20; ((with_reducible refine (DY.out _ R1.out).mono ?_); rintro e w2 ⟨q1, q3, qb, rfl, hr2, hb2⟩; have O2 := Lib.hid (O1.out.below hb2); have R2 := Lib.hid (R1.out.below hb2 (Nat.le_refl _)); have W2 := Lib.hid (below_of W1.out hb2); have RS2 := Lib.hid hr2; clear hb2 c0 c1 c2 hr2; obtain ⟨c0, c1, c2⟩ := O2.out.cells))
            | fail "no arm")
          refine wp_region_held_drew (S := (fun v => v.cell? ⟨w.heap.size, 2, none⟩ = some (.int .i64 (KN : Int)) ∧ Below w2.heap.size w2 v)) (by kernel_rfl) (⟨c2, (Below.refl _ w2).drew⟩) (fun hHeld => ?_)
          refine held_take (i := 0) (v := ?_) rfl (by kernel_rfl) (by kernel_rfl) (by kernel_rfl) (fun _ _ _ h => h) (by rfl) (fun w hSw => ?_) (by assumption) ?_; rotate_left 1; focus (((try dsimp only at hSw); first | (go_simp; done) | (go_simp; with_reducible rfl)))
          try simp only [Act.put, List.setIfInBounds_toArray, List.set_cons_zero, List.set_cons_succ]
          refine held_take (i := 2) (v := ?_) rfl (by kernel_rfl) (by kernel_rfl) (by kernel_rfl) (fun _ _ _ h => h) (by rfl) (fun w hSw => ?_) (by assumption) ?_; rotate_left 1; focus (((try dsimp only at hSw); first | (go_simp; done) | (go_simp; with_reducible rfl)))
          try simp only [Act.put, List.setIfInBounds_toArray, List.set_cons_zero, List.set_cons_succ]
          refine held_take (i := 3) (v := ?_) rfl (by kernel_rfl) (by kernel_rfl) (by kernel_rfl) (fun _ _ _ h => h) (by rfl) (fun w hSw => ?_) (by assumption) ?_; rotate_left 1; focus (((try dsimp only at hSw); first | (go_simp; done) | (go_simp; with_reducible rfl)))
          try simp only [Act.put, List.setIfInBounds_toArray, List.set_cons_zero, List.set_cons_succ]
          refine held_call (i := 1) (by kernel_rfl) rfl (by rfl) (fun K hK => ?_)
          go_simp
          refine (KC.out _ (R2.out.below hHeld.2 (Nat.le_refl _))).mono ?_
          rintro e w3 ⟨v3, rfl, hr3, hb3⟩
          obtain ⟨ka, kc, kb, rfl, TA3, _⟩ := textsAt_row hr3
          have TA3 := Lib.hid TA3
          clear hr3
          refine hK.out _ _ (⟨cell_keep hb3 hHeld.1, below_of hHeld.2 hb3⟩) (fun hHeld => ?_)
          try simp only [Act.put, List.setIfInBounds_toArray, List.set_cons_zero, List.set_cons_succ]
          refine held_call (i := 4) (by kernel_rfl) rfl (by rfl) (fun K hK => ?_)
          go_simp
          refine (MK.out _ _ _ _ TA3.out).mono ?_
          rintro e w4 ⟨rfl, hb4⟩
          refine hK.out _ _ (⟨cell_keep hb4 hHeld.1, below_of hHeld.2 hb4⟩) (fun hHeld => ?_)
          try simp only [Act.put, List.setIfInBounds_toArray, List.set_cons_zero, List.set_cons_succ]
          refine held_take (i := 5) (v := ?_) rfl (by kernel_rfl) (by kernel_rfl) (by kernel_rfl) (fun _ _ _ h => h) (by rfl) (fun w hSw => ?_) (by assumption) ?_; rotate_left 1; focus (((try dsimp only at hSw); first | (go_simp; done) | (go_simp; with_reducible rfl)))
          try simp only [Act.put, List.setIfInBounds_toArray, List.set_cons_zero, List.set_cons_succ]
          refine held_take (i := 6) (v := ?_) rfl (by kernel_rfl) (by kernel_rfl) (by kernel_rfl) (fun _ _ _ h => h) (by rfl) (fun w hSw => ?_) (by assumption) ?_; rotate_left 1; focus (((try dsimp only at hSw); first | (go_simp; done) | (go_simp; with_reducible rfl)))
          try simp only [Act.put, List.setIfInBounds_toArray, List.set_cons_zero, List.set_cons_succ]
          refine held_call (i := 7) (by kernel_rfl) rfl (by rfl) (fun K hK => ?_)
          go_simp
          refine (FF.out _).mono ?_
          rintro e w5 ⟨rfl, hb5⟩
          refine hK.out _ _ (⟨cell_keep hb5 hHeld.1, below_of hHeld.2 hb5⟩) (fun hHeld => ?_)
          try simp only [Act.put, List.setIfInBounds_toArray, List.set_cons_zero, List.set_cons_succ]
          refine held_take (i := 8) (v := ?_) rfl (by kernel_rfl) (by kernel_rfl) (by kernel_rfl) (fun _ _ _ h => h) (by rfl) (fun w hSw => ?_) (by assumption) ?_; rotate_left 1; focus (((try dsimp only at hSw); first | (go_simp; done) | (go_simp; with_reducible rfl)))
          try simp only [Act.put, List.setIfInBounds_toArray, List.set_cons_zero, List.set_cons_succ]
          refine held_take (i := 9) (v := ?_) rfl (by kernel_rfl) (by kernel_rfl) (by kernel_rfl) (fun _ _ _ h => h) (by rfl) (fun w hSw => ?_) (by assumption) ?_; rotate_left 1; focus (((try dsimp only at hSw); first | (go_simp; done) | (go_simp; with_reducible rfl)))
          try simp only [Act.put, List.setIfInBounds_toArray, List.set_cons_zero, List.set_cons_succ]
          refine held_take (i := 10) (v := ?_) rfl (by kernel_rfl) (by kernel_rfl) (by kernel_rfl) (fun _ _ _ h => h) (by rfl) (fun w hSw => ?_) (by assumption) ?_; rotate_left 1; focus (((try dsimp only at hSw); first | (go_simp; done) | (go_simp; with_reducible rfl)))
          try simp only [Act.put, List.setIfInBounds_toArray, List.set_cons_zero, List.set_cons_succ]
          refine held_take (i := 11) (v := ?_) rfl (by kernel_rfl) (by kernel_rfl) (by kernel_rfl) (fun _ _ _ h => h) (by rfl) (fun w hSw => ?_) (by assumption) ?_; rotate_left 1; focus (((try dsimp only at hSw); first | (go_simp; done) | (go_simp; with_reducible rfl)))
          try simp only [Act.put, List.setIfInBounds_toArray, List.set_cons_zero, List.set_cons_succ]
          refine held_take (i := 12) (v := ?_) rfl (by kernel_rfl) (by kernel_rfl) (by kernel_rfl) (fun _ _ _ h => h) (by rfl) (fun w hSw => ?_) (by assumption) ?_; rotate_left 1; focus (((try dsimp only at hSw); first | (go_simp; done) | (go_simp; with_reducible rfl)))
          try simp only [Act.put, List.setIfInBounds_toArray, List.set_cons_zero, List.set_cons_succ]
          refine wpAnyH_done (by kernel_rfl) ?_ _
          have W5 := Lib.hid (below_of W2.out hHeld.2)
          have RS5 := Lib.hid (RS2.out.below hHeld.2 (Nat.le_refl _))
          clear hHeld
          go_wp2_with (first
            | (go_at_call 24; ((with_reducible refine (IB3.out _ _ _ _ RS5.out).mono ?_); rintro e w6 ⟨rfl, hb6⟩; have W6 := Lib.hid (below_of W5.out hb6); clear hb6))
            | (go_at_call 21; ((with_reducible refine (FG3.out _).mono ?_); rintro e w7 ⟨rfl, hb7⟩; have W7 := Lib.hid (below_of W6.out hb7); clear hb7))
            | fail "no arm")
          go_returns
          exact .inr ⟨hno.out, ⟨3, by rw [ha]; rfl, rfl⟩, W7.out⟩
      · have FF : Hid (∀ u, Calls Try.prog 21 #[.string ⟨FT.toArray⟩, .int .i64 0] u fun e w' => e = .returned (.tuple #[.string ⟨#[]⟩, .int .i64 3]) ∧ Below u.heap.size u w') := Lib.hid (fun u => by
          have := framed_any FT 0 (by have := FTl.out; omega) u
          have e : frmR FT 0 = ([], 3) := by unfold frmR putOf; rw [if_pos rfl, if_pos (by omega)]
          rw [e] at this
          exact this)
        have hno : Hid (∀ xs s, ¬ Built l B R ((KN : Int)).toNat xs s) := Lib.hid (fun ys s hb => hf (by rw [hFT.out]; exact hb.flt))
        clear hg ht hit hmost hf DC
        go_enter Try.func8, Try.ntmps8
        go_upto_region 6 with (first
          | (go_at_call 19; ((with_reducible refine AC.out.mono ?_); rintro e w1 ⟨rfl, hb1⟩; have O1 := Lib.hid (O0.out.below hb1); have R1 := Lib.hid (R0.out.below hb1 (Nat.le_refl _)); have W1 := Lib.hid (below_of W0.out hb1); clear hb1 c0 c1 c2; obtain ⟨c0, c1, c2⟩ := O1.out.cells))
          | (go_at_call 20; ((with_reducible refine (DY.out _ R1.out).mono ?_); rintro e w2 ⟨q1, q3, qb, rfl, hr2, hb2⟩; have O2 := Lib.hid (O1.out.below hb2); have R2 := Lib.hid (R1.out.below hb2 (Nat.le_refl _)); have W2 := Lib.hid (below_of W1.out hb2); have RS2 := Lib.hid hr2; clear hb2 c0 c1 c2 hr2; obtain ⟨c0, c1, c2⟩ := O2.out.cells))
          | fail "no arm")
        refine wp_region_held_drew (S := (fun v => v.cell? ⟨w.heap.size, 2, none⟩ = some (.int .i64 (KN : Int)) ∧ Below w2.heap.size w2 v)) (by kernel_rfl) (⟨c2, (Below.refl _ w2).drew⟩) (fun hHeld => ?_)
        refine held_take (i := 0) (v := ?_) rfl (by kernel_rfl) (by kernel_rfl) (by kernel_rfl) (fun _ _ _ h => h) (by rfl) (fun w hSw => ?_) (by assumption) ?_; rotate_left 1; focus (((try dsimp only at hSw); first | (go_simp; done) | (go_simp; with_reducible rfl)))
        try simp only [Act.put, List.setIfInBounds_toArray, List.set_cons_zero, List.set_cons_succ]
        refine held_take (i := 2) (v := ?_) rfl (by kernel_rfl) (by kernel_rfl) (by kernel_rfl) (fun _ _ _ h => h) (by rfl) (fun w hSw => ?_) (by assumption) ?_; rotate_left 1; focus (((try dsimp only at hSw); first | (go_simp; done) | (go_simp; with_reducible rfl)))
        try simp only [Act.put, List.setIfInBounds_toArray, List.set_cons_zero, List.set_cons_succ]
        refine held_take (i := 3) (v := ?_) rfl (by kernel_rfl) (by kernel_rfl) (by kernel_rfl) (fun _ _ _ h => h) (by rfl) (fun w hSw => ?_) (by assumption) ?_; rotate_left 1; focus (((try dsimp only at hSw); first | (go_simp; done) | (go_simp; with_reducible rfl)))
        try simp only [Act.put, List.setIfInBounds_toArray, List.set_cons_zero, List.set_cons_succ]
        refine held_call (i := 1) (by kernel_rfl) rfl (by rfl) (fun K hK => ?_)
        go_simp
        refine (KC.out _ (R2.out.below hHeld.2 (Nat.le_refl _))).mono ?_
        rintro e w3 ⟨v3, rfl, hr3, hb3⟩
        obtain ⟨ka, kc, kb, rfl, TA3, _⟩ := textsAt_row hr3
        have TA3 := Lib.hid TA3
        clear hr3
        refine hK.out _ _ (⟨cell_keep hb3 hHeld.1, below_of hHeld.2 hb3⟩) (fun hHeld => ?_)
        try simp only [Act.put, List.setIfInBounds_toArray, List.set_cons_zero, List.set_cons_succ]
        refine held_call (i := 4) (by kernel_rfl) rfl (by rfl) (fun K hK => ?_)
        go_simp
        refine (MK.out _ _ _ _ TA3.out).mono ?_
        rintro e w4 ⟨rfl, hb4⟩
        refine hK.out _ _ (⟨cell_keep hb4 hHeld.1, below_of hHeld.2 hb4⟩) (fun hHeld => ?_)
        try simp only [Act.put, List.setIfInBounds_toArray, List.set_cons_zero, List.set_cons_succ]
        refine held_take (i := 5) (v := ?_) rfl (by kernel_rfl) (by kernel_rfl) (by kernel_rfl) (fun _ _ _ h => h) (by rfl) (fun w hSw => ?_) (by assumption) ?_; rotate_left 1; focus (((try dsimp only at hSw); first | (go_simp; done) | (go_simp; with_reducible rfl)))
        try simp only [Act.put, List.setIfInBounds_toArray, List.set_cons_zero, List.set_cons_succ]
        refine held_take (i := 6) (v := ?_) rfl (by kernel_rfl) (by kernel_rfl) (by kernel_rfl) (fun _ _ _ h => h) (by rfl) (fun w hSw => ?_) (by assumption) ?_; rotate_left 1; focus (((try dsimp only at hSw); first | (go_simp; done) | (go_simp; with_reducible rfl)))
        try simp only [Act.put, List.setIfInBounds_toArray, List.set_cons_zero, List.set_cons_succ]
        refine held_call (i := 7) (by kernel_rfl) rfl (by rfl) (fun K hK => ?_)
        go_simp
        refine (FF.out _).mono ?_
        rintro e w5 ⟨rfl, hb5⟩
        refine hK.out _ _ (⟨cell_keep hb5 hHeld.1, below_of hHeld.2 hb5⟩) (fun hHeld => ?_)
        try simp only [Act.put, List.setIfInBounds_toArray, List.set_cons_zero, List.set_cons_succ]
        refine held_take (i := 8) (v := ?_) rfl (by kernel_rfl) (by kernel_rfl) (by kernel_rfl) (fun _ _ _ h => h) (by rfl) (fun w hSw => ?_) (by assumption) ?_; rotate_left 1; focus (((try dsimp only at hSw); first | (go_simp; done) | (go_simp; with_reducible rfl)))
        try simp only [Act.put, List.setIfInBounds_toArray, List.set_cons_zero, List.set_cons_succ]
        refine held_take (i := 9) (v := ?_) rfl (by kernel_rfl) (by kernel_rfl) (by kernel_rfl) (fun _ _ _ h => h) (by rfl) (fun w hSw => ?_) (by assumption) ?_; rotate_left 1; focus (((try dsimp only at hSw); first | (go_simp; done) | (go_simp; with_reducible rfl)))
        try simp only [Act.put, List.setIfInBounds_toArray, List.set_cons_zero, List.set_cons_succ]
        refine held_take (i := 10) (v := ?_) rfl (by kernel_rfl) (by kernel_rfl) (by kernel_rfl) (fun _ _ _ h => h) (by rfl) (fun w hSw => ?_) (by assumption) ?_; rotate_left 1; focus (((try dsimp only at hSw); first | (go_simp; done) | (go_simp; with_reducible rfl)))
        try simp only [Act.put, List.setIfInBounds_toArray, List.set_cons_zero, List.set_cons_succ]
        refine held_take (i := 11) (v := ?_) rfl (by kernel_rfl) (by kernel_rfl) (by kernel_rfl) (fun _ _ _ h => h) (by rfl) (fun w hSw => ?_) (by assumption) ?_; rotate_left 1; focus (((try dsimp only at hSw); first | (go_simp; done) | (go_simp; with_reducible rfl)))
        try simp only [Act.put, List.setIfInBounds_toArray, List.set_cons_zero, List.set_cons_succ]
        refine held_take (i := 12) (v := ?_) rfl (by kernel_rfl) (by kernel_rfl) (by kernel_rfl) (fun _ _ _ h => h) (by rfl) (fun w hSw => ?_) (by assumption) ?_; rotate_left 1; focus (((try dsimp only at hSw); first | (go_simp; done) | (go_simp; with_reducible rfl)))
        try simp only [Act.put, List.setIfInBounds_toArray, List.set_cons_zero, List.set_cons_succ]
        refine wpAnyH_done (by kernel_rfl) ?_ _
        have W5 := Lib.hid (below_of W2.out hHeld.2)
        have RS5 := Lib.hid (RS2.out.below hHeld.2 (Nat.le_refl _))
        clear hHeld
        go_wp2_with fail
        go_returns
        exact .inr ⟨hno.out, ⟨3, by rw [ha]; rfl, rfl⟩, W5.out⟩
    · have DN : Hid (∀ u, Rs a n c b o l u → Calls Try.prog 20 #[.slice a n c, optV B R (KN : Int)] u fun e w' => e = .returned (.tuple #[.string ⟨#[]⟩, .slice none 0 0, .int .i64 3]) ∧ Below u.heap.size u w') := Lib.hid (fun u hu => (DC.out u hu).mono fun e w' hh => by
        rcases hh with ⟨ys, v, s, h1, h2, _⟩ | ⟨h1, h2, h3⟩
        · exact absurd ⟨ys, h1, h2⟩ hg
        · exact ⟨h2, h3⟩)
      have hno : Hid (∀ xs s, ¬ Built l B R ((KN : Int)).toNat xs s) := Lib.hid (fun xs s hb => hg ⟨xs, hb.good, hb.all⟩)
      clear hg DC
      go_enter Try.func8, Try.ntmps8
      go_wp2_with (first
        | (go_at_call 19; ((with_reducible refine AC.out.mono ?_); rintro e w1 ⟨rfl, hb1⟩; have O1 := Lib.hid (O0.out.below hb1); have R1 := Lib.hid (R0.out.below hb1 (Nat.le_refl _)); have W1 := Lib.hid (below_of W0.out hb1); clear hb1 c0 c1 c2; obtain ⟨c0, c1, c2⟩ := O1.out.cells))
        | (go_at_call 20; ((with_reducible refine (DN.out _ R1.out).mono ?_); rintro e w2 ⟨rfl, hb2⟩; have W2 := Lib.hid (below_of W1.out hb2); clear hb2)))
      go_returns
      exact .inr ⟨hno.out, ⟨3, by rw [ha]; rfl, rfl⟩, W2.out⟩
end Go.Proofs.Ytmjakkemiiigpaa
/-
  The contract of partsOf: the data blocks by the rows of the index. Condition: at most 1024 rows, 262144 bytes.
-/
namespace Go.Proofs.Ytmjakkemiiigpaa
set_option maxRecDepth 100000
open Go.RowKit
theorem exL_mid (L : List UInt8) (f u : Nat) (h1 : f ≤ u) (h2 : u ≤ L.length) : (⟨L.toArray⟩ : ByteArray).extract f u = ⟨((L.take u).drop f).toArray⟩ := by
  apply ByteArray.ext
  rw [ByteArray.data_extract]
  apply Array.toList_inj.1
  rw [Array.toList_extract, List.extract_eq_take_drop]
  simp only []
  rw [List.drop_take]
/-- The parts of bytes by the rows of the index, and where the first one starts. -/
def prt (D : List UInt8) : List Rw → Option (List Pt × Nat)
  | [] => some ([], D.length)
  | x :: r => match prt D r with
    | none => none
    | some (ps, u) => match rdEn x with
      | none => none
      | some (e, f) => if u < f ∨ (f = u ∧ r ≠ []) then none else some (⟨(D.take u).drop f, e⟩ :: ps, f)
theorem prt_none {D : List UInt8} {r : List Rw} (h : prt D r = none) : ∀ l : List Rw, prt D (l ++ r) = none
  | [] => h
  | x :: l => by rw [List.cons_append, prt, prt_none h l]
theorem prt_drop_none {D : List UInt8} {es : List Rw} {i : Nat} (h : prt D (es.drop i) = none) : prt D es = none := by
  have := prt_none h (es.take i)
  rwa [List.take_append_drop] at this
theorem prt_len {D : List UInt8} : ∀ {es : List Rw} {ps : List Pt} {u : Nat}, prt D es = some (ps, u) → ps.length = es.length ∧ u ≤ D.length
  | [], ps, u, h => by simp [prt] at h; obtain ⟨rfl, rfl⟩ := h; exact ⟨rfl, Nat.le_refl _⟩
  | x :: r, ps, u, h => by
    rw [prt] at h
    cases hr : prt D r with
    | none => rw [hr] at h; cases h
    | some q =>
      obtain ⟨ps', u'⟩ := q
      rw [hr] at h
      obtain ⟨h1, h2⟩ := prt_len hr
      cases hx : rdEn x with
      | none => simp only [hx] at h; cases h
      | some q =>
        obtain ⟨e, f⟩ := q
        simp only [hx] at h
        split at h
        · cases h
        · simp only [Option.some.injEq, Prod.mk.injEq] at h
          obtain ⟨rfl, rfl⟩ := h
          exact ⟨by simp [h1], by omega⟩
theorem set_five : ∀ (i : Nat) (L : List Value) (a b c d e : Value), i + 5 ≤ L.length → (((((L.set i a).set (i + 1) b).set (i + 2) c).set (i + 3) d).set (i + 4) e).drop i = [a, b, c, d, e] ++ L.drop (i + 5)
  | 0, L, a, b, c, d, e, h => by
    match L, h with
    | x0 :: x1 :: x2 :: x3 :: x4 :: r, _ => rfl
  | i + 1, [], _, _, _, _, _, h => by simp at h
  | i + 1, x :: L, a, b, c, d, e, h => by
    have := set_five i L a b c d e (by simpa using h)
    have e5 : i + 1 + 5 = i + 5 + 1 := by omega
    have e1 : i + 1 + 1 = i + 1 + 1 := rfl
    have e2 : i + 1 + 2 = i + 2 + 1 := by omega
    have e3 : i + 1 + 3 = i + 3 + 1 := by omega
    have e4 : i + 1 + 4 = i + 4 + 1 := by omega
    rw [e5, e2, e3, e4]
    simp only [List.set_cons_succ, List.drop_succ_cons]
    exact this
def partsC (l : List Pt) : List Value := l.flatMap partC
theorem partsC_len (l : List Pt) : (partsC l).length = l.length * 5 := by
  induction l with
  | nil => rfl
  | cons p r ih => show ([_, _, _, _, _] ++ partsC r).length = _; rw [List.length_append, ih]; simp; omega
theorem partsC_at : ∀ (l : List Pt) (j : Nat) {x : Pt}, l[j]? = some x → (partsC l)[j * 5]? = some (.string ⟨x.byt.toArray⟩) ∧ (partsC l)[j * 5 + 1]? = some (.string x.en.fst) ∧ (partsC l)[j * 5 + 2]? = some (.string x.en.lst) ∧ (partsC l)[j * 5 + 3]? = some (.int .u64 (x.en.seq : Int)) ∧ (partsC l)[j * 5 + 4]? = some (.int .i64 (x.en.cnt : Int))
  | [], _, _, h => by cases h
  | y :: r, 0, x, h => by
    obtain rfl : y = x := by simpa using h
    exact ⟨rfl, rfl, rfl, rfl, rfl⟩
  | y :: r, j + 1, x, h => by
    obtain ⟨h0, h1, h2, h3, h4⟩ := partsC_at r j (x := x) (by simpa using h)
    have e : ∀ k, (partsC (y :: r))[(j + 1) * 5 + k]? = (partsC r)[j * 5 + k]? := fun k => by
      show (_ :: _ :: _ :: _ :: _ :: partsC r)[(j + 1) * 5 + k]? = _
      rw [show (j + 1) * 5 + k = j * 5 + k + 1 + 1 + 1 + 1 + 1 by omega]; simp
    exact ⟨(e 0).trans h0, (e 1).trans h1, (e 2).trans h2, (e 3).trans h3, (e 4).trans h4⟩
/-- The slice under way: the last parts stand. -/
structure Going (g n : Nat) (j : Nat) (ps : List Pt) (w : World) : Prop where
  ex : ∃ V : Array Value, w.heap[g]? = some (.cells V 80 (0, 0)) ∧ V.size = n * 5 ∧ V.toList.drop (j * 5) = partsC ps
theorem Going.below {g n j : Nat} {ps : List Pt} {w w' : World} (h : Going g n j ps w) (hb : Below w.heap.size w w') : Going g n j ps w' := by
  obtain ⟨V, h1, h2⟩ := h.ex
  exact ⟨V, (hb.block g (Array.getElem?_eq_some_iff.1 h1).1).trans h1, h2⟩
theorem Going.lt {g n j : Nat} {ps : List Pt} {w : World} (h : Going g n j ps w) : g < w.heap.size := by
  obtain ⟨V, h1, h2⟩ := h.ex
  exact (Array.getElem?_eq_some_iff.1 h1).1
theorem Going.cells {g n i : Nat} {ps : List Pt} {w : World} (h : Going g n (i + 1) ps w) (hi : i < n) : ∀ k, k < 5 → ∃ v, w.cell? ⟨g, i * 5 + k, none⟩ = some v ∧ w.frozen? ⟨g, i * 5 + k, none⟩ = false := by
  obtain ⟨V, h1, h2, _⟩ := h.ex
  intro k hk
  refine ⟨V[i * 5 + k]'(by rw [h2]; omega), ?_, ?_⟩
  · simp [World.cell?, h1]
  · simp [World.frozen?, h1]
theorem Going.put {g n i : Nat} {ps : List Pt} {w : World} (h : Going g n (i + 1) ps w) (hi : i < n) (p : Pt) : Going g n i (p :: ps) (((((w.setCell ⟨g, i * 5, none⟩ (.string ⟨p.byt.toArray⟩)).setCell ⟨g, i * 5 + 1, none⟩ (.string p.en.fst)).setCell ⟨g, i * 5 + 2, none⟩ (.string p.en.lst)).setCell ⟨g, i * 5 + 3, none⟩ (.int .u64 (p.en.seq : Int))).setCell ⟨g, i * 5 + 4, none⟩ (.int .i64 (p.en.cnt : Int))) := by
  obtain ⟨V, h1, h2, h3⟩ := h.ex
  have k1 := heap_setCell_same _ _ (i * 5) _ _ (.string ⟨p.byt.toArray⟩) h1
  have k2 := heap_setCell_same _ _ (i * 5 + 1) _ _ (.string p.en.fst) k1
  have k3 := heap_setCell_same _ _ (i * 5 + 2) _ _ (.string p.en.lst) k2
  have k4 := heap_setCell_same _ _ (i * 5 + 3) _ _ (.int .u64 (p.en.seq : Int)) k3
  have k5 := heap_setCell_same _ _ (i * 5 + 4) _ _ (.int .i64 (p.en.cnt : Int)) k4
  refine ⟨_, k5, by simp [h2], ?_⟩
  have hl : i * 5 + 5 ≤ V.toList.length := by rw [Array.length_toList, h2]; omega
  have := set_five (i * 5) V.toList (.string ⟨p.byt.toArray⟩) (.string p.en.fst) (.string p.en.lst) (.int .u64 (p.en.seq : Int)) (.int .i64 (p.en.cnt : Int)) hl
  simp only [Array.toList_setIfInBounds]
  rw [this, show i * 5 + 5 = (i + 1) * 5 by omega, h3]
  rfl
theorem Going.done {g n : Nat} {ps : List Pt} {w : World} (h : Going g n 0 ps w) (hn : n ≤ 1048576) (hl : ps.length = n) : Pts (some ⟨g, 0, none⟩) n n g 0 ps w := by
  obtain ⟨V, h1, h2, h3⟩ := h.ex
  rw [Nat.zero_mul, List.drop_zero] at h3
  refine ⟨hl, Nat.le_refl _, hn, fun _ => ⟨rfl, h.lt⟩, fun j x hx => ?_⟩
  have hc : ∀ k, w.cell? ⟨g, k, none⟩ = (partsC ps)[k]? := fun k => by
    rw [← h3]
    simp [World.cell?, h1]
  rw [Nat.zero_add, hc, hc, hc, hc, hc]
  exact partsC_at ps j hx
def PartsD (es : List Rw) (D : List UInt8) (w : World) (e : Ending) (w' : World) : Prop :=
  (∃ ps u a c b, prt D es = some (ps, u) ∧ e = .returned (.tuple #[.slice a ps.length c, .bool (decide (u = 0))]) ∧ Pts a ps.length c b 0 ps w' ∧ Below w.heap.size w w') ∨
  (prt D es = none ∧ (∃ v, e = .returned (.tuple #[v, .bool false])) ∧ Below w.heap.size w w')
set_option maxRecDepth 100000 in
set_option maxHeartbeats 8000000 in
theorem partsOf_any {a : Option Addr} {n c b o : Nat} {es : List Rw} {w : World} (h : Rs a n c b o es w) (hn : n ≤ 1024) (hv : ∀ x ∈ es, x.val.size ≤ 1048576) (D : List UInt8) (hD : D.length ≤ 262144) :
    Calls Try.prog 30 #[.slice a n c, .string ⟨D.toArray⟩] w (PartsD es D w) := by
  have q0 := h.cap
  have m0 := h.most
  have hlen := Lib.hid h.len
  have h := Lib.hid h
  have hv := Lib.hid hv
  have infoP : (Try.prog.info? 80).map (fun i => (i.zero, i.size, i.bytes)) = some (some (.agg #[.string .empty, .string .empty, .string .empty, .int .u64 0, .int .i64 0]), 5, 64) := by kernel_rfl
  obtain ⟨i0, hi, hz0, hz1, hz2⟩ := info_parts infoP
  have hmk : ∀ u : World, (Instr.makeSlice 68 (.int .i64 (n : Int)) (.int .i64 (n : Int))).run Try.prog u = .ok (.slice (some ⟨u.heap.size, 0, none⟩) n n) (u.alloc (.cells (madeCells #[.string .empty, .string .empty, .string .empty, .int .u64 0, .int .i64 0] (n * 5)) 80)) := fun u => by
    have := run_makeSlice u 68 80 i0 _ Try.underlying68 hi hz0 .i64 .i64 (n : Int) (n : Int) (by omega) (by omega) (by rw [hz1]; omega) (by rw [hz2]; omega) (by omega)
    rw [hz1, Int.toNat_natCast] at this
    exact this
  clear hi hz0 hz1 hz2
  have G0 : Hid (Going w.heap.size n n [] (w.alloc (.cells (madeCells #[.string .empty, .string .empty, .string .empty, .int .u64 0, .int .i64 0] (n * 5)) 80))) := Lib.hid ⟨_, heap_alloc_new _ _, size_madeCells _ _, List.drop_eq_nil_of_le (by rw [Array.length_toList, size_madeCells]; omega)⟩
  have W0 := Lib.hid (below_alloc w (.cells (madeCells #[.string .empty, .string .empty, .string .empty, .int .u64 0, .int .i64 0] (n * 5)) 80))
  have wD : IntKind.u64.wrap (D.length : Int) = (D.length : Int) := by rw [IntKind.wrap_u64]; omega
  have w1 : wrap64 ((n : Int) - 1) = (n : Int) - 1 := by unfold wrap64; omega
  go_enter Try.func30, Try.ntmps30
  go_wp2_with fail
  generalize w.alloc (.cells (madeCells #[.string .empty, .string .empty, .string .empty, .int .u64 0, .int .i64 0] (n * 5)) 80) = W1 at *
  obtain ⟨g, hg⟩ := named w.heap.size
  rw [← hg.out] at G0 ⊢
  go_loopw [7, 8] (fun uu d wr => ∃ (j u : Nat) (ps : List Pt), j ≤ n ∧ Hid (prt D (es.drop j) = some (ps, u)) ∧ uu = .int .u64 (u : Int) ∧ d = .int .i64 ((j : Int) - 1) ∧ Hid (Going g n j ps wr) ∧ Hid (Below w.heap.size w wr)) (fun _ d _ => (intOf d + 1).toNat)
  case atStart => exact ⟨n, D.length, [], Nat.le_refl _, Lib.hid (by rw [List.drop_eq_nil_of_le (by rw [hlen.out]; exact Nat.le_refl _)]; rfl), rfl, by first | rfl | rw [w1], G0, W0⟩
  case round =>
    obtain ⟨j, u, ps, hj, hp, rfl, rfl, hG, hB⟩ := hrel
    obtain ⟨hpl, hul⟩ := prt_len hp.out
    replace hpl := Lib.hid hpl
    cases j with
    | zero =>
      have e0 : ((0 : Nat) : Int) - 1 = -1 := rfl
      rw [e0]
      have hps : Hid (prt D es = some (ps, u)) := Lib.hid (by have := hp.out; rwa [List.drop_zero] at this)
      have hdone := Lib.hid (hG.out.done (by omega) (by rw [hpl.out, List.drop_zero, hlen.out]))
      have hl2 : Hid (ps.length = n) := Lib.hid (by rw [hpl.out, List.drop_zero, hlen.out])
      have hu0 : ((u : Int) == 0) = decide (u = 0) := by rw [Bool.eq_iff_iff, beq_iff_eq, decide_eq_true_iff]; omega
      obtain ⟨T, hT⟩ := named (decide (u = 0))
      rw [← hT.out] at hu0
      go_wp2_with fail
      go_returns
      refine .inl ⟨ps, u, some ⟨g, 0, none⟩, n, g, hps.out, ?_, by rw [hl2.out]; exact hdone.out, hB.out⟩
      rw [hl2.out, ← hT.out]; first | rfl | (rw [← hu0]; rfl)
    | succ i =>
      have e1 : ((i + 1 : Nat) : Int) - 1 = (i : Int) := by omega
      rw [e1]
      have hin : i < n := by omega
      obtain ⟨x, hx, rfl, x0, x1, x2, x3⟩ := (h.out.below hB.out (Nat.le_refl _)).at4 hin
      have hxv := hv.out x (List.mem_of_getElem? hx)
      have RC := Lib.hid (fun u => readEntry_any x hxv u)
      have hdr : es.drop i = x :: es.drop (i + 1) := by
        have hi : i < es.length := by rw [hlen.out]; exact hin
        rw [List.drop_eq_getElem_cons hi]
        rw [List.getElem?_eq_getElem hi] at hx
        rw [Option.some.inj hx]
      have hdr := Lib.hid hdr
      have i0 : (i : Int) < (n : Int) := by omega
      have w2 : wrap64 ((n : Int) - 1) = (n : Int) - 1 := w1
      clear hx
      cases hrd : rdEn x with
      | none =>
        have hno : Hid (prt D es = none) := Lib.hid (prt_drop_none (i := i) (by rw [hdr.out, prt, hp.out]; simp only [hrd]))
        have hrr : rdR x = .tuple #[enV enZ, .int .u64 0, .bool false] := by unfold rdR; rw [hrd]
        rw [hrr] at RC
        obtain ⟨xk, xs, xi, xv⟩ := x
        simp only at x0 x1 x2 x3 RC
        clear hrd hrr
        go_wp2_with (go_at_call 64; ((with_reducible refine (RC.out _).mono ?_); rintro e w3 ⟨rfl, hb3⟩; have B3 := Lib.hid ((below_of hB.out hb3).alloc (Nat.le_trans hB.out.size hb3.size) (.cells #[.string ⟨#[]⟩, .string ⟨#[]⟩, .int .u64 0, .int .i64 0] 78)); clear hb3))
        go_returns
        exact .inr ⟨hno.out, ⟨_, rfl⟩, B3.out⟩
      | some q =>
        obtain ⟨en, f⟩ := q
        have hrr : rdR x = .tuple #[enV en, .int .u64 (f : Int), .bool true] := by unfold rdR; rw [hrd]
        rw [hrr] at RC
        have hpx : Hid (prt D (es.drop i) = if u < f ∨ (f = u ∧ es.drop (i + 1) ≠ []) then none else some (⟨(D.take u).drop f, en⟩ :: ps, f)) := Lib.hid (by rw [hdr.out, prt, hp.out]; simp only [hrd])
        have hnil : Hid (es.drop (i + 1) ≠ [] ↔ i + 1 < n) := Lib.hid (by
          constructor
          · intro h1
            rcases Nat.lt_or_ge (i + 1) n with h2 | h2
            · exact h2
            · exact absurd (List.drop_eq_nil_of_le (by rw [hlen.out]; exact h2)) h1
          · intro h1 h2
            have := congrArg List.length h2
            rw [List.length_drop, hlen.out, List.length_nil] at this; omega)
        clear hrd hrr
        obtain ⟨xk, xs, xi, xv⟩ := x
        obtain ⟨ef, el, es1, ec⟩ := en
        simp only at x0 x1 x2 x3 RC
        by_cases q1 : u < f
        · have hno : Hid (prt D es = none) := Lib.hid (prt_drop_none (i := i) (by rw [hpx.out, if_pos (.inl q1)]))
          have k1 : (u : Int) < (f : Int) := by omega
          go_wp2_with (go_at_call 64; ((with_reducible refine (RC.out _).mono ?_); rintro e w3 ⟨rfl, hb3⟩; have B3 := Lib.hid ((below_of hB.out hb3).alloc (Nat.le_trans hB.out.size hb3.size) (.cells #[.string ef, .string el, .int .u64 (es1 : Int), .int .i64 (ec : Int)] 78)); have G3 := Lib.hid ((hG.out.below hb3).below (below_alloc w3 (.cells #[.string ef, .string el, .int .u64 (es1 : Int), .int .i64 (ec : Int)] 78))); have X3 := Lib.hid (Box4.new w3 78 (.string ef) (.string el) (.int .u64 (es1 : Int)) (.int .i64 (ec : Int))); clear hb3))
          go_returns
          exact .inr ⟨hno.out, ⟨_, rfl⟩, B3.out⟩
        have k1 : ¬ (u : Int) < (f : Int) := by omega
        by_cases q2 : f = u ∧ i + 1 < n
        · have hno : Hid (prt D es = none) := Lib.hid (prt_drop_none (i := i) (by rw [hpx.out, if_pos (.inr ⟨q2.1, hnil.out.2 q2.2⟩)]))
          have k2 : ((f : Int) == (u : Int)) = true := by rw [beq_iff_eq]; omega
          have k2b : (f == u) = true := by rw [beq_iff_eq]; exact q2.1
          have k3 : (i : Int) < (n : Int) - 1 := by omega
          replace q2 := Lib.hid q2
          go_wp2_with (go_at_call 64; ((with_reducible refine (RC.out _).mono ?_); rintro e w3 ⟨rfl, hb3⟩; have B3 := Lib.hid ((below_of hB.out hb3).alloc (Nat.le_trans hB.out.size hb3.size) (.cells #[.string ef, .string el, .int .u64 (es1 : Int), .int .i64 (ec : Int)] 78)); have G3 := Lib.hid ((hG.out.below hb3).below (below_alloc w3 (.cells #[.string ef, .string el, .int .u64 (es1 : Int), .int .i64 (ec : Int)] 78))); have X3 := Lib.hid (Box4.new w3 78 (.string ef) (.string el) (.int .u64 (es1 : Int)) (.int .i64 (ec : Int))); clear hb3))
          go_returns
          exact .inr ⟨hno.out, ⟨_, rfl⟩, B3.out⟩
        have hpx2 : Hid (prt D (es.drop i) = some (⟨(D.take u).drop f, ⟨ef, el, es1, ec⟩⟩ :: ps, f)) := Lib.hid (by
          rw [hpx.out, if_neg (fun h => by
            rcases h with h | ⟨h1, h2⟩
            · exact q1 h
            · exact q2 ⟨h1, hnil.out.1 h2⟩)])
        have EX := exL_mid D f u (by omega) (by omega)
        obtain ⟨Y, hY⟩ := named ((D.take u).drop f)
        rw [← hY.out] at EX hpx2
        have l1 : (f : Int) ≤ (u : Int) := by omega
        have l2 : (u : Int) ≤ (D.length : Int) := by omega
        have l3 : f ≤ u := by omega
        have k3 : Hid (f = u → ¬ i + 1 < n) := Lib.hid (fun h1 h2 => q2 ⟨h1, h2⟩)
        clear q2 q1
        by_cases q3 : f = u
        · have k2 : ((f : Int) == (u : Int)) = true := by rw [beq_iff_eq]; omega
          have k2b : (f == u) = true := by rw [beq_iff_eq]; exact q3
          have k4 : ¬ (i : Int) < (n : Int) - 1 := by have := k3.out q3; omega
          replace q3 := Lib.hid q3
          go_upto_region 9 with (go_at_call 64; ((with_reducible refine (RC.out _).mono ?_); rintro e w3 ⟨rfl, hb3⟩; have B3 := Lib.hid ((below_of hB.out hb3).alloc (Nat.le_trans hB.out.size hb3.size) (.cells #[.string ef, .string el, .int .u64 (es1 : Int), .int .i64 (ec : Int)] 78)); have G3 := Lib.hid ((hG.out.below hb3).below (below_alloc w3 (.cells #[.string ef, .string el, .int .u64 (es1 : Int), .int .i64 (ec : Int)] 78))); have X3 := Lib.hid (Box4.new w3 78 (.string ef) (.string el) (.int .u64 (es1 : Int)) (.int .i64 (ec : Int))); clear hb3))
          generalize w3.alloc (.cells #[.string ef, .string el, .int .u64 (es1 : Int), .int .i64 (ec : Int)] 78) = w4 at *
          obtain ⟨⟨d0, d1, d2, d3⟩, _⟩ := X3.out.cells
          obtain ⟨v0, y0, z0⟩ := G3.out.cells hin 0 (by omega)
          obtain ⟨v1, y1, z1⟩ := G3.out.cells hin 1 (by omega)
          obtain ⟨v2, y2, z2⟩ := G3.out.cells hin 2 (by omega)
          obtain ⟨v3, y3, z3⟩ := G3.out.cells hin 3 (by omega)
          obtain ⟨v4, y4, z4⟩ := G3.out.cells hin 4 (by omega)
          rw [Nat.add_zero] at y0 z0
          have GP := Lib.hid (G3.out.put hin ⟨Y, ⟨ef, el, es1, ec⟩⟩)
          simp only at GP
          clear x0 x1 x2 x3 RC hG X3
          go_region
          go_wp2_with fail
          go_roundw
          case rel => exact ⟨i, f, _, by omega, hpx2, rfl, by go_num, Lib.hid (GP.out.below (Below.refl _ _).drew), Lib.hid ((((((B3.out.setCell (p := ⟨g, i * 5, none⟩) (Nat.le_of_eq hg.out.symm) _).setCell (p := ⟨g, i * 5 + 1, none⟩) (Nat.le_of_eq hg.out.symm) _).setCell (p := ⟨g, i * 5 + 2, none⟩) (Nat.le_of_eq hg.out.symm) _).setCell (p := ⟨g, i * 5 + 3, none⟩) (Nat.le_of_eq hg.out.symm) _).setCell (p := ⟨g, i * 5 + 4, none⟩) (Nat.le_of_eq hg.out.symm) _).drew)⟩
          case measure => simp [intOf]; try omega
        · have k2 : ((f : Int) == (u : Int)) = false := by rw [beq_eq_false_iff_ne]; omega
          have k2b : (f == u) = false := by rw [beq_eq_false_iff_ne]; exact q3
          replace q3 := Lib.hid q3
          go_upto_region 9 with (go_at_call 64; ((with_reducible refine (RC.out _).mono ?_); rintro e w3 ⟨rfl, hb3⟩; have B3 := Lib.hid ((below_of hB.out hb3).alloc (Nat.le_trans hB.out.size hb3.size) (.cells #[.string ef, .string el, .int .u64 (es1 : Int), .int .i64 (ec : Int)] 78)); have G3 := Lib.hid ((hG.out.below hb3).below (below_alloc w3 (.cells #[.string ef, .string el, .int .u64 (es1 : Int), .int .i64 (ec : Int)] 78))); have X3 := Lib.hid (Box4.new w3 78 (.string ef) (.string el) (.int .u64 (es1 : Int)) (.int .i64 (ec : Int))); clear hb3))
          generalize w3.alloc (.cells #[.string ef, .string el, .int .u64 (es1 : Int), .int .i64 (ec : Int)] 78) = w4 at *
          obtain ⟨⟨d0, d1, d2, d3⟩, _⟩ := X3.out.cells
          obtain ⟨v0, y0, z0⟩ := G3.out.cells hin 0 (by omega)
          obtain ⟨v1, y1, z1⟩ := G3.out.cells hin 1 (by omega)
          obtain ⟨v2, y2, z2⟩ := G3.out.cells hin 2 (by omega)
          obtain ⟨v3, y3, z3⟩ := G3.out.cells hin 3 (by omega)
          obtain ⟨v4, y4, z4⟩ := G3.out.cells hin 4 (by omega)
          rw [Nat.add_zero] at y0 z0
          have GP := Lib.hid (G3.out.put hin ⟨Y, ⟨ef, el, es1, ec⟩⟩)
          simp only at GP
          clear x0 x1 x2 x3 RC hG X3
          go_region
          go_wp2_with fail
          go_roundw
          case rel => exact ⟨i, f, _, by omega, hpx2, rfl, by go_num, Lib.hid (GP.out.below (Below.refl _ _).drew), Lib.hid ((((((B3.out.setCell (p := ⟨g, i * 5, none⟩) (Nat.le_of_eq hg.out.symm) _).setCell (p := ⟨g, i * 5 + 1, none⟩) (Nat.le_of_eq hg.out.symm) _).setCell (p := ⟨g, i * 5 + 2, none⟩) (Nat.le_of_eq hg.out.symm) _).setCell (p := ⟨g, i * 5 + 3, none⟩) (Nat.le_of_eq hg.out.symm) _).setCell (p := ⟨g, i * 5 + 4, none⟩) (Nat.le_of_eq hg.out.symm) _).drew)⟩
          case measure => simp [intOf]; try omega
end Go.Proofs.Ytmjakkemiiigpaa
/-
  The contract of Open. Condition: texts of at most 1048576 bytes.
-/
namespace Go.Proofs.Ytmjakkemiiigpaa
set_option maxRecDepth 100000
open Go.RowKit
/-- These bytes are a table with this filter and these parts. -/
def OpenP (S F : List UInt8) (ps : List Pt) : Prop := ∃ f i X es d, offT S = some (f, i) ∧ pay ((S.take i).drop f) = some F ∧ Blm.okB F = true ∧ pay ((S.take (S.length - 20)).drop i) = some X ∧ IsB X es d ∧ prt (S.take f) es = some (ps, 0)
def OpenD (S : List UInt8) (w : World) (e : Ending) (w' : World) : Prop :=
  (∃ F ps p, OpenP S F ps ∧ e = .returned (.tuple #[.pointer (some ⟨p, 0, none⟩), .int .i64 0]) ∧ TabAt p F ps w' ∧ Below w.heap.size w w') ∨
  ((∀ F ps, ¬ OpenP S F ps) ∧ e = .returned (.tuple #[.pointer none, .int .i64 10]) ∧ Below w.heap.size w w')
theorem pay_len {L p : List UInt8} (h : pay L = some p) : p.length ≤ 65536 := by
  unfold pay at h
  split at h
  · rename_i hc
    cases h
    exact (Frame.put_get _ hc.1).2.2.1
  · cases h
theorem rs_vals {X : List UInt8} {es : List Rw} {d : Nat} (h : IsB X es d) : es.length ≤ 1024 ∧ ∀ x ∈ es, chkR x = 0 := by
  obtain ⟨h1, h2, h3, h4, h5⟩ := chkA_ok h.1
  exact ⟨h5, h4⟩
set_option maxRecDepth 100000 in
set_option maxHeartbeats 8000000 in
theorem open_any (S : List UInt8) (hS : S.length ≤ 1048576) (w : World) : Calls Try.prog 9 #[.string ⟨S.toArray⟩] w (OpenD S w) := by
  have OC := Lib.hid (fun u => offsets_any S hS u)
  unfold offR at OC
  cases hoff : offT S with
  | none =>
    have hno : Hid (∀ F ps, ¬ OpenP S F ps) := Lib.hid (fun F ps ⟨f, i, X, es, d, h, _⟩ => by rw [hoff] at h; cases h)
    simp only [hoff] at OC
    clear hoff
    go_enter Try.func9, Try.ntmps9
    go_wp2_with (go_at_call 26; ((with_reducible refine (OC.out _).mono ?_); rintro e w1 ⟨rfl, hb1⟩))
    go_returns
    exact .inr ⟨hno.out, rfl, hb1⟩
  | some q =>
    obtain ⟨f, i⟩ := q
    simp only [hoff] at OC
    obtain ⟨o1, o2, o3, o4, _⟩ := offT_le hoff
    have hi1 : f ≤ i := o3
    have hi2 : i ≤ S.length := by omega
    have z1 : (f : Int) ≤ (i : Int) := by omega
    have z2 : (i : Int) ≤ (S.length : Int) := by omega
    have z3 : (i : Int) ≤ (S.length : Int) - 20 := by omega
    have z4 : (S.length : Int) - 20 ≤ (S.length : Int) := by omega
    have z5 : (f : Int) ≤ (S.length : Int) := by omega
    have z6 : wrap64 ((S.length : Int) - 20) = (S.length : Int) - 20 := by unfold wrap64; omega
    have z7 : ((S.length : Int) - 20).toNat = S.length - 20 := by omega
    have E1 := exL_mid S f i hi1 hi2
    have E2 := exL_mid S i (S.length - 20) (by omega) (by omega)
    have E3 := exL_upto S f
    obtain ⟨A, hA⟩ := named ((S.take i).drop f)
    obtain ⟨B, hB⟩ := named ((S.take (S.length - 20)).drop i)
    obtain ⟨D, hD⟩ := named (S.take f)
    rw [← hA.out] at E1
    rw [← hB.out] at E2
    rw [← hD.out] at E3
    have lA : A.length ≤ 1048576 := by rw [hA.out, List.length_drop, List.length_take]; omega
    have lB : B.length ≤ 1048576 := by rw [hB.out, List.length_drop, List.length_take]; omega
    have lD : D.length ≤ 262144 := by rw [hD.out, List.length_take]; omega
    have hOP : Hid (∀ F ps, OpenP S F ps ↔ ∃ X es d, pay A = some F ∧ Blm.okB F = true ∧ pay B = some X ∧ IsB X es d ∧ prt D es = some (ps, 0)) := Lib.hid (fun F ps => by
      constructor
      · rintro ⟨f', i', X, es, d, h1, h2⟩
        rw [hoff] at h1
        cases h1
        exact ⟨X, es, d, by rw [hA.out, hB.out, hD.out]; exact h2⟩
      · rintro ⟨X, es, d, h2⟩
        rw [hA.out, hB.out, hD.out] at h2
        exact ⟨f, i, X, es, d, hoff, h2⟩)
    have P1 := Lib.hid (fun u => payload_any A lA u)
    have P2 := Lib.hid (fun u => payload_any B lB u)
    have CL : Hid (∀ u, Calls Try.prog 31 #[.string ⟨D.toArray⟩] u fun e w' => e = .returned (.string ⟨D.toArray⟩) ∧ Below u.heap.size u w') := Lib.hid (fun u => clone_txt ⟨D.toArray⟩ (by rw [ofList_size]; omega) u)
    clear hoff hA hB hD o1 o2 o3 o4
    cases hpA : pay A with
    | none =>
      have hno : Hid (∀ F ps, ¬ OpenP S F ps) := Lib.hid (fun F ps h => by
        obtain ⟨X, es, d, h1, h2, h3, h4, h5⟩ := (hOP.out F ps).1 h
        rw [hpA] at h1; cases h1)
      have hf := pay_no hpA
      obtain ⟨⟨Y, T⟩, hR⟩ := named (payR A)
      rw [← hR.out] at P1 hf
      simp only at P1 hf
      subst hf
      clear hpA hR
      go_enter Try.func9, Try.ntmps9
      go_wp2_with (first
        | (go_at_call 26; ((with_reducible refine (OC.out _).mono ?_); rintro e w1 ⟨rfl, hb1⟩; have B1 := Lib.hid hb1; clear hb1))
        | (go_at_call 27; ((with_reducible refine (P1.out _).mono ?_); rintro e w2 ⟨rfl, hb2⟩; have B2 := Lib.hid (below_of B1.out hb2); clear hb2))
        | fail "no arm")
      go_returns
      exact .inr ⟨hno.out, rfl, B2.out⟩
    | some F =>
      rw [pay_yes hpA] at P1
      simp only at P1
      have lF := pay_len hpA
      have CK : Hid (∀ u, Calls Try.prog 28 #[.string ⟨F.toArray⟩] u fun e w' => e = .returned (.int .i64 (if Blm.okB F then 0 else 7)) ∧ Below u.heap.size u w') := Lib.hid (fun u => by
        have := check_any ⟨F.toArray⟩ (by rw [ofList_size]; unfold maxLen; omega) u
        rw [data_toL] at this
        exact this.mono fun e w' h => ⟨h.1, by rw [h.2]; exact Below.refl _ _⟩)
      cases hok : Blm.okB F with
      | false =>
        rw [hok] at CK
        simp only [Bool.false_eq_true, if_false] at CK
        have hno : Hid (∀ F ps, ¬ OpenP S F ps) := Lib.hid (fun F ps h => by
          obtain ⟨X, es, d, h1, h2, h3, h4, h5⟩ := (hOP.out F ps).1 h
          rw [hpA] at h1; cases h1; rw [hok] at h2; cases h2)
        clear hpA hok
        go_enter Try.func9, Try.ntmps9
        go_wp2_with (first
          | (go_at_call 26; ((with_reducible refine (OC.out _).mono ?_); rintro e w1 ⟨rfl, hb1⟩; have B1 := Lib.hid hb1; clear hb1))
          | (go_at_call 27; ((with_reducible refine (P1.out _).mono ?_); rintro e w2 ⟨rfl, hb2⟩; have B2 := Lib.hid (below_of B1.out hb2); clear hb2))
          | (go_at_call 28; ((with_reducible refine (CK.out _).mono ?_); rintro e w3 ⟨rfl, hb3⟩; have B3 := Lib.hid (below_of B2.out hb3); clear hb3))
          | fail "no arm")
        go_returns
        exact .inr ⟨hno.out, rfl, B3.out⟩
      | true =>
        rw [hok] at CK
        simp only [if_true] at CK
        cases hpB : pay B with
        | none =>
          have hno : Hid (∀ F ps, ¬ OpenP S F ps) := Lib.hid (fun F ps h => by
            obtain ⟨X, es, d, h1, h2, h3, h4, h5⟩ := (hOP.out F ps).1 h
            rw [hpB] at h3; cases h3)
          have hf := pay_no hpB
          obtain ⟨⟨Y, T⟩, hR⟩ := named (payR B)
          rw [← hR.out] at P2 hf
          simp only at P2 hf
          subst hf
          clear hpA hR hok hpB
          go_enter Try.func9, Try.ntmps9
          go_wp2_with (first
            | (go_at_call 26; ((with_reducible refine (OC.out _).mono ?_); rintro e w1 ⟨rfl, hb1⟩; have B1 := Lib.hid hb1; clear hb1))
            | (go_at_call 27; ((with_reducible refine (P1.out _).mono ?_); rintro e w2 ⟨rfl, hb2⟩; have B2 := Lib.hid (below_of B1.out hb2); clear hb2))
            | (go_at_call 28; ((with_reducible refine (CK.out _).mono ?_); rintro e w3 ⟨rfl, hb3⟩; have B3 := Lib.hid (below_of B2.out hb3); clear hb3))
            | (go_at_call 27; ((with_reducible refine (P2.out _).mono ?_); rintro e w4 ⟨rfl, hb4⟩; have B4 := Lib.hid (below_of B3.out hb4); clear hb4))
            | fail "no arm")
          go_returns
          exact .inr ⟨hno.out, rfl, B4.out⟩
        | some X =>
          rw [pay_yes hpB] at P2
          simp only at P2
          have lX := pay_len hpB
          have RC := Lib.hid (fun u => rows_any X (by omega) u)
          by_cases hBB : ∃ es d, IsB X es d
          · obtain ⟨es, d, hBd⟩ := hBB
            obtain ⟨ln, lv⟩ := rs_vals hBd
            obtain ⟨n, hn⟩ := named es.length
            rw [← hn.out] at ln
            have hBd := Lib.hid hBd
            cases hpt : prt D es with
            | none =>
              have hno : Hid (∀ F ps, ¬ OpenP S F ps) := Lib.hid (fun F ps h => by
                obtain ⟨X, es, d, h1, h2, h3, h4, h5⟩ := (hOP.out F ps).1 h
                rw [hpB] at h3; cases h3; obtain ⟨rfl, _⟩ := isB_one h4 hBd.out; rw [hpt] at h5; cases h5)
              have PC : Hid (∀ (a : Option Addr) (c b : Nat) (u : World), Rs a n c b 0 es u → Calls Try.prog 30 #[.slice a n c, .string ⟨D.toArray⟩] u fun e w' => ∃ v, e = .returned (.tuple #[v, .bool false]) ∧ Below u.heap.size u w') := Lib.hid (fun a c b u h => (partsOf_any h ln (fun x hx => by have := (chkR_ok (lv x hx)).2.2.2.2.2.2; omega) D lD).mono fun e w' hh => by
                rcases hh with ⟨ps, u', a', c', b', h1, _⟩ | ⟨_, ⟨v, h2⟩, h3⟩
                · rw [hpt] at h1; cases h1
                · exact ⟨v, h2, h3⟩)
              clear hpA hok hpB hpt lv
              go_enter Try.func9, Try.ntmps9
              go_wp2_with (first
                | (go_at_call 26; ((with_reducible refine (OC.out _).mono ?_); rintro e w1 ⟨rfl, hb1⟩; have B1 := Lib.hid hb1; clear hb1))
                | (go_at_call 27; ((with_reducible refine (P1.out _).mono ?_); rintro e w2 ⟨rfl, hb2⟩; have B2 := Lib.hid (below_of B1.out hb2); clear hb2))
                | (go_at_call 28; ((with_reducible refine (CK.out _).mono ?_); rintro e w3 ⟨rfl, hb3⟩; have B3 := Lib.hid (below_of B2.out hb3); clear hb3))
                | (go_at_call 27; ((with_reducible refine (P2.out _).mono ?_); rintro e w4 ⟨rfl, hb4⟩; have B4 := Lib.hid (below_of B3.out hb4); clear hb4))
                | (go_at_call 29; ((with_reducible refine (RC.out _).mono ?_); rintro e w5 hh; obtain ⟨a5, c5, b5, rfl, hR5, hb5⟩ := hh.yes hBd.out; rw [← hn.out] at hR5 ⊢; have R5 := Lib.hid hR5; have B5 := Lib.hid (below_of B4.out hb5); clear hb5 hR5))
                | (go_at_call 31; ((with_reducible refine (CL.out _).mono ?_); rintro e w6 ⟨rfl, hb6⟩; have B6 := Lib.hid (below_of B5.out hb6); have R6 := Lib.hid (R5.out.below hb6 (Nat.le_refl _)); clear hb6))
                | (go_at_call 30; ((with_reducible refine (PC.out _ _ _ _ R6.out).mono ?_); rintro e w7 ⟨v7, rfl, hb7⟩; have B7 := Lib.hid (below_of B6.out hb7); clear hb7))
                | fail "no arm")
              go_returns
              exact .inr ⟨hno.out, rfl, B7.out⟩
            | some q =>
              obtain ⟨ps, u⟩ := q
              by_cases hu : u = 0
              · subst hu
                have hyes : Hid (OpenP S F ps) := Lib.hid ((hOP.out F ps).2 ⟨X, es, d, hpA, hok, hpB, hBd.out, hpt⟩)
                have PC : Hid (∀ (a : Option Addr) (c b : Nat) (u : World), Rs a n c b 0 es u → Calls Try.prog 30 #[.slice a n c, .string ⟨D.toArray⟩] u fun e w' => ∃ a' c' b', e = .returned (.tuple #[.slice a' ps.length c', .bool true]) ∧ Pts a' ps.length c' b' 0 ps w' ∧ Below u.heap.size u w') := Lib.hid (fun a c b u h => (partsOf_any h ln (fun x hx => by have := (chkR_ok (lv x hx)).2.2.2.2.2.2; omega) D lD).mono fun e w' hh => by
                  rcases hh with ⟨ps', u', a', c', b', h1, h2, h3, h4⟩ | ⟨h1, _⟩
                  · rw [hpt] at h1; cases h1
                    exact ⟨a', c', b', h2, h3, h4⟩
                  · rw [hpt] at h1; cases h1)
                clear hpA hok hpB hpt lv
                go_enter Try.func9, Try.ntmps9
                go_wp2_with (first
                  | (go_at_call 26; ((with_reducible refine (OC.out _).mono ?_); rintro e w1 ⟨rfl, hb1⟩; have B1 := Lib.hid hb1; clear hb1))
                  | (go_at_call 27; ((with_reducible refine (P1.out _).mono ?_); rintro e w2 ⟨rfl, hb2⟩; have B2 := Lib.hid (below_of B1.out hb2); clear hb2))
                  | (go_at_call 28; ((with_reducible refine (CK.out _).mono ?_); rintro e w3 ⟨rfl, hb3⟩; have B3 := Lib.hid (below_of B2.out hb3); clear hb3))
                  | (go_at_call 27; ((with_reducible refine (P2.out _).mono ?_); rintro e w4 ⟨rfl, hb4⟩; have B4 := Lib.hid (below_of B3.out hb4); clear hb4))
                  | (go_at_call 29; ((with_reducible refine (RC.out _).mono ?_); rintro e w5 hh; obtain ⟨a5, c5, b5, rfl, hR5, hb5⟩ := hh.yes hBd.out; rw [← hn.out] at hR5 ⊢; have R5 := Lib.hid hR5; have B5 := Lib.hid (below_of B4.out hb5); clear hb5 hR5))
                  | (go_at_call 31; ((with_reducible refine (CL.out _).mono ?_); rintro e w6 ⟨rfl, hb6⟩; have B6 := Lib.hid (below_of B5.out hb6); have R6 := Lib.hid (R5.out.below hb6 (Nat.le_refl _)); clear hb6))
                  | (go_at_call 30; ((with_reducible refine (PC.out _ _ _ _ R6.out).mono ?_); rintro e w7 ⟨a7, c7, b7, rfl, hP7, hb7⟩; have B7 := Lib.hid (below_of B6.out hb7); have P7 := Lib.hid hP7; clear hb7 hP7))
                  | fail "no arm")
                go_returns
                refine .inl ⟨F, ps, w7.heap.size, hyes.out, rfl, ⟨a7, _, c7, b7, heap_alloc_new _ _, P7.out.below (below_alloc _ _)⟩, B7.out.alloc B7.out.size _⟩
              · have hno : Hid (∀ F ps, ¬ OpenP S F ps) := Lib.hid (fun F ps h => by
                  obtain ⟨X, es, d, h1, h2, h3, h4, h5⟩ := (hOP.out F ps).1 h
                  rw [hpB] at h3; cases h3; obtain ⟨rfl, _⟩ := isB_one h4 hBd.out; rw [hpt] at h5; cases h5; exact hu rfl)
                have PC : Hid (∀ (a : Option Addr) (c b : Nat) (u : World), Rs a n c b 0 es u → Calls Try.prog 30 #[.slice a n c, .string ⟨D.toArray⟩] u fun e w' => ∃ v, e = .returned (.tuple #[v, .bool false]) ∧ Below u.heap.size u w') := Lib.hid (fun a c b u1 h => (partsOf_any h ln (fun x hx => by have := (chkR_ok (lv x hx)).2.2.2.2.2.2; omega) D lD).mono fun e w' hh => by
                  rcases hh with ⟨ps', u', a', c', b', h1, h2, h3, h4⟩ | ⟨h1, _⟩
                  · rw [hpt] at h1; cases h1
                    rw [decide_eq_false hu] at h2
                    exact ⟨_, h2, h4⟩
                  · rw [hpt] at h1; cases h1)
                clear hpA hok hpB hpt lv
                go_enter Try.func9, Try.ntmps9
                go_wp2_with (first
                  | (go_at_call 26; ((with_reducible refine (OC.out _).mono ?_); rintro e w1 ⟨rfl, hb1⟩; have B1 := Lib.hid hb1; clear hb1))
                  | (go_at_call 27; ((with_reducible refine (P1.out _).mono ?_); rintro e w2 ⟨rfl, hb2⟩; have B2 := Lib.hid (below_of B1.out hb2); clear hb2))
                  | (go_at_call 28; ((with_reducible refine (CK.out _).mono ?_); rintro e w3 ⟨rfl, hb3⟩; have B3 := Lib.hid (below_of B2.out hb3); clear hb3))
                  | (go_at_call 27; ((with_reducible refine (P2.out _).mono ?_); rintro e w4 ⟨rfl, hb4⟩; have B4 := Lib.hid (below_of B3.out hb4); clear hb4))
                  | (go_at_call 29; ((with_reducible refine (RC.out _).mono ?_); rintro e w5 hh; obtain ⟨a5, c5, b5, rfl, hR5, hb5⟩ := hh.yes hBd.out; rw [← hn.out] at hR5 ⊢; have R5 := Lib.hid hR5; have B5 := Lib.hid (below_of B4.out hb5); clear hb5 hR5))
                  | (go_at_call 31; ((with_reducible refine (CL.out _).mono ?_); rintro e w6 ⟨rfl, hb6⟩; have B6 := Lib.hid (below_of B5.out hb6); have R6 := Lib.hid (R5.out.below hb6 (Nat.le_refl _)); clear hb6))
                  | (go_at_call 30; ((with_reducible refine (PC.out _ _ _ _ R6.out).mono ?_); rintro e w7 ⟨v7, rfl, hb7⟩; have B7 := Lib.hid (below_of B6.out hb7); clear hb7))
                  | fail "no arm")
                go_returns
                exact .inr ⟨hno.out, rfl, B7.out⟩
          · have hnB : ∀ es d, ¬ IsB X es d := fun es d h => hBB ⟨es, d, h⟩
            have hnB := Lib.hid hnB
            have hno : Hid (∀ F ps, ¬ OpenP S F ps) := Lib.hid (fun F ps h => by
              obtain ⟨X, es, d, h1, h2, h3, h4, h5⟩ := (hOP.out F ps).1 h
              rw [hpB] at h3; cases h3; exact hnB.out _ _ h4)
            clear hpA hok hpB hBB
            go_enter Try.func9, Try.ntmps9
            go_wp2_with (first
              | (go_at_call 26; ((with_reducible refine (OC.out _).mono ?_); rintro e w1 ⟨rfl, hb1⟩; have B1 := Lib.hid hb1; clear hb1))
              | (go_at_call 27; ((with_reducible refine (P1.out _).mono ?_); rintro e w2 ⟨rfl, hb2⟩; have B2 := Lib.hid (below_of B1.out hb2); clear hb2))
              | (go_at_call 28; ((with_reducible refine (CK.out _).mono ?_); rintro e w3 ⟨rfl, hb3⟩; have B3 := Lib.hid (below_of B2.out hb3); clear hb3))
              | (go_at_call 27; ((with_reducible refine (P2.out _).mono ?_); rintro e w4 ⟨rfl, hb4⟩; have B4 := Lib.hid (below_of B3.out hb4); clear hb4))
              | (go_at_call 29; ((with_reducible refine (RC.out _).mono ?_); rintro e w5 hh; obtain ⟨rfl, hb5⟩ := hh.none hnB.out; have B5 := Lib.hid (below_of B4.out hb5); clear hb5))
              | fail "no arm")
            go_returns
            exact .inr ⟨hno.out, rfl, B5.out⟩
end Go.Proofs.Ytmjakkemiiigpaa
/-
  Plain mathematics: what was built is opened as it was built. No model's run in this text. No condition.
-/
namespace Go.Proofs.Ytmjakkemiiigpaa
set_option maxRecDepth 100000
open Go.RowKit
theorem rdEn_enRow (e : En) (off : Nat) (h1 : e.fst.size ≤ 520) (h2 : 1 ≤ e.cnt) (h3 : e.cnt ≤ 1024) (h4 : off < 2 ^ 62) : rdEn (enRow e off) = some (e, off) := by
  obtain ⟨ef, el, es, ec⟩ := e
  simp only at h1 h2 h3
  have hl : ef.toList.length = ef.size := toL_len ef
  unfold rdEn enRow
  simp only [ofList_toList]
  have r1 : Code.rd 0 (Code.uvar ef.size ++ ef.toList ++ Code.uvar off ++ Code.uvar ec) = (ef.size, (Code.uvar ef.size).length, 0) := by
    rw [List.append_assoc, List.append_assoc]
    exact Code.rd_uvar ef.size 0 _ (by omega) (by omega) (by omega)
  have d1 : (Code.uvar ef.size ++ ef.toList ++ Code.uvar off ++ Code.uvar ec).drop (Code.uvar ef.size).length = ef.toList ++ (Code.uvar off ++ Code.uvar ec) := by
    rw [List.append_assoc, List.append_assoc, List.drop_left]
  have rf : Code.rdField (Code.uvar ef.size ++ ef.toList ++ Code.uvar off ++ Code.uvar ec) 520 = (ef.toList, (Code.uvar ef.size).length + ef.size, 0) := by
    unfold Code.rdField
    rw [r1]
    simp only
    rw [if_neg (by simp), if_neg (by omega), if_neg (by simp only [List.length_append]; omega), d1]
    have : (ef.toList ++ (Code.uvar off ++ Code.uvar ec)).take ef.size = ef.toList := by rw [← hl, List.take_left]
    rw [this]
  have d2 : (Code.uvar ef.size ++ ef.toList ++ Code.uvar off ++ Code.uvar ec).drop ((Code.uvar ef.size).length + ef.size) = Code.uvar off ++ Code.uvar ec := by
    rw [← List.drop_drop, d1, ← hl, List.drop_left]
  have r2 : Code.rd 0 (Code.uvar off ++ Code.uvar ec) = (off, (Code.uvar off).length, 0) := Code.rd_uvar off 0 _ (by omega) (by omega) (by omega)
  have r3 : Code.rd 0 (Code.uvar ec) = (ec, (Code.uvar ec).length, 0) := by
    have := Code.rd_uvar ec 0 [] (by omega) (by omega) (by omega)
    rwa [List.append_nil] at this
  rw [rf]
  simp only
  rw [if_neg (by simp), d2, r2]
  simp only
  rw [if_neg (by simp), List.drop_left, r3]
  simp only
  rw [if_neg (by omega), ofL]
/-- A data block as Open keeps it. -/
def ptOf (l : List Rw) (R : Int) (x : Nat × Nat) : Pt := ⟨Frame.put (buildB (chunk l x) R).1, enOf (chunk l x)⟩
/-- What the entries of blocks must be. -/
def EnOk (l : List Rw) (x : Nat × Nat) : Prop := (enOf (chunk l x)).fst.size ≤ 520 ∧ 1 ≤ (enOf (chunk l x)).cnt ∧ (enOf (chunk l x)).cnt ≤ 1024
theorem prt_built (l : List Rw) (R : Int) : ∀ (r : List (Nat × Nat)) (A : List UInt8), (∀ x ∈ r, EnOk l x) → (A ++ dtx l R r).length < 2 ^ 62 → prt (A ++ dtx l R r) (entG l R A.length r) = some (r.map (ptOf l R), A.length)
  | [], A, _, _ => by simp [entG, prt, dtx]
  | x :: r, A, hok, hz => by
    obtain ⟨FX, hFX⟩ : ∃ FX, FX = Frame.put (buildB (chunk l x) R).1 := ⟨_, rfl⟩
    have e : A ++ dtx l R (x :: r) = (A ++ FX) ++ dtx l R r := by rw [hFX]; simp [dtx]
    have hpos : 5 ≤ FX.length := by rw [hFX, Frame.put_length]; have := Code.uvar_len (buildB (chunk l x) R).1.length; omega
    have ih := prt_built l R r (A ++ FX) (fun y hy => hok y (by simp [hy])) (by rw [← e]; exact hz)
    rw [e, entG, prt, ← hFX]
    rw [List.length_append] at ih
    rw [ih]
    simp only
    have hx := hok x (by simp)
    have hzA : A.length < 2 ^ 62 := by rw [e, List.length_append, List.length_append] at hz; omega
    rw [rdEn_enRow _ _ hx.1 hx.2.1 hx.2.2 hzA]
    simp only
    rw [if_neg (by omega)]
    have : ((A ++ FX ++ dtx l R r).take (A.length + FX.length)).drop A.length = FX := by
      rw [← List.length_append, List.take_left, List.drop_left]
    rw [this]
    simp [ptOf, hFX]
theorem okB_text (keys : List (List UInt8)) {K : Nat} (h1 : 1 ≤ K) (h2 : K ≤ 32) (hn : keys.length ≤ 65536) : Blm.okB (Blm.text keys K) = true := by
  have p1 := Blm.probes_pos K
  have p2 := Blm.probes_le K h2
  have w1 := Blm.wide_pos keys.length K
  have w2 := Blm.wide_le keys.length K hn h2
  unfold Blm.okB Blm.text
  rw [List.length_cons, Blm.filt_length]
  have : (UInt8.ofNat (Blm.probes K)).toNat = Blm.probes K := by rw [UInt8.toNat_ofNat']; omega
  simp only [List.headD_cons, this, Bool.and_eq_true, decide_eq_true_eq]
  omega
theorem built_open {l : List Rw} {B R : Int} {K : Nat} {xs : List (Nat × Nat)} {s : List UInt8} (h : Built l B R K xs s) (hl : l.length ≤ 1024) : OpenP s (fltT l K) (xs.map (ptOf l R)) := by
  obtain ⟨ha, hg, ht, hf, hi, rfl, hm⟩ := h
  have hK : 1 ≤ K ∧ K ≤ 32 := by unfold argT at ha; simp at ha; omega
  obtain ⟨D, hD⟩ : ∃ D, D = dtx l R xs := ⟨_, rfl⟩
  obtain ⟨FR, hFR⟩ : ∃ FR, FR = Frame.put (fltT l K) := ⟨_, rfl⟩
  obtain ⟨IR, hIR⟩ : ∃ IR, IR = Frame.put (buildB (entG l R 0 xs) 1).1 := ⟨_, rfl⟩
  have es : tabT l R K xs = (D ++ FR ++ IR) ++ footB D.length (D.length + FR.length) := by unfold tabT; rw [← hD, ← hFR, ← hIR]
  rw [es] at hm ⊢
  have hfl := footB_len D.length (D.length + FR.length)
  have hlen : ((D ++ FR ++ IR) ++ footB D.length (D.length + FR.length)).length = D.length + FR.length + IR.length + 20 := by simp only [List.length_append, hfl]
  rw [hlen] at hm
  obtain ⟨b1, b2, b3⟩ := buildB_ok hi
  refine ⟨D.length, D.length + FR.length, (buildB (entG l R 0 xs) 1).1, entG l R 0 xs, 1, ?_, ?_, ?_, ?_, ?_, ?_⟩
  · exact offT_of (by omega) (by simp only [List.length_append]; omega) (by simp only [List.length_append]; omega)
  · have : (((D ++ FR ++ IR) ++ footB D.length (D.length + FR.length)).take (D.length + FR.length)).drop D.length = FR := by
      rw [List.append_assoc, List.append_assoc, ← List.append_assoc D FR, ← List.length_append, List.take_left, List.drop_left]
    rw [this, hFR, pay_put _ hf]
  · unfold fltT
    exact okB_text _ hK.1 hK.2 (by rw [List.length_map]; have := keysN_len l l.length; unfold keysT; omega)
  · have : (((D ++ FR ++ IR) ++ footB D.length (D.length + FR.length)).take (((D ++ FR ++ IR) ++ footB D.length (D.length + FR.length)).length - 20)).drop (D.length + FR.length) = IR := by
      have e : ((D ++ FR ++ IR) ++ footB D.length (D.length + FR.length)).length - 20 = (D ++ FR ++ IR).length := by rw [hlen]; simp only [List.length_append]; omega
      rw [e, List.take_left, ← List.length_append, List.drop_left]
    rw [this, hIR, pay_put _ (by rw [b3]; exact b2)]
  · exact ⟨b1, b3, by rw [b3]; exact b2⟩
  · have : ((D ++ FR ++ IR) ++ footB D.length (D.length + FR.length)).take D.length = D := by rw [List.append_assoc, List.append_assoc, List.take_left]
    rw [this, hD]
    have := prt_built l R xs [] (fun x hx => ?_) (by rw [List.nil_append, ← hD]; omega)
    · simpa using this
    · obtain ⟨j, hj, rfl⟩ := List.getElem_of_mem hx
      have hxj : xs[j]? = some xs[j] := List.getElem?_eq_getElem hj
      obtain ⟨_, _, y, hy, ey, hc⟩ := last_of hg.div hxj
      have hk := build_keys (hg.ok _ hx)
      have h4 := hg.div j _ hxj
      have e0 : (enOf (chunk l xs[j])).fst = (rwAt (chunk l xs[j]) 0).key := by
        unfold enOf
        rw [if_neg (by rw [hc]; have := h4.2.2.1; omega)]
      refine ⟨by rw [e0]; exact hk 0, by rw [ey]; exact h4.2.2.1, ?_⟩
      rw [ey]
      show (xs[j]).2 ≤ 1024
      have := h4.2.2.2.1
      omega
end Go.Proofs.Ytmjakkemiiigpaa
/-
  The contracts of Get. Condition: an open table's parts stand in order, as Open sees to it; keys of a length that there is.
-/
namespace Go.Proofs.Ytmjakkemiiigpaa
set_option maxRecDepth 100000
open Go.RowKit
theorem cell_but {b c o : Nat} {w w' : World} {v : Value} (hb : But b w w') (hne : c ≠ b) (h : w.cell? ⟨c, o, none⟩ = some v) : w'.cell? ⟨c, o, none⟩ = some v := (hb.cell (p := ⟨c, o, none⟩) (World.block_lt_of_cell? _ _ h) hne).trans h
theorem but_p4 (b : Nat) (w : World) (y0 y1 y2 y3 : Value) : But b w ((((w.setCell ⟨b, 0, none⟩ y0).setCell ⟨b, 1, none⟩ y1).setCell ⟨b, 2, none⟩ y2).setCell ⟨b, 3, none⟩ y3) := ((((But.refl b w).setCell rfl y0).setCell rfl y1).setCell rfl y2).setCell rfl y3
/-- The last places of the parts, as rows. -/
def idxR (l : List Pt) : List Rw := l.map fun p => ⟨p.en.lst, p.en.seq, 0, ⟨#[]⟩⟩
theorem idxR_at {l : List Pt} {j : Nat} {x : Pt} (h : l[j]? = some x) : (idxR l)[j]? = some ⟨x.en.lst, x.en.seq, 0, ⟨#[]⟩⟩ := by unfold idxR; rw [List.getElem?_map, h]; rfl
theorem idxR_len (l : List Pt) : (idxR l).length = l.length := by unfold idxR; rw [List.length_map]
theorem cut_is {n m r : Nat} {P : Nat → Bool} (hm : m ≤ n) (hP : ∀ j, j < n → (P j = true ↔ j < m)) (h : Cut n P r) : r = m := by
  obtain ⟨h1, h2⟩ := h
  rcases Nat.lt_trichotomy r m with h3 | h3 | h3
  · have := (h2 r (by omega)).1 ((hP r (by omega)).2 h3); omega
  · exact h3
  · have := (hP m (by omega)).1 ((h2 m (by omega)).2 h3); omega
/-- What Get answers. -/
def GotP (F : List UInt8) (l : List Pt) (k : ByteArray) (q : Nat) (r : Rw) (ok : Bool) (E : Nat) : Prop :=
  ((l.length ≤ plc (idxR l) k q ∨ Blm.hasB F k.data.toList = false) ∧ r = rwZ ∧ ok = false ∧ E = 0) ∨
  (∃ x, l[plc (idxR l) k q]? = some x ∧ Blm.hasB F k.data.toList = true ∧
    (((∀ ls, ¬ ReadP x ls) ∧ r = rwZ ∧ ok = false ∧ E = 10) ∨
     (∃ ls y, ReadP x ls ∧ ls[plc ls k q]? = some y ∧ ((y.key.toList = k.toList ∧ r = y ∧ ok = true ∧ E = 0) ∨ (y.key.toList ≠ k.toList ∧ r = rwZ ∧ ok = false ∧ E = 0)))))
theorem rows_place {x : Pt} {ls : List Rw} {k : ByteArray} {q : Nat} (h : ReadP x ls) (hx : ahd (⟨x.en.lst, x.en.seq, 0, ⟨#[]⟩⟩ : Rw) k q = false) (h0 : ls ≠ []) : SortedR ls ∧ plc ls k q < ls.length := by
  obtain ⟨s, d, _, hB, he⟩ := h
  have hs := sorted_of (chkA_ok hB.1).2.2.1
  refine ⟨hs, ?_⟩
  have hn : 0 < ls.length := List.length_pos_iff.2 h0
  have hg : ls[ls.length - 1]? = some (rwAt ls (ls.length - 1)) := by
    unfold rwAt; rw [List.getD_eq_getElem?_getD, List.getElem?_eq_getElem (by omega)]; rfl
  unfold enOf at he
  rw [if_neg (by omega)] at he
  have h1 : x.en.lst = (rwAt ls (ls.length - 1)).key := by rw [← he]
  have h2 : x.en.seq = (rwAt ls (ls.length - 1)).seq := by rw [← he]
  rcases Nat.lt_or_ge (plc ls k q) ls.length with h3 | h3
  · exact h3
  · have := (plc_iff hs hg (k := k) (q := q)).2 (by omega)
    have e : ahd (rwAt ls (ls.length - 1)) k q = ahd (⟨x.en.lst, x.en.seq, 0, ⟨#[]⟩⟩ : Rw) k q := by unfold ahd; rw [h1, h2]
    rw [e, hx] at this; cases this
theorem get_start {w v : World} {k : ByteArray} {q : Nat} (hv : v = ((w.alloc (.cells #[.string ⟨#[]⟩, .int .u64 0, .int .i64 0, .string ⟨#[]⟩] 39)).alloc (.cells #[.string k, .int .u64 (q : Int), .int .i64 0, .string ⟨#[]⟩] 39)).alloc (.cells #[.func (.func 35) #[] #[.pointer (some ⟨w.heap.size + 1, 0, none⟩)]] 82)) :
    Box4 w.heap.size 39 (.string ⟨#[]⟩) (.int .u64 0) (.int .i64 0) (.string ⟨#[]⟩) v ∧ RowAt (w.heap.size + 1) (plR k q) v ∧ v.cell? ⟨w.heap.size + 2, 0, none⟩ = some (.func (.func 35) #[] #[.pointer (some ⟨w.heap.size + 1, 0, none⟩)]) ∧ Below w.heap.size w v ∧ w.heap.size + 3 ≤ v.heap.size := by
  obtain ⟨v1, h1⟩ : ∃ x, x = w.alloc (.cells #[.string ⟨#[]⟩, .int .u64 0, .int .i64 0, .string ⟨#[]⟩] 39) := ⟨_, rfl⟩
  rw [← h1] at hv
  have z1 : v1.heap.size = w.heap.size + 1 := by rw [h1, World.size_alloc]
  have X1 : Box4 w.heap.size 39 (.string ⟨#[]⟩) (.int .u64 0) (.int .i64 0) (.string ⟨#[]⟩) v1 := by rw [h1]; exact Box4.new _ _ _ _ _ _
  have b1 : Below w.heap.size w v1 := by rw [h1]; exact below_alloc _ _
  obtain ⟨v2, h2⟩ : ∃ x, x = v1.alloc (.cells #[.string k, .int .u64 (q : Int), .int .i64 0, .string ⟨#[]⟩] 39) := ⟨_, rfl⟩
  rw [← h2] at hv
  have z2 : v2.heap.size = w.heap.size + 2 := by rw [h2, World.size_alloc, z1]
  have Y2 : RowAt (w.heap.size + 1) (plR k q) v2 := by rw [h2, ← z1]; exact RowAt.new (plR k q) v1
  have b2 : Below v1.heap.size v1 v2 := by rw [h2]; exact below_alloc _ _
  have b3 : Below v2.heap.size v2 v := by rw [hv]; exact below_alloc _ _
  have z3 : v.heap.size = w.heap.size + 3 := by rw [hv, World.size_alloc, z2]
  refine ⟨(X1.below b2).below b3, Y2.below b3, ?_, below_of (below_of b1 b2) b3, by omega⟩
  have := (Boxed.new v2 82 (.func (.func 35) #[] #[.pointer (some ⟨w.heap.size + 1, 0, none⟩)])).cell
  rw [z2] at this
  rw [hv]; exact this
set_option maxRecDepth 100000 in
set_option maxHeartbeats 4000000 in
theorem get_shut {p : Option Addr} {w : World} (h : Shut p w) (k : ByteArray) (q : Nat) : Calls Try.prog 15 #[.pointer p, .string k, .int .u64 (q : Int)] w fun e w' => e = .returned (.tuple #[rowV rwZ, .bool false, .int .i64 1]) ∧ Below w.heap.size w w' := by
  have X0 := Lib.hid (Box4.new w 39 (.string ⟨#[]⟩) (.int .u64 0) (.int .i64 0) (.string ⟨#[]⟩))
  have W0 := Lib.hid (below_alloc w (.cells #[.string ⟨#[]⟩, .int .u64 0, .int .i64 0, .string ⟨#[]⟩] 39))
  have IO := Lib.hid (isOpen_shut (h.below W0.out))
  obtain ⟨⟨c0, c1, c2, c3⟩, f0, f1, f2, f3⟩ := X0.out.cells
  go_enter Try.func15, Try.ntmps15
  go_wp2_with (go_at_call 32; ((with_reducible refine IO.out.mono ?_); rintro e w1 ⟨rfl, rfl⟩))
  refine bodyPost_ret (v := .tuple #[rowV rwZ, .bool false, .int .i64 1]) (by simp [results, Try.results15, go_sem, c0, c1, c2, c3, rwZ]) rfl ⟨rfl, W0.out⟩
set_option maxRecDepth 100000 in
set_option maxHeartbeats 8000000 in
theorem get_tab {p : Nat} {F : List UInt8} {l : List Pt} {w : World} (h : TabAt p F l w) (hF : F ≠ []) (hF2 : F.length ≤ 1048576) (hl : OkPs l) (hs : SortedR (idxR l)) (k : ByteArray) (hk : k.size ≤ maxLen) (q : Nat) :
    Calls Try.prog 15 #[.pointer (some ⟨p, 0, none⟩), .string k, .int .u64 (q : Int)] w fun e w' => ∃ r ok E, GotP F l k q r ok E ∧ e = .returned (.tuple #[rowV r, .bool ok, .int .i64 ((E : Nat) : Int)]) ∧ Below w.heap.size w w' := by
  obtain ⟨m, hm⟩ := named (plc (idxR l) k q)
  have hml : m ≤ l.length := by rw [hm.out, ← idxR_len]; exact plc_le _ _ _
  obtain ⟨v0, hv0⟩ : ∃ v, v = ((w.alloc (.cells #[.string ⟨#[]⟩, .int .u64 0, .int .i64 0, .string ⟨#[]⟩] 39)).alloc (.cells #[.string k, .int .u64 (q : Int), .int .i64 0, .string ⟨#[]⟩] 39)).alloc (.cells #[.func (.func 35) #[] #[.pointer (some ⟨w.heap.size + 1, 0, none⟩)]] 82) := ⟨_, rfl⟩
  obtain ⟨X0, Y0, Z0, W0, sz0⟩ := get_start hv0
  have T0 := h.below W0
  have FC : Hid (Calls Try.prog 37 #[.pointer (some ⟨p, 0, none⟩), .func (.func 38) #[] #[.pointer (some ⟨w.heap.size + 2, 0, none⟩)]] v0 fun e w' => e = .returned (.int .i64 (m : Int)) ∧ Below v0.heap.size v0 w') := Lib.hid ((find_any 38 #[.pointer (some ⟨w.heap.size + 2, 0, none⟩)] ent_enters T0 (fun j => decide (j < m)) (fun i j h1 h2 h3 => by
      have := of_decide_eq_true h3; exact decide_eq_true (by omega))
    (fun j x hx v hv => by
      have := ent_clo x.en k q (w.heap.size + 1) (w.heap.size + 2) v (Y0.below hv) (cell_keep hv Z0)
      have e : ahd (⟨x.en.lst, x.en.seq, 0, ⟨#[]⟩⟩ : Rw) k q = decide (j < m) := by
        rw [Bool.eq_iff_iff, decide_eq_true_iff, hm.out]
        exact plc_iff hs (idxR_at hx)
      rw [e] at this; exact this)).mono (by
    rintro e w' ⟨r, hr, rfl, hb⟩
    have := cut_is hml (fun j hj => by rw [decide_eq_true_iff]) hr
    rw [this]; exact ⟨rfl, hb⟩))
  have IO := Lib.hid (isOpen_tab (h.below (below_alloc w (.cells #[.string ⟨#[]⟩, .int .u64 0, .int .i64 0, .string ⟨#[]⟩] 39))) hF)
  obtain ⟨a, n, c, b, t1, P0⟩ := T0
  have hn := Lib.hid P0.len
  have m0 := P0.most
  have q0 := P0.cap
  have HA : Hid (∀ u, Calls Try.prog 39 #[.string ⟨F.toArray⟩, .string k] u fun e w' => e = .returned (.bool (Blm.hasB F k.data.toList)) ∧ Below u.heap.size u w') := Lib.hid (fun u => by have := has_any ⟨F.toArray⟩ k (by rw [ofList_size]; unfold maxLen; omega) hk u; rwa [data_toL] at this)
  rw [hn.out] at hml
  obtain ⟨B, hB⟩ := named (Blm.hasB F k.data.toList)
  rw [← hB.out] at HA
  replace X0 := Lib.hid X0
  replace Y0 := Lib.hid Y0
  replace W0 := Lib.hid W0
  replace t1 := Lib.hid t1
  replace Z0 := Lib.hid Z0
  replace P0 := Lib.hid P0
  have hmf := makes_func
  clear h
  go_enter Try.func15, Try.ntmps15
  go_upto_region 5 with (go_at_call 32; ((with_reducible refine IO.out.mono ?_); rintro e w1 ⟨rfl, rfl⟩))
  rw [← hv0, show w.heap.size + 1 + 1 = w.heap.size + 2 from rfl]
  clear hv0 IO
  go_upto_region 6 with (go_at_call 37; ((with_reducible refine FC.out.mono ?_); rintro e w2 ⟨rfl, hb2⟩; have X2 := Lib.hid (X0.out.below hb2); have Y2 := Lib.hid (Y0.out.below hb2); have Z2 := Lib.hid (cell_keep hb2 Z0.out); have t2 := Lib.hid ((hb2.block p (Array.getElem?_eq_some_iff.1 t1.out).1).trans t1.out); have P2 := Lib.hid (P0.out.below hb2); have W2 := Lib.hid (below_of W0.out hb2); clear hb2 X0 Y0 Z0 t1 P0 W0))
  obtain ⟨c0, c1⟩ := tab_cells t2.out
  by_cases g1 : m = n
  · have k1 : ((m : Int) == (n : Int)) = true := by rw [beq_iff_eq]; omega
    have k2 : (m == n) = true := by rw [beq_iff_eq]; exact g1
    replace g1 := Lib.hid g1
    have Z := Lib.hid (Box4.res X2.out W2.out (Nat.le_refl _) (.string ⟨#[]⟩) (.int .u64 0) (.int .i64 0) (.string ⟨#[]⟩))
    obtain ⟨⟨d0, d1, d2, d3⟩, f0, f1, f2, f3⟩ := X2.out.cells
    go_wp2_with fail
    generalize ((((w2.setCell ⟨w.heap.size, 0, none⟩ (.string ⟨#[]⟩)).setCell ⟨w.heap.size, 1, none⟩ (.int .u64 0)).setCell ⟨w.heap.size, 2, none⟩ (.int .i64 0)).setCell ⟨w.heap.size, 3, none⟩ (.string ⟨#[]⟩)) = VZ at *
    clear d0 d1 d2 d3 f0 f1 f2 f3
    obtain ⟨⟨a0, a1, a2, a3⟩, _⟩ := Z.out.1.cells
    refine bodyPost_ret (v := .tuple #[rowV rwZ, .bool false, .int .i64 0]) (by simp [results, Try.results15, go_sem, a0, a1, a2, a3, rwZ]) rfl ⟨rwZ, false, 0, .inl ⟨.inl (by have := g1.out; rw [← hm.out, hn.out]; omega), rfl, rfl, rfl⟩, rfl, Z.out.2⟩
  have k1 : ((m : Int) == (n : Int)) = false := by rw [beq_eq_false_iff_ne]; omega
  have k2 : (m == n) = false := by rw [beq_eq_false_iff_ne]; exact g1
  have hmn : m < n := by omega
  cases B with
  | false =>
    go_upto_region 7 with (go_at_call 39; ((with_reducible refine (HA.out _).mono ?_); rintro e w3 ⟨rfl, hb3⟩; have X3 := Lib.hid (X2.out.below hb3); have W3 := Lib.hid (below_of W2.out hb3); clear hb3))
    have Z := Lib.hid (Box4.res X3.out W3.out (Nat.le_refl _) (.string ⟨#[]⟩) (.int .u64 0) (.int .i64 0) (.string ⟨#[]⟩))
    obtain ⟨⟨d0, d1, d2, d3⟩, f0, f1, f2, f3⟩ := X3.out.cells
    go_wp2_with fail
    generalize ((((w3.setCell ⟨w.heap.size, 0, none⟩ (.string ⟨#[]⟩)).setCell ⟨w.heap.size, 1, none⟩ (.int .u64 0)).setCell ⟨w.heap.size, 2, none⟩ (.int .i64 0)).setCell ⟨w.heap.size, 3, none⟩ (.string ⟨#[]⟩)) = VZ at *
    clear d0 d1 d2 d3 f0 f1 f2 f3
    obtain ⟨⟨a0, a1, a2, a3⟩, _⟩ := Z.out.1.cells
    refine bodyPost_ret (v := .tuple #[rowV rwZ, .bool false, .int .i64 0]) (by simp [results, Try.results15, go_sem, a0, a1, a2, a3, rwZ]) rfl ⟨rwZ, false, 0, .inl ⟨.inr hB.out.symm, rfl, rfl, rfl⟩, rfl, Z.out.2⟩
  | true =>
    go_upto_region 8 with (go_at_call 39; ((with_reducible refine (HA.out _).mono ?_); rintro e w3 ⟨rfl, hb3⟩; have X3 := Lib.hid (X2.out.below hb3); have Y3 := Lib.hid (Y2.out.below hb3); have Z3 := Lib.hid (cell_keep hb3 Z2.out); have t3 := Lib.hid ((hb3.block p (Array.getElem?_eq_some_iff.1 t2.out).1).trans t2.out); have P3 := Lib.hid (P2.out.below hb3); have W3 := Lib.hid (below_of W2.out hb3); clear hb3 X2 Y2 Z2 t2 P2 W2 c0 c1))
    obtain ⟨c0, c1⟩ := tab_cells t3.out
    obtain ⟨x, hx, rfl, x0, x1, x2, x3, x4⟩ := P3.out.at5 hmn
    rw [Nat.zero_add] at x0 x1 x2 x3 x4
    have hxa : ahd (⟨x.en.lst, x.en.seq, 0, ⟨#[]⟩⟩ : Rw) k q = false := by
      cases hq : ahd (⟨x.en.lst, x.en.seq, 0, ⟨#[]⟩⟩ : Rw) k q with
      | false => rfl
      | true =>
        have := (plc_iff hs (idxR_at hx)).1 hq
        have := hm.out
        omega
    have RC := Lib.hid (fun u => read_any x (by have := (hl.ok x (List.mem_of_getElem? hx)).1; omega) u)
    have hx := Lib.hid hx
    have i0 : (m : Int) < (n : Int) := by omega
    by_cases hR : ∃ ls, ReadP x ls
    · obtain ⟨ls, hR⟩ := hR
      have h0 : ls ≠ [] := by
        rintro rfl
        have h1 := (hl.ok x (List.mem_of_getElem? hx.out)).2.2.2.2
        obtain ⟨s, d, _, _, he⟩ := hR
        have : (enOf []).cnt = 0 := rfl
        rw [he] at this; omega
      obtain ⟨hsr, hlt⟩ := rows_place hR hxa h0
      have hls : ls.length ≤ 1024 := by
        obtain ⟨s, d, _, hB, _⟩ := hR
        exact (chkA_ok hB.1).2.2.2.2
      obtain ⟨n2, hn2⟩ := named ls.length
      obtain ⟨mm, hmm⟩ := named (plc ls k q)
      rw [← hn2.out] at hls
      rw [← hn2.out, ← hmm.out] at hlt
      obtain ⟨y, hy⟩ : ∃ y, ls[mm]? = some y := ⟨_, List.getElem?_eq_getElem (by rw [← hn2.out]; exact hlt)⟩
      have hsr := Lib.hid hsr
      have hR := Lib.hid hR
      have RY : Hid (∀ u, Calls Try.prog 40 #[partV x] u fun e w' => ∃ a' c' b', e = .returned (.tuple #[.slice a' n2 c', .int .i64 0]) ∧ Rs a' n2 c' b' 0 ls w' ∧ u.heap.size ≤ b' ∧ Below u.heap.size u w') := Lib.hid (fun u => (RC.out u).mono fun e w' hh => by
        rcases hh with ⟨l', a', c', b', h1, h2, h3, h5, h4⟩ | ⟨h1, _⟩
        · obtain rfl := readP_one hR.out h1
          exact ⟨a', c', b', by rw [hn2.out]; exact h2, by rw [hn2.out]; exact h3, h5 (by rw [← hn2.out]; omega), h4⟩
        · exact absurd hR.out (h1 ls))
      have SC : Hid (∀ (a2 : Option Addr) (c2 b2 g : Nat) (u : World), RowAt (w.heap.size + 1) (plR k q) u → u.cell? ⟨w.heap.size + 2, 0, none⟩ = some (.func (.func 35) #[] #[.pointer (some ⟨w.heap.size + 1, 0, none⟩)]) → Rs a2 n2 c2 b2 0 ls u → u.cell? ⟨g, 0, none⟩ = some (.slice a2 n2 c2) →
          Calls Try.prog 41 #[.int .i64 (n2 : Int), .func (.func 42) #[] #[.pointer (some ⟨w.heap.size + 2, 0, none⟩), .pointer (some ⟨g, 0, none⟩)]] u fun e w' => e = .returned (.int .i64 (mm : Int)) ∧ Below u.heap.size u w') := Lib.hid (fun a2 c2 b2 g u hY hZ hRs hg =>
        (search_any 42 #[.pointer (some ⟨w.heap.size + 2, 0, none⟩), .pointer (some ⟨g, 0, none⟩)] rowq_enters n2 (by omega) (fun j => !decide (j < mm)) u
          (fun i j h1 h2 h3 => by simp only [Bool.not_eq_true', decide_eq_false_iff_not] at h3 ⊢; omega)
          (fun v hv j hj => by
            obtain ⟨z, hz⟩ : ∃ z, ls[j]? = some z := ⟨_, List.getElem?_eq_getElem (by rw [← hn2.out]; exact hj)⟩
            have h1 := rowq_clo k q (w.heap.size + 1) (w.heap.size + 2) g v (hY.below hv) (cell_keep hv hZ) (hRs.below hv (Nat.le_refl _)) (cell_keep hv hg) j z hz
            have e : ahd z k q = decide (j < mm) := by
              rw [Bool.eq_iff_iff, decide_eq_true_iff, hmm.out]
              exact plc_iff hsr.out hz
            rw [e] at h1; exact h1)).mono (by
          rintro e w' ⟨r, hr, rfl, hb⟩
          have := cut_is (m := mm) (by omega) (fun j hj => by simp) hr
          rw [this]; exact ⟨rfl, hb⟩))
      have hends : Hid ((y.key.toList = k.toList → GotP F l k q y true 0) ∧ (y.key.toList ≠ k.toList → GotP F l k q rwZ false 0)) := Lib.hid ⟨fun h => .inr ⟨x, by rw [← hm.out]; exact hx.out, hB.out.symm, .inr ⟨ls, y, hR.out, by rw [← hmm.out]; exact hy, .inl ⟨h, rfl, rfl, rfl⟩⟩⟩, fun h => .inr ⟨x, by rw [← hm.out]; exact hx.out, hB.out.symm, .inr ⟨ls, y, hR.out, by rw [← hmm.out]; exact hy, .inr ⟨h, rfl, rfl, rfl⟩⟩⟩⟩
      replace hy := Lib.hid hy
      replace h0 := Lib.hid h0
      clear RC hxa hx hR hmm
      obtain ⟨xb, ⟨xf, xl, xs, xc⟩⟩ := x
      simp only at x0 x1 x2 x3 x4 RY
      go_upto_region 9 with (go_at_call 40; ((with_reducible refine (RY.out _).mono ?_); rintro e w4 ⟨a4, c4, b4, rfl, hR4, hlo4, hb4⟩; have R4 := Lib.hid hR4; have L4 := Lib.hid (Nat.lt_of_lt_of_le X3.out.lt hlo4); clear hlo4; have X4 := Lib.hid (X3.out.below hb4); have Y4 := Lib.hid (Y3.out.below hb4); have Z4 := Lib.hid (cell_keep hb4 Z3.out); have W4 := Lib.hid (below_of W3.out hb4); clear hb4 hR4))
      have hb5 := below_alloc w4 (.cells #[.slice a4 n2 c4] 22)
      have R5 := Lib.hid (R4.out.below hb5 (Nat.le_refl _))
      have X5 := Lib.hid (X4.out.below hb5)
      have Y5 := Lib.hid (Y4.out.below hb5)
      have Z5 := Lib.hid (cell_keep hb5 Z4.out)
      have W5 := Lib.hid (below_of W4.out hb5)
      have g5 := (Boxed.new w4 22 (.slice a4 n2 c4)).cell
      have W4s := Lib.hid (show w.heap.size < w4.heap.size from X4.out.lt)
      obtain ⟨g, hg⟩ := named w4.heap.size
      rw [← hg.out] at W4s
      rw [← hg.out] at g5 ⊢
      generalize w4.alloc (.cells #[.slice a4 n2 c4] 22) = w5 at *
      clear hb5 R4 X4 Y4 Z4 W4
      go_upto_region 11 with fail
      have hlt2 := hlt
      obtain ⟨y', hy', rfl, y0, y1, y2, y3⟩ := R5.out.at4 (show mm < n2 from hlt)
      rw [hy.out] at hy'
      obtain rfl : y = y' := Option.some.inj hy'
      rw [Nat.zero_add] at y0 y1 y2 y3
      obtain ⟨yk, ys, yi, yv⟩ := y
      simp only at y0 y1 y2 y3 hends
      have i1 : (mm : Int) < (n2 : Int) := by omega
      obtain ⟨⟨d0, d1, d2, d3⟩, f0, f1, f2, f3⟩ := X5.out.cells
      clear x0 x1 x2 x3 x4 c0 c1 hy' RY HA FC d0 d1 d2 d3 f0 f1 f2 f3
      have ng : g ≠ w.heap.size := by have := X3.out.lt; have := W4s.out; omega
      have nb : b4 ≠ w.heap.size := by have := L4.out; omega
      have ng := Lib.hid ng
      have nb := Lib.hid nb
      refine wp_region_held_drew (S := (fun v => (v.cell? ⟨g, 0, none⟩ = some (.slice (some ⟨b4, 0, none⟩) n2 c4) ∧ v.cell? ⟨b4, mm * 4, none⟩ = some (.string yk) ∧ v.cell? ⟨b4, mm * 4 + 1, none⟩ = some (.int .u64 (ys : Int)) ∧ v.cell? ⟨b4, mm * 4 + 2, none⟩ = some (.int .i64 yi) ∧ v.cell? ⟨b4, mm * 4 + 3, none⟩ = some (.string yv)) ∧ But w.heap.size w5 v)) (by kernel_rfl) (⟨⟨g5, y0, y1, y2, y3⟩, (But.refl _ w5).drew⟩) (fun hHeld => ?_)
      refine held_take (i := 0) (v := ?_) rfl (by kernel_rfl) (by kernel_rfl) (by kernel_rfl) (fun _ _ _ h => h) (by rfl) (fun w hSw => ?_) (by assumption) ?_; rotate_left 1; focus (((try dsimp only at hSw); first | (go_simp; done) | (go_simp; with_reducible rfl)))
      try simp only [Act.put, List.setIfInBounds_toArray, List.set_cons_zero, List.set_cons_succ]
      refine held_take (i := 1) (v := ?_) rfl (by kernel_rfl) (by kernel_rfl) (by kernel_rfl) (fun _ _ _ h => h) (by rfl) (fun w hSw => ?_) (by assumption) ?_; rotate_left 1; focus (((try dsimp only at hSw); first | (go_simp; done) | (go_simp; with_reducible rfl)))
      try simp only [Act.put, List.setIfInBounds_toArray, List.set_cons_zero, List.set_cons_succ]
      refine held_take (i := 2) (v := ?_) rfl (by kernel_rfl) (by kernel_rfl) (by kernel_rfl) (fun _ _ _ h => h) (by rfl) (fun w hSw => ?_) (by assumption) ?_; rotate_left 1; focus (((try dsimp only at hSw); first | (go_simp; done) | (go_simp; with_reducible rfl)))
      try simp only [Act.put, List.setIfInBounds_toArray, List.set_cons_zero, List.set_cons_succ]
      refine held_take (i := 3) (v := ?_) rfl (by kernel_rfl) (by kernel_rfl) (by kernel_rfl) (fun _ _ _ h => h) (by rfl) (fun w hSw => ?_) (by assumption) ?_; rotate_left 1; focus (((try dsimp only at hSw); first | (go_simp; done) | (go_simp; with_reducible rfl)))
      try simp only [Act.put, List.setIfInBounds_toArray, List.set_cons_zero, List.set_cons_succ]
      refine held_call (i := 4) (by kernel_rfl) rfl (by rfl) (fun K hK => ?_)
      go_simp
      refine (SC.out _ _ _ _ _ (Y5.out.below (Below.refl _ w5).drew) (cell_keep (Below.refl _ w5).drew Z5.out) (R5.out.below (Below.refl _ w5).drew (Nat.le_refl _)) hHeld.1.1).mono ?_
      rintro e w6 ⟨rfl, hb6⟩
      have X6 := Lib.hid (X5.out.below (below_of (w := w5) (Below.refl _ w5).drew hb6))
      have W6 := Lib.hid (below_of W5.out (below_of (w := w5) (Below.refl _ w5).drew hb6))
      obtain ⟨⟨d0, d1, d2, d3⟩, f0, f1, f2, f3⟩ := X6.out.cells
      refine hK.out _ _ (⟨⟨cell_keep hb6 hHeld.1.1, cell_keep hb6 hHeld.1.2.1, cell_keep hb6 hHeld.1.2.2.1, cell_keep hb6 hHeld.1.2.2.2.1, cell_keep hb6 hHeld.1.2.2.2.2⟩, hHeld.2.trans (But.of_below hb6 (Nat.le_refl _))⟩) (fun hHeld => ?_)
      try simp only [Act.put, List.setIfInBounds_toArray, List.set_cons_zero, List.set_cons_succ]
      refine held_take (i := 5) (v := ?_) rfl (by kernel_rfl) (by kernel_rfl) (by kernel_rfl) (fun _ _ _ h => h) (by rfl) (fun w hSw => ?_) (by assumption) ?_; rotate_left 1; focus (((try dsimp only at hSw); first | (go_simp; done) | (go_simp; with_reducible rfl)))
      try simp only [Act.put, List.setIfInBounds_toArray, List.set_cons_zero, List.set_cons_succ]
      refine held_take (i := 6) (v := ?_) rfl (by kernel_rfl) (by kernel_rfl) (by kernel_rfl) (fun _ _ _ h => h) (by rfl) (fun w hSw => ?_) (by assumption) ?_; rotate_left 1; focus (((try dsimp only at hSw); first | (go_simp; done) | (go_simp; with_reducible rfl)))
      try simp only [Act.put, List.setIfInBounds_toArray, List.set_cons_zero, List.set_cons_succ]
      refine held_call (i := 7) (by kernel_rfl) rfl (by rfl) (fun K hK => ?_)
      go_simp
      
      refine hK.out _ _ (⟨⟨cell_but (but_p4 _ _ _ _ _ _) ng.out hHeld.1.1, cell_but (but_p4 _ _ _ _ _ _) nb.out hHeld.1.2.1, cell_but (but_p4 _ _ _ _ _ _) nb.out hHeld.1.2.2.1, cell_but (but_p4 _ _ _ _ _ _) nb.out hHeld.1.2.2.2.1, cell_but (but_p4 _ _ _ _ _ _) nb.out hHeld.1.2.2.2.2⟩, hHeld.2.trans (but_p4 _ _ _ _ _ _)⟩) (fun hHeld => ?_)
      try simp only [Act.put, List.setIfInBounds_toArray, List.set_cons_zero, List.set_cons_succ]
      refine wpAnyH_done (by kernel_rfl) ?_ _
      have Z := Lib.hid (Box4.res X6.out W6.out (Nat.le_refl _) (.string yk) (.int .u64 (ys : Int)) (.int .i64 yi) (.string yv))
      generalize ((((w6.setCell ⟨w.heap.size, 0, none⟩ (.string yk)).setCell ⟨w.heap.size, 1, none⟩ (.int .u64 (ys : Int))).setCell ⟨w.heap.size, 2, none⟩ (.int .i64 yi)).setCell ⟨w.heap.size, 3, none⟩ (.string yv)) = V6 at *
      clear d0 d1 d2 d3 f0 f1 f2 f3 y0 y1 y2 y3 X6 W6 SC g5 X5 Y5 Z5 R5 W5 hHeld
      obtain ⟨⟨d0, d1, d2, d3⟩, f0, f1, f2, f3⟩ := Z.out.1.cells
      all_goals
        by_cases hk2 : yk.toList = k.toList
        · have k3 : (yk.toList == k.toList) = true := by rw [beq_iff_eq]; exact hk2
          have hend := Lib.hid (hends.out.1 hk2)
          have Z2 := Lib.hid (Box4.res Z.out.1 Z.out.2 (Nat.le_refl _) (.string yk) (.int .u64 (ys : Int)) (.int .i64 yi) (.string yv))
          clear hk2 hends
          go_wp2_with fail
          generalize ((((V6.setCell ⟨w.heap.size, 0, none⟩ (.string yk)).setCell ⟨w.heap.size, 1, none⟩ (.int .u64 (ys : Int))).setCell ⟨w.heap.size, 2, none⟩ (.int .i64 yi)).setCell ⟨w.heap.size, 3, none⟩ (.string yv)) = VZ at *
          clear d0 d1 d2 d3 f0 f1 f2 f3
          obtain ⟨⟨a0, a1, a2, a3⟩, _⟩ := Z2.out.1.cells
          refine bodyPost_ret (v := .tuple #[rowV ⟨yk, ys, yi, yv⟩, .bool true, .int .i64 0]) (by simp [results, Try.results15, go_sem, a0, a1, a2, a3]) rfl ⟨⟨yk, ys, yi, yv⟩, true, 0, hend.out, rfl, Z2.out.2⟩
        · have k3 : (yk.toList == k.toList) = false := by rw [beq_eq_false_iff_ne]; exact hk2
          have hend := Lib.hid (hends.out.2 hk2)
          have Z2 := Lib.hid (Box4.res Z.out.1 Z.out.2 (Nat.le_refl _) (.string ⟨#[]⟩) (.int .u64 0) (.int .i64 0) (.string ⟨#[]⟩))
          clear hk2 hends
          go_wp2_with fail
          generalize ((((V6.setCell ⟨w.heap.size, 0, none⟩ (.string ⟨#[]⟩)).setCell ⟨w.heap.size, 1, none⟩ (.int .u64 0)).setCell ⟨w.heap.size, 2, none⟩ (.int .i64 0)).setCell ⟨w.heap.size, 3, none⟩ (.string ⟨#[]⟩)) = VZ at *
          clear d0 d1 d2 d3 f0 f1 f2 f3
          obtain ⟨⟨a0, a1, a2, a3⟩, _⟩ := Z2.out.1.cells
          refine bodyPost_ret (v := .tuple #[rowV rwZ, .bool false, .int .i64 0]) (by simp [results, Try.results15, go_sem, a0, a1, a2, a3, rwZ]) rfl ⟨rwZ, false, 0, hend.out, rfl, Z2.out.2⟩
    · have hno : ∀ ls, ¬ ReadP x ls := fun ls h => hR ⟨ls, h⟩
      have hno := Lib.hid hno
      clear hR
      have RN : Hid (∀ u, Calls Try.prog 40 #[partV x] u fun e w' => e = .returned (.tuple #[.slice none 0 0, .int .i64 10]) ∧ Below u.heap.size u w') := Lib.hid (fun u => (RC.out u).mono fun e w' hh => by
        rcases hh with ⟨l', a', c', b', h1, _⟩ | ⟨_, h2, h3⟩
        · exact absurd h1 (hno.out l')
        · exact ⟨h2, h3⟩)
      have hend : Hid (GotP F l k q rwZ false 10) := Lib.hid (.inr ⟨x, by rw [← hm.out]; exact hx.out, hB.out.symm, .inl ⟨hno.out, rfl, rfl, rfl⟩⟩)
      clear RC hno hxa hx
      obtain ⟨xb, ⟨xf, xl, xs, xc⟩⟩ := x
      simp only at x0 x1 x2 x3 x4 RN
      go_upto_region 10 with (go_at_call 40; ((with_reducible refine (RN.out _).mono ?_); rintro e w4 ⟨rfl, hb4⟩; have X4 := Lib.hid ((X3.out.below hb4).below (below_alloc w4 (.cells #[.slice none 0 0] 22))); have W4 := Lib.hid (below_of (below_of W3.out hb4) (below_alloc w4 (.cells #[.slice none 0 0] 22))); clear hb4))

      generalize (w4.alloc (.cells #[.slice none 0 0] 22)) = w5 at *
      have Z := Lib.hid (Box4.res X4.out W4.out (Nat.le_refl _) (.string ⟨#[]⟩) (.int .u64 0) (.int .i64 0) (.string ⟨#[]⟩))
      obtain ⟨⟨d0, d1, d2, d3⟩, f0, f1, f2, f3⟩ := X4.out.cells
      go_wp2_with fail
      generalize ((((w5.setCell ⟨w.heap.size, 0, none⟩ (.string ⟨#[]⟩)).setCell ⟨w.heap.size, 1, none⟩ (.int .u64 0)).setCell ⟨w.heap.size, 2, none⟩ (.int .i64 0)).setCell ⟨w.heap.size, 3, none⟩ (.string ⟨#[]⟩)) = VZ at *
      clear d0 d1 d2 d3 f0 f1 f2 f3
      obtain ⟨⟨a0, a1, a2, a3⟩, _⟩ := Z.out.1.cells
      refine bodyPost_ret (v := .tuple #[rowV rwZ, .bool false, .int .i64 10]) (by simp [results, Try.results15, go_sem, a0, a1, a2, a3, rwZ]) rfl ⟨rwZ, false, 10, hend.out, rfl, Z.out.2⟩
end Go.Proofs.Ytmjakkemiiigpaa
/-
  What the laws check at their ends: a table of one row; and that law. No condition.
-/
namespace Go.Proofs.Ytmjakkemiiigpaa
set_option maxRecDepth 100000
open Go.RowKit
theorem openP_one {S F F' : List UInt8} {ps ps' : List Pt} (h : OpenP S F ps) (h' : OpenP S F' ps') : F = F' ∧ ps = ps' := by
  obtain ⟨f, i, X, es, d, h1, h2, h3, h4, h5, h6⟩ := h
  obtain ⟨f', i', X', es', d', k1, k2, k3, k4, k5, k6⟩ := h'
  rw [h1] at k1
  cases k1
  rw [h2] at k2
  cases k2
  rw [h4] at k4
  cases k4
  obtain ⟨rfl, _⟩ := isB_one h5 k5
  rw [h6] at k6
  cases k6
  exact ⟨rfl, rfl⟩
theorem openP_none : ∀ F ps, ¬ OpenP [] F ps := fun F ps ⟨f, i, X, es, d, h, _⟩ => by
  have := offT_le h
  simp at this
theorem readP_built {l : List Rw} {R : Int} {x : Nat × Nat} (h : (buildB (chunk l x) R).2 = 0) : ReadP (ptOf l R x) (chunk l x) := by
  obtain ⟨b1, b2, b3⟩ := buildB_ok h
  have hR : ((R.toNat : Nat) : Int) = R := by have := (chkA_ok b1).1; omega
  refine ⟨(buildB (chunk l x) R).1, R.toNat, pay_put _ (by rw [b3]; exact b2), ⟨by rw [hR]; exact b1, b3, by rw [b3]; exact b2⟩, rfl⟩
def awR : Rw := ⟨⟨#[97]⟩, 1, 1, ⟨#[120]⟩⟩
theorem small_one {x : Rw} (h : chkR x = 0) {d : Nat} (h1 : 1 ≤ d) (h2 : d ≤ 64) : (buildB [x] (d : Int)).2 = 0 := by
  obtain ⟨_, _, _, _, _, hk, hv⟩ := chkR_ok h
  have hc : chkA [x] (d : Int) = 0 := chkA_zero h1 h2 (by simp [ordR]) (fun y hy => by rw [List.mem_singleton.1 hy]; exact h) (by simp)
  have hsq := (chkR_ok h).2.2.2.1
  have hlen : (blkB d [x]).length ≤ 65536 := by
    unfold blkB
    rw [List.length_append, tailB_len]
    have r := rstB_le d [x] 1
    have e : bodB d [x] 1 = encX [] x := by
      unfold bodB encI prvB
      simp [rwAt]
    rw [show [x].length = 1 from rfl, e]
    unfold encX valB
    simp only [com_nil, List.drop_zero, List.length_append, List.length_cons, List.length_nil]
    have u1 := Code.uvar_ten (n := 0) (by omega)
    have hk2 : x.key.toList.length = x.key.size := toL_len _
    have u2 := Code.uvar_ten (n := x.key.toList.length) (by omega)
    have u3 := Code.uvar_ten (n := x.seq) (by omega)
    have u4 := Code.uvar_ten (n := x.val.size) (by omega)
    have u6 : x.val.toList.length = x.val.size := toL_len _
    split
    · rw [List.length_append]; omega
    · simp only [List.length_nil]; omega
  unfold buildB
  rw [if_neg (by rw [hc]; simp), Int.toNat_natCast, if_neg (by omega)]
theorem awR_chk : chkR awR = 0 := by decide
theorem put_small (p : List UInt8) (h : p.length ≤ 65536) : (Frame.put p).length ≤ 65550 := by
  rw [Frame.put_length]
  have := Code.uvar_ten (n := p.length) (by omega)
  omega
theorem aw_built : ∃ s, Built [awR] 64 16 10 [(0, 1)] s := by
  have hch : chunk [awR] (0, 1) = [awR] := rfl
  have hb : (buildB [awR] 16).2 = 0 := small_one awR_chk (d := 16) (by omega) (by omega)
  have hi : (buildB (entG [awR] 16 0 [(0, 1)]) 1).2 = 0 := by
    have : entG [awR] 16 0 [(0, 1)] = [enRow (enOf [awR]) 0] := rfl
    rw [this]
    refine small_one ?_ (d := 1) (by omega) (by omega)
    have h0 : badR (enRow (enOf [awR]) 0) = false := by unfold badR; rw [decide_eq_false_iff_not]; intro hc; rcases hc with hc | hc | hc | hc | hc <;> revert hc <;> decide
    have h1 : longR (enRow (enOf [awR]) 0) = false := by
      unfold longR
      rw [decide_eq_false_iff_not]
      have e1 : (enRow (enOf [awR]) 0).key.size = 1 := rfl
      have u1 := Code.uvar_ten (n := 1) (by omega)
      have u0 := Code.uvar_ten (n := 0) (by omega)
      have e2 : (enRow (enOf [awR]) 0).val.size = (Code.uvar 1).length + 1 + (Code.uvar 0).length + (Code.uvar 1).length := by
        show (⟨((Code.uvar (enOf [awR]).fst.size ++ (enOf [awR]).fst.toList) ++ Code.uvar 0 ++ Code.uvar (enOf [awR]).cnt).toArray⟩ : ByteArray).size = _
        rw [ofList_size]
        simp only [List.length_append, toL_len]
        rfl
      omega
    unfold chkR
    rw [h0, h1]
    rfl
  have hk : keysT [awR] = [awR.key] := rfl
  have hf : (fltT [awR] 10).length = 9 := by
    unfold fltT
    rw [hk]
    unfold Blm.text
    rw [List.length_cons, Blm.filt_length]
    rfl
  have hdx : (dtx [awR] 16 [(0, 1)]).length ≤ 65550 := by
    have : dtx [awR] 16 [(0, 1)] = Frame.put (buildB [awR] 16).1 := by simp [dtx, hch]
    rw [this]
    exact put_small _ (buildB_len _ _)
  refine ⟨_, ⟨by decide, ⟨fun i x hx => ?_, fun x hx => ?_, by omega⟩, rfl, by omega, hi, rfl, ?_⟩⟩
  · cases i with
    | zero =>
      simp at hx
      subst hx
      exact ⟨rfl, by decide, by decide, by decide, fun j h1 h2 => by simp at h2; omega⟩
    | succ i => simp at hx
  · rw [List.mem_singleton.1 hx, hch]; exact hb
  · unfold tabT
    simp only [List.length_append, footB_len]
    have h1 := put_small (fltT [awR] 10) (by omega)
    have h2 := put_small (buildB (entG [awR] 16 0 [(0, 1)]) 1).1 (buildB_len _ _)
    omega
end Go.Proofs.Ytmjakkemiiigpaa
/-
  What the laws check at their ends. No condition.
-/
namespace Go.Proofs.Ytmjakkemiiigpaa
set_option maxRecDepth 100000
open Go.RowKit
theorem has_text {keys : List (List UInt8)} {K : Nat} (h1 : 1 ≤ K) (h2 : K ≤ 32) (hn : keys.length ≤ 65536) {x : List UInt8} (hx : x ∈ keys) : Blm.hasB (Blm.text keys K) x = true := by
  unfold Blm.hasB
  rw [okB_text keys h1 h2 hn, if_pos rfl]
  have p2 := Blm.probes_le K h2
  have w1 := Blm.wide_pos keys.length K
  have e : (UInt8.ofNat (Blm.probes K)).toNat = Blm.probes K := by rw [UInt8.toNat_ofNat']; omega
  unfold Blm.text
  rw [List.length_cons, Blm.filt_length, List.tail_cons, List.headD_cons, e, Nat.add_sub_cancel]
  exact Blm.has_filt _ _ (by omega) _ _ hx
abbrev awF : List UInt8 := fltT [awR] 10
abbrev awP : List Pt := [ptOf [awR] 16 (0, 1)]
theorem awP_en : (ptOf [awR] 16 (0, 1)).en = ⟨⟨#[97]⟩, ⟨#[97]⟩, 1, 1⟩ := rfl
theorem aw_ahd (y : Rw) (h : y.key = ⟨#[97]⟩) (hs : y.seq = 1) : ahd y ⟨#[97]⟩ 5 = false := by
  unfold ahd
  rw [h, if_pos rfl, hs]; rfl
theorem aw_plc : plc (idxR awP) ⟨#[97]⟩ 5 = 0 := by
  unfold plc idxR
  rw [List.map_cons, List.takeWhile_cons, aw_ahd _ rfl rfl]
  rfl
theorem aw_got {r : Rw} {ok : Bool} {E : Nat} (h : GotP awF awP ⟨#[97]⟩ 5 r ok E) : r = awR ∧ ok = true ∧ E = 0 := by
  have hh : Blm.hasB awF (⟨#[97]⟩ : ByteArray).data.toList = true := by
    unfold awF fltT
    exact has_text (by omega) (by omega) (by rw [List.length_map]; show (1 : Nat) ≤ 65536; omega) (by show [97] ∈ [[97]]; simp)
  unfold GotP at h
  rw [aw_plc] at h
  rcases h with ⟨h1 | h1, _⟩ | ⟨x, hx, _, h2⟩
  · exact absurd h1 (by show ¬ (1 : Nat) ≤ 0; omega)
  · rw [hh] at h1; cases h1
  · have hxe : x = ptOf [awR] 16 (0, 1) := by simpa using hx.symm
    subst hxe
    have hR : ReadP (ptOf [awR] 16 (0, 1)) [awR] := readP_built (x := (0, 1)) (small_one awR_chk (d := 16) (by omega) (by omega))
    rcases h2 with ⟨h3, _⟩ | ⟨ls, y, h3, h4, h5⟩
    · exact absurd hR (h3 _)
    · obtain rfl := readP_one hR h3
      have hp : plc [awR] ⟨#[97]⟩ 5 = 0 := by
        unfold plc
        rw [List.takeWhile_cons, aw_ahd _ rfl rfl]
        rfl
      rw [hp] at h4
      have hy : y = awR := by simpa using h4.symm
      subst hy
      rcases h5 with ⟨_, h6⟩ | ⟨h6, _⟩
      · exact h6
      · exact absurd rfl h6
theorem aw_ok : OkPs awP := ⟨by show (1 : Nat) ≤ 1024; omega, fun p hp => by
  rw [List.mem_singleton.1 hp, awP_en]
  refine ⟨?_, by decide, by decide, by decide, by decide⟩
  have := put_small (buildB [awR] 16).1 (buildB_len _ _)
  show (Frame.put (buildB (chunk [awR] (0, 1)) 16).1).length ≤ 262144
  have e : chunk [awR] (0, 1) = [awR] := rfl
  rw [e]; omega⟩
theorem aw_sorted : SortedR (idxR awP) := by unfold SortedR idxR; simp
theorem rs_one (w : World) (x : Rw) : Rs (some ⟨w.heap.size, 0, none⟩) 1 1 w.heap.size 0 [x] (w.alloc (.cells #[.string x.key, .int .u64 (x.seq : Int), .int .i64 x.kind, .string x.val] 39)) := by
  refine ⟨rfl, Nat.le_refl _, by omega, fun _ => ⟨rfl, by simp⟩, fun j y hy => ?_⟩
  have hj : j < 1 := (List.getElem?_eq_some_iff.1 hy).1
  obtain rfl : j = 0 := by omega
  simp only [List.getElem?_cons_zero, Option.some.injEq] at hy
  subst hy
  refine ⟨?_, ?_, ?_, ?_⟩ <;> (rw [World.cell?_alloc_new]; rfl)
set_option maxRecDepth 100000 in
set_option maxHeartbeats 8000000 in
theorem tawake_any (w : World) : Calls Try.prog 7 #[] w fun e w' => e = .returned (.bool true) ∧ Below w.heap.size w w' := by
  obtain ⟨s, hb⟩ := aw_built
  have hop := built_open hb (by decide)
  have hsz := hb.most
  have R0 := Lib.hid (rs_one w awR)
  have W0 := Lib.hid (below_alloc w (.cells #[.string ⟨#[97]⟩, .int .u64 1, .int .i64 1, .string ⟨#[120]⟩] 39))
  have BC : Hid (Calls Try.prog 8 #[.slice (some ⟨w.heap.size, 0, none⟩) 1 1, .agg #[.int .i64 64, .int .i64 16, .int .i64 10]] (w.alloc (.cells #[.string ⟨#[97]⟩, .int .u64 1, .int .i64 1, .string ⟨#[120]⟩] 39)) fun e w' => e = .returned (.tuple #[.string ⟨s.toArray⟩, .int .i64 0]) ∧ Below (w.alloc (.cells #[.string ⟨#[97]⟩, .int .u64 1, .int .i64 1, .string ⟨#[120]⟩] 39)).heap.size (w.alloc (.cells #[.string ⟨#[97]⟩, .int .u64 1, .int .i64 1, .string ⟨#[120]⟩] 39)) w') := Lib.hid ((tbuild_any R0.out (by omega) (fun x hx => by rw [List.mem_singleton.1 hx]; show (1 : Nat) ≤ maxLen; unfold maxLen; omega) 64 16 10).mono fun e w' hh => by
    rcases hh with ⟨xs, s', h1, h2, h3⟩ | ⟨h1, _⟩
    · have e1 : xs = [(0, 1)] := good_one h1.good hb.good h1.all hb.all
      subst e1
      have : s' = s := by rw [h1.is, hb.is]; rfl
      subst this
      exact ⟨h2, h3⟩
    · exact absurd hb (h1 _ _))
  have OC : Hid (∀ u, Calls Try.prog 9 #[.string ⟨s.toArray⟩] u fun e w' => ∃ p, e = .returned (.tuple #[.pointer (some ⟨p, 0, none⟩), .int .i64 0]) ∧ TabAt p awF awP w' ∧ Below u.heap.size u w') := Lib.hid (fun u => (open_any s (by omega) u).mono fun e w' hh => by
    rcases hh with ⟨F, ps, p, h1, h2, h3, h4⟩ | ⟨h1, _⟩
    · obtain ⟨rfl, rfl⟩ := openP_one hop h1
      exact ⟨p, h2, h3, h4⟩
    · exact absurd hop (h1 _ _))
  have ON : Hid (∀ u, Calls Try.prog 9 #[.string ⟨#[]⟩] u fun e w' => e = .returned (.tuple #[.pointer none, .int .i64 10]) ∧ Below u.heap.size u w') := Lib.hid (fun u => (open_any [] (by simp) u).mono fun e w' hh => by
    rcases hh with ⟨F, ps, p, h1, _⟩ | ⟨_, h2, h3⟩
    · exact absurd h1 (openP_none _ _)
    · exact ⟨h2, h3⟩)
  have hF9 : awF.length = 9 := by
    unfold awF fltT
    have hk : keysT [awR] = [awR.key] := rfl
    rw [hk]
    unfold Blm.text
    rw [List.length_cons, Blm.filt_length]
    rfl
  have hF0 : awF ≠ [] := fun h => by rw [h] at hF9; cases hF9
  have GC : Hid (∀ p u, TabAt p awF awP u → Calls Try.prog 15 #[.pointer (some ⟨p, 0, none⟩), .string ⟨#[97]⟩, .int .u64 5] u fun e w' => e = .returned (.tuple #[.agg #[.string ⟨#[97]⟩, .int .u64 1, .int .i64 1, .string ⟨#[120]⟩], .bool true, .int .i64 0]) ∧ Below u.heap.size u w') := Lib.hid (fun p u h => (get_tab h hF0 (by omega) aw_ok aw_sorted ⟨#[97]⟩ (by show (1 : Nat) ≤ maxLen; unfold maxLen; omega) 5).mono fun e w' hh => by
    obtain ⟨r, ok, E, h1, h2, h3⟩ := hh
    obtain ⟨rfl, rfl, rfl⟩ := aw_got h1
    exact ⟨h2, h3⟩)
  have LC : Hid (∀ p u, TabAt p awF awP u → Calls Try.prog 12 #[.pointer (some ⟨p, 0, none⟩)] u fun e w' => e = .returned (.int .i64 1) ∧ Below u.heap.size u w') := Lib.hid (fun p u h => len_tab h aw_ok)
  have FC : Hid (∀ p u, TabAt p awF awP u → Calls Try.prog 13 #[.pointer (some ⟨p, 0, none⟩)] u fun e w' => e = .returned (.string ⟨#[97]⟩) ∧ Below u.heap.size u w') := Lib.hid (fun p u h => first_tab h aw_ok)
  have SC : Hid (∀ p u, TabAt p awF awP u → Calls Try.prog 14 #[.pointer (some ⟨p, 0, none⟩)] u fun e w' => e = .returned (.string ⟨#[97]⟩) ∧ Below u.heap.size u w') := Lib.hid (fun p u h => last_tab h aw_ok)
  clear hb hop hsz hF9 hF0
  go_enter Try.func7, Try.ntmps7
  go_wp2_with (first
    | (go_at_call 8; ((with_reducible refine BC.out.mono ?_); rintro e w1 ⟨rfl, hb1⟩; have B1 := Lib.hid (below_of W0.out hb1); clear hb1))
    | (go_at_call 9; ((with_reducible refine (OC.out _).mono ?_); rintro e w2 ⟨p, rfl, hT, hb2⟩; have T2 := Lib.hid hT; have B2 := Lib.hid (below_of B1.out hb2); clear hb2 hT))
    | (go_at_call 15; ((with_reducible refine (GC.out _ _ T2.out).mono ?_); rintro e w3 ⟨rfl, hb3⟩; have T3 := Lib.hid ((T2.out.below hb3).below (below_alloc w3 (.cells #[.string ⟨#[97]⟩, .int .u64 1, .int .i64 1, .string ⟨#[120]⟩] 39))); have X3 := Lib.hid (RowAt.new awR w3); have B3 := Lib.hid (below_of (below_of B2.out hb3) (below_alloc w3 (.cells #[.string ⟨#[97]⟩, .int .u64 1, .int .i64 1, .string ⟨#[120]⟩] 39))); clear hb3))
    | (go_at_call 9; ((with_reducible refine (ON.out _).mono ?_); rintro e w4 ⟨rfl, hb4⟩; have T4 := Lib.hid (T3.out.below hb4); have B4 := Lib.hid (below_of B3.out hb4); have c3 : w4.cell? ⟨w3.heap.size, 3, none⟩ = some (.string ⟨#[120]⟩) := (X3.out.below hb4).cells.1.2.2.2; clear hb4))
    | (go_at_call 12; ((with_reducible refine (LC.out _ _ T4.out).mono ?_); rintro e w5 ⟨rfl, hb5⟩; have T5 := Lib.hid (T4.out.below hb5); have B5 := Lib.hid (below_of B4.out hb5); clear hb5))
    | (go_at_call 13; ((with_reducible refine (FC.out _ _ T5.out).mono ?_); rintro e w6 ⟨rfl, hb6⟩; have T6 := Lib.hid (T5.out.below hb6); have B6 := Lib.hid (below_of B5.out hb6); clear hb6))
    | (go_at_call 14; ((with_reducible refine (SC.out _ _ T6.out).mono ?_); rintro e w7 ⟨rfl, hb7⟩; have B7 := Lib.hid (below_of B6.out hb7); clear hb7))
    | fail "no arm")
  go_returns
  exact ⟨rfl, B7.out⟩
end Go.Proofs.Ytmjakkemiiigpaa
