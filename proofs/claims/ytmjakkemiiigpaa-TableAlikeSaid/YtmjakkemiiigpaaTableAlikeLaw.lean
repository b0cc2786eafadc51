/-
  TableAlike: what a table answers does not depend on its options. Condition: at most 200 rows (the law's own).
-/
import Derived.Test.YtmjakkemiiigpaaPack9
namespace Go.Proofs.Ytmjakkemiiigpaa
set_option maxRecDepth 100000
open Go.RowKit
theorem BuildD.yes {l : List Rw} {B R K : Int} {xs : List (Nat × Nat)} {s : List UInt8} (hB : Built l B R K.toNat xs s) {w w' : World} {e : Ending} (h : BuildD l B R K w e w') : e = .returned (.tuple #[.string ⟨s.toArray⟩, .int .i64 0]) ∧ Below w.heap.size w w' := by
  rcases h with ⟨xs', s', h1, h2, h3⟩ | ⟨h1, _⟩
  · obtain rfl := good_one hB.good h1.good hB.all h1.all
    have : s' = s := by rw [h1.is, hB.is]
    subst this
    exact ⟨h2, h3⟩
  · exact absurd hB (h1 _ _)
theorem BuildD.no {l : List Rw} {B R K : Int} (hB : ∀ xs s, ¬ Built l B R K.toNat xs s) {E : Int} (hE : E = ((if argT l B R K = true then 2 else 3 : Nat) : Int)) {w w' : World} {e : Ending} (h : BuildD l B R K w e w') : e = .returned (.tuple #[.string ⟨#[]⟩, .int .i64 E]) ∧ Below w.heap.size w w' := by
  rcases h with ⟨xs', s', h1, _⟩ | ⟨_, ⟨E', h1, h2⟩, h3⟩
  · exact absurd h1 (hB _ _)
  · subst h1 hE; exact ⟨h2, h3⟩
theorem BuildD.any {l : List Rw} {B R K : Int} {w w' : World} {e : Ending} (h : BuildD l B R K w e w') : ∃ (s : ByteArray) (E : Int), e = .returned (.tuple #[.string s, .int .i64 E]) ∧ Below w.heap.size w w' := by
  rcases h with ⟨xs', s', h1, h2, h3⟩ | ⟨_, ⟨E', h1, h2⟩, h3⟩
  · exact ⟨_, _, h2, h3⟩
  · exact ⟨_, _, h2, h3⟩
theorem err_two (l : List Rw) (B R K : Int) : ∃ E : Int, E = ((if argT l B R K = true then 2 else 3 : Nat) : Int) ∧ (E = 2 ∨ E = 3) := by
  refine ⟨_, rfl, ?_⟩
  split
  · exact .inl rfl
  · exact .inr rfl
/-- Two open tables. -/
structure TwoT (p1 p2 : Nat) (F1 F2 : List UInt8) (q1 q2 : List Pt) (w u : World) : Prop where
  t1 : TabAt p1 F1 q1 u
  t2 : TabAt p2 F2 q2 u
  b : Below w.heap.size w u
theorem TwoT.below {p1 p2 : Nat} {F1 F2 : List UInt8} {q1 q2 : List Pt} {w u u' : World} (h : TwoT p1 p2 F1 F2 q1 q2 w u) (hb : Below u.heap.size u u') : TwoT p1 p2 F1 F2 q1 q2 w u' := ⟨h.t1.below hb, h.t2.below hb, below_of h.b hb⟩
theorem two_opts (w : World) (B R K B' R' K' : Int) {v : World} (hv : v = (w.alloc (.cells #[.int .i64 B, .int .i64 R, .int .i64 K] 24)).alloc (.cells #[.int .i64 B', .int .i64 R', .int .i64 K'] 24)) :
    OptAt w.heap.size B R K v ∧ OptAt (w.heap.size + 1) B' R' K' v ∧ Below w.heap.size w v := by
  subst hv
  have h1 : OptAt w.heap.size B R K (w.alloc (.cells #[.int .i64 B, .int .i64 R, .int .i64 K] 24)) := heap_alloc_new _ _
  have h2 := heap_alloc_new (w.alloc (.cells #[.int .i64 B, .int .i64 R, .int .i64 K] 24)) (.cells #[.int .i64 B', .int .i64 R', .int .i64 K'] 24)
  rw [World.size_alloc] at h2
  exact ⟨h1.below (below_alloc _ _), h2, (below_alloc w _).alloc (by simp) _⟩
set_option maxRecDepth 100000 in
set_option maxHeartbeats 1000000 in
theorem alike_no1 {a : Option Addr} {n c b o : Nat} {l : List Rw} (x y : To) (key : ByteArray) (sq : Int) (w : World) (h : Rs a n c b o l w) (hn : n ≤ 200) (hkeys : ∀ x ∈ l, x.key.size ≤ maxLen) (hno : ∀ xs s, ¬ Built l x.B x.R x.K.toNat xs s) :
    Calls Try.prog 5 #[.slice a n c, .agg #[.int .i64 x.B, .int .i64 x.R, .int .i64 x.K], .agg #[.int .i64 y.B, .int .i64 y.R, .int .i64 y.K], .string key, .int .u64 sq] w fun e w' => e = .returned (.bool true) ∧ Below w.heap.size w w' := by
  obtain ⟨B, R, K⟩ := x
  obtain ⟨B', R', K'⟩ := y
  have AW := Lib.hid (fun u => tawake_any u)
  have BC := Lib.hid (fun (u : World) (hr : Rs a n c b o l u) => tbuild_any hr (by omega) hkeys B R K)
  have BC' := Lib.hid (fun (u : World) (hr : Rs a n c b o l u) => tbuild_any hr (by omega) hkeys B' R' K')
  obtain ⟨E, hE, h23⟩ := err_two l B R K
  have hE2 := Lib.hid hE
  clear hE
  have hno2 := Lib.hid hno
  clear hno
  have g1 : ¬ (200 : Int) < (n : Int) := by omega
  obtain ⟨o1, o2, hb0⟩ := two_opts w B R K B' R' K' rfl
  have R0 := Lib.hid (h.below hb0 (Nat.le_refl _))
  obtain ⟨c0, c1, c2⟩ := o1.cells
  have O2 := Lib.hid o2
  have W0 := Lib.hid hb0
  clear h hkeys o1 o2 hb0
  rcases h23 with rfl | rfl
  all_goals
    go_enter Try.func5, Try.ntmps5
    go_upto_region 4 with (go_at_call 8; ((with_reducible refine (BC.out _ R0.out).mono ?_); rintro e w1 hh; obtain ⟨rfl, hb⟩ := hh.no hno2.out hE2.out; have R1 := Lib.hid (R0.out.below hb (Nat.le_refl _)); have W1 := Lib.hid (below_of W0.out hb); clear hh c0 c1 c2; obtain ⟨c0, c1, c2⟩ := (O2.out.below hb).cells; clear hb))
    go_upto_region 5 with (go_at_call 8; ((with_reducible refine (BC'.out _ R1.out).mono ?_); rintro e w2 hh; obtain ⟨s', E', rfl, hb⟩ := hh.any; have W2 := Lib.hid (below_of W1.out hb); clear hh hb c0 c1 c2))
    go_wp2_with (go_at_call 7; ((with_reducible refine (AW.out _).mono ?_); rintro e w9 ⟨rfl, hb9⟩))
    go_returns
    exact ⟨rfl, below_of W2.out hb9⟩
set_option maxRecDepth 100000 in
set_option maxHeartbeats 1000000 in
theorem alike_no2 {a : Option Addr} {n c b o : Nat} {l : List Rw} (x y : To) (key : ByteArray) (sq : Int) (w : World) (h : Rs a n c b o l w) (hn : n ≤ 200) (hkeys : ∀ x ∈ l, x.key.size ≤ maxLen) {xs : List (Nat × Nat)} {s : List UInt8} (hyes : Built l x.B x.R x.K.toNat xs s) (hno : ∀ xs s, ¬ Built l y.B y.R y.K.toNat xs s) :
    Calls Try.prog 5 #[.slice a n c, .agg #[.int .i64 x.B, .int .i64 x.R, .int .i64 x.K], .agg #[.int .i64 y.B, .int .i64 y.R, .int .i64 y.K], .string key, .int .u64 sq] w fun e w' => e = .returned (.bool true) ∧ Below w.heap.size w w' := by
  obtain ⟨B, R, K⟩ := x
  obtain ⟨B', R', K'⟩ := y
  have AW := Lib.hid (fun u => tawake_any u)
  have BC := Lib.hid (fun (u : World) (hr : Rs a n c b o l u) => tbuild_any hr (by omega) hkeys B R K)
  have BC' := Lib.hid (fun (u : World) (hr : Rs a n c b o l u) => tbuild_any hr (by omega) hkeys B' R' K')
  obtain ⟨E, hE, h23⟩ := err_two l B' R' K'
  have hE2 := Lib.hid hE
  clear hE
  have hno2 := Lib.hid hno
  clear hno
  have hyes2 := Lib.hid hyes
  clear hyes
  have g1 : ¬ (200 : Int) < (n : Int) := by omega
  obtain ⟨o1, o2, hb0⟩ := two_opts w B R K B' R' K' rfl
  have R0 := Lib.hid (h.below hb0 (Nat.le_refl _))
  obtain ⟨c0, c1, c2⟩ := o1.cells
  have O2 := Lib.hid o2
  have W0 := Lib.hid hb0
  clear h hkeys o1 o2 hb0
  rcases h23 with rfl | rfl
  all_goals
    go_enter Try.func5, Try.ntmps5
    go_upto_region 4 with (go_at_call 8; ((with_reducible refine (BC.out _ R0.out).mono ?_); rintro e w1 hh; obtain ⟨rfl, hb⟩ := hh.yes hyes2.out; have R1 := Lib.hid (R0.out.below hb (Nat.le_refl _)); have W1 := Lib.hid (below_of W0.out hb); clear hh c0 c1 c2; obtain ⟨c0, c1, c2⟩ := (O2.out.below hb).cells; clear hb))
    go_upto_region 5 with (go_at_call 8; ((with_reducible refine (BC'.out _ R1.out).mono ?_); rintro e w2 hh; obtain ⟨rfl, hb⟩ := hh.no hno2.out hE2.out; have W2 := Lib.hid (below_of W1.out hb); clear hh hb c0 c1 c2))
    go_wp2_with (go_at_call 7; ((with_reducible refine (AW.out _).mono ?_); rintro e w9 ⟨rfl, hb9⟩))
    go_returns
    exact ⟨rfl, below_of W2.out hb9⟩
set_option maxRecDepth 100000 in
set_option maxHeartbeats 2000000 in
theorem alike_yes {a : Option Addr} {n c b o : Nat} {l : List Rw} (x y : To) (key : ByteArray) (hk : key.size ≤ maxLen) (sq : Nat) (w : World) (h : Rs a n c b o l w) (hn : n ≤ 200) (hkeys : ∀ x ∈ l, x.key.size ≤ maxLen) {xs ys : List (Nat × Nat)} {s t : List UInt8} (hx : Built l x.B x.R x.K.toNat xs s) (hy : Built l y.B y.R y.K.toNat ys t) :
    Calls Try.prog 5 #[.slice a n c, .agg #[.int .i64 x.B, .int .i64 x.R, .int .i64 x.K], .agg #[.int .i64 y.B, .int .i64 y.R, .int .i64 y.K], .string key, .int .u64 (sq : Int)] w fun e w' => e = .returned (.bool true) ∧ Below w.heap.size w w' := by
  obtain ⟨B, R, K⟩ := x
  obtain ⟨B', R', K'⟩ := y
  have hlen := h.len
  have AW := Lib.hid (fun u => tawake_any u)
  have BC := Lib.hid (fun (u : World) (hr : Rs a n c b o l u) => tbuild_any hr (by omega) hkeys B R K)
  have BC' := Lib.hid (fun (u : World) (hr : Rs a n c b o l u) => tbuild_any hr (by omega) hkeys B' R' K')
  have OX := Lib.hid (fun u => open_built hx (by omega) u)
  have OY := Lib.hid (fun u => open_built hy (by omega) u)
  obtain ⟨⟨rk, rs, ri, rv⟩, hr⟩ : ∃ r, r = (haveL l key sq).getD rwZ := ⟨_, rfl⟩
  obtain ⟨is, his⟩ : ∃ r, r = (haveL l key sq).isSome := ⟨_, rfl⟩
  obtain ⟨L, hL⟩ : ∃ L, L = l.filter (inR key ⟨#[]⟩) := ⟨_, rfl⟩
  obtain ⟨N, hN⟩ : ∃ N, N = l.length := ⟨_, rfl⟩
  obtain ⟨f, hf⟩ : ∃ f, f = fstL l := ⟨_, rfl⟩
  obtain ⟨g, hg⟩ : ∃ g, g = lstL l := ⟨_, rfl⟩
  obtain ⟨F1, q1, hq1⟩ : ∃ F q, F = fltT l K.toNat ∧ q = xs.map (ptOf l R) := ⟨_, _, rfl, rfl⟩
  obtain ⟨F2, q2, hq2⟩ : ∃ F q, F = fltT l K'.toNat ∧ q = ys.map (ptOf l R') := ⟨_, _, rfl, rfl⟩
  have SX := Lib.hid (fun (p : Nat) (u : World) (ht : TabAt p F1 q1 u) => scan_built hx (by omega) (by rw [← hq1.1, ← hq1.2]; exact ht) key ⟨#[]⟩)
  have SY := Lib.hid (fun (p : Nat) (u : World) (ht : TabAt p F2 q2 u) => scan_built hy (by omega) (by rw [← hq2.1, ← hq2.2]; exact ht) key ⟨#[]⟩)
  have GX := Lib.hid (fun (p : Nat) (u : World) (ht : TabAt p F1 q1 u) => get_built hx (by omega) (by rw [← hq1.1, ← hq1.2]; exact ht) key hk sq)
  have GY := Lib.hid (fun (p : Nat) (u : World) (ht : TabAt p F2 q2 u) => get_built hy (by omega) (by rw [← hq2.1, ← hq2.2]; exact ht) key hk sq)
  have ox := hx.okps (by omega)
  have oy := hy.okps (by omega)
  have e1 := hx.len
  have e2 := hy.len
  have e3 := hx.fst
  have e4 := hy.fst
  have e5 := hx.lst
  have e6 := hy.lst
  rw [← hq1.2] at ox e1 e3 e5
  rw [← hq2.2] at oy e2 e4 e6
  have LX := Lib.hid (fun (p : Nat) (u : World) (ht : TabAt p F1 q1 u) => len_tab ht ox)
  have LY := Lib.hid (fun (p : Nat) (u : World) (ht : TabAt p F2 q2 u) => len_tab ht oy)
  have FX := Lib.hid (fun (p : Nat) (u : World) (ht : TabAt p F1 q1 u) => first_tab ht ox)
  have FY := Lib.hid (fun (p : Nat) (u : World) (ht : TabAt p F2 q2 u) => first_tab ht oy)
  have TX := Lib.hid (fun (p : Nat) (u : World) (ht : TabAt p F1 q1 u) => last_tab ht ox)
  have TY := Lib.hid (fun (p : Nat) (u : World) (ht : TabAt p F2 q2 u) => last_tab ht oy)
  rw [e1, ← hN] at LX
  rw [e2, ← hN] at LY
  rw [e3, ← hf] at FX
  rw [e4, ← hf] at FY
  rw [e5, ← hg] at TX
  rw [e6, ← hg] at TY
  rw [← hL] at SX SY
  rw [← hr, ← his] at GX GY
  rw [← hq1.1, ← hq1.2] at OX
  rw [← hq2.1, ← hq2.2] at OY
  have hx2 := Lib.hid hx
  have hy2 := Lib.hid hy
  have g1 : ¬ (200 : Int) < (n : Int) := by omega
  obtain ⟨o1, o2, hb0⟩ := two_opts w B R K B' R' K' rfl
  have R0 := Lib.hid (h.below hb0 (Nat.le_refl _))
  obtain ⟨c0, c1, c2⟩ := o1.cells
  have O2 := Lib.hid o2
  have W0 := Lib.hid hb0
  clear h hkeys o1 o2 hb0 hlen hx hy hr his hL hN hf hg hq1 hq2 ox oy e1 e2 e3 e4 e5 e6 hk
  go_enter Try.func5, Try.ntmps5
  go_upto_region 4 with (go_at_call 8; ((with_reducible refine (BC.out _ R0.out).mono ?_); rintro e w1 hh; obtain ⟨rfl, hb⟩ := hh.yes hx2.out; have R1 := Lib.hid (R0.out.below hb (Nat.le_refl _)); have W1 := Lib.hid (below_of W0.out hb); clear hh c0 c1 c2; obtain ⟨c0, c1, c2⟩ := (O2.out.below hb).cells; clear hb))
  go_upto_region 5 with (go_at_call 8; ((with_reducible refine (BC'.out _ R1.out).mono ?_); rintro e w2 hh; obtain ⟨rfl, hb⟩ := hh.yes hy2.out; have W2 := Lib.hid (below_of W1.out hb); clear hh hb c0 c1 c2))
  go_upto_region 8 with (go_at_call 9; ((with_reducible refine (OX.out _).mono ?_); rintro e w3 ⟨⟨p1, rfl, ht⟩, hb⟩; have W3 := Lib.hid (below_of W2.out hb); have T3 := Lib.hid ht; clear ht hb))
  go_upto_region 9 with (go_at_call 9; ((with_reducible refine (OY.out _).mono ?_); rintro e w4 ⟨⟨p2, rfl, ht⟩, hb⟩; have Q4 : Hid (TwoT p1 p2 F1 F2 q1 q2 w w4) := Lib.hid ⟨T3.out.below hb, ht, below_of W3.out hb⟩; clear ht hb))
  go_upto_region 12 with (go_at_call 10; ((with_reducible refine (SX.out _ _ Q4.out.t1).mono ?_); rintro e w5 ⟨v, rfl, hv, hb⟩; obtain ⟨a5, k5, b5, rfl, hr5, _⟩ := rs_of_row hv; have X5 := Lib.hid hr5; have Q5 := Lib.hid (Q4.out.below hb); clear hb hv hr5))
  go_upto_region 13 with (go_at_call 10; ((with_reducible refine (SY.out _ _ Q5.out.t2).mono ?_); rintro e w6 ⟨v, rfl, hv, hb⟩; obtain ⟨a6, k6, b6, rfl, hr6, _⟩ := rs_of_row hv; have Y6 := Lib.hid hr6; have X6 := Lib.hid (X5.out.below hb (Nat.le_refl _)); have Q6 := Lib.hid (Q5.out.below hb); clear hb hv hr6))
  go_upto_region 14 with (go_at_call 15; ((with_reducible refine (GX.out _ _ Q6.out.t1).mono ?_); rintro e w7 ⟨rfl, hb⟩; have hb' := (below_alloc w7 (.cells #[.string rk, .int .u64 (rs : Int), .int .i64 ri, .string rv] 39)); have A7 := Lib.hid (RowAt.new ⟨rk, rs, ri, rv⟩ w7); have X7 := Lib.hid ((X6.out.below hb (Nat.le_refl _)).below hb' (Nat.le_refl _)); have Y7 := Lib.hid ((Y6.out.below hb (Nat.le_refl _)).below hb' (Nat.le_refl _)); have Q7 := Lib.hid ((Q6.out.below hb).below hb'); clear hb hb'))
  go_upto_region 15 with (go_at_call 15; ((with_reducible refine (GY.out _ _ Q7.out.t2).mono ?_); rintro e w8 ⟨rfl, hb⟩; have hb' := (below_alloc w8 (.cells #[.string rk, .int .u64 (rs : Int), .int .i64 ri, .string rv] 39)); have B8 := Lib.hid (RowAt.new ⟨rk, rs, ri, rv⟩ w8); have A8 := Lib.hid ((A7.out.below hb).below hb'); have X8 := Lib.hid ((X7.out.below hb (Nat.le_refl _)).below hb' (Nat.le_refl _)); have Y8 := Lib.hid ((Y7.out.below hb (Nat.le_refl _)).below hb' (Nat.le_refl _)); have Q8 := Lib.hid ((Q7.out.below hb).below hb'); clear hb hb'))
  go_wp2_with (first
    | (go_at_call 11; ((with_reducible refine (same_rowsB X8.out Y8.out).mono ?_); rintro e w9 ⟨rfl, hb⟩; have Q9 := Lib.hid (Q8.out.below hb); obtain ⟨⟨c0, c1, c2, c3⟩, _⟩ := (A8.out.below hb).cells; obtain ⟨⟨d0, d1, d2, d3⟩, _⟩ := (B8.out.below hb).cells; clear hb))
    | (go_at_call 12; ((with_reducible refine (LX.out _ _ Q9.out.t1).mono ?_); rintro e w10 ⟨rfl, hb⟩; have Q10 := Lib.hid (Q9.out.below hb); clear hb))
    | (go_at_call 12; ((with_reducible refine (LY.out _ _ Q10.out.t2).mono ?_); rintro e w11 ⟨rfl, hb⟩; have Q11 := Lib.hid (Q10.out.below hb); clear hb))
    | (go_at_call 13; ((with_reducible refine (FX.out _ _ Q11.out.t1).mono ?_); rintro e w12 ⟨rfl, hb⟩; have Q12 := Lib.hid (Q11.out.below hb); clear hb))
    | (go_at_call 13; ((with_reducible refine (FY.out _ _ Q12.out.t2).mono ?_); rintro e w13 ⟨rfl, hb⟩; have Q13 := Lib.hid (Q12.out.below hb); clear hb))
    | (go_at_call 14; ((with_reducible refine (TX.out _ _ Q13.out.t1).mono ?_); rintro e w14 ⟨rfl, hb⟩; have Q14 := Lib.hid (Q13.out.below hb); clear hb))
    | (go_at_call 14; ((with_reducible refine (TY.out _ _ Q14.out.t2).mono ?_); rintro e w15 ⟨rfl, hb⟩; have Q15 := Lib.hid (Q14.out.below hb); clear hb))
    | (go_at_call 7; ((with_reducible refine (AW.out _).mono ?_); rintro e w16 ⟨rfl, hb⟩; have Q16 := Lib.hid (Q15.out.below hb); clear hb)))
  go_returns
  exact ⟨rfl, Q16.out.b⟩
set_option maxRecDepth 100000 in
set_option maxHeartbeats 2000000 in
theorem alike_walk (a : Option Addr) (n c b o : Nat) (l : List Rw) (x : To) (_ : True) (y : To) (_ : True) (key : ByteArray) (hk : key.size ≤ reachBytes) (sq : Int) (hsq : (Lit.int .u64 sq).wf = true) (w : World) (h0 : Rs a n c b o l w ∧ ∀ v ∈ l, RwIn v) :
    Calls Try.prog 5 #[.slice a n c, .agg #[.int .i64 x.B, .int .i64 x.R, .int .i64 x.K], .agg #[.int .i64 y.B, .int .i64 y.R, .int .i64 y.K], .string key, .int .u64 sq] w fun e w' => e = .returned (.bool true) ∧ Below w.heap.size w w' := by
  have hr : 0 ≤ sq ∧ sq ≤ 18446744073709551615 := by simpa [Lit.wf, IntKind.min, IntKind.max, IntKind.signed, IntKind.bits] using hsq
  obtain ⟨q, rfl⟩ : ∃ q : Nat, sq = (q : Int) := ⟨sq.toNat, by omega⟩
  have h := h0.1
  by_cases hn : n ≤ 200
  · have hkeys : ∀ v ∈ l, v.key.size ≤ maxLen := fun v hv => by have := (h0.2 v hv).1; unfold maxLen; omega
    by_cases hx : ∃ xs s, Built l x.B x.R x.K.toNat xs s
    · obtain ⟨xs, s, hx⟩ := hx
      by_cases hy : ∃ xs s, Built l y.B y.R y.K.toNat xs s
      · obtain ⟨ys, t, hy⟩ := hy
        exact alike_yes x y key (reach_max hk) q w h hn hkeys hx hy
      · exact alike_no2 x y key q w h hn hkeys hx fun xs s hb => hy ⟨xs, s, hb⟩
    · exact alike_no1 x y key q w h hn hkeys fun xs s hb => hx ⟨xs, s, hb⟩
  · have AW := Lib.hid (fun u => tawake_any u)
    have g1 : (200 : Int) < (n : Int) := by omega
    have hB := Lib.hid (two_opts w x.B x.R x.K y.B y.R y.K rfl).2.2
    clear h h0 hr hsq hk
    go_enter Try.func5, Try.ntmps5
    go_wp2_with (go_at_call 7; ((with_reducible refine (AW.out _).mono ?_); rintro e w1 ⟨rfl, hb1⟩))
    go_returns
    exact ⟨rfl, below_of hB.out hb1⟩
--LAW freshetlaw12.TableAlike alike_walk rows:l topt:op topt:oq string:key uint64:sq
--BEGIN
namespace TableAlikeProof
open Go.ChangeShapes Go.WideShapes Go.ChangeAt Go.RowKit
open Go.ChangeMaps (open_string shut_string)
theorem own : ownKnob Try.prog.godebug = none := by kernel_rfl
set_option maxRecDepth 100000 in
theorem lifted (os : Os) (started : os.Started) (H : Type) (enc : TypeId × Value → H) :
    ReturnsInHanded {} Try.checked os 5 .any (Rows.tableAlikeSpec.pre6 enc Try.prog Try.f5 Rows.tableAlikeRow.domain false) (Rows.tableAlikeSpec.post enc Try.prog Try.f5 false true false false) := by
  refine returnsInHanded_of_change_sized (C := Try.checked) own started (by kernel_rfl) Try.func5
    (ChangeSpec.witness6 (enc := enc) (C := Try.checked) false ⟨#[], #[.slice none 0 0, .agg #[.int .i64 0, .int .i64 0, .int .i64 0], .agg #[.int .i64 0, .int .i64 0, .int .i64 0], .string .empty, .int .u64 0], []⟩ 8 (by kernel_rfl) (by kernel_rfl) (by kernel_rfl) (by kernel_rfl)) ?_
  intro W base args ds gs before hval0 hW _ hsz _
  have hval : ∀ (j : Nat) t v, Try.f5.params[j]? = some t → args[j]? = some v → Value.okWide Try.prog W .any base t v := hval0
  have hW' := hW
  obtain ⟨p, q, hA0, hV, rfl, hfz, hnd⟩ := hW
  have hA : DataW.TrodAll enc Try.prog W 0 (fun _ => true) true Try.f5.params.toList args.toList ds p := hA0
  rw [Try.params5] at hA hval hsz
  obtain ⟨v0, vs0, d0, ds0, p0, q0, hargs, rfl, rfl, h0, r0⟩ := trodAll_cons hA
  obtain ⟨v1, vs1, d1, ds1, p1, q1, rfl, rfl, rfl, h1, r1⟩ := trodAll_cons r0
  obtain ⟨v2, vs2, d2, ds2, p2, q2, rfl, rfl, rfl, h2, r2⟩ := trodAll_cons r1
  obtain ⟨v3, vs3, d3, ds3, p3, q3, rfl, rfl, rfl, h3, r3⟩ := trodAll_cons r2
  obtain ⟨v4, vs4, d4, ds4, p4, q4, rfl, rfl, rfl, h4, r4⟩ := trodAll_cons r3
  obtain ⟨rfl, rfl, rfl⟩ := trodAll_nil r4
  obtain rfl : args = #[v0, v1, v2, v3, v4] := by cases args; simp_all
  obtain ⟨rfl, rfl⟩ := trodVars_none hV
  obtain ⟨a0, n0, c0, rfl⟩ := okWide_slice Try.underlying22 (hval 0 22 v0 rfl rfl)
  have k0 := h0
  obtain ⟨fu0, hf0⟩ := h0
  obtain ⟨b0, o0, l, ia0⟩ := open_rows hf0 hsz (j := 0) rfl rfl
  have lt0 : ∀ x ∈ p0, x.block < W.heap.size := fun x hx => hW'.lt x (by simp only [List.mem_append]; simp [hx])
  have k1 := h1
  obtain ⟨op, rfl, m1⟩ := open_topt (hval 1 24 v1 rfl rfl) h1 hsz (j := 1) rfl rfl
  have lt1 : ∀ x ∈ p1, x.block < W.heap.size := fun x hx => hW'.lt x (by simp only [List.mem_append]; simp [hx])
  have k2 := h2
  obtain ⟨oq, rfl, m2⟩ := open_topt (hval 2 24 v2 rfl rfl) h2 hsz (j := 2) rfl rfl
  have lt2 : ∀ x ∈ p2, x.block < W.heap.size := fun x hx => hW'.lt x (by simp only [List.mem_append]; simp [hx])
  obtain ⟨key, rfl, rfl, rfl, m3⟩ := open_string Try.underlying9 (hval 3 9 v3 rfl rfl) h3
  obtain ⟨sq, rfl, rfl, rfl, m4⟩ := open_int Try.underlying25 (hval 4 25 v4 rfl rfl) h4
  have z3 : key.size ≤ reachBytes := by have := sized_string hsz (j := 3) (t := 9) (bytes := key.data.toList) rfl rfl; simpa using this
  clear hA0 hval0
  simp only [List.append_nil] at hW'
  refine (alike_walk a0 n0 c0 b0 o0 l op m1 oq m2 key z3 sq m4 W ia0).mono fun e W' ⟨he, hg⟩ => ?_
  subst he
  exact ⟨_, rfl, _, _, _, [], _, [], hW', (trodAll_cons_mk (shut_bool Try.underlying4 _) trodAll_mk0), (trodAll_cons_mk (Below.trod laid_out (by kernel_rfl) (of_decide_eq_true (by kernel_rfl)) k0 hg lt0) (trodAll_cons_mk (Below.trod laid_out (by kernel_rfl) (of_decide_eq_true (by kernel_rfl)) k1 hg lt1) (trodAll_cons_mk (Below.trod laid_out (by kernel_rfl) (of_decide_eq_true (by kernel_rfl)) k2 hg lt2) (trodAll_cons_mk (shut_string Try.underlying9 m3) (trodAll_cons_mk (shut_int Try.underlying25 m4) trodAll_mk0))))), rfl, hg.frame _, fun h => by cases h⟩
theorem holds : Rows.TableAlikeSaid :=
  OpenClaim.holds_of_wide 5 Try.f5 rfl rfl rfl rfl rfl rfl rfl ⟨rfl, rfl, rfl, rfl, rfl⟩ rfl rfl rfl rfl rfl (by kernel_rfl) Try.func5 (by kernel_rfl)
    (of_decide_eq_true (by kernel_rfl)) (by unfold Func.isWrapper; first | (rw [if_pos (by decide +kernel)]; kernel_rfl) | (rw [if_neg (by decide +kernel)]; exact ⟨rfl, rfl⟩))
    (fun os started H enc _ => lifted os started H enc)
end TableAlikeProof
--END
end Go.Proofs.Ytmjakkemiiigpaa
