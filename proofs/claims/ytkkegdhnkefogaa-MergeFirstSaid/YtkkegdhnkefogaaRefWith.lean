/-
  The document's own With: rows, and one more at its place; rows in a slice, as append reads them. Condition: at most 1000000 rows.
-/
import Derived.Test.YtkkegdhnkefogaaRefThere
import Derived.Test.YtkkegdhnkefogaaUntil
import Derived.Test.YtkkegdhnkefogaaAppendSrc
import Derived.Test.YtkkegdhnkefogaaAppendTwo
namespace Go.Proofs.Ytkkegdhnkefogaa
set_option maxRecDepth 100000
open Go.RowKit
theorem info_row : (Try.prog.info? 42).map (fun i => (i.zero, i.size, i.bytes)) = some (some (.agg #[.string .empty, .int .u64 0, .int .i64 0, .string .empty]), 4, 48) := by kernel_rfl
theorem row_one (x : Rw) : ∀ u ∈ [Value.string x.key, .int .u64 (x.seq : Int), .int .i64 x.kind, .string x.val], u.oneCell' = true := by
  intro u hu
  simp only [List.mem_cons, List.not_mem_nil, or_false] at hu
  rcases hu with rfl | rfl | rfl | rfl <;> rfl
/-- A slice of just these rows is handed back. -/
def GaveR (l : List Rw) (w : World) (e : Ending) (w' : World) : Prop := ∃ v, e = .returned v ∧ w'.ownsRow w.heap.size 42 4 v l.length (rowR l) ∧ Below w.heap.size w w'
theorem size_row (w : World) : (Go.sizeOf (Try.prog.elem 25)).run Try.prog w = .ok 4 w := by
  obtain ⟨i0, hi, hz0, hz1, hz2⟩ := info_parts (show (Try.prog.info? (Try.prog.elem 25)).map (fun i => (i.zero, i.size, i.bytes)) = some (some (.agg #[.string .empty, .int .u64 0, .int .i64 0, .string .empty]), 4, 48) by kernel_rfl)
  simp [Go.sizeOf, typeInfo, hi, hz1]
theorem addr_plus (b o k : Nat) : (⟨b, o, none⟩ : Addr).add k = ⟨b, o + k, none⟩ := by
  unfold Addr.add
  split
  · rename_i h0; rw [h0]; rfl
  · rfl
/-- What is handed back, as a slice of rows. -/
theorem rs_of_gave {l : List Rw} {w : World} {e : Ending} {w' : World} (h : GaveR l w e w') : ∃ p c b, e = .returned (.slice p l.length c) ∧ Rs p l.length c b 0 l w' ∧ Below w.heap.size w w' := by
  obtain ⟨v, rfl, hrow, hb⟩ := h
  obtain ⟨p, c, b, rfl, hr, _⟩ := rs_of_row hrow
  exact ⟨p, c, b, rfl, hr, hb⟩
theorem own_below {w w' : World} {base size n : Nat} {e : TypeId} {v : Value} {xs : List Value} (h : w.ownsRow base e size v n xs) (hb : Below w.heap.size w w') : w'.ownsRow base e size v n xs := h.kept (grown_of_below hb) (by cases v.ownBlock <;> simp)
/-- An empty slice of an own block. -/
theorem row_zero {w : World} {g B size : Nat} {e : TypeId} (h : w.heap[g]? = some (.cells #[] e (0, 0))) (hB : B ≤ g) : w.ownsRow B e size (.slice (some ⟨g, 0, none⟩) 0 0) 0 [] :=
  ⟨by simp, .inr ⟨g, 0, #[], rfl, hB, h, Nat.le_refl _, by unfold maxLen; omega, by simp, by simp⟩⟩
theorem one_cells (l : List Rw) : ∀ u ∈ rowR l, u.oneCell' = true := by
  intro u hu
  unfold rowR at hu
  obtain ⟨x, _, hx⟩ := List.mem_flatMap.1 hu
  exact row_one x u hx
/-- Rows in a slice, whose block is one of rows. -/
structure Rt (a : Option Addr) (n c b o : Nat) (l : List Rw) (w : World) : Prop where
  rs : Rs a n c b o l w
  nil : a = none → c = 0
  typ : 0 < n → ∃ cs, w.heap[b]? = some (.cells cs 42 (0, 0))
theorem Rt.below {a : Option Addr} {n c b o : Nat} {l : List Rw} {w w' : World} (h : Rt a n c b o l w) (hb : Below w.heap.size w w') : Rt a n c b o l w' :=
  ⟨h.rs.below hb (Nat.le_refl _), h.nil, fun h0 => by
    obtain ⟨cs, hc⟩ := h.typ h0
    exact ⟨cs, (hb.block _ (Array.getElem?_eq_some_iff.1 hc).1).trans hc⟩⟩
theorem Rt.none (w : World) : Rt none 0 0 0 0 [] w := ⟨⟨rfl, Nat.le_refl _, by omega, fun h => absurd h (by omega), RwsAt.nil _ _ _⟩, fun _ => rfl, fun h => absurd h (by omega)⟩
theorem rt_of_row {w : World} {B : Nat} {v : Value} {l : List Rw} (h : w.ownsRow B 42 4 v l.length (rowR l)) : ∃ a c b, v = .slice a l.length c ∧ Rt a l.length c b 0 l w := by
  rcases h.2 with ⟨rfl, hz⟩ | ⟨g, cap, cur, rfl, hg, hb, hn, hm, hs, ht⟩
  · have : l = [] := List.length_eq_zero_iff.1 hz
    subst this
    exact ⟨none, 0, 0, rfl, Rt.none w⟩
  · obtain ⟨a, c, b, hv, hr, _⟩ := rs_of_row h
    simp only [Value.slice.injEq] at hv
    obtain ⟨rfl, _, rfl⟩ := hv
    refine ⟨_, _, b, rfl, hr, (fun e => by cases e), fun h0 => ?_⟩
    have := (hr.addr h0).1
    simp only [Option.some.injEq, Addr.mk.injEq] at this
    obtain ⟨rfl, _, _⟩ := this
    exact ⟨_, hb⟩
theorem add_off (b o j : Nat) : (⟨b, o, none⟩ : Addr).add j = ⟨b, o + j, none⟩ := by
  unfold Addr.add
  split
  · rename_i h0; rw [h0]; rfl
  · rfl
/-- The cells of rows in a slice, as append reads them. -/
theorem rs_src {a : Option Addr} {n c b o : Nat} {l : List Rw} {w : World} (h : Rs a n c b o l w) : ∀ p, a = some p → ∀ j u, (rowR l)[j]? = some u → w.cell? (p.add j) = some u := by
  intro p hp j u hu
  have hj := (List.getElem?_eq_some_iff.1 hu).1
  rw [rowR_len, h.len] at hj
  obtain ⟨rfl, _⟩ : p = ⟨b, o, none⟩ ∧ True := by
    have := (h.addr (by omega)).1
    rw [hp] at this
    exact ⟨by simpa using this, trivial⟩
  rw [add_off]
  obtain ⟨i, m, rfl, hm⟩ : ∃ i m, j = i * 4 + m ∧ m < 4 := ⟨j / 4, j % 4, by omega, Nat.mod_lt _ (by omega)⟩
  obtain ⟨x, hx⟩ : ∃ x, l[i]? = some x := ⟨_, List.getElem?_eq_getElem (by rw [h.len]; omega)⟩
  obtain ⟨e0, e1, e2, e3⟩ := rowR_at l i hx
  obtain ⟨f0, f1, f2, f3⟩ := h.at' i x hx
  obtain rfl | rfl | rfl | rfl : m = 0 ∨ m = 1 ∨ m = 2 ∨ m = 3 := by omega
  · rw [Nat.add_zero, e0] at hu; rw [Nat.add_zero, f0, hu]
  · rw [e1] at hu; rw [show o + (i * 4 + 1) = o + i * 4 + 1 by omega, f1, hu]
  · rw [e2] at hu; rw [show o + (i * 4 + 2) = o + i * 4 + 2 by omega, f2, hu]
  · rw [e3] at hu; rw [show o + (i * 4 + 3) = o + i * 4 + 3 by omega, f3, hu]
theorem rt_take {a : Option Addr} {n c b o : Nat} {l : List Rw} {w : World} (h : Rt a n c b o l w) {e : Nat} (he : e ≤ n) :
    (∀ u, (Instr.slice 25 (.slice a n c) none (some (.int .i64 (e : Int))) none).run Try.prog u = .ok (.slice a e c) u) ∧ Rs a e c b o (l.take e) w := by
  have hc := h.rs.cap
  have hm := h.rs.most
  refine ⟨fun u => ?_, ⟨by rw [List.length_take, h.rs.len]; omega, by omega, hm, fun h0 => h.rs.addr (by omega), fun j x hx => ?_⟩⟩
  · rw [run_slice_h u 25 a n c (by kernel_rfl) .i64 (e : Int) (by omega) (by omega), size_row]
    simp only [Result.andThen, sliced, Int.toNat_natCast]
    have ea : (if c = 0 then a else a.map (·.add (0 * 4))) = a := by
      split
      · rfl
      · cases a with
        | none => rfl
        | some p => simp [Addr.add]
    simp only [Nat.sub_zero] at *
    first | rw [ea] | simp [Addr.add] | skip
  · rw [List.getElem?_take] at hx
    split at hx
    · exact h.rs.at' j x hx
    · cases hx
theorem rt_drop {a : Option Addr} {n c b o : Nat} {l : List Rw} {w : World} (h : Rt a n c b o l w) {e : Nat} (he : e ≤ n) :
    ∃ p2, (∀ u, (Instr.slice 25 (.slice a n c) (some (.int .i64 (e : Int))) none none).run Try.prog u = .ok (.slice p2 (n - e) (c - e)) u) ∧ Rs p2 (n - e) (c - e) b (o + e * 4) (l.drop e) w ∧ (p2 = none → n - e = 0 ∧ c - e = 0) := by
  have hc := h.rs.cap
  have hm := h.rs.most
  refine ⟨if c = e then a else a.map (·.add (e * 4)), fun u => ?_, ⟨by rw [List.length_drop, h.rs.len], by omega, by omega, fun h0 => ?_, fun j x hx => ?_⟩, fun hp => ?_⟩
  · rw [run_slice_l u 25 a n c (by kernel_rfl) .i64 (e : Int) (by omega) (by omega), size_row]
    simp only [Result.andThen, sliced, Int.toNat_natCast]
  · obtain ⟨h1, h2⟩ := h.rs.addr (by omega)
    subst h1
    rw [if_neg (by omega)]
    exact ⟨by simp only [Option.map_some, addr_plus], h2⟩
  · rw [List.getElem?_drop] at hx
    have := h.rs.at' (e + j) x hx
    rw [show o + (e + j) * 4 = o + e * 4 + j * 4 by omega] at this
    exact this
  · split at hp
    · have := h.nil hp; omega
    · rw [Option.map_eq_none_iff] at hp
      have := h.nil hp; omega
set_option maxRecDepth 100000 in
set_option maxHeartbeats 4000000 in
theorem with_ref {a : Option Addr} {n c b o : Nat} {l : List Rw} {w : World} (h : Rt a n c b o l w) (hn : n ≤ 1000000) (x : Rw) :
    Calls Try.prog 31 #[.slice a n c, rowV x] w (GaveR (insR l x) w) := by
  obtain ⟨P, hP⟩ := named (plc l x.key x.seq)
  have hPn : P ≤ n := by rw [hP.out, ← h.rs.len]; unfold plc; exact (List.takeWhile_prefix _).length_le
  have hIn : insR l x = l.take P ++ x :: l.drop P := by unfold insR; rw [hP.out]
  rw [hIn]
  obtain ⟨xk, xs, xi, xv⟩ := x
  have W0 := Lib.hid (below_alloc w (.cells #[.string xk, .int .u64 (xs : Int), .int .i64 xi, .string xv] 42))
  have R0 := Lib.hid (RowAt.new ⟨xk, xs, xi, xv⟩ w)
  have PL : Hid (Calls Try.prog 47 #[.slice a n c, .string xk, .int .u64 (xs : Int)] (w.alloc (.cells #[.string xk, .int .u64 (xs : Int), .int .i64 xi, .string xv] 42)) fun e w' => e = .returned (.int .i64 (P : Int)) ∧ Below (w.alloc (.cells #[.string xk, .int .u64 (xs : Int), .int .i64 xi, .string xv] 42)).heap.size (w.alloc (.cells #[.string xk, .int .u64 (xs : Int), .int .i64 xi, .string xv] 42)) w') := Lib.hid (by
    have := place_ref (h.below W0.out).rs (by omega) xk xs
    rwa [show plc l xk xs = P from hP.out.symm] at this)
  obtain ⟨TK, RT⟩ := rt_take h hPn
  obtain ⟨p2, DK, RD, hp2⟩ := rt_drop h hPn
  have hnil : a = none → P = 0 ∧ c = 0 := fun e => by have := h.nil e; have := h.rs.cap; omega
  have hcap := h.rs.cap
  have hmost := h.rs.most
  have hlt : (l.take P).length = P := by rw [List.length_take, h.rs.len]; omega
  have hld : (l.drop P).length = n - P := by rw [List.length_drop, h.rs.len]
  obtain ⟨X, hX⟩ := named (l.take P)
  obtain ⟨Y, hY⟩ := named (l.drop P)
  rw [← hX.out] at RT hlt ⊢
  rw [← hY.out] at RD hld ⊢
  obtain ⟨m, hm⟩ := named (n - P)
  rw [← hm.out] at RD hld hp2 DK
  have hm1 : m ≤ 1000000 := by rw [hm.out]; omega
  have hP1 : P ≤ 1000000 := by omega
  have RT := Lib.hid RT
  have RD := Lib.hid RD
  have hnil := Lib.hid hnil
  have hp2 := Lib.hid hp2
  have hlt := Lib.hid hlt
  have hld := Lib.hid hld
  have hm1 := Lib.hid hm1
  have hP1 := Lib.hid hP1
  obtain ⟨⟨y0, y1, y2, y3⟩, _⟩ := R0.out.cells
  clear h hIn hX hY hm hP
  go_enter Try.func31, Try.ntmps31
  go_upto_region 2 with (go_at_call 47; ((with_reducible refine PL.out.mono ?_); rintro e w2 ⟨rfl, B2⟩; have R2 := Lib.hid (R0.out.below B2); have B2 := Lib.hid (below_of W0.out B2); clear PL y0 y1 y2 y3))
  have hs2 := Lib.hid B2.out.size
  have hg2 : Hid (w.heap.size < w2.heap.size) := Lib.hid (Array.getElem?_eq_some_iff.1 R2.out).1
  have H0 := Lib.hid (row_zero (w := w2.alloc (.cells #[] 42)) (g := w2.heap.size) (B := w.heap.size) (size := 4) (e := 42) (heap_alloc_new _ _) hs2.out)
  have B3 := Lib.hid (below_of B2.out (below_alloc w2 (.cells #[] 42)))
  have R3 := Lib.hid (R2.out.below (below_alloc w2 (.cells #[] 42)))
  have s3 : Hid ((w2.alloc (.cells #[] 42)).heap.size = w2.heap.size + 1) := Lib.hid (World.size_alloc _ _)
  go_upto_region 3 with (at_builtin; refine wpList_append_src rfl (.tmp 13) (.tmp 16) 25 rfl w.heap.size 42 4 48 (.agg #[.string .empty, .int .u64 0, .int .i64 0, .string .empty]) Try.underlying25 info_row rfl (by decide) (by decide) _ 0 [] a P c (rowR X) H0.out hnil.out (by rw [rowR_len, hlt.out]) (rs_src (RT.out.below B3.out (Nat.le_refl _))) rfl rfl (one_cells X) (by omega) (by have := hP1.out; omega) B3.out.size ?_; intro v4 w4 own4 grow4 sh4; obtain ⟨va4, vc4, rfl⟩ := sh4; have B4 := Lib.hid (B3.out.grown grow4 B3.out.size (fun k hk => by cases hk; exact hs2.out)); have R4 := Lib.hid (show RowAt w.heap.size ⟨xk, xs, xi, xv⟩ w4 from (grow4.block _ (Array.getElem?_eq_some_iff.1 R3.out).1 (fun e => by have e2 := hg2.out; have e3 : some w.heap.size = some w2.heap.size := e; simp only [Option.some.injEq] at e3; omega)).trans R3.out); rw [Nat.zero_add, List.nil_append] at own4; have P4 := Lib.hid own4; rw [Nat.zero_add]; clear own4 grow4)
  have H4 := Lib.hid (row_single (w := w4.alloc (.cells #[.string xk, .int .u64 (xs : Int), .int .i64 xi, .string xv] 42)) (g := w4.heap.size) (B := w4.heap.size) (size := 4) (e := 42) (heap_alloc_new _ _) rfl (Nat.le_refl _))
  have B5 := Lib.hid (below_of B4.out (below_alloc w4 (.cells #[.string xk, .int .u64 (xs : Int), .int .i64 xi, .string xv] 42)))
  have P5 := Lib.hid (own_below P4.out (below_alloc w4 (.cells #[.string xk, .int .u64 (xs : Int), .int .i64 xi, .string xv] 42)))
  obtain ⟨⟨y0, y1, y2, y3⟩, _⟩ := R4.out.cells
  go_upto_region 4 with (at_builtin; refine wpList_append_two rfl (.tmp 18) (.tmp 20) 25 rfl w.heap.size _ 42 4 48 (.agg #[.string .empty, .int .u64 0, .int .i64 0, .string .empty]) Try.underlying25 info_row rfl (by decide) (by decide) _ P (rowR X) _ 1 _ P5.out H4.out rfl rfl (row_one ⟨xk, xs, xi, xv⟩) (by have := hP1.out; omega) (by omega) B5.out.size ?_; intro v6 w6 own6 grow6 sh6; obtain ⟨va6, vc6, rfl⟩ := sh6; have B6 := Lib.hid (B5.out.grown grow6 B5.out.size (fun k hk => (World.ownsRow.lt P5.out k hk).1)); have P6 := Lib.hid (show w6.ownsRow w.heap.size 42 4 (.slice va6 (P + 1) vc6) (P + 1) (rowR (X ++ [⟨xk, xs, xi, xv⟩])) by rw [rowR_snoc]; exact own6); clear own6 grow6 y0 y1 y2 y3)
  go_wp2_with (at_builtin; refine wpList_append_src rfl (.tmp 22) (.tmp 25) 25 rfl w.heap.size 42 4 48 (.agg #[.string .empty, .int .u64 0, .int .i64 0, .string .empty]) Try.underlying25 info_row rfl (by decide) (by decide) _ (P + 1) (rowR (X ++ [⟨xk, xs, xi, xv⟩])) p2 m (c - P) (rowR Y) P6.out hp2.out (by rw [rowR_len, hld.out]) (rs_src (RD.out.below B6.out (Nat.le_refl _))) rfl rfl (one_cells Y) (by have := hP1.out; omega) (by have := hm1.out; omega) B6.out.size ?_; intro v8 w8 own8 grow8 sh8; obtain ⟨va8, vc8, rfl⟩ := sh8; have B8 := Lib.hid (B6.out.grown grow8 B6.out.size (fun k hk => (World.ownsRow.lt P6.out k hk).1)); rw [← rowR_app] at own8; have P8 := Lib.hid own8; clear own8 grow8)
  go_returns
  refine ⟨_, rfl, ?_, B8.out⟩
  have e1 : (X ++ ⟨xk, xs, xi, xv⟩ :: Y) = (X ++ [⟨xk, xs, xi, xv⟩]) ++ Y := by simp
  rw [e1, show ((X ++ [(⟨xk, xs, xi, xv⟩ : Rw)]) ++ Y).length = P + 1 + m by rw [List.length_append, List.length_append, hlt.out, hld.out]; rfl]
  exact P8.out
end Go.Proofs.Ytkkegdhnkefogaa
