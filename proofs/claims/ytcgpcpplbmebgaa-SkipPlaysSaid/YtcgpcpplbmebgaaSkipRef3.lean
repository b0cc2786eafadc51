/-
  The document's list in memory, and its Put. No condition but at most 1000000 rows.
-/
import Derived.Test.YtcgpcpplbmebgaaSkipRef2
import Derived.Deep.RegionWith
namespace Go.Proofs.Ytcgpcpplbmebgaa
open Go.RowKit
/-- Heights as cells. -/
def cellsH (hs : List Nat) : List Value := hs.map fun (h : Nat) => Value.int .i64 (h : Int)
theorem cellsH_len (hs : List Nat) : (cellsH hs).length = hs.length := by simp [cellsH]
theorem slof_of_row {w : World} {B : Nat} {a : Option Addr} {n c : Nat} {hs : List Nat} (h : w.ownsRow B 3 1 (.slice a n c) n (cellsH hs)) (hl : hs.length = n) : ∃ b, SlOf 1 cellsI a n c b 0 (intsH hs) w := by
  rcases h.2 with ⟨e, hz⟩ | ⟨g, cap, cur, e, hg, hb, hn, hm, hs', ht⟩
  · simp at e
    obtain ⟨rfl, rfl, rfl⟩ := e
    have : hs = [] := List.length_eq_zero_iff.1 hl
    subst this
    exact ⟨0, rfl, Nat.le_refl _, by omega, fun h => absurd h (by omega), fun j x hx => by simp [intsH] at hx⟩
  · simp at e
    obtain ⟨rfl, rfl⟩ := e
    unfold maxLen at hm
    refine ⟨g, by unfold intsH; rw [List.length_map]; exact hl, hn, by omega, fun _ => ⟨rfl, (Array.getElem?_eq_some_iff.1 hb).1⟩, fun j x hx m u hu => ?_⟩
    obtain ⟨y, hy, rfl⟩ := intsH_at hx
    have hm0 : m = 0 := by have := (List.getElem?_eq_some_iff.1 hu).1; simp [cellsI] at this; omega
    subst hm0
    have hu' : u = .int .i64 (y : Int) := by simpa [cellsI] using hu.symm
    subst hu'
    have hj : j < hs.length := (List.getElem?_eq_some_iff.1 hy).1
    have := World.ownsRow.cellAt h j (by omega)
    rw [show 0 + j * 1 + 0 = j by omega]
    refine this.trans ?_
    unfold cellsH
    rw [List.getElem?_map, hy]; rfl
/-- The document's list in block p. -/
def RefL (B p : Nat) (l : SL) (w : World) : Prop := ∃ rv hv, w.heap[p]? = some (.cells #[rv, hv] 33 (0, 0)) ∧ w.ownsRow B 36 4 rv l.length (rowR (rowsL l)) ∧ w.ownsRow B 3 1 hv l.length (cellsH (hgtsL l)) ∧ B ≤ p
theorem row_grow {w w' : World} {B : Nat} {e : TypeId} {size n : Nat} {v : Value} {xs : List Value} (h : w.ownsRow B e size v n xs) (hb : Below w.heap.size w w') : w'.ownsRow B e size v n xs := by
  refine ⟨h.1, ?_⟩
  rcases h.2 with e' | ⟨g, cap, cur, e', a, b, c⟩
  · exact .inl e'
  · exact .inr ⟨g, cap, cur, e', a, (hb.block g (Array.getElem?_eq_some_iff.1 b).1).trans b, c⟩
/-- A row stands where one of another type is appended to. -/
theorem row_row {w w' : World} {o : Obj} {B B2 : Nat} {e e2 : TypeId} {size n size2 n2 : Nat} {v v2 : Value} {xs ys : List Value} (h : w.ownsRow B e size v n xs) (h2 : w.ownsRow B2 e2 size2 v2 n2 ys) (hne : e ≠ e2) (hg : (w.alloc o).grownBy w' v2.ownBlock) : w'.ownsRow B e size v n xs := by
  refine ⟨h.1, ?_⟩
  rcases h.2 with e' | ⟨g, cap, cur, e', a, b, c⟩
  · exact .inl e'
  · have hlt := (Array.getElem?_eq_some_iff.1 b).1
    refine .inr ⟨g, cap, cur, e', a, ((hg.block g (by rw [World.size_alloc]; omega) (fun e3 => ?_)).trans (Lib.alloc_old w o g hlt)).trans b, c⟩
    rcases h2.2 with ⟨rfl, _⟩ | ⟨g2, cap2, cur2, rfl, _, hb2, _⟩
    · simp [Value.ownBlock] at e3
    · obtain rfl : g = g2 := by simpa [Value.ownBlock] using e3
      rw [b] at hb2
      simp only [Option.some.injEq, Obj.cells.injEq] at hb2
      exact hne hb2.2.1
/-- What Put has put together behind j rows. -/
def bl (l : SL) (x : Rw) (h e j : Nat) : SL := if j ≤ e then l.take j else l.take e ++ (x, h) :: (l.drop e).take (j - e)
theorem bl_zero (l : SL) (x : Rw) (h e : Nat) : bl l x h e 0 = [] := by unfold bl; rw [if_pos (Nat.zero_le _)]; rfl
theorem bl_before {l : SL} {x : Rw} {h e j : Nat} {y : Rw × Nat} (hj : j < e) (hy : l[j]? = some y) : bl l x h e (j + 1) = bl l x h e j ++ [y] := by
  unfold bl
  rw [if_pos (by omega), if_pos (by omega), List.take_add_one, hy]; rfl
theorem bl_here {l : SL} {x : Rw} {h e : Nat} {y : Rw × Nat} (hy : l[e]? = some y) : bl l x h e (e + 1) = bl l x h e e ++ [(x, h)] ++ [y] := by
  unfold bl
  rw [if_neg (by omega), if_pos (Nat.le_refl _), show e + 1 - e = 1 by omega]
  obtain ⟨h1, h2⟩ := List.getElem?_eq_some_iff.1 hy
  rw [List.drop_eq_getElem_cons h1, h2]
  simp
theorem bl_behind {l : SL} {x : Rw} {h e j : Nat} {y : Rw × Nat} (hj : e < j) (hy : l[j]? = some y) : bl l x h e (j + 1) = bl l x h e j ++ [y] := by
  unfold bl
  rw [if_neg (by omega), if_neg (by omega), show j + 1 - e = (j - e) + 1 by omega, List.take_add_one, List.getElem?_drop, show e + (j - e) = j by omega, hy]
  simp
theorem bl_len {l : SL} {x : Rw} {h e j : Nat} (hj : j ≤ l.length) (he : e ≤ l.length) : (bl l x h e j).length ≤ j + 1 := by
  unfold bl
  split
  · rw [List.length_take]; omega
  · simp only [List.length_append, List.length_cons, List.length_take, List.length_drop]; omega
theorem bl_end {l : SL} {x : Rw} {h e : Nat} (he : e < l.length) : bl l x h e l.length = l.take e ++ (x, h) :: l.drop e := by
  unfold bl
  rw [if_neg (by omega), show (l.drop e).take (l.length - e) = l.drop e from List.take_of_length_le (by rw [List.length_drop]; omega)]
theorem bl_last {l : SL} {x : Rw} {h : Nat} : bl l x h l.length l.length ++ [(x, h)] = l.take l.length ++ (x, h) :: l.drop l.length := by
  unfold bl
  rw [if_pos (Nat.le_refl _), List.drop_length]
theorem rowsL_snoc (l : SL) (y : Rw × Nat) : rowsL (l ++ [y]) = rowsL l ++ [y.1] := by simp [rowsL]
theorem cellsH_snoc (l : SL) (y : Rw × Nat) : cellsH (hgtsL (l ++ [y])) = cellsH (hgtsL l) ++ [.int .i64 (y.2 : Int)] := by simp [cellsH, hgtsL]
theorem hgtsL_snoc (l : SL) (y : Rw × Nat) : hgtsL (l ++ [y]) = hgtsL l ++ [y.2] := by simp [hgtsL]
theorem info_int : (Try.prog.info? 3).map (fun i => (i.zero, i.size, i.bytes)) = some (some (.int .i64 0), 1, 8) := by kernel_rfl
theorem undrew {w v : World} (h : Below w.drew.heap.size w.drew v) : Below w.heap.size w v := ⟨h.os, h.tape, h.output, h.size, h.block⟩
/-- Two rows under way. -/
structure TwoR (w : World) (rv hv : Value) (L1 : List Rw) (L2 : List Nat) (v : World) : Prop where
  rows : v.ownsRow w.heap.size 36 4 rv L1.length (rowR L1)
  hgts : v.ownsRow w.heap.size 3 1 hv L2.length (cellsH L2)
  blw : Below w.heap.size w v
theorem TwoR.addRow {w : World} {rv hv rv' : Value} {L1 : List Rw} {L2 : List Nat} {v u : World} {o : Obj} {x : Rw} (h : TwoR w rv hv L1 L2 v) (hown : u.ownsRow w.heap.size 36 4 rv' (L1.length + 1) (rowR L1 ++ [.string x.key, .int .u64 (x.seq : Int), .int .i64 x.kind, .string x.val])) (hg : (v.alloc o).grownBy u rv.ownBlock) : TwoR w rv' hv (L1 ++ [x]) L2 u :=
  ⟨by rw [rowR_snoc, List.length_append]; exact hown, row_row h.hgts h.rows (by decide) hg, grown_below h.blw h.rows hg⟩
theorem TwoR.addHgt {w : World} {rv hv hv' : Value} {L1 : List Rw} {L2 : List Nat} {v u : World} {o : Obj} {y : Nat} (h : TwoR w rv hv L1 L2 v) (hown : u.ownsRow w.heap.size 3 1 hv' (L2.length + 1) (cellsH L2 ++ [.int .i64 (y : Int)])) (hg : (v.alloc o).grownBy u hv.ownBlock) : TwoR w rv hv' L1 (L2 ++ [y]) u :=
  ⟨row_row h.rows h.hgts (by decide) hg, by rw [List.length_append]; unfold cellsH; rw [List.map_append]; exact hown, grown_below h.blw h.hgts hg⟩
theorem row_base {w : World} {B B' : Nat} {e : TypeId} {size n : Nat} {v : Value} {xs : List Value} (h : w.ownsRow B' e size v n xs) (hB : B ≤ B') : w.ownsRow B e size v n xs := by
  refine ⟨h.1, ?_⟩
  rcases h.2 with e' | ⟨g, cap, cur, e', a, b⟩
  · exact .inl e'
  · exact .inr ⟨g, cap, cur, e', Nat.le_trans hB a, b⟩
theorem refl_put {B p : Nat} {l : SL} {w v : World} {rv hv a b : Value} (T : TwoR w rv hv (rowsL l) (hgtsL l) v) (hp : v.heap[p]? = some (.cells #[a, b] 33 (0, 0))) (hlt : p < w.heap.size) (hB : B ≤ w.heap.size) (hlo : B ≤ p) :
    RefL B p l ((v.setCell ⟨p, 0, none⟩ rv).setCell ⟨p, 1, none⟩ hv) := by
  have h1 := heap_setCell_same v p 0 _ _ rv hp
  have h2 := heap_setCell_same (v.setCell ⟨p, 0, none⟩ rv) p 1 _ _ hv h1
  have r := T.rows
  have g := T.hgts
  rw [rows_len] at r
  rw [hgts_len] at g
  exact ⟨rv, hv, h2, row_base (ownsRow_setCell_below (ownsRow_setCell_below r (a := ⟨p, 0, none⟩) hlt _) (a := ⟨p, 1, none⟩) hlt _) hB, row_base (ownsRow_setCell_below (ownsRow_setCell_below g (a := ⟨p, 0, none⟩) hlt _) (a := ⟨p, 1, none⟩) hlt _) hB, hlo⟩
theorem news_one {w : World} {T : TypeId} {v : Value} : ∀ j u, ([v] : List Value)[j]? = some u → (w.alloc (.cells #[v] T)).cell? ((⟨w.heap.size, 0, none⟩ : Addr).add j) = some u := World.news_of_block (heap_alloc_new _ _)
set_option maxRecDepth 100000 in
set_option maxHeartbeats 8000000 in
theorem put_there {B p : Nat} {l : SL} {w : World} (h : RefL B p l w) (hn : l.length ≤ 1000000) (x : Rw) (hgt : Int) (ht : thrL l x.key x.seq = true) :
    Calls Try.prog 12 #[.pointer (some ⟨p, 0, none⟩), rowV x, .int .i64 hgt] w fun e w' => e = .returned (.bool false) ∧ Below w.heap.size w w' := by
  obtain ⟨rv, hv, hp, hr, hh, _⟩ := h
  obtain ⟨pa, pc, rfl⟩ := ownsRow_slice hr
  obtain ⟨pb, rs⟩ := rs_row_at hr (rows_len l)
  have R0 := RowAt.new x w
  have W0 := below_alloc w (.cells #[.string x.key, .int .u64 (x.seq : Int), .int .i64 x.kind, .string x.val] 36)
  obtain ⟨y0, y1⟩ := pair_box ((W0.block p (Array.getElem?_eq_some_iff.1 hp).1).trans hp)
  have TC := Lib.hid (there_ref ((rs.below W0 (Nat.le_refl _)).keep (w' := (w.alloc (.cells #[.string x.key, .int .u64 (x.seq : Int), .int .i64 x.kind, .string x.val] 36)).drew) (fun _ => rfl) (Nat.le_refl _)) (by omega) x.key x.seq)
  rw [show thr (rowsL l) x.key x.seq = true from ht] at TC
  obtain ⟨⟨c0, c1, c2, c3⟩, _⟩ := R0.cells
  replace W0 := Lib.hid W0
  obtain ⟨xk, xs, xi, xv⟩ := x
  simp only at c0 c1 c2 c3 TC W0 y0 y1
  clear hp hr hh rs ht R0
  go_enter Try.func12, Try.ntmps12
  go_upto_region 1 with fail
  go_region_with (go_at_call 44; ((with_reducible refine TC.out.mono ?_); rintro e w2 ⟨rfl, hb2⟩; have B2 := Lib.hid (below_of W0.out.drew hb2); clear hb2))
  all_goals (
    go_wp2_with fail
    go_returns
    exact ⟨rfl, B2.out⟩)
set_option maxRecDepth 100000 in
set_option maxHeartbeats 8000000 in
theorem put_make {B p : Nat} {l : SL} {w : World} (h : RefL B p l w) (hB : B ≤ w.heap.size) (hn : l.length ≤ 1000000) (x : Rw) (hgt : Int) (ht : thrL l x.key x.seq = false) :
    Calls Try.prog 12 #[.pointer (some ⟨p, 0, none⟩), rowV x, .int .i64 hgt] w fun e w' => e = .returned (.bool true) ∧ RefL B p (insL l x (hgtOf hgt)) w' ∧ But p w w' := by
  have hBp := h
  obtain ⟨rv, hv, hp, hr, hh, hlo⟩ := h
  obtain ⟨pa, pc, rfl⟩ := ownsRow_slice hr
  obtain ⟨qa, qc, rfl⟩ := ownsRow_slice hh
  obtain ⟨pb, rs⟩ := rs_row_at hr (rows_len l)
  obtain ⟨qb, qs⟩ := slof_of_row hh (hgts_len l)
  have m1 := rs.most
  have m2 := qs.most
  have n1 := rs.cap
  have n2 := qs.cap
  have R0 := RowAt.new x w
  have W0 := below_alloc w (.cells #[.string x.key, .int .u64 (x.seq : Int), .int .i64 x.kind, .string x.val] 36)
  obtain ⟨y0, y1⟩ := pair_box ((W0.block p (Array.getElem?_eq_some_iff.1 hp).1).trans hp)
  have TC := Lib.hid (there_ref ((rs.below W0 (Nat.le_refl _)).keep (w' := (w.alloc (.cells #[.string x.key, .int .u64 (x.seq : Int), .int .i64 x.kind, .string x.val] 36)).drew) (fun _ => rfl) (Nat.le_refl _)) (by omega) x.key x.seq)
  rw [show thr (rowsL l) x.key x.seq = false from ht] at TC
  have PC : Hid (∀ u, Below w.heap.size w u → Calls Try.prog 10 #[.slice pa l.length pc, .string x.key, .int .u64 (x.seq : Int)] u fun e w' => e = .returned (.int .i64 (plL l x.key x.seq : Int)) ∧ Below u.heap.size u w') := Lib.hid fun u hu => place_ref (rs.below hu (Nat.le_refl _)) (by omega) x.key x.seq
  have ple := plL_le l x.key x.seq
  have hins : Hid (insL l x (hgtOf hgt) = l.take (plL l x.key x.seq) ++ (x, hgtOf hgt) :: l.drop (plL l x.key x.seq)) := Lib.hid rfl
  obtain ⟨E, hE⟩ := named (plL l x.key x.seq)
  rw [← hE.out] at PC ple hins
  obtain ⟨HH, hHH⟩ := named (hgtOf hgt)
  rw [← hHH.out] at hins ⊢
  have c4 : Hid (∀ u, Below w.heap.size w u → u.cell? ⟨p, 0, none⟩ = some (.slice pa l.length pc) ∧ u.cell? ⟨p, 1, none⟩ = some (.slice qa l.length qc)) := Lib.hid fun u hu => pair_box ((hu.block p (Array.getElem?_eq_some_iff.1 hp).1).trans hp)
  have FR : Hid (∀ u, Below (w.alloc (.cells #[.string x.key, .int .u64 (x.seq : Int), .int .i64 x.kind, .string x.val] 36)).heap.size (w.alloc (.cells #[.string x.key, .int .u64 (x.seq : Int), .int .i64 x.kind, .string x.val] 36)) u → RowAt w.heap.size x u) := Lib.hid fun u hu => R0.below hu
  obtain ⟨⟨c0, c1, c2, c3⟩, _⟩ := R0.cells
  replace W0 := Lib.hid W0
  obtain ⟨i0, hi, hz0, hz1, hz2⟩ := info_parts info_row
  obtain ⟨j0, ki, kz0, kz1, kz2⟩ := info_parts info_int
  have hp := Lib.hid hp
  have rs := Lib.hid rs
  have qs := Lib.hid qs
  obtain ⟨xk, xs, xi, xv⟩ := x
  simp only at c0 c1 c2 c3 TC PC FR hins W0 y0 y1
  clear hr hh ht R0 hE hBp
  go_enter Try.func12, Try.ntmps12
  go_upto_region 1 with fail
  go_cut [20] from 12 to 20 (fun b wc => b = .bool false ∧ Below (w.alloc (.cells #[.string xk, .int .u64 (xs : Int), .int .i64 xi, .string xv] 36)).heap.size (w.alloc (.cells #[.string xk, .int .u64 (xs : Int), .int .i64 xi, .string xv] 36)) wc)
  case first =>
    go_region_with (go_at_call 44; ((with_reducible refine TC.out.mono ?_); rintro e w2 ⟨rfl, hb2⟩; have B2 := Lib.hid (undrew hb2); clear hb2))
    all_goals (
      go_wp2_with fail
      go_meet
      exact ⟨rfl, B2.out⟩)
  case rest =>
    obtain ⟨rfl, hb2⟩ := hcut
    clear TC c0 c1 c2 c3 y0 y1
    obtain ⟨⟨c0, c1, c2, c3⟩, _⟩ := (FR.out _ hb2).cells
    have b2 := below_of W0.out hb2
    obtain ⟨y0, y1⟩ := c4.out _ b2
    have PC2 := Lib.hid (PC.out _ b2.drew)
    go_upto_region 3 with fail
    go_cut [7] from 21 to 30 (fun v wc2 => v = .int .i64 (E : Int) ∧ Below wc.heap.size wc wc2)
    case first =>
      go_region_with (go_at_call 10; ((with_reducible refine PC2.out.mono ?_); rintro e w3 ⟨rfl, hb3⟩; have B3 := Lib.hid (undrew hb3); clear hb3))
      all_goals (
        go_wp2_with fail
        go_meet
        exact ⟨rfl, B3.out⟩)
    case rest =>
      obtain ⟨rfl, hb3⟩ := hcut
      have hbA := below_of hb2 hb3
      clear PC2 c0 c1 c2 c3 y0 y1 b2
      obtain ⟨W, hW⟩ : ∃ W, W = wc := ⟨_, rfl⟩
      subst hW
      obtain ⟨G1, hG1⟩ := named (if hgt < 1 then (1 : Int) else hgt)
      have hG2 : Hid ((HH : Int) = if 12 < G1 then 12 else G1) := Lib.hid (by
        rw [hHH.out, hG1.out]; unfold hgtOf
        by_cases g : hgt < 1
        · rw [if_pos g, if_pos g, if_neg (by omega)]; rfl
        · rw [if_neg g, if_neg g]
          by_cases g' : (12 : Int) < hgt
          · rw [if_pos g', if_pos g']; rfl
          · rw [if_neg g', if_neg g']; omega)
      go_upto_if 32 with fail
      go_cut [8] from 31 to 32 (fun v wq => wq = W ∧ v = .int .i64 G1)
      case first =>
        by_cases g : hgt < 1
        · go_wp2_with fail
          go_meet
          exact ⟨rfl, by rw [hG1.out, if_pos g]⟩
        · go_wp2_with fail
          go_meet
          exact ⟨rfl, by rw [hG1.out, if_neg (by omega)]⟩
      case rest =>
        obtain ⟨rfl, rfl⟩ := hcut
        go_upto_if 34 with fail
        go_cut [8] from 33 to 34 (fun v wq => wq = wc ∧ v = .int .i64 (HH : Int))
        case first =>
          by_cases g : (12 : Int) < G1
          · go_wp2_with fail
            go_meet
            exact ⟨rfl, by rw [hG2.out, if_pos g]⟩
          · go_wp2_with fail
            go_meet
            exact ⟨rfl, by rw [hG2.out, if_neg (by omega)]⟩
        case rest =>
          obtain ⟨rfl, rfl⟩ := hcut
          have bW := below_of W0.out hbA
          have KX : Hid (∀ u, Below wc.heap.size wc u → u.cell? ⟨w.heap.size, 0, none⟩ = some (.string xk) ∧ u.cell? ⟨w.heap.size, 1, none⟩ = some (.int .u64 (xs : Int)) ∧ u.cell? ⟨w.heap.size, 2, none⟩ = some (.int .i64 xi) ∧ u.cell? ⟨w.heap.size, 3, none⟩ = some (.string xv)) := Lib.hid fun u hu => ((FR.out wc hbA).below hu).cells.1
          have CP : Hid (∀ u, Below wc.heap.size wc u → u.cell? ⟨p, 0, none⟩ = some (.slice pa l.length pc) ∧ u.cell? ⟨p, 1, none⟩ = some (.slice qa l.length qc)) := Lib.hid fun u hu => c4.out u (below_of bW hu)
          have FZ : Hid (∀ u, Below wc.heap.size wc u → u.heap[p]? = some (.cells #[.slice pa l.length pc, .slice qa l.length qc] 33 (0, 0))) := Lib.hid fun u hu => ((below_of bW hu).block p (Array.getElem?_eq_some_iff.1 hp.out).1).trans hp.out
          have plt : p < w.heap.size := (Array.getElem?_eq_some_iff.1 hp.out).1
          have szW := bW.size
          have rsW := Lib.hid (rs.out.below bW (Nat.le_refl _))
          have qsW := Lib.hid (qs.out.below bW (Nat.le_refl _))
          have bW := Lib.hid bW
          obtain ⟨N, hN⟩ := named l.length
          rw [← hN.out] at CP FZ rsW qsW ple hn n1 n2
          clear hb2 hb3 hbA FR c4 rs qs hG1 hG2 PC
          obtain ⟨f0, f1⟩ := CP.out wc (Below.refl _ _)
          go_wp2_with fail
          go_loopw [9, 10, 11] (fun rv hv i wr => ∃ j : Nat, j ≤ N ∧ i = .int .i64 (j : Int) ∧ TwoR wc rv hv (rowsL (bl l ⟨xk, xs, xi, xv⟩ HH E j)) (hgtsL (bl l ⟨xk, xs, xi, xv⟩ HH E j)) wr) (fun _ _ i _ => N - (intOf i).toNat)
          case atStart => exact ⟨0, Nat.zero_le _, rfl, by rw [bl_zero]; exact ⟨World.ownsRow_nil _ _ _ _, World.ownsRow_nil _ _ _ _, Below.refl _ _⟩⟩
          case round =>
            obtain ⟨j, hj, rfl, T0⟩ := hrel
            obtain ⟨f0, f1⟩ := CP.out wr T0.blw
            have lb := bl_len (x := ⟨xk, xs, xi, xv⟩) (h := HH) (show j ≤ l.length by rw [← hN.out]; exact hj) (show E ≤ l.length by rw [← hN.out]; exact ple)
            have lb1 : (rowsL (bl l ⟨xk, xs, xi, xv⟩ HH E j)).length ≤ 1000001 := by rw [rows_len]; omega
            have lb2 : (hgtsL (bl l ⟨xk, xs, xi, xv⟩ HH E j)).length ≤ 1000001 := by rw [hgts_len]; omega
            have T0 := Lib.hid T0
            by_cases hlt : j < N
            · obtain ⟨y, hy, rfl, y0, y1, y2, y3⟩ := (rsW.out.below T0.out.blw (Nat.le_refl _)).at4 hlt
              obtain ⟨zz, hz, rfl, z0⟩ := num_at (qsW.out.below T0.out.blw (Nat.le_refl _)) hlt
              obtain ⟨yh, hyh, rfl⟩ := intsH_at hz
              have i1 : (j : Int) < (N : Int) := by omega
              have hly : l[j]? = some (y, yh) := by
                obtain ⟨⟨a1, a2⟩, ha⟩ : ∃ a, l[j]? = some a := ⟨_, List.getElem?_eq_getElem (by rw [← hN.out]; exact hlt)⟩
                unfold rowsL at hy
                unfold hgtsL at hyh
                rw [List.getElem?_map, ha] at hy hyh
                simp only [Option.map_some, Option.some.injEq] at hy hyh
                rw [ha, hy, hyh]
              rw [Nat.zero_add] at y0 y1 y2 y3 z0
              obtain ⟨x0, x1, x2, x3⟩ := KX.out wr T0.out.blw
              obtain ⟨yk, ys, yi, yv⟩ := y
              simp only at y0 y1 y2 y3
              have KY : Hid (∀ u, Below wc.heap.size wc u → u.cell? ⟨pb, j * 4, none⟩ = some (.string yk) ∧ u.cell? ⟨pb, j * 4 + 1, none⟩ = some (.int .u64 (ys : Int)) ∧ u.cell? ⟨pb, j * 4 + 2, none⟩ = some (.int .i64 yi) ∧ u.cell? ⟨pb, j * 4 + 3, none⟩ = some (.string yv)) := Lib.hid fun u hu => by
                have := (rsW.out.below hu (Nat.le_refl _)).at' j _ hy
                rw [Nat.zero_add] at this
                exact this
              have KZ : Hid (∀ u, Below wc.heap.size wc u → u.cell? ⟨qb, j, none⟩ = some (.int .i64 (yh : Int))) := Lib.hid fun u hu => by
                have := (qsW.out.below hu (Nat.le_refl _)).at' j _ hz 0 _ rfl
                rw [Nat.zero_add, Nat.mul_one, Nat.add_zero] at this
                exact this
              clear hy hz hyh lb
              replace hly := Lib.hid hly
              by_cases hjE : j = E
              · subst hjE
                have eq1 : ((j : Int) == (j : Int)) = true := by simp
                have hb4 := Lib.hid (bl_here (x := ⟨xk, xs, xi, xv⟩) (h := HH) hly.out)
                go_wp2_with (first
                  | (have tt := T3; at_builtin; refine wpList_append_own _ rfl _ _ 31 rfl wc.heap.size 3 j0 _ 1 8 Try.underlying31 ki kz0 kz1 kz2 rfl (by decide) _ _ _ rfl (tt.out.hgts.alloc _) ⟨_, 0, none⟩ 1 1 [.int .i64 (yh : Int)] rfl rfl news_one (by intro u hu; simp only [List.mem_cons, List.not_mem_nil, or_false] at hu; rw [hu]; rfl) (by rw [List.length_append]; simp only [List.length_cons, List.length_nil]; unfold maxLen; omega) (by rw [List.length_append]; simp only [List.length_cons, List.length_nil]; omega) (by have := tt.out.blw.size; simp; omega) ?_; intro hv' u' hown hgrow _; have T4 := Lib.hid (tt.out.addHgt (y := yh) hown hgrow); obtain ⟨f0, f1⟩ := CP.out _ T4.out.blw; obtain ⟨y0, y1, y2, y3⟩ := KY.out _ T4.out.blw; have z0 := KZ.out _ T4.out.blw; clear tt hown hgrow)
                  | (have tt := T2; at_builtin; refine wpList_append_own _ rfl _ _ 30 rfl wc.heap.size 36 i0 _ 4 48 Try.underlying30 hi hz0 hz1 hz2 rfl (by decide) _ _ _ rfl (tt.out.rows.alloc _) ⟨_, 0, none⟩ 1 1 [.string yk, .int .u64 (ys : Int), .int .i64 yi, .string yv] rfl rfl (World.news_of_block (heap_alloc_new _ _)) (row_one ⟨yk, ys, yi, yv⟩) (by rw [List.length_append]; simp only [List.length_cons, List.length_nil]; unfold maxLen; omega) (by rw [List.length_append]; simp only [List.length_cons, List.length_nil]; omega) (by have := tt.out.blw.size; simp; omega) ?_; intro rv' u' hown hgrow _; have T3 := Lib.hid (tt.out.addRow (x := ⟨yk, ys, yi, yv⟩) hown hgrow); obtain ⟨f0, f1⟩ := CP.out _ T3.out.blw; obtain ⟨y0, y1, y2, y3⟩ := KY.out _ T3.out.blw; have z0 := KZ.out _ T3.out.blw; clear tt hown hgrow)
                  | (have tt := T1; at_builtin; refine wpList_append_own _ rfl _ _ 31 rfl wc.heap.size 3 j0 _ 1 8 Try.underlying31 ki kz0 kz1 kz2 rfl (by decide) _ _ _ rfl (tt.out.hgts.alloc _) ⟨_, 0, none⟩ 1 1 [.int .i64 (HH : Int)] rfl rfl news_one (by intro u hu; simp only [List.mem_cons, List.not_mem_nil, or_false] at hu; rw [hu]; rfl) (by unfold maxLen; omega) (by omega) (by have := tt.out.blw.size; simp; omega) ?_; intro hv' u' hown hgrow _; have T2 := Lib.hid (tt.out.addHgt (y := HH) hown hgrow); obtain ⟨f0, f1⟩ := CP.out _ T2.out.blw; obtain ⟨y0, y1, y2, y3⟩ := KY.out _ T2.out.blw; have z0 := KZ.out _ T2.out.blw; clear tt hown hgrow)
                  | (have tt := T0; at_builtin; refine wpList_append_own _ rfl _ _ 30 rfl wc.heap.size 36 i0 _ 4 48 Try.underlying30 hi hz0 hz1 hz2 rfl (by decide) _ _ _ rfl (tt.out.rows.alloc _) ⟨_, 0, none⟩ 1 1 [.string xk, .int .u64 (xs : Int), .int .i64 xi, .string xv] rfl rfl (World.news_of_block (heap_alloc_new _ _)) (row_one ⟨xk, xs, xi, xv⟩) (by unfold maxLen; omega) (by omega) (by have := tt.out.blw.size; simp; omega) ?_; intro rv' u' hown hgrow _; have T1 := Lib.hid (tt.out.addRow (x := ⟨xk, xs, xi, xv⟩) hown hgrow); obtain ⟨f0, f1⟩ := CP.out _ T1.out.blw; obtain ⟨y0, y1, y2, y3⟩ := KY.out _ T1.out.blw; have z0 := KZ.out _ T1.out.blw; clear tt hown hgrow)
                  | fail "no arm")
                go_roundw
                case rel => exact ⟨j + 1, by omega, by go_num, by rw [hb4.out, rowsL_snoc, rowsL_snoc, hgtsL_snoc, hgtsL_snoc]; exact T4.out⟩
                case measure => simp [intOf]; omega
              · have ne1 : ((j : Int) == (E : Int)) = false := by rw [beq_eq_false_iff_ne]; omega
                have hb4 : Hid (bl l ⟨xk, xs, xi, xv⟩ HH E (j + 1) = bl l ⟨xk, xs, xi, xv⟩ HH E j ++ [(⟨yk, ys, yi, yv⟩, yh)]) := Lib.hid (by
                  rcases Nat.lt_or_ge j E with h1 | h1
                  · exact bl_before h1 hly.out
                  · exact bl_behind (by omega) hly.out)
                go_wp2_with (first
                  | (have tt := T1; at_builtin; refine wpList_append_own _ rfl _ _ 31 rfl wc.heap.size 3 j0 _ 1 8 Try.underlying31 ki kz0 kz1 kz2 rfl (by decide) _ _ _ rfl (tt.out.hgts.alloc _) ⟨_, 0, none⟩ 1 1 [.int .i64 (yh : Int)] rfl rfl news_one (by intro u hu; simp only [List.mem_cons, List.not_mem_nil, or_false] at hu; rw [hu]; rfl) (by unfold maxLen; omega) (by omega) (by have := tt.out.blw.size; simp; omega) ?_; intro hv' u' hown hgrow _; have T2 := Lib.hid (tt.out.addHgt (y := yh) hown hgrow); obtain ⟨f0, f1⟩ := CP.out _ T2.out.blw; obtain ⟨y0, y1, y2, y3⟩ := KY.out _ T2.out.blw; have z0 := KZ.out _ T2.out.blw; clear tt hown hgrow)
                  | (have tt := T0; at_builtin; refine wpList_append_own _ rfl _ _ 30 rfl wc.heap.size 36 i0 _ 4 48 Try.underlying30 hi hz0 hz1 hz2 rfl (by decide) _ _ _ rfl (tt.out.rows.alloc _) ⟨_, 0, none⟩ 1 1 [.string yk, .int .u64 (ys : Int), .int .i64 yi, .string yv] rfl rfl (World.news_of_block (heap_alloc_new _ _)) (row_one ⟨yk, ys, yi, yv⟩) (by unfold maxLen; omega) (by omega) (by have := tt.out.blw.size; simp; omega) ?_; intro rv' u' hown hgrow _; have T1 := Lib.hid (tt.out.addRow (x := ⟨yk, ys, yi, yv⟩) hown hgrow); obtain ⟨f0, f1⟩ := CP.out _ T1.out.blw; obtain ⟨y0, y1, y2, y3⟩ := KY.out _ T1.out.blw; have z0 := KZ.out _ T1.out.blw; clear tt hown hgrow)
                  | fail "no arm")
                go_roundw
                case rel => exact ⟨j + 1, by omega, by go_num, by rw [hb4.out, rowsL_snoc, hgtsL_snoc]; exact T2.out⟩
                case measure => simp [intOf]; omega
            · have jN : j = N := by omega
              have i1 : ¬ (j : Int) < (N : Int) := by omega
              clear lb
              obtain ⟨r0, r1, rfl⟩ := ownsRow_slice T0.out.rows
              obtain ⟨h0, h1, rfl⟩ := ownsRow_slice T0.out.hgts
              by_cases hEN : E = N
              · subst jN
                subst hEN
                have eq1 : ((E : Int) == (E : Int)) = true := by simp
                have hfin : Hid (insL l ⟨xk, xs, xi, xv⟩ HH = bl l ⟨xk, xs, xi, xv⟩ HH E E ++ [(⟨xk, xs, xi, xv⟩, HH)]) := Lib.hid (by rw [hins.out, hN.out, bl_last])
                obtain ⟨x0, x1, x2, x3⟩ := KX.out wr T0.out.blw
                go_wp2_with (first
                  | (have tt := T1; at_builtin; refine wpList_append_own _ rfl _ _ 31 rfl wc.heap.size 3 j0 _ 1 8 Try.underlying31 ki kz0 kz1 kz2 rfl (by decide) _ _ _ rfl (tt.out.hgts.alloc _) ⟨_, 0, none⟩ 1 1 [.int .i64 (HH : Int)] rfl rfl news_one (by intro u hu; simp only [List.mem_cons, List.not_mem_nil, or_false] at hu; rw [hu]; rfl) (by unfold maxLen; omega) (by omega) (by have := tt.out.blw.size; simp; omega) ?_; intro hv' u' hown hgrow _; have T2 := Lib.hid (tt.out.addHgt (y := HH) hown hgrow); obtain ⟨ha, hc, rfl⟩ := ownsRow_slice hown; obtain ⟨f0, f1⟩ := CP.out _ T2.out.blw; have fz := FZ.out _ T2.out.blw; have z0 := Lib.frozen_of_heap fz 0; have z1 := Lib.frozen_of_heap fz 1; clear tt hown hgrow)
                  | (have tt := T0; at_builtin; refine wpList_append_own _ rfl _ _ 30 rfl wc.heap.size 36 i0 _ 4 48 Try.underlying30 hi hz0 hz1 hz2 rfl (by decide) _ _ _ rfl (tt.out.rows.alloc _) ⟨_, 0, none⟩ 1 1 [.string xk, .int .u64 (xs : Int), .int .i64 xi, .string xv] rfl rfl (World.news_of_block (heap_alloc_new _ _)) (row_one ⟨xk, xs, xi, xv⟩) (by unfold maxLen; omega) (by omega) (by have := tt.out.blw.size; simp; omega) ?_; intro rv' u' hown hgrow _; have T1 := Lib.hid (tt.out.addRow (x := ⟨xk, xs, xi, xv⟩) hown hgrow); obtain ⟨ra, rc, rfl⟩ := ownsRow_slice hown; clear tt hown hgrow)
                  | fail "no arm")
                go_returns
                refine ⟨rfl, ?_, ?_⟩
                · rw [hfin.out]
                  refine refl_put (w := wc) ?_ fz (Nat.lt_of_lt_of_le plt szW) (Nat.le_trans hB szW) hlo
                  rw [rowsL_snoc, hgtsL_snoc]
                  exact T2.out
                · exact ((((But.of_below bW.out (Nat.le_refl _)).trans (But.of_below T2.out.blw (Nat.le_refl _)))).setCell (p := ⟨p, 0, none⟩) rfl _).setCell (p := ⟨p, 1, none⟩) rfl _
              · have ne1 : ((E : Int) == (N : Int)) = false := by rw [beq_eq_false_iff_ne]; omega
                subst jN
                have hfin : Hid (insL l ⟨xk, xs, xi, xv⟩ HH = bl l ⟨xk, xs, xi, xv⟩ HH E j) := Lib.hid (by rw [hins.out, hN.out, bl_end (by have := hN.out; omega)])
                have fz := FZ.out _ T0.out.blw
                have z0 := Lib.frozen_of_heap fz 0
                have z1 := Lib.frozen_of_heap fz 1
                go_wp2_with fail
                go_returns
                refine ⟨rfl, ?_, ?_⟩
                · rw [hfin.out]
                  exact refl_put T0.out fz (Nat.lt_of_lt_of_le plt szW) (Nat.le_trans hB szW) hlo
                · exact ((((But.of_below bW.out (Nat.le_refl _)).trans (But.of_below T0.out.blw (Nat.le_refl _)))).setCell (p := ⟨p, 0, none⟩) rfl _).setCell (p := ⟨p, 1, none⟩) rfl _
end Go.Proofs.Ytcgpcpplbmebgaa
