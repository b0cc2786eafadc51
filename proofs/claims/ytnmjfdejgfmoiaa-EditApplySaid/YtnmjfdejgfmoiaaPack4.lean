/-
  The five checks of a level. No condition.
-/
import Derived.Test.YtnmjfdejgfmoiaaPack3
namespace Go.Proofs.Ytnmjfdejgfmoiaa
set_option maxRecDepth 100000
open Go.RowKit
abbrev lvV (h : Hd) (bn : Bool) (nx sq mb : Nat) : Value := .agg #[.slice h.a h.n h.c, .bool bn, .int .u64 (nx : Int), .int .u64 (sq : Int), .map (some mb)]
abbrev lvO (h : Hd) (bn : Bool) (nx sq mb : Nat) : Obj := .cells #[.slice h.a h.n h.c, .bool bn, .int .u64 (nx : Int), .int .u64 (sq : Int), .map (some mb)] 76 (0, 0)
/-- A level in a block of its own. -/
def LvAt (p : Nat) (h : Hd) (bn : Bool) (nx sq mb : Nat) (w : World) : Prop := w.heap[p]? = some (lvO h bn nx sq mb)
theorem LvAt.new (h : Hd) (bn : Bool) (nx sq mb : Nat) (w : World) : LvAt w.heap.size h bn nx sq mb (w.alloc (lvO h bn nx sq mb)) := heap_alloc_new _ _
theorem LvAt.lt {p : Nat} {h : Hd} {bn : Bool} {nx sq mb : Nat} {w : World} (k : LvAt p h bn nx sq mb w) : p < w.heap.size := (Array.getElem?_eq_some_iff.1 k).1
theorem LvAt.below {p : Nat} {h : Hd} {bn : Bool} {nx sq mb : Nat} {w w' : World} (k : LvAt p h bn nx sq mb w) (hb : Below w.heap.size w w') : LvAt p h bn nx sq mb w' := (hb.block p k.lt).trans k
theorem LvAt.but {p : Nat} {h : Hd} {bn : Bool} {nx sq mb b : Nat} {w w' : World} (k : LvAt p h bn nx sq mb w) (hb : But b w w') (hne : p ≠ b) : LvAt p h bn nx sq mb w' := (hb.block p k.lt hne).trans k
theorem LvAt.cells {p : Nat} {h : Hd} {bn : Bool} {nx sq mb : Nat} {w : World} (k : LvAt p h bn nx sq mb w) : w.cell? ⟨p, 0, none⟩ = some (.slice h.a h.n h.c) ∧ w.cell? ⟨p, 1, none⟩ = some (.bool bn) ∧ w.cell? ⟨p, 2, none⟩ = some (.int .u64 (nx : Int)) ∧ w.cell? ⟨p, 3, none⟩ = some (.int .u64 (sq : Int)) ∧ w.cell? ⟨p, 4, none⟩ = some (.map (some mb)) := by
  unfold LvAt at k
  simp [World.cell?, k]
set_option maxRecDepth 100000 in
set_option maxHeartbeats 2000000 in
theorem short_any (h : Hd) (bn : Bool) (nx sq mb : Nat) (w : World) : Calls Try.prog 31 #[lvV h bn nx sq mb] w fun e w' => e = .returned (.bool (decide ((h.n : Int) ≤ 64))) ∧ Below w.heap.size w w' := by
  have W1 := Lib.hid (below_alloc w (lvO h bn nx sq mb))
  obtain ⟨T, hT⟩ := named (decide ((h.n : Int) ≤ 64))
  rw [← hT.out]
  have hT2 := hT.out.symm
  clear hT
  go_enter Try.func31, Try.ntmps31
  go_wp2_with fail
  go_returns
  exact ⟨by first | rfl | rw [← hT2] | simp [← hT2], W1.out⟩
set_option maxRecDepth 100000 in
set_option maxHeartbeats 4000000 in
theorem ofvalid_any {h : Hd} {l : List Mt} {w : World} (hM : Ms h l w) (bn : Bool) (nx sq mb : Nat) : Calls Try.prog 32 #[lvV h bn nx sq mb] w fun e w' => e = .returned (.bool (tf (∀ x ∈ l, MayP x))) ∧ Below w.heap.size w w' := by
  obtain ⟨a, n, c, b, o⟩ := h
  have hlen : Hid (l.length = n) := Lib.hid hM.len
  have m0 : c ≤ 9223372036854775807 := hM.sl.most
  have q0 : n ≤ c := hM.sl.cap
  have W1 := Lib.hid (below_alloc w (lvO ⟨a, n, c, b, o⟩ bn nx sq mb))
  have hM := Lib.hid hM
  obtain ⟨T, hT⟩ := named (tf (∀ x ∈ l, MayP x))
  rw [← hT.out]
  have hT := Lib.hid hT.out
  go_enter Try.func32, Try.ntmps32
  go_wp2_with fail
  go_loopw [8] (fun i wr => ∃ j : Nat, j ≤ n ∧ i = .int .i64 (j : Int) ∧ Hid (AllTo MayP l j) ∧ Hid (Below w.heap.size w wr)) (fun i _ => n - (intOf i).toNat)
  case atStart => exact ⟨0, Nat.zero_le _, rfl, Lib.hid AllTo.zero, W1⟩
  case round =>
    obtain ⟨j, hj, rfl, hp, hb⟩ := hrel
    by_cases hlt : j < n
    · obtain ⟨x, hx, rfl, hbl, x0, x1, x2, x3, x4, x5, x6⟩ := (hM.out.below hb.out).at7x hlt
      have hx := Lib.hid hx
      have W2 := Lib.hid (below_of hb.out (below_alloc wr (mtO x)))
      have VC := Lib.hid (fun u => valid_any x u)
      have i0 : (j : Int) < (n : Int) := by omega
      by_cases hv : MayP x
      · rw [decide_eq_true hv] at VC
        have P2 := Lib.hid (hp.out.succ hx.out hv)
        clear hv hp
        go_wp2_with (go_at_call 37; ((with_reducible refine (VC.out _).mono ?_); rintro e w3 ⟨rfl, hb3⟩; have W3 := Lib.hid (below_of W2.out hb3); clear hb3))
        go_roundw
        case rel => exact ⟨j + 1, by omega, by go_num, P2, W3⟩
        case measure => simp [intOf]; omega
      · rw [decide_eq_false hv] at VC
        have hF : Hid (T = false) := Lib.hid (by rw [hT.out]; exact tf_false (not_all hx.out hv))
        clear hv
        go_wp2_with (go_at_call 37; ((with_reducible refine (VC.out _).mono ?_); rintro e w3 ⟨rfl, hb3⟩; have W3 := Lib.hid (below_of W2.out hb3); clear hb3))
        go_returns
        exact ⟨by rw [hF.out]; rfl, W3.out⟩
    · have i0 : ¬ (j : Int) < (n : Int) := by omega
      obtain rfl : j = n := by omega
      have hF : Hid (T = true) := Lib.hid (by rw [hT.out]; exact tf_true (hp.out.all hlen.out))
      go_wp2_with fail
      go_returns
      exact ⟨by rw [hF.out]; rfl, hb.out⟩
set_option maxRecDepth 100000 in
set_option maxHeartbeats 4000000 in
theorem ofpast_any {h : Hd} {l : List Mt} {w : World} (hM : Ms h l w) (bn : Bool) (nx sq mb : Nat) : Calls Try.prog 33 #[lvV h bn nx sq mb] w fun e w' => e = .returned (.bool (tf (∀ x ∈ l, x.num < nx ∧ x.gr ≤ sq))) ∧ Below w.heap.size w w' := by
  obtain ⟨a, n, c, b, o⟩ := h
  have hlen : Hid (l.length = n) := Lib.hid hM.len
  have m0 : c ≤ 9223372036854775807 := hM.sl.most
  have q0 : n ≤ c := hM.sl.cap
  have L1 := Lib.hid (LvAt.new ⟨a, n, c, b, o⟩ bn nx sq mb w)
  have W1 := Lib.hid (below_alloc w (lvO ⟨a, n, c, b, o⟩ bn nx sq mb))
  have z1 : Hid ((w.alloc (lvO ⟨a, n, c, b, o⟩ bn nx sq mb)).heap.size = w.heap.size + 1) := Lib.hid (World.size_alloc _ _)
  have hM := Lib.hid (hM.below W1.out)
  obtain ⟨T, hT⟩ := named (tf (∀ x ∈ l, x.num < nx ∧ x.gr ≤ sq))
  rw [← hT.out]
  have hT := Lib.hid hT.out
  go_enter Try.func33, Try.ntmps33
  go_wp2_with fail
  go_loopw [8] (fun i wr => ∃ j : Nat, j ≤ n ∧ i = .int .i64 (j : Int) ∧ Hid (AllTo (fun x : Mt => x.num < nx ∧ x.gr ≤ sq) l j) ∧ Hid (Below (w.alloc (lvO ⟨a, n, c, b, o⟩ bn nx sq mb)).heap.size (w.alloc (lvO ⟨a, n, c, b, o⟩ bn nx sq mb)) wr)) (fun i _ => n - (intOf i).toNat)
  case atStart => exact ⟨0, Nat.zero_le _, rfl, Lib.hid AllTo.zero, Lib.hid (Below.refl _ _)⟩
  case round =>
    obtain ⟨j, hj, rfl, hp, hb⟩ := hrel
    by_cases hlt : j < n
    · obtain ⟨x, hx, rfl, hbl, x0, x1, x2, x3, x4, x5, x6⟩ := (hM.out.below hb.out).at7x hlt
      have hx := Lib.hid hx
      obtain ⟨l0, l1, l2, l3, l4⟩ := ((L1.out.below hb.out).below (below_alloc wr (mtO x))).cells
      have W2 := Lib.hid (below_of hb.out (below_alloc wr (mtO x)))
      have i0 : (j : Int) < (n : Int) := by omega
      by_cases hv1 : x.num < nx
      · have k1 : ¬ (nx : Int) ≤ (x.num : Int) := by omega
        by_cases hv2 : x.gr ≤ sq
        · have k2 : ¬ (sq : Int) < (x.gr : Int) := by omega
          have P2 := Lib.hid (hp.out.succ hx.out ⟨hv1, hv2⟩)
          clear hv1 hv2 hp
          go_wp2_with fail
          go_roundw
          case rel => exact ⟨j + 1, by omega, by go_num, P2, W2⟩
          case measure => simp [intOf]; omega
        · have k2 : (sq : Int) < (x.gr : Int) := by omega
          have hF : Hid (T = false) := Lib.hid (by rw [hT.out]; exact tf_false (not_all hx.out (fun h => hv2 h.2)))
          clear hv1 hv2
          go_wp2_with fail
          go_returns
          exact ⟨by rw [hF.out]; rfl, below_of W1.out W2.out⟩
      · have k1 : (nx : Int) ≤ (x.num : Int) := by omega
        have hF : Hid (T = false) := Lib.hid (by rw [hT.out]; exact tf_false (not_all hx.out (fun h => hv1 h.1)))
        clear hv1
        go_wp2_with fail
        go_returns
        exact ⟨by rw [hF.out]; rfl, below_of W1.out W2.out⟩
    · have i0 : ¬ (j : Int) < (n : Int) := by omega
      obtain rfl : j = n := by omega
      have hF : Hid (T = true) := Lib.hid (by rw [hT.out]; exact tf_true (hp.out.all hlen.out))
      go_wp2_with fail
      go_returns
      exact ⟨by rw [hF.out]; rfl, below_of W1.out hb.out⟩
/-- What stands at the head of the round of isOfNew. -/
structure NewI (p mb : Nat) (h : Hd) (bn : Bool) (nx sq : Nat) (l : List Mt) (n : Nat) (S : List Nat) (w wr : World) : Prop where
  but : But mb w wr
  lv : LvAt p h bn nx sq mb wr
  ms : Ms h l wr
  set : SetAt mb n S wr
theorem NewI.alloc {p mb : Nat} {h : Hd} {bn : Bool} {nx sq : Nat} {l : List Mt} {n : Nat} {S : List Nat} {w wr : World} (k : NewI p mb h bn nx sq l n S w wr) (o : Obj) : NewI p mb h bn nx sq l n S w (wr.alloc o) :=
  ⟨k.but.alloc o, k.lv.below (below_alloc _ _), k.ms.below (below_alloc _ _), k.set.below (below_alloc _ _)⟩
theorem NewI.put {p mb : Nat} {h : Hd} {bn : Bool} {nx sq : Nat} {l : List Mt} {n : Nat} {S S' : List Nat} {w wr w' : World} (k : NewI p mb h bn nx sq l n S w wr) (hg : wr.grownBy w' (some mb)) (hs : SetAt mb (n + 1) S' w') : NewI p mb h bn nx sq l (n + 1) S' w w' :=
  ⟨k.but.trans (But.of_grown hg), k.lv.but (But.of_grown hg) (k.set.ne k.lv.cells.1), k.ms.but (But.of_grown hg) (k.set.nem k.ms), hs⟩
set_option maxRecDepth 100000 in
set_option maxHeartbeats 4000000 in
theorem ofnew_any {h : Hd} {l : List Mt} {w : World} (hM : Ms h l w) (hI : ∀ x ∈ l, x.num ≤ 18446744073709551615) (bn : Bool) (nx sq mb : Nat) {n0 : Nat} {S : List Nat} (hS : SetAt mb n0 S w) (hn0 : n0 ≤ 1000) (hhn : h.n ≤ 1000) :
    Calls Try.prog 34 #[lvV h bn nx sq mb] w fun e w' => e = .returned (.bool (tf (NewP S l))) ∧ But mb w w' ∧ (NewP S l → SetAt mb (n0 + h.n) (l.map Mt.num ++ S) w') := by
  obtain ⟨a, n, c, b, o⟩ := h
  have hlen : Hid (l.length = n) := Lib.hid hM.len
  have m0 : c ≤ 9223372036854775807 := hM.sl.most
  have q0 : n ≤ c := hM.sl.cap
  have N1 : Hid (NewI w.heap.size mb ⟨a, n, c, b, o⟩ bn nx sq l (n0 + 0) ((l.take 0).map Mt.num ++ S) w (w.alloc (lvO ⟨a, n, c, b, o⟩ bn nx sq mb))) := Lib.hid ⟨(But.refl _ _).alloc _, LvAt.new _ _ _ _ _ _, hM.below (below_alloc _ _), hS.below (below_alloc _ _)⟩
  clear hM hS
  obtain ⟨T, hT⟩ := named (tf (NewP S l))
  rw [← hT.out]
  have hT := Lib.hid hT.out
  go_enter Try.func34, Try.ntmps34
  go_wp2_with fail
  go_loopw [10] (fun i wr => ∃ j : Nat, j ≤ n ∧ i = .int .i64 (j : Int) ∧ Hid (NewP S (l.take j)) ∧ Hid (NewI w.heap.size mb ⟨a, n, c, b, o⟩ bn nx sq l (n0 + j) ((l.take j).map Mt.num ++ S) w wr)) (fun i _ => n - (intOf i).toNat)
  case atStart => exact ⟨0, Nat.zero_le _, rfl, Lib.hid ⟨List.nodup_nil, fun x hx => by simp at hx⟩, N1⟩
  case round =>
    obtain ⟨j, hj, rfl, hp, hb⟩ := hrel
    by_cases hlt : j < n
    · obtain ⟨x, hx, rfl, hbl, x0, x1, x2, x3, x4, x5, x6⟩ := hb.out.ms.at7x hlt
      have hx := Lib.hid hx
      have b1 := Lib.hid (hb.out.alloc (mtO x))
      have b2 := Lib.hid (b1.out.alloc (.cells #[] 81))
      obtain ⟨l0, l1, l2, l3, l4⟩ := b1.out.lv.cells
      obtain ⟨k0, k1, k2, k3, k4⟩ := b2.out.lv.cells
      obtain ⟨D, hown, hhas⟩ := b1.out.set
      have hown2 := Lib.hid (hown.alloc (.cells #[] 81))
      replace hown := Lib.hid hown
      have hkey := Lib.hid (keyU (hI x (mt_mem hx.out)))
      have hT1 := hhas x.num
      replace hhas := Lib.hid hhas
      have i0 : (j : Int) < (n : Int) := by omega
      by_cases hv : x.num ∈ (l.take j).map Mt.num ++ S
      · rw [tf_true hv] at hT1
        have hF : Hid (T = false) := Lib.hid (by rw [hT.out]; exact tf_false (newP_no hx.out hv))
        have hno : Hid (¬ NewP S l) := Lib.hid (newP_no hx.out hv)
        clear hv
        go_wp2_with (at_lookup; refine wpList_lookup_own_unit _ rfl _ _ 74 rfl 22 81 lawU Try.underlying74 (zeroS _) mb _ D rfl hown.out _ _ rfl hkey.out ?_)
        go_returns
        exact ⟨by rw [hF.out]; rfl, b2.out.but, fun hk => absurd hk hno.out⟩
      · rw [tf_false hv] at hT1
        have P2 := Lib.hid (newP_step hp.out hx.out hv)
        clear hv
        go_wp2_with (first
          | (at_lookup; refine wpList_lookup_own_unit _ rfl _ _ 74 rfl 22 81 lawU Try.underlying74 (zeroS _) mb _ D rfl hown.out _ _ rfl hkey.out ?_)
          | (at_mapUpdate; refine wpList_mapUpdate_own _ rfl _ _ _ 74 rfl 22 81 lawU Try.underlying74 _ mb _ _ rfl hown2.out (by unfold maxLen; omega) _ _ _ rfl rfl hkey.out _ [] unitElem_mk ?_; intro w4 hown4 hg4; have B4 : Hid (NewI w.heap.size mb ⟨some ⟨b, o, none⟩, n, c, b, o⟩ bn nx sq l (n0 + (j + 1)) ((l.take (j + 1)).map Mt.num ++ S) w w4) := Lib.hid (b2.out.put hg4 ((SetAt.put hown4 hown.out.isMap hhas.out).congr (fun y => by rw [List.take_add_one, hx.out]; simp [or_comm, or_left_comm, or_assoc]))); clear hg4 hown4))
        go_roundw
        case rel => exact ⟨j + 1, by omega, by go_num, P2, B4⟩
        case measure => simp [intOf]; omega
    · have i0 : ¬ (j : Int) < (n : Int) := by omega
      obtain rfl : j = n := by omega
      have e1 : Hid (l.take j = l) := Lib.hid (List.take_of_length_le (by rw [hlen.out]; exact Nat.le_refl _))
      have hF : Hid (T = true) := Lib.hid (by rw [hT.out]; have := hp.out; rw [e1.out] at this; exact tf_true this)
      go_wp2_with fail
      go_returns
      exact ⟨by rw [hF.out]; rfl, hb.out.but, fun _ => by have := hb.out.set; rw [e1.out] at this; exact this⟩
end Go.Proofs.Ytnmjfdejgfmoiaa
/-
  The order of a level is checked. No condition.
-/
namespace Go.Proofs.Ytnmjfdejgfmoiaa
set_option maxRecDepth 100000
open Go.RowKit
theorem ordTo_succ {bn : Bool} {l : List Mt} {j : Nat} {x y : Mt} (h : ∀ i x y, i < j → l[i]? = some x → l[i + 1]? = some y → ordP bn x y) (hx : l[j]? = some x) (hy : l[j + 1]? = some y) (hp : ordP bn x y) : ∀ i x y, i < j + 1 → l[i]? = some x → l[i + 1]? = some y → ordP bn x y := fun i x' y' hi hx' hy' => by
  rcases Nat.lt_or_ge i j with h1 | h1
  · exact h i x' y' h1 hx' hy'
  · obtain rfl : i = j := by omega
    rw [hx] at hx'; rw [hy] at hy'; cases hx'; cases hy'; exact hp
theorem geq_str (a b : ByteArray) (B : Bool) (h : (!Op.bytesLess a.toList b.toList) = B) (u : World) : (binOp .geq 9 (.string a) (.string b)).run Try.prog u = .ok (.bool B) u := by
  have e : binOp .geq 9 (.string a) (.string b) = pure (.bool (!Op.bytesLess a.toList b.toList)) := by simp [binOp, Op.stringOp]
  rw [e, h]
  rfl
set_option maxRecDepth 100000 in
set_option maxHeartbeats 8000000 in
theorem inorder_any {h : Hd} {l : List Mt} {w : World} (hM : Ms h l w) (bn : Bool) (nx sq mb : Nat) : Calls Try.prog 35 #[lvV h bn nx sq mb] w fun e w' => e = .returned (.bool (tf (OrdP bn l))) ∧ Below w.heap.size w w' := by
  obtain ⟨a, n, c, b, o⟩ := h
  have hlen : Hid (l.length = n) := Lib.hid hM.len
  have m0 : c ≤ 9223372036854775807 := hM.sl.most
  have q0 : n ≤ c := hM.sl.cap
  have L1 := Lib.hid (LvAt.new ⟨a, n, c, b, o⟩ bn nx sq mb w)
  have W1 := Lib.hid (below_alloc w (lvO ⟨a, n, c, b, o⟩ bn nx sq mb))
  have hM := Lib.hid (hM.below W1.out)
  obtain ⟨T, hT⟩ := named (tf (OrdP bn l))
  rw [← hT.out]
  replace hT := Lib.hid hT.out
  go_enter Try.func35, Try.ntmps35
  go_wp2_with fail
  go_loopw [3] (fun i wr => ∃ j : Nat, (j + 1 ≤ n ∨ j = 0) ∧ i = .int .i64 ((j : Int) + 1) ∧ Hid (∀ i x y, i < j → l[i]? = some x → l[i + 1]? = some y → ordP bn x y) ∧ Hid (Below (w.alloc (lvO ⟨a, n, c, b, o⟩ bn nx sq mb)).heap.size (w.alloc (lvO ⟨a, n, c, b, o⟩ bn nx sq mb)) wr)) (fun i _ => n - (intOf i).toNat)
  case atStart => exact ⟨0, .inr rfl, rfl, Lib.hid (fun i x y hi => absurd hi (Nat.not_lt_zero i)), Lib.hid (Below.refl _ _)⟩
  case round =>
    obtain ⟨j, hj, rfl, hp, hb⟩ := hrel
    obtain ⟨l0, l1, l2, l3, l4⟩ := (L1.out.below hb.out).cells
    by_cases hlt : j + 1 < n
    · obtain ⟨x, hx, rfl, hbl, x0, x1, x2, x3, x4, x5, x6⟩ := (hM.out.below hb.out).at7x (show j < n by omega)
      obtain ⟨y, hy, _, _, y0, y1, y2, y3, y4, y5, y6⟩ := (hM.out.below hb.out).at7x hlt
      replace hx := Lib.hid hx
      replace hy := Lib.hid hy
      have i0 : (j : Int) + 1 < (n : Int) := by omega
      have i1 : (j : Int) < (n : Int) := by omega
      have i2 : (0 : Int) ≤ (j : Int) + 1 := by omega
      have i3 : j < n := by omega
      have wr1 : wrap64 ((j : Int) + 1 - 1) = (j : Int) := by unfold wrap64; omega
      have wr2 : (j : Int) + 1 - 1 = (j : Int) := by omega
      have wr3 : wrap64 (j : Int) = (j : Int) := by unfold wrap64; omega
      have wr4 : IntKind.i64.wrap (j : Int) = (j : Int) := by simp [IntKind.wrap_i64]; omega
      have wr5 : IntKind.i64.wrap ((j : Int) + 1 - 1) = (j : Int) := by rw [wr2, wr4]
      have zlt : w.heap.size < wr.heap.size := Nat.lt_of_lt_of_le (by rw [World.size_alloc]; omega) hb.out.size
      have d1 : ¬ b = wr.heap.size := by omega
      have d2 : ¬ b = wr.heap.size + 1 := by omega
      have d3 : ¬ w.heap.size = wr.heap.size := by omega
      have d4 : ¬ w.heap.size = wr.heap.size + 1 := by omega
      have LK : ∀ u, Below wr.heap.size wr u → u.cell? ⟨w.heap.size, 1, none⟩ = some (.bool bn) := fun u hu => ((L1.out.below hb.out).below hu).cells.2.1
      have m1 := LK _ ((below_alloc wr (mtO x)).alloc (by simp) (mtO y))
      have m2 := LK _ ((below_alloc wr (mtO y)).alloc (by simp) (mtO x))
      have B1 := Lib.hid (below_of hb.out ((below_alloc wr (mtO x)).alloc (by simp) (mtO y)).drew)
      have B2 := Lib.hid (below_of hb.out ((below_alloc wr (mtO y)).alloc (by simp) (mtO x)).drew)
      clear LK
      have hno : Hid (¬ ordP bn x y → T = false) := Lib.hid (fun h => by rw [hT.out]; exact tf_false (fun g => h (g j x y hx.out hy.out)))
      have hyes : Hid (ordP bn x y → ∀ i x y, i < j + 1 → l[i]? = some x → l[i + 1]? = some y → ordP bn x y) := Lib.hid (fun h => ordTo_succ hp.out hx.out hy.out h)
      cases bn with
      | true =>
        by_cases ho : x.num < y.num
        · have k1 : ¬ (y.num : Int) ≤ (x.num : Int) := by omega
          have P2 := Lib.hid (hyes.out ho)
          clear ho hp hno hyes
          go_upto_region 4 with fail
          go_region_held (fun v => v.cell? ⟨w.heap.size, 0, none⟩ = some (.slice (some ⟨b, o, none⟩) n c) ∧ (v.cell? ⟨b, o + j * 7, none⟩ = some (.int .u64 (x.num : Int)) ∧ v.cell? ⟨b, o + j * 7 + 1, none⟩ = some (.int .i64 x.size) ∧ v.cell? ⟨b, o + j * 7 + 2, none⟩ = some (.int .i64 x.rows) ∧ v.cell? ⟨b, o + j * 7 + 3, none⟩ = some (.string x.fst) ∧ v.cell? ⟨b, o + j * 7 + 4, none⟩ = some (.string x.lst) ∧ v.cell? ⟨b, o + j * 7 + 5, none⟩ = some (.int .u64 (x.least : Int)) ∧ v.cell? ⟨b, o + j * 7 + 6, none⟩ = some (.int .u64 (x.gr : Int))) ∧ (v.cell? ⟨b, o + (j + 1) * 7, none⟩ = some (.int .u64 (y.num : Int)) ∧ v.cell? ⟨b, o + (j + 1) * 7 + 1, none⟩ = some (.int .i64 y.size) ∧ v.cell? ⟨b, o + (j + 1) * 7 + 2, none⟩ = some (.int .i64 y.rows) ∧ v.cell? ⟨b, o + (j + 1) * 7 + 3, none⟩ = some (.string y.fst) ∧ v.cell? ⟨b, o + (j + 1) * 7 + 4, none⟩ = some (.string y.lst) ∧ v.cell? ⟨b, o + (j + 1) * 7 + 5, none⟩ = some (.int .u64 (y.least : Int)) ∧ v.cell? ⟨b, o + (j + 1) * 7 + 6, none⟩ = some (.int .u64 (y.gr : Int)))) (first | exact ⟨l0, ⟨x0, x1, x2, x3, x4, x5, x6⟩, ⟨y0, y1, y2, y3, y4, y5, y6⟩⟩ | go_keep) (fail)
          all_goals go_wp2_with fail
          all_goals go_roundw
          all_goals first
            | (case rel => exact ⟨j + 1, .inl (by omega), by first | rfl | (congr 1; omega) | go_num, P2, B1⟩)
            | (case rel => exact ⟨j + 1, .inl (by omega), by first | rfl | (congr 1; omega) | go_num, P2, B2⟩)
            | (simp [intOf]; omega)
        · have k1 : (y.num : Int) ≤ (x.num : Int) := by omega
          have hF := Lib.hid (hno.out ho)
          clear ho hp hno hyes
          go_upto_region 4 with fail
          go_region_held (fun v => v.cell? ⟨w.heap.size, 0, none⟩ = some (.slice (some ⟨b, o, none⟩) n c) ∧ (v.cell? ⟨b, o + j * 7, none⟩ = some (.int .u64 (x.num : Int)) ∧ v.cell? ⟨b, o + j * 7 + 1, none⟩ = some (.int .i64 x.size) ∧ v.cell? ⟨b, o + j * 7 + 2, none⟩ = some (.int .i64 x.rows) ∧ v.cell? ⟨b, o + j * 7 + 3, none⟩ = some (.string x.fst) ∧ v.cell? ⟨b, o + j * 7 + 4, none⟩ = some (.string x.lst) ∧ v.cell? ⟨b, o + j * 7 + 5, none⟩ = some (.int .u64 (x.least : Int)) ∧ v.cell? ⟨b, o + j * 7 + 6, none⟩ = some (.int .u64 (x.gr : Int))) ∧ (v.cell? ⟨b, o + (j + 1) * 7, none⟩ = some (.int .u64 (y.num : Int)) ∧ v.cell? ⟨b, o + (j + 1) * 7 + 1, none⟩ = some (.int .i64 y.size) ∧ v.cell? ⟨b, o + (j + 1) * 7 + 2, none⟩ = some (.int .i64 y.rows) ∧ v.cell? ⟨b, o + (j + 1) * 7 + 3, none⟩ = some (.string y.fst) ∧ v.cell? ⟨b, o + (j + 1) * 7 + 4, none⟩ = some (.string y.lst) ∧ v.cell? ⟨b, o + (j + 1) * 7 + 5, none⟩ = some (.int .u64 (y.least : Int)) ∧ v.cell? ⟨b, o + (j + 1) * 7 + 6, none⟩ = some (.int .u64 (y.gr : Int)))) (first | exact ⟨l0, ⟨x0, x1, x2, x3, x4, x5, x6⟩, ⟨y0, y1, y2, y3, y4, y5, y6⟩⟩ | go_keep) (fail)
          all_goals go_wp2_with fail
          all_goals go_returns
          · exact ⟨by rw [hF.out]; rfl, below_of W1.out B1.out⟩
          · exact ⟨by rw [hF.out]; rfl, below_of W1.out B2.out⟩
      | false =>
        by_cases ho : Op.bytesLess x.lst.toList y.fst.toList = true
        · have GE := geq_str x.lst y.fst false (by rw [ho]; rfl)
          have P2 := Lib.hid (hyes.out ho)
          clear ho hp hno hyes
          go_upto_region 4 with fail
          go_region_held (fun v => v.cell? ⟨w.heap.size, 0, none⟩ = some (.slice (some ⟨b, o, none⟩) n c) ∧ (v.cell? ⟨b, o + j * 7, none⟩ = some (.int .u64 (x.num : Int)) ∧ v.cell? ⟨b, o + j * 7 + 1, none⟩ = some (.int .i64 x.size) ∧ v.cell? ⟨b, o + j * 7 + 2, none⟩ = some (.int .i64 x.rows) ∧ v.cell? ⟨b, o + j * 7 + 3, none⟩ = some (.string x.fst) ∧ v.cell? ⟨b, o + j * 7 + 4, none⟩ = some (.string x.lst) ∧ v.cell? ⟨b, o + j * 7 + 5, none⟩ = some (.int .u64 (x.least : Int)) ∧ v.cell? ⟨b, o + j * 7 + 6, none⟩ = some (.int .u64 (x.gr : Int))) ∧ (v.cell? ⟨b, o + (j + 1) * 7, none⟩ = some (.int .u64 (y.num : Int)) ∧ v.cell? ⟨b, o + (j + 1) * 7 + 1, none⟩ = some (.int .i64 y.size) ∧ v.cell? ⟨b, o + (j + 1) * 7 + 2, none⟩ = some (.int .i64 y.rows) ∧ v.cell? ⟨b, o + (j + 1) * 7 + 3, none⟩ = some (.string y.fst) ∧ v.cell? ⟨b, o + (j + 1) * 7 + 4, none⟩ = some (.string y.lst) ∧ v.cell? ⟨b, o + (j + 1) * 7 + 5, none⟩ = some (.int .u64 (y.least : Int)) ∧ v.cell? ⟨b, o + (j + 1) * 7 + 6, none⟩ = some (.int .u64 (y.gr : Int)))) (first | exact ⟨l0, ⟨x0, x1, x2, x3, x4, x5, x6⟩, ⟨y0, y1, y2, y3, y4, y5, y6⟩⟩ | go_keep) (fail)
          all_goals go_wp2_with fail
          all_goals go_roundw
          all_goals first
            | (case rel => exact ⟨j + 1, .inl (by omega), by first | rfl | (congr 1; omega) | go_num, P2, B1⟩)
            | (case rel => exact ⟨j + 1, .inl (by omega), by first | rfl | (congr 1; omega) | go_num, P2, B2⟩)
            | (simp [intOf]; omega)
        · have GE := geq_str x.lst y.fst true (by rw [Bool.not_eq_true] at ho; rw [ho]; rfl)
          have hF := Lib.hid (hno.out ho)
          clear ho hp hno hyes
          go_upto_region 4 with fail
          go_region_held (fun v => v.cell? ⟨w.heap.size, 0, none⟩ = some (.slice (some ⟨b, o, none⟩) n c) ∧ (v.cell? ⟨b, o + j * 7, none⟩ = some (.int .u64 (x.num : Int)) ∧ v.cell? ⟨b, o + j * 7 + 1, none⟩ = some (.int .i64 x.size) ∧ v.cell? ⟨b, o + j * 7 + 2, none⟩ = some (.int .i64 x.rows) ∧ v.cell? ⟨b, o + j * 7 + 3, none⟩ = some (.string x.fst) ∧ v.cell? ⟨b, o + j * 7 + 4, none⟩ = some (.string x.lst) ∧ v.cell? ⟨b, o + j * 7 + 5, none⟩ = some (.int .u64 (x.least : Int)) ∧ v.cell? ⟨b, o + j * 7 + 6, none⟩ = some (.int .u64 (x.gr : Int))) ∧ (v.cell? ⟨b, o + (j + 1) * 7, none⟩ = some (.int .u64 (y.num : Int)) ∧ v.cell? ⟨b, o + (j + 1) * 7 + 1, none⟩ = some (.int .i64 y.size) ∧ v.cell? ⟨b, o + (j + 1) * 7 + 2, none⟩ = some (.int .i64 y.rows) ∧ v.cell? ⟨b, o + (j + 1) * 7 + 3, none⟩ = some (.string y.fst) ∧ v.cell? ⟨b, o + (j + 1) * 7 + 4, none⟩ = some (.string y.lst) ∧ v.cell? ⟨b, o + (j + 1) * 7 + 5, none⟩ = some (.int .u64 (y.least : Int)) ∧ v.cell? ⟨b, o + (j + 1) * 7 + 6, none⟩ = some (.int .u64 (y.gr : Int)))) (first | exact ⟨l0, ⟨x0, x1, x2, x3, x4, x5, x6⟩, ⟨y0, y1, y2, y3, y4, y5, y6⟩⟩ | go_keep) (fail)
          all_goals go_wp2_with fail
          all_goals go_returns
          · exact ⟨by rw [hF.out]; rfl, below_of W1.out B1.out⟩
          · exact ⟨by rw [hF.out]; rfl, below_of W1.out B2.out⟩
    · have i0 : ¬ (j : Int) + 1 < (n : Int) := by omega
      have hF : Hid (T = true) := Lib.hid (by
        rw [hT.out]
        refine tf_true (fun i x y hx hy => hp.out i x y ?_ hx hy)
        have := (List.getElem?_eq_some_iff.1 hy).1
        rw [hlen.out] at this
        omega)
      go_wp2_with fail
      go_returns
      exact ⟨by rw [hF.out]; rfl, below_of W1.out hb.out⟩
end Go.Proofs.Ytnmjfdejgfmoiaa
/-
  Right: is a version right? Condition: numbers of 64 bits (every version that came in).
-/
namespace Go.Proofs.Ytnmjfdejgfmoiaa
set_option maxRecDepth 100000
open Go.RowKit
/-- The numbers of the levels ahead. -/
def numsTo (v : Vr) : Nat → List Nat
  | 0 => []
  | i + 1 => (v.lv i).map Mt.num ++ numsTo v i
/-- A level is right. -/
def LvOK (v : Vr) (i : Nat) : Prop := (v.lv i).length ≤ 64 ∧ (∀ x ∈ v.lv i, MayP x) ∧ (∀ x ∈ v.lv i, x.num < v.next ∧ x.gr ≤ v.seq) ∧ NewP (numsTo v i) (v.lv i) ∧ OrdP (i == 0) (v.lv i)
/-- A version is right. -/
def RightP (v : Vr) : Prop := (NumP v.log ∧ NumP v.next ∧ v.seq < 72057594037927936) ∧ ∀ i, i < 4 → LvOK v i
def NumsIn (v : Vr) : Prop := ∀ i, i < 4 → ∀ x ∈ v.lv i, x.num ≤ 18446744073709551615
abbrev verO (v : Vr) (H : Nat → Hd) : Obj := .cells #[.int .u64 (v.log : Int), .int .u64 (v.next : Int), .int .u64 (v.seq : Int), .slice (H 0).a (H 0).n (H 0).c, .slice (H 1).a (H 1).n (H 1).c, .slice (H 2).a (H 2).n (H 2).c, .slice (H 3).a (H 3).n (H 3).c] 26 (0, 0)
abbrev chkO : Obj := .cells #[.func (.func 31) #[] #[], .func (.func 32) #[] #[], .func (.func 33) #[] #[], .func (.func 34) #[] #[], .func (.func 35) #[] #[]] 73 (0, 0)
/-- A version in a block of its own. -/
def VerB (p : Nat) (v : Vr) (H : Nat → Hd) (w : World) : Prop := w.heap[p]? = some (verO v H)
theorem VerB.lt {p : Nat} {v : Vr} {H : Nat → Hd} {w : World} (k : VerB p v H w) : p < w.heap.size := (Array.getElem?_eq_some_iff.1 k).1
theorem VerB.new (v : Vr) (H : Nat → Hd) (w : World) : VerB w.heap.size v H (w.alloc (verO v H)) := heap_alloc_new _ _
theorem VerB.below {p : Nat} {v : Vr} {H : Nat → Hd} {w w' : World} (k : VerB p v H w) (hb : Below w.heap.size w w') : VerB p v H w' := (hb.block p k.lt).trans k
theorem VerB.but {p b : Nat} {v : Vr} {H : Nat → Hd} {w w' : World} (k : VerB p v H w) (hb : But b w w') (hn : p ≠ b) : VerB p v H w' := (hb.block p k.lt hn).trans k
theorem VerB.cells {p : Nat} {v : Vr} {H : Nat → Hd} {w : World} (k : VerB p v H w) : w.cell? ⟨p, 0, none⟩ = some (.int .u64 (v.log : Int)) ∧ w.cell? ⟨p, 1, none⟩ = some (.int .u64 (v.next : Int)) ∧ w.cell? ⟨p, 2, none⟩ = some (.int .u64 (v.seq : Int)) ∧ w.cell? ⟨p, 3, none⟩ = some (.slice (H 0).a (H 0).n (H 0).c) ∧ w.cell? ⟨p, 4, none⟩ = some (.slice (H 1).a (H 1).n (H 1).c) ∧ w.cell? ⟨p, 5, none⟩ = some (.slice (H 2).a (H 2).n (H 2).c) ∧ w.cell? ⟨p, 6, none⟩ = some (.slice (H 3).a (H 3).n (H 3).c) := by
  unfold VerB at k
  simp [World.cell?, k]
theorem VerB.lev {p : Nat} {v : Vr} {H : Nat → Hd} {w : World} (k : VerB p v H w) {i : Nat} (hi : i < 4) : w.cell? ⟨p, 3 + i, none⟩ = some (.slice (H i).a (H i).n (H i).c) := by
  obtain ⟨_, _, _, c0, c1, c2, c3⟩ := k.cells
  rcases (show i = 0 ∨ i = 1 ∨ i = 2 ∨ i = 3 by omega) with rfl | rfl | rfl | rfl
  · exact c0
  · exact c1
  · exact c2
  · exact c3
def ChkB (p : Nat) (w : World) : Prop := w.heap[p]? = some chkO
theorem ChkB.lt {p : Nat} {w : World} (k : ChkB p w) : p < w.heap.size := (Array.getElem?_eq_some_iff.1 k).1
theorem ChkB.below {p : Nat} {w w' : World} (k : ChkB p w) (hb : Below w.heap.size w w') : ChkB p w' := (hb.block p k.lt).trans k
theorem ChkB.but {p b : Nat} {w w' : World} (k : ChkB p w) (hb : But b w w') (hn : p ≠ b) : ChkB p w' := (hb.block p k.lt hn).trans k
theorem ChkB.cells {p : Nat} {w : World} (k : ChkB p w) : w.cell? ⟨p, 0, none⟩ = some (.func (.func 31) #[] #[]) ∧ w.cell? ⟨p, 1, none⟩ = some (.func (.func 32) #[] #[]) ∧ w.cell? ⟨p, 2, none⟩ = some (.func (.func 33) #[] #[]) ∧ w.cell? ⟨p, 3, none⟩ = some (.func (.func 34) #[] #[]) ∧ w.cell? ⟨p, 4, none⟩ = some (.func (.func 35) #[] #[]) := by
  unfold ChkB at k
  simp [World.cell?, k]
/-- What stands at the head of a round over the levels. -/
structure RtI (v : Vr) (H : Nat → Hd) (i : Nat) (w wr : World) : Prop where
  bel : Below w.heap.size w wr
  ver : VerB w.heap.size v H wr
  chk : ChkB (w.heap.size + 1) wr
  set : ∃ n, n ≤ 64 * i ∧ SetAt (w.heap.size + 1 + 1) n (numsTo v i) wr
  lev : ∀ k, k < i → LvOK v k
theorem rtI_below {v : Vr} {H : Nat → Hd} {i : Nat} {w wr u : World} (k : RtI v H i w wr) (hb : Below wr.heap.size wr u) : RtI v H i w u := by
  obtain ⟨n, h1, h2⟩ := k.set
  exact ⟨below_of k.bel hb, k.ver.below hb, k.chk.below hb, ⟨n, h1, h2.below hb⟩, k.lev⟩
theorem rtI_next {v : Vr} {H : Nat → Hd} {i n : Nat} {w wr u : World} (k : RtI v H i w wr) (hb : But (w.heap.size + 1 + 1) wr u) (hn : n ≤ 64 * (i + 1)) (hs : SetAt (w.heap.size + 1 + 1) n (numsTo v (i + 1)) u) (hl : LvOK v i) : RtI v H (i + 1) w u :=
  ⟨k.bel.trans (hb.below (by omega) k.bel.size), k.ver.but hb (by omega), k.chk.but hb (by omega), ⟨n, hn, hs⟩, fun j hj => by
    rcases Nat.lt_or_ge j i with h | h
    · exact k.lev j h
    · obtain rfl : j = i := by omega
      exact hl⟩
theorem ix_lev (H : Nat → Hd) {j : Nat} (hj : j < 4) (u : World) : (Instr.index 24 (.agg #[.slice (H 0).a (H 0).n (H 0).c, .slice (H 1).a (H 1).n (H 1).c, .slice (H 2).a (H 2).n (H 2).c, .slice (H 3).a (H 3).n (H 3).c]) (.int .i64 (j : Int))).run Try.prog u = .ok (.slice (H j).a (H j).n (H j).c) u := by
  rcases (show j = 0 ∨ j = 1 ∨ j = 2 ∨ j = 3 by omega) with rfl | rfl | rfl | rfl
  all_goals (go_simp; try rfl)
set_option maxRecDepth 100000 in
set_option maxHeartbeats 16000000 in
theorem right_any {v : Vr} {H : Nat → Hd} {w : World} (hM : VrAt v H w) (hI : NumsIn v) : Calls Try.prog 14 #[verV v H] w fun e w' => e = .returned (.bool (tf (RightP v))) ∧ Below w.heap.size w w' := by
  have NC1 := Lib.hid (fun u => isnum_any v.log u)
  have NC2 := Lib.hid (fun u => isnum_any v.next u)
  have hmm := @run_makeMap Try.prog
  obtain ⟨T, hT⟩ := named (tf (RightP v))
  obtain ⟨R, hR⟩ := named (tf (NumP v.log ∧ NumP v.next ∧ v.seq < 72057594037927936))
  rw [← hT.out]
  replace hT := Lib.hid hT.out
  replace hR := Lib.hid hR.out
  replace hM := Lib.hid hM
  have B0 := Lib.hid (below_alloc w (verO v H))
  go_enter Try.func14, Try.ntmps14
  go_wp2_with fail
  go_step3
  go_upto_region 1 with fail
  go_cut [3] from 11 to 23 (fun b wc => b = .bool R ∧ wc = w.alloc (verO v H))
  case first =>
    by_cases q1 : NumP v.log
    · rw [decide_eq_true q1] at NC1
      by_cases q2 : NumP v.next
      · rw [decide_eq_true q2] at NC2
        by_cases q3 : v.seq < 72057594037927936
        · have k3 : decide ((v.seq : Int) < 72057594037927936) = true := decide_eq_true (by omega)
          have hF : Hid (R = true) := Lib.hid (by rw [hR.out]; exact tf_true ⟨q1, q2, q3⟩)
          clear q3
          go_wp2_with (first
            | (go_at_call 30; ((with_reducible refine (NC1.out _).mono ?_); rintro e w1 ⟨rfl, rfl⟩))
            | (go_at_call 30; ((with_reducible refine (NC2.out _).mono ?_); rintro e w1 ⟨rfl, rfl⟩)))
          go_meet
          exact ⟨by rw [hF.out], rfl⟩
        · have k3 : decide ((v.seq : Int) < 72057594037927936) = false := decide_eq_false (by omega)
          have hF : Hid (R = false) := Lib.hid (by rw [hR.out]; exact tf_false (fun h => q3 h.2.2))
          clear q3
          go_wp2_with (first
            | (go_at_call 30; ((with_reducible refine (NC1.out _).mono ?_); rintro e w1 ⟨rfl, rfl⟩))
            | (go_at_call 30; ((with_reducible refine (NC2.out _).mono ?_); rintro e w1 ⟨rfl, rfl⟩)))
          go_meet
          exact ⟨by rw [hF.out], rfl⟩
      · rw [decide_eq_false q2] at NC2
        have hF : Hid (R = false) := Lib.hid (by rw [hR.out]; exact tf_false (fun h => q2 h.2.1))
        go_wp2_with (first
          | (go_at_call 30; ((with_reducible refine (NC1.out _).mono ?_); rintro e w1 ⟨rfl, rfl⟩))
          | (go_at_call 30; ((with_reducible refine (NC2.out _).mono ?_); rintro e w1 ⟨rfl, rfl⟩)))
        go_meet
        exact ⟨by rw [hF.out], rfl⟩
    · rw [decide_eq_false q1] at NC1
      have hF : Hid (R = false) := Lib.hid (by rw [hR.out]; exact tf_false (fun h => q1 h.1))
      go_wp2_with (first
        | (go_at_call 30; ((with_reducible refine (NC1.out _).mono ?_); rintro e w1 ⟨rfl, rfl⟩)))
      go_meet
      exact ⟨by rw [hF.out], rfl⟩
  case rest =>
    obtain ⟨rfl, rfl⟩ := hcut
    clear NC1 NC2
    have I0 : Hid (RtI v H 0 w (((w.alloc (verO v H)).alloc chkO).alloc (.map #[] 0))) := Lib.hid ⟨((below_alloc w (verO v H)).alloc (by simp) chkO).alloc (by simp; omega) _, ((VerB.new v H w).below (below_alloc _ _)).below (below_alloc _ _), by
      have h1 : ChkB (w.alloc (verO v H)).heap.size ((w.alloc (verO v H)).alloc chkO) := heap_alloc_new _ _
      rw [World.size_alloc] at h1
      exact h1.below (below_alloc _ _), ⟨0, by omega, by
      have h1 := SetAt.new ((w.alloc (verO v H)).alloc chkO)
      rw [World.size_alloc, World.size_alloc] at h1
      exact h1⟩, fun k hk => absurd hk (Nat.not_lt_zero k)⟩
    go_wp2
    go_step3
    go_wp2
    go_loopw [3, 28] (fun r i wr => ∃ j : Nat, j ≤ 4 ∧ r = .bool R ∧ i = .int .i64 (j : Int) ∧ Hid (RtI v H j w wr)) (fun _ i _ => 4 - (intOf i).toNat)
    case atStart => exact ⟨0, Nat.zero_le _, rfl, rfl, I0⟩
    case round =>
      obtain ⟨j, hj, rfl, rfl, hi⟩ := hrel
      by_cases hlt : j < 4
      · have i0 : (j : Int) < 4 := by omega
        have IX : ∀ u : World, (Instr.index 24 (.agg #[.slice (H 0).a (H 0).n (H 0).c, .slice (H 1).a (H 1).n (H 1).c, .slice (H 2).a (H 2).n (H 2).c, .slice (H 3).a (H 3).n (H 3).c]) (.int .i64 (j : Int))).run Try.prog u = .ok (.slice (H j).a (H j).n (H j).c) u := fun u => ix_lev H hlt u
        obtain ⟨v0, v1, v2, v3, v4, v5, v6⟩ := hi.out.ver.cells
        obtain ⟨bn, hbn⟩ := named (j == 0)
        have hb0 : ((j : Int) == 0) = bn := by rw [hbn.out]; cases j <;> simp <;> omega
        replace hbn := Lib.hid hbn.out.symm
        obtain ⟨n0, hn0, hset⟩ := hi.out.set
        have hlen : Hid ((v.lv j).length = (H j).n) := Lib.hid (hM.out j hlt).len
        have Mr : Hid (Ms (H j) (v.lv j) wr) := Lib.hid ((hM.out j hlt).below hi.out.bel)
        have A1 := Lib.hid (below_alloc wr (lvO (H j) bn v.next v.seq (w.heap.size + 1 + 1)))
        have z1 : Hid (w.heap.size + 1 + 1 < wr.heap.size) := Lib.hid hset.lt
        have FL : Hid (∀ u, LvAt wr.heap.size (H j) bn v.next v.seq (w.heap.size + 1 + 1) u → ChkB (w.heap.size + 1) u → (u.cell? ⟨wr.heap.size, 0, none⟩ = some (.slice (H j).a (H j).n (H j).c) ∧ u.cell? ⟨wr.heap.size, 1, none⟩ = some (.bool bn) ∧ u.cell? ⟨wr.heap.size, 2, none⟩ = some (.int .u64 (v.next : Int)) ∧ u.cell? ⟨wr.heap.size, 3, none⟩ = some (.int .u64 (v.seq : Int)) ∧ u.cell? ⟨wr.heap.size, 4, none⟩ = some (.map (some (w.heap.size + 1 + 1)))) ∧ (u.cell? ⟨w.heap.size + 1, 0, none⟩ = some (.func (.func 31) #[] #[]) ∧ u.cell? ⟨w.heap.size + 1, 1, none⟩ = some (.func (.func 32) #[] #[]) ∧ u.cell? ⟨w.heap.size + 1, 2, none⟩ = some (.func (.func 33) #[] #[]) ∧ u.cell? ⟨w.heap.size + 1, 3, none⟩ = some (.func (.func 34) #[] #[]) ∧ u.cell? ⟨w.heap.size + 1, 4, none⟩ = some (.func (.func 35) #[] #[]))) := Lib.hid (fun u h1 h2 => ⟨h1.cells, h2.cells⟩)
        have LA : Hid (∀ u, Below (wr.alloc (lvO (H j) bn v.next v.seq (w.heap.size + 1 + 1))).heap.size (wr.alloc (lvO (H j) bn v.next v.seq (w.heap.size + 1 + 1))) u → LvAt wr.heap.size (H j) bn v.next v.seq (w.heap.size + 1 + 1) u ∧ ChkB (w.heap.size + 1) u) := Lib.hid (fun u hu => ⟨(LvAt.new (H j) bn v.next v.seq (w.heap.size + 1 + 1) wr).below hu, (hi.out.chk.below A1.out).below hu⟩)
        have LB : Hid (∀ x u, Below (wr.alloc (lvO (H j) bn v.next v.seq (w.heap.size + 1 + 1))).heap.size (wr.alloc (lvO (H j) bn v.next v.seq (w.heap.size + 1 + 1))) x → But (w.heap.size + 1 + 1) x u → LvAt wr.heap.size (H j) bn v.next v.seq (w.heap.size + 1 + 1) u ∧ ChkB (w.heap.size + 1) u) := Lib.hid (fun x u hx hu => ⟨(LA.out x hx).1.but hu (by have := z1.out; omega), (LA.out x hx).2.but hu (by omega)⟩)
        have FA := Lib.hid (fun u hu => FL.out u (LA.out u hu).1 (LA.out u hu).2)
        have FB := Lib.hid (fun x u hx hu => FL.out u (LB.out x u hx hu).1 (LB.out x u hx hu).2)
        have FC := Lib.hid (fun x y u hx hy (hu : Below y.heap.size y u) => FL.out u ((LB.out x y hx hy).1.below hu) ((LB.out x y hx hy).2.below hu))
        have MA : Hid (∀ u, Below (wr.alloc (lvO (H j) bn v.next v.seq (w.heap.size + 1 + 1))).heap.size (wr.alloc (lvO (H j) bn v.next v.seq (w.heap.size + 1 + 1))) u → Ms (H j) (v.lv j) u) := Lib.hid (fun u hu => (Mr.out.below A1.out).below hu)
        have SU : Hid (∀ u, Below (wr.alloc (lvO (H j) bn v.next v.seq (w.heap.size + 1 + 1))).heap.size (wr.alloc (lvO (H j) bn v.next v.seq (w.heap.size + 1 + 1))) u → SetAt (w.heap.size + 1 + 1) n0 (numsTo v j) u ∧ Ms (H j) (v.lv j) u) := Lib.hid (fun u hu => ⟨(hset.below A1.out).below hu, MA.out u hu⟩)
        have MU : Hid (∀ x u, Below (wr.alloc (lvO (H j) bn v.next v.seq (w.heap.size + 1 + 1))).heap.size (wr.alloc (lvO (H j) bn v.next v.seq (w.heap.size + 1 + 1))) x → But (w.heap.size + 1 + 1) x u → Ms (H j) (v.lv j) u) := Lib.hid (fun x u hx hu => (MA.out x hx).but hu ((SU.out x hx).1.nem (MA.out x hx)))
        have BA : Hid (∀ u, Below (wr.alloc (lvO (H j) bn v.next v.seq (w.heap.size + 1 + 1))).heap.size (wr.alloc (lvO (H j) bn v.next v.seq (w.heap.size + 1 + 1))) u → Below w.heap.size w u) := Lib.hid (fun u hu => below_of hi.out.bel (below_of A1.out hu))
        have BB : Hid (∀ x u, Below (wr.alloc (lvO (H j) bn v.next v.seq (w.heap.size + 1 + 1))).heap.size (wr.alloc (lvO (H j) bn v.next v.seq (w.heap.size + 1 + 1))) x → But (w.heap.size + 1 + 1) x u → Below w.heap.size w u) := Lib.hid (fun x u hx hu => (BA.out x hx).trans (hu.below (by omega) (BA.out x hx).size))
        have BC : Hid (∀ x y u, Below (wr.alloc (lvO (H j) bn v.next v.seq (w.heap.size + 1 + 1))).heap.size (wr.alloc (lvO (H j) bn v.next v.seq (w.heap.size + 1 + 1))) x → But (w.heap.size + 1 + 1) x y → Below y.heap.size y u → Below w.heap.size w u) := Lib.hid (fun x y u hx hy hu => below_of (BB.out x y hx hy) hu)
        have hfin : Hid (∀ x y u, Below (wr.alloc (lvO (H j) bn v.next v.seq (w.heap.size + 1 + 1))).heap.size (wr.alloc (lvO (H j) bn v.next v.seq (w.heap.size + 1 + 1))) x → But (w.heap.size + 1 + 1) x y → Below y.heap.size y u → SetAt (w.heap.size + 1 + 1) (n0 + (H j).n) ((v.lv j).map Mt.num ++ numsTo v j) y → LvOK v j → RtI v H (j + 1) w u) := Lib.hid (fun x y u hx hy hu hs hl => rtI_below (rtI_next (rtI_below (rtI_below hi.out A1.out) hx) hy (by have := hl.1; rw [hlen.out] at this; omega) hs hl) hu)
        have CS := Lib.hid (fun u => short_any (H j) bn v.next v.seq (w.heap.size + 1 + 1) u)
        have CV := Lib.hid (fun u (hu : Ms (H j) (v.lv j) u) => ofvalid_any hu bn v.next v.seq (w.heap.size + 1 + 1))
        have CP := Lib.hid (fun u (hu : Ms (H j) (v.lv j) u) => ofpast_any hu bn v.next v.seq (w.heap.size + 1 + 1))
        have CN0 := Lib.hid (fun (hn : ((H j).n : Int) ≤ 64) u (hu : SetAt (w.heap.size + 1 + 1) n0 (numsTo v j) u ∧ Ms (H j) (v.lv j) u) => ofnew_any hu.2 (hI j hlt) bn v.next v.seq (w.heap.size + 1 + 1) hu.1 (by omega) (by omega))
        have CO := Lib.hid (fun u (hu : Ms (H j) (v.lv j) u) => inorder_any hu bn v.next v.seq (w.heap.size + 1 + 1))
        obtain ⟨⟨l0, l1, l2, l3, l4⟩, ⟨f0, f1, f2, f3, f4⟩⟩ := FA.out _ (Below.refl _ _)
        clear FL LA LB
        replace hset := Lib.hid hset
        by_cases c1 : ((H j).n : Int) ≤ 64
        rotate_left 1
        · rw [decide_eq_false (show ¬ ((H j).n : Int) ≤ 64 from c1)] at CS
          have hF : Hid (T = false) := Lib.hid (by rw [hT.out]; exact tf_false (fun h => c1 (by have := (h.2 j hlt).1; rw [hlen.out] at this; omega)))
          clear c1
          go_wp2
          refine wp_loop_rounds 6 ?_
          rw [rounds_succ]
          go_wp2_with (go_at_call 31; ((with_reducible refine (CS.out _).mono ?_); rintro e u1 ⟨rfl, hb1⟩; have B1 := Lib.hid (hb1); obtain ⟨⟨g10, g11, g12, g13, g14⟩, ⟨e10, e11, e12, e13, e14⟩⟩ := FA.out _ B1.out; clear hb1))
          go_wp2
          first | (rw [Exit.noGoto_ret]; go_returns) | (go_step3; go_wp2; rw [Exit.noGoto_ret]; go_returns) | trace_state
          exact ⟨by rw [hF.out]; rfl, (BA.out _ B1.out)⟩
        by_cases c2 : ∀ x ∈ v.lv j, MayP x
        rotate_left 1
        · rw [decide_eq_true (show ((H j).n : Int) ≤ 64 from c1)] at CS
          rw [tf_false c2] at CV
          have hF : Hid (T = false) := Lib.hid (by rw [hT.out]; exact tf_false (fun h => c2 (h.2 j hlt).2.1))
          clear c1 c2
          go_wp2
          refine wp_loop_rounds 6 ?_
          rw [rounds_succ]
          go_wp2_with (go_at_call 31; ((with_reducible refine (CS.out _).mono ?_); rintro e u1 ⟨rfl, hb1⟩; have B1 := Lib.hid (hb1); obtain ⟨⟨g10, g11, g12, g13, g14⟩, ⟨e10, e11, e12, e13, e14⟩⟩ := FA.out _ B1.out; clear hb1))
          rw [rounds_succ]
          go_wp2_with (go_at_call 32; ((with_reducible refine (CV.out _ (MA.out _ B1.out)).mono ?_); rintro e u2 ⟨rfl, hb2⟩; have B2 := Lib.hid (below_of B1.out hb2); obtain ⟨⟨g20, g21, g22, g23, g24⟩, ⟨e20, e21, e22, e23, e24⟩⟩ := FA.out _ B2.out; clear hb2))
          go_wp2
          first | (rw [Exit.noGoto_ret]; go_returns) | (go_step3; go_wp2; rw [Exit.noGoto_ret]; go_returns) | trace_state
          exact ⟨by rw [hF.out]; rfl, (BA.out _ B2.out)⟩
        by_cases c3 : ∀ x ∈ v.lv j, x.num < v.next ∧ x.gr ≤ v.seq
        rotate_left 1
        · rw [decide_eq_true (show ((H j).n : Int) ≤ 64 from c1)] at CS
          rw [tf_true c2] at CV
          rw [tf_false c3] at CP
          have hF : Hid (T = false) := Lib.hid (by rw [hT.out]; exact tf_false (fun h => c3 (h.2 j hlt).2.2.1))
          clear c1 c2 c3
          go_wp2
          refine wp_loop_rounds 6 ?_
          rw [rounds_succ]
          go_wp2_with (go_at_call 31; ((with_reducible refine (CS.out _).mono ?_); rintro e u1 ⟨rfl, hb1⟩; have B1 := Lib.hid (hb1); obtain ⟨⟨g10, g11, g12, g13, g14⟩, ⟨e10, e11, e12, e13, e14⟩⟩ := FA.out _ B1.out; clear hb1))
          rw [rounds_succ]
          go_wp2_with (go_at_call 32; ((with_reducible refine (CV.out _ (MA.out _ B1.out)).mono ?_); rintro e u2 ⟨rfl, hb2⟩; have B2 := Lib.hid (below_of B1.out hb2); obtain ⟨⟨g20, g21, g22, g23, g24⟩, ⟨e20, e21, e22, e23, e24⟩⟩ := FA.out _ B2.out; clear hb2))
          rw [rounds_succ]
          go_wp2_with (go_at_call 33; ((with_reducible refine (CP.out _ (MA.out _ B2.out)).mono ?_); rintro e u3 ⟨rfl, hb3⟩; have B3 := Lib.hid (below_of B2.out hb3); obtain ⟨⟨g30, g31, g32, g33, g34⟩, ⟨e30, e31, e32, e33, e34⟩⟩ := FA.out _ B3.out; clear hb3))
          go_wp2
          first | (rw [Exit.noGoto_ret]; go_returns) | (go_step3; go_wp2; rw [Exit.noGoto_ret]; go_returns) | trace_state
          exact ⟨by rw [hF.out]; rfl, (BA.out _ B3.out)⟩
        by_cases c4 : NewP (numsTo v j) (v.lv j)
        rotate_left 1
        · have CN := Lib.hid (CN0.out c1)
          rw [decide_eq_true (show ((H j).n : Int) ≤ 64 from c1)] at CS
          rw [tf_true c2] at CV
          rw [tf_true c3] at CP
          rw [tf_false c4] at CN
          have hF : Hid (T = false) := Lib.hid (by rw [hT.out]; exact tf_false (fun h => c4 (h.2 j hlt).2.2.2.1))
          clear c1 c2 c3 c4
          go_wp2
          refine wp_loop_rounds 6 ?_
          rw [rounds_succ]
          go_wp2_with (go_at_call 31; ((with_reducible refine (CS.out _).mono ?_); rintro e u1 ⟨rfl, hb1⟩; have B1 := Lib.hid (hb1); obtain ⟨⟨g10, g11, g12, g13, g14⟩, ⟨e10, e11, e12, e13, e14⟩⟩ := FA.out _ B1.out; clear hb1))
          rw [rounds_succ]
          go_wp2_with (go_at_call 32; ((with_reducible refine (CV.out _ (MA.out _ B1.out)).mono ?_); rintro e u2 ⟨rfl, hb2⟩; have B2 := Lib.hid (below_of B1.out hb2); obtain ⟨⟨g20, g21, g22, g23, g24⟩, ⟨e20, e21, e22, e23, e24⟩⟩ := FA.out _ B2.out; clear hb2))
          rw [rounds_succ]
          go_wp2_with (go_at_call 33; ((with_reducible refine (CP.out _ (MA.out _ B2.out)).mono ?_); rintro e u3 ⟨rfl, hb3⟩; have B3 := Lib.hid (below_of B2.out hb3); obtain ⟨⟨g30, g31, g32, g33, g34⟩, ⟨e30, e31, e32, e33, e34⟩⟩ := FA.out _ B3.out; clear hb3))
          rw [rounds_succ]
          go_wp2_with (go_at_call 34; ((with_reducible refine (CN.out _ (SU.out _ B3.out)).mono ?_); rintro e u4 ⟨rfl, hb4, hs4⟩; have N4 := Lib.hid hb4; have S4 := Lib.hid hs4; obtain ⟨⟨g40, g41, g42, g43, g44⟩, ⟨e40, e41, e42, e43, e44⟩⟩ := FB.out _ _ B3.out hb4; clear hb4 hs4))
          go_wp2
          first | (rw [Exit.noGoto_ret]; go_returns) | (go_step3; go_wp2; rw [Exit.noGoto_ret]; go_returns) | trace_state
          exact ⟨by rw [hF.out]; rfl, (BB.out _ _ B3.out N4.out)⟩
        by_cases c5 : OrdP bn (v.lv j)
        rotate_left 1
        · have CN := Lib.hid (CN0.out c1)
          rw [decide_eq_true (show ((H j).n : Int) ≤ 64 from c1)] at CS
          rw [tf_true c2] at CV
          rw [tf_true c3] at CP
          rw [tf_true c4] at CN
          rw [tf_false c5] at CO
          have hF : Hid (T = false) := Lib.hid (by rw [hT.out]; exact tf_false (fun h => c5 (by have := (h.2 j hlt).2.2.2.2; rw [hbn.out] at this; exact this)))
          clear c1 c2 c3 c4 c5
          go_wp2
          refine wp_loop_rounds 6 ?_
          rw [rounds_succ]
          go_wp2_with (go_at_call 31; ((with_reducible refine (CS.out _).mono ?_); rintro e u1 ⟨rfl, hb1⟩; have B1 := Lib.hid (hb1); obtain ⟨⟨g10, g11, g12, g13, g14⟩, ⟨e10, e11, e12, e13, e14⟩⟩ := FA.out _ B1.out; clear hb1))
          rw [rounds_succ]
          go_wp2_with (go_at_call 32; ((with_reducible refine (CV.out _ (MA.out _ B1.out)).mono ?_); rintro e u2 ⟨rfl, hb2⟩; have B2 := Lib.hid (below_of B1.out hb2); obtain ⟨⟨g20, g21, g22, g23, g24⟩, ⟨e20, e21, e22, e23, e24⟩⟩ := FA.out _ B2.out; clear hb2))
          rw [rounds_succ]
          go_wp2_with (go_at_call 33; ((with_reducible refine (CP.out _ (MA.out _ B2.out)).mono ?_); rintro e u3 ⟨rfl, hb3⟩; have B3 := Lib.hid (below_of B2.out hb3); obtain ⟨⟨g30, g31, g32, g33, g34⟩, ⟨e30, e31, e32, e33, e34⟩⟩ := FA.out _ B3.out; clear hb3))
          rw [rounds_succ]
          go_wp2_with (go_at_call 34; ((with_reducible refine (CN.out _ (SU.out _ B3.out)).mono ?_); rintro e u4 ⟨rfl, hb4, hs4⟩; have N4 := Lib.hid hb4; have S4 := Lib.hid hs4; obtain ⟨⟨g40, g41, g42, g43, g44⟩, ⟨e40, e41, e42, e43, e44⟩⟩ := FB.out _ _ B3.out hb4; clear hb4 hs4))
          rw [rounds_succ]
          go_wp2_with (go_at_call 35; ((with_reducible refine (CO.out _ (MU.out _ _ B3.out N4.out)).mono ?_); rintro e u5 ⟨rfl, hb5⟩; have B5 := Lib.hid hb5; obtain ⟨⟨g50, g51, g52, g53, g54⟩, ⟨e50, e51, e52, e53, e54⟩⟩ := FC.out _ _ _ B3.out N4.out hb5; clear hb5))
          go_wp2
          first | (rw [Exit.noGoto_ret]; go_returns) | (go_step3; go_wp2; rw [Exit.noGoto_ret]; go_returns) | trace_state
          exact ⟨by rw [hF.out]; rfl, (BC.out _ _ _ B3.out N4.out B5.out)⟩
        have CN := Lib.hid (CN0.out c1)
        rw [decide_eq_true (show ((H j).n : Int) ≤ 64 from c1)] at CS
        rw [tf_true c2] at CV
        rw [tf_true c3] at CP
        rw [tf_true c4] at CN
        rw [tf_true c5] at CO
        have hL : Hid (LvOK v j) := Lib.hid ⟨by rw [hlen.out]; omega, c2, c3, c4, by rw [hbn.out]; exact c5⟩
        have hc4 := Lib.hid c4
        clear c1 c2 c3 c4 c5
        go_wp2
        refine wp_loop_rounds 6 ?_
        rw [rounds_succ]
        go_wp2_with (go_at_call 31; ((with_reducible refine (CS.out _).mono ?_); rintro e u1 ⟨rfl, hb1⟩; have B1 := Lib.hid (hb1); obtain ⟨⟨g10, g11, g12, g13, g14⟩, ⟨e10, e11, e12, e13, e14⟩⟩ := FA.out _ B1.out; clear hb1))
        rw [rounds_succ]
        go_wp2_with (go_at_call 32; ((with_reducible refine (CV.out _ (MA.out _ B1.out)).mono ?_); rintro e u2 ⟨rfl, hb2⟩; have B2 := Lib.hid (below_of B1.out hb2); obtain ⟨⟨g20, g21, g22, g23, g24⟩, ⟨e20, e21, e22, e23, e24⟩⟩ := FA.out _ B2.out; clear hb2))
        rw [rounds_succ]
        go_wp2_with (go_at_call 33; ((with_reducible refine (CP.out _ (MA.out _ B2.out)).mono ?_); rintro e u3 ⟨rfl, hb3⟩; have B3 := Lib.hid (below_of B2.out hb3); obtain ⟨⟨g30, g31, g32, g33, g34⟩, ⟨e30, e31, e32, e33, e34⟩⟩ := FA.out _ B3.out; clear hb3))
        rw [rounds_succ]
        go_wp2_with (go_at_call 34; ((with_reducible refine (CN.out _ (SU.out _ B3.out)).mono ?_); rintro e u4 ⟨rfl, hb4, hs4⟩; have N4 := Lib.hid hb4; have S4 := Lib.hid hs4; obtain ⟨⟨g40, g41, g42, g43, g44⟩, ⟨e40, e41, e42, e43, e44⟩⟩ := FB.out _ _ B3.out hb4; clear hb4 hs4))
        rw [rounds_succ]
        go_wp2_with (go_at_call 35; ((with_reducible refine (CO.out _ (MU.out _ _ B3.out N4.out)).mono ?_); rintro e u5 ⟨rfl, hb5⟩; have B5 := Lib.hid hb5; obtain ⟨⟨g50, g51, g52, g53, g54⟩, ⟨e50, e51, e52, e53, e54⟩⟩ := FC.out _ _ _ B3.out N4.out hb5; clear hb5))
        rw [rounds_succ]
        go_wp2_with fail
        have hI2 := Lib.hid (hfin.out _ _ _ B3.out N4.out B5.out (S4.out hc4.out) hL.out)
        go_roundw
        case rel => exact ⟨j + 1, by omega, rfl, by go_num, hI2⟩
        case measure => simp [intOf]; omega
      · have i0 : ¬ (j : Int) < 4 := by omega
        obtain rfl : j = 4 := by omega
        have hF : Hid (T = R) := Lib.hid (by
          rw [hT.out, hR.out]
          exact tf_congr ⟨fun h => h.1, fun h => ⟨h, fun i hi4 => hi.out.lev i hi4⟩⟩)
        go_wp2
        first | (rw [Exit.noGoto_ret]; go_returns) | (go_step3; go_wp2; rw [Exit.noGoto_ret]; go_returns) | go_returns | trace_state
        exact ⟨by rw [hF.out]; rfl, hi.out.bel⟩
end Go.Proofs.Ytnmjfdejgfmoiaa
