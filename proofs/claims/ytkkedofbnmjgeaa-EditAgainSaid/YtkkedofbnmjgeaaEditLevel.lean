/-
  The five checks of a level. No condition.
-/
import Derived.Test.YtkkedofbnmjgeaaEditSet
namespace Go.Proofs.Ytkkedofbnmjgeaa
set_option maxRecDepth 100000
open Go.RowKit
abbrev lvV (h : Hd) (bn : Bool) (nx sq mb : Nat) : Value := .agg #[.slice h.a h.n h.c, .bool bn, .int .u64 (nx : Int), .int .u64 (sq : Int), .map (some mb)]
abbrev lvO (h : Hd) (bn : Bool) (nx sq mb : Nat) : Obj := .cells #[.slice h.a h.n h.c, .bool bn, .int .u64 (nx : Int), .int .u64 (sq : Int), .map (some mb)] 81 (0, 0)
/-- A level in a block of its own. -/
def LvAt (p : Nat) (h : Hd) (bn : Bool) (nx sq mb : Nat) (w : World) : Prop := w.heap[p]? = some (lvO h bn nx sq mb)
theorem LvAt.new (h : Hd) (bn : Bool) (nx sq mb : Nat) (w : World) : LvAt w.heap.size h bn nx sq mb (w.alloc (lvO h bn nx sq mb)) := heap_alloc_new _ _
theorem LvAt.lt {p : Nat} {h : Hd} {bn : Bool} {nx sq mb : Nat} {w : World} (k : LvAt p h bn nx sq mb w) : p < w.heap.size := (Array.getElem?_eq_some_iff.1 k).1
theorem LvAt.below {p : Nat} {h : Hd} {bn : Bool} {nx sq mb : Nat} {w w' : World} (k : LvAt p h bn nx sq mb w) (hb : Below w.heap.size w w') : LvAt p h bn nx sq mb w' := (hb.block p k.lt).trans k
theorem LvAt.but {p : Nat} {h : Hd} {bn : Bool} {nx sq mb b : Nat} {w w' : World} (k : LvAt p h bn nx sq mb w) (hb : But b w w') (hne : p ≠ b) : LvAt p h bn nx sq mb w' := (hb.block p k.lt hne).trans k
theorem LvAt.cells {p : Nat} {h : Hd} {bn : Bool} {nx sq mb : Nat} {w : World} (k : LvAt p h bn nx sq mb w) : w.cell? ⟨p, 0, none⟩ = some (.slice h.a h.n h.c) ∧ w.cell? ⟨p, 1, none⟩ = some (.bool bn) ∧ w.cell? ⟨p, 2, none⟩ = some (.int .u64 (nx : Int)) ∧ w.cell? ⟨p, 3, none⟩ = some (.int .u64 (sq : Int)) ∧ w.cell? ⟨p, 4, none⟩ = some (.map (some mb)) := by
  unfold LvAt at k
  simp [World.cell?, k]
set_option maxRecDepth 100000 in
set_option maxHeartbeats 2000000 in
theorem short_any (h : Hd) (bn : Bool) (nx sq mb : Nat) (w : World) : Calls Try.prog 44 #[lvV h bn nx sq mb] w fun e w' => e = .returned (.bool (decide ((h.n : Int) ≤ 64))) ∧ Below w.heap.size w w' := by
  have W1 := Lib.hid (below_alloc w (lvO h bn nx sq mb))
  obtain ⟨T, hT⟩ := named (decide ((h.n : Int) ≤ 64))
  rw [← hT.out]
  have hT2 := hT.out.symm
  clear hT
  go_enter Try.func44, Try.ntmps44
  go_wp2_with fail
  go_returns
  exact ⟨by first | rfl | rw [← hT2] | simp [← hT2], W1.out⟩
set_option maxRecDepth 100000 in
set_option maxHeartbeats 4000000 in
theorem ofvalid_any {h : Hd} {l : List Mt} {w : World} (hM : Ms h l w) (bn : Bool) (nx sq mb : Nat) : Calls Try.prog 45 #[lvV h bn nx sq mb] w fun e w' => e = .returned (.bool (tf (∀ x ∈ l, MayP x))) ∧ Below w.heap.size w w' := by
  obtain ⟨a, n, c, b, o⟩ := h
  have hlen : Hid (l.length = n) := Lib.hid hM.len
  have m0 : c ≤ 9223372036854775807 := hM.sl.most
  have q0 : n ≤ c := hM.sl.cap
  have W1 := Lib.hid (below_alloc w (lvO ⟨a, n, c, b, o⟩ bn nx sq mb))
  have hM := Lib.hid hM
  obtain ⟨T, hT⟩ := named (tf (∀ x ∈ l, MayP x))
  rw [← hT.out]
  have hT := Lib.hid hT.out
  go_enter Try.func45, Try.ntmps45
  go_wp2_with fail
  go_loopw [8] (fun i wr => ∃ j : Nat, j ≤ n ∧ i = .int .i64 (j : Int) ∧ Hid (AllTo MayP l j) ∧ Hid (Below w.heap.size w wr)) (fun i _ => n - (intOf i).toNat)
  case atStart => exact ⟨0, Nat.zero_le _, rfl, Lib.hid AllTo.zero, W1⟩
  case round =>
    obtain ⟨j, hj, rfl, hp, hb⟩ := hrel
    by_cases hlt : j < n
    · obtain ⟨x, hx, rfl, hbl, x0, x1, x2, x3, x4, x5, x6⟩ := (hM.out.below hb.out).at7x hlt
      have hx := Lib.hid hx
      have W2 := Lib.hid (below_of hb.out (below_alloc wr (mtO x)))
      have VC := Lib.hid (fun u => valid_any x u)
      have i0 : (j : Int) < (n : Int) := by omega
      by_cases hv : MayP x
      · rw [decide_eq_true hv] at VC
        have P2 := Lib.hid (hp.out.succ hx.out hv)
        clear hv hp
        go_wp2_with (go_at_call 56; ((with_reducible refine (VC.out _).mono ?_); rintro e w3 ⟨rfl, hb3⟩; have W3 := Lib.hid (below_of W2.out hb3); clear hb3))
        go_roundw
        case rel => exact ⟨j + 1, by omega, by go_num, P2, W3⟩
        case measure => simp [intOf]; omega
      · rw [decide_eq_false hv] at VC
        have hF : Hid (T = false) := Lib.hid (by rw [hT.out]; exact tf_false (not_all hx.out hv))
        clear hv
        go_wp2_with (go_at_call 56; ((with_reducible refine (VC.out _).mono ?_); rintro e w3 ⟨rfl, hb3⟩; have W3 := Lib.hid (below_of W2.out hb3); clear hb3))
        go_returns
        exact ⟨by rw [hF.out]; rfl, W3.out⟩
    · have i0 : ¬ (j : Int) < (n : Int) := by omega
      obtain rfl : j = n := by omega
      have hF : Hid (T = true) := Lib.hid (by rw [hT.out]; exact tf_true (hp.out.all hlen.out))
      go_wp2_with fail
      go_returns
      exact ⟨by rw [hF.out]; rfl, hb.out⟩
set_option maxRecDepth 100000 in
set_option maxHeartbeats 4000000 in
theorem ofpast_any {h : Hd} {l : List Mt} {w : World} (hM : Ms h l w) (bn : Bool) (nx sq mb : Nat) : Calls Try.prog 46 #[lvV h bn nx sq mb] w fun e w' => e = .returned (.bool (tf (∀ x ∈ l, x.num < nx ∧ x.gr ≤ sq))) ∧ Below w.heap.size w w' := by
  obtain ⟨a, n, c, b, o⟩ := h
  have hlen : Hid (l.length = n) := Lib.hid hM.len
  have m0 : c ≤ 9223372036854775807 := hM.sl.most
  have q0 : n ≤ c := hM.sl.cap
  have L1 := Lib.hid (LvAt.new ⟨a, n, c, b, o⟩ bn nx sq mb w)
  have W1 := Lib.hid (below_alloc w (lvO ⟨a, n, c, b, o⟩ bn nx sq mb))
  have z1 : Hid ((w.alloc (lvO ⟨a, n, c, b, o⟩ bn nx sq mb)).heap.size = w.heap.size + 1) := Lib.hid (World.size_alloc _ _)
  have hM := Lib.hid (hM.below W1.out)
  obtain ⟨T, hT⟩ := named (tf (∀ x ∈ l, x.num < nx ∧ x.gr ≤ sq))
  rw [← hT.out]
  have hT := Lib.hid hT.out
  go_enter Try.func46, Try.ntmps46
  go_wp2_with fail
  go_loopw [8] (fun i wr => ∃ j : Nat, j ≤ n ∧ i = .int .i64 (j : Int) ∧ Hid (AllTo (fun x : Mt => x.num < nx ∧ x.gr ≤ sq) l j) ∧ Hid (Below (w.alloc (lvO ⟨a, n, c, b, o⟩ bn nx sq mb)).heap.size (w.alloc (lvO ⟨a, n, c, b, o⟩ bn nx sq mb)) wr)) (fun i _ => n - (intOf i).toNat)
  case atStart => exact ⟨0, Nat.zero_le _, rfl, Lib.hid AllTo.zero, Lib.hid (Below.refl _ _)⟩
  case round =>
    obtain ⟨j, hj, rfl, hp, hb⟩ := hrel
    by_cases hlt : j < n
    · obtain ⟨x, hx, rfl, hbl, x0, x1, x2, x3, x4, x5, x6⟩ := (hM.out.below hb.out).at7x hlt
      have hx := Lib.hid hx
      obtain ⟨l0, l1, l2, l3, l4⟩ := ((L1.out.below hb.out).below (below_alloc wr (mtO x))).cells
      have W2 := Lib.hid (below_of hb.out (below_alloc wr (mtO x)))
      have i0 : (j : Int) < (n : Int) := by omega
      by_cases hv1 : x.num < nx
      · have k1 : ¬ (nx : Int) ≤ (x.num : Int) := by omega
        by_cases hv2 : x.gr ≤ sq
        · have k2 : ¬ (sq : Int) < (x.gr : Int) := by omega
          have P2 := Lib.hid (hp.out.succ hx.out ⟨hv1, hv2⟩)
          clear hv1 hv2 hp
          go_wp2_with fail
          go_roundw
          case rel => exact ⟨j + 1, by omega, by go_num, P2, W2⟩
          case measure => simp [intOf]; omega
        · have k2 : (sq : Int) < (x.gr : Int) := by omega
          have hF : Hid (T = false) := Lib.hid (by rw [hT.out]; exact tf_false (not_all hx.out (fun h => hv2 h.2)))
          clear hv1 hv2
          go_wp2_with fail
          go_returns
          exact ⟨by rw [hF.out]; rfl, below_of W1.out W2.out⟩
      · have k1 : (nx : Int) ≤ (x.num : Int) := by omega
        have hF : Hid (T = false) := Lib.hid (by rw [hT.out]; exact tf_false (not_all hx.out (fun h => hv1 h.1)))
        clear hv1
        go_wp2_with fail
        go_returns
        exact ⟨by rw [hF.out]; rfl, below_of W1.out W2.out⟩
    · have i0 : ¬ (j : Int) < (n : Int) := by omega
      obtain rfl : j = n := by omega
      have hF : Hid (T = true) := Lib.hid (by rw [hT.out]; exact tf_true (hp.out.all hlen.out))
      go_wp2_with fail
      go_returns
      exact ⟨by rw [hF.out]; rfl, below_of W1.out hb.out⟩
/-- What stands at the head of the round of isOfNew. -/
structure NewI (p mb : Nat) (h : Hd) (bn : Bool) (nx sq : Nat) (l : List Mt) (n : Nat) (S : List Nat) (w wr : World) : Prop where
  but : But mb w wr
  lv : LvAt p h bn nx sq mb wr
  ms : Ms h l wr
  set : SetAt mb n S wr
theorem NewI.alloc {p mb : Nat} {h : Hd} {bn : Bool} {nx sq : Nat} {l : List Mt} {n : Nat} {S : List Nat} {w wr : World} (k : NewI p mb h bn nx sq l n S w wr) (o : Obj) : NewI p mb h bn nx sq l n S w (wr.alloc o) :=
  ⟨k.but.alloc o, k.lv.below (below_alloc _ _), k.ms.below (below_alloc _ _), k.set.below (below_alloc _ _)⟩
theorem NewI.put {p mb : Nat} {h : Hd} {bn : Bool} {nx sq : Nat} {l : List Mt} {n : Nat} {S S' : List Nat} {w wr w' : World} (k : NewI p mb h bn nx sq l n S w wr) (hg : wr.grownBy w' (some mb)) (hs : SetAt mb (n + 1) S' w') : NewI p mb h bn nx sq l (n + 1) S' w w' :=
  ⟨k.but.trans (But.of_grown hg), k.lv.but (But.of_grown hg) (k.set.ne k.lv.cells.1), k.ms.but (But.of_grown hg) (k.set.nem k.ms), hs⟩
set_option maxRecDepth 100000 in
set_option maxHeartbeats 4000000 in
theorem ofnew_any {h : Hd} {l : List Mt} {w : World} (hM : Ms h l w) (hI : ∀ x ∈ l, x.num ≤ 18446744073709551615) (bn : Bool) (nx sq mb : Nat) {n0 : Nat} {S : List Nat} (hS : SetAt mb n0 S w) (hn0 : n0 ≤ 1000) (hhn : h.n ≤ 1000) :
    Calls Try.prog 47 #[lvV h bn nx sq mb] w fun e w' => e = .returned (.bool (tf (NewP S l))) ∧ But mb w w' ∧ (NewP S l → SetAt mb (n0 + h.n) (l.map Mt.num ++ S) w') := by
  obtain ⟨a, n, c, b, o⟩ := h
  have hlen : Hid (l.length = n) := Lib.hid hM.len
  have m0 : c ≤ 9223372036854775807 := hM.sl.most
  have q0 : n ≤ c := hM.sl.cap
  have N1 : Hid (NewI w.heap.size mb ⟨a, n, c, b, o⟩ bn nx sq l (n0 + 0) ((l.take 0).map Mt.num ++ S) w (w.alloc (lvO ⟨a, n, c, b, o⟩ bn nx sq mb))) := Lib.hid ⟨(But.refl _ _).alloc _, LvAt.new _ _ _ _ _ _, hM.below (below_alloc _ _), hS.below (below_alloc _ _)⟩
  clear hM hS
  obtain ⟨T, hT⟩ := named (tf (NewP S l))
  rw [← hT.out]
  have hT := Lib.hid hT.out
  go_enter Try.func47, Try.ntmps47
  go_wp2_with fail
  go_loopw [10] (fun i wr => ∃ j : Nat, j ≤ n ∧ i = .int .i64 (j : Int) ∧ Hid (NewP S (l.take j)) ∧ Hid (NewI w.heap.size mb ⟨a, n, c, b, o⟩ bn nx sq l (n0 + j) ((l.take j).map Mt.num ++ S) w wr)) (fun i _ => n - (intOf i).toNat)
  case atStart => exact ⟨0, Nat.zero_le _, rfl, Lib.hid ⟨List.nodup_nil, fun x hx => by simp at hx⟩, N1⟩
  case round =>
    obtain ⟨j, hj, rfl, hp, hb⟩ := hrel
    by_cases hlt : j < n
    · obtain ⟨x, hx, rfl, hbl, x0, x1, x2, x3, x4, x5, x6⟩ := hb.out.ms.at7x hlt
      have hx := Lib.hid hx
      have b1 := Lib.hid (hb.out.alloc (mtO x))
      have b2 := Lib.hid (b1.out.alloc (.cells #[] 99))
      obtain ⟨l0, l1, l2, l3, l4⟩ := b1.out.lv.cells
      obtain ⟨k0, k1, k2, k3, k4⟩ := b2.out.lv.cells
      obtain ⟨D, hown, hhas⟩ := b1.out.set
      have hown2 := Lib.hid (hown.alloc (.cells #[] 99))
      replace hown := Lib.hid hown
      have hkey := Lib.hid (keyU (hI x (mt_mem hx.out)))
      have hT1 := hhas x.num
      replace hhas := Lib.hid hhas
      have i0 : (j : Int) < (n : Int) := by omega
      by_cases hv : x.num ∈ (l.take j).map Mt.num ++ S
      · rw [tf_true hv] at hT1
        have hF : Hid (T = false) := Lib.hid (by rw [hT.out]; exact tf_false (newP_no hx.out hv))
        have hno : Hid (¬ NewP S l) := Lib.hid (newP_no hx.out hv)
        clear hv
        go_wp2_with (at_lookup; refine wpList_lookup_own_unit _ rfl _ _ 79 rfl 22 99 lawU Try.underlying79 (zeroS _) mb _ D rfl hown.out _ _ rfl hkey.out ?_)
        go_returns
        exact ⟨by rw [hF.out]; rfl, b2.out.but, fun hk => absurd hk hno.out⟩
      · rw [tf_false hv] at hT1
        have P2 := Lib.hid (newP_step hp.out hx.out hv)
        clear hv
        go_wp2_with (first
          | (at_lookup; refine wpList_lookup_own_unit _ rfl _ _ 79 rfl 22 99 lawU Try.underlying79 (zeroS _) mb _ D rfl hown.out _ _ rfl hkey.out ?_)
          | (at_mapUpdate; refine wpList_mapUpdate_own _ rfl _ _ _ 79 rfl 22 99 lawU Try.underlying79 _ mb _ _ rfl hown2.out (by unfold maxLen; omega) _ _ _ rfl rfl hkey.out _ [] unitElem_mk ?_; intro w4 hown4 hg4; have B4 : Hid (NewI w.heap.size mb ⟨some ⟨b, o, none⟩, n, c, b, o⟩ bn nx sq l (n0 + (j + 1)) ((l.take (j + 1)).map Mt.num ++ S) w w4) := Lib.hid (b2.out.put hg4 ((SetAt.put hown4 hown.out.isMap hhas.out).congr (fun y => by rw [List.take_add_one, hx.out]; simp [or_comm, or_left_comm, or_assoc]))); clear hg4 hown4))
        go_roundw
        case rel => exact ⟨j + 1, by omega, by go_num, P2, B4⟩
        case measure => simp [intOf]; omega
    · have i0 : ¬ (j : Int) < (n : Int) := by omega
      obtain rfl : j = n := by omega
      have e1 : Hid (l.take j = l) := Lib.hid (List.take_of_length_le (by rw [hlen.out]; exact Nat.le_refl _))
      have hF : Hid (T = true) := Lib.hid (by rw [hT.out]; have := hp.out; rw [e1.out] at this; exact tf_true this)
      go_wp2_with fail
      go_returns
      exact ⟨by rw [hF.out]; rfl, hb.out.but, fun _ => by have := hb.out.set; rw [e1.out] at this; exact this⟩
end Go.Proofs.Ytkkedofbnmjgeaa
