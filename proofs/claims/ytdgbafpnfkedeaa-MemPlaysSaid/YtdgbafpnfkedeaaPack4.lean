/-
  The contracts of version and Get. Condition: at most 1048575 rows.
-/
import Derived.Test.YtdgbafpnfkedeaaPack3
import Derived.Deep.RegionWith
import Derived.Deep.RegionHeld
import Derived.WalkKit
import Derived.StillTailTactics
import Derived.Laws.OwnMore
import Derived.Deep.AppendLies
import Derived.Deep.Upon
namespace Go.Proofs.Ytdgbafpnfkedeaa
set_option maxRecDepth 100000
open Go.RowKit
attribute [local go_sem] eq_node ne_node eq_list eq_table
theorem ver_nil {R : List Rw} {k : ByteArray} {a : Nat} (h : R.drop (plc R k a) = []) : getR R k a = none := by unfold getR; rw [h]
theorem ver_hit {R : List Rw} {k : ByteArray} {a : Nat} {x : Rw} {r : List Rw} (h : R.drop (plc R k a) = x :: r) (e : x.key.toList = k.toList) : getR R k a = some x := by unfold getR; rw [h]; simp only [if_pos e]
theorem ver_miss {R : List Rw} {k : ByteArray} {a : Nat} {x : Rw} {r : List Rw} (h : R.drop (plc R k a) = x :: r) (e : ¬ x.key.toList = k.toList) : getR R k a = none := by unfold getR; rw [h]; simp only [if_neg e]
/-- Four stores into a row's block leave what is older than the block. -/
theorem below_set4 {B b : Nat} {w W : World} (h : Below B w W) (hb : B ≤ b) (x : Rw) : Below B w ((((W.setCell ⟨b, 0, none⟩ (.string x.key)).setCell ⟨b, 1, none⟩ (.int .u64 (x.seq : Int))).setCell ⟨b, 2, none⟩ (.int .i64 x.kind)).setCell ⟨b, 3, none⟩ (.string x.val)) :=
  (((h.setCell (p := ⟨b, 0, none⟩) hb _).setCell (p := ⟨b, 1, none⟩) hb _).setCell (p := ⟨b, 2, none⟩) hb _).setCell (p := ⟨b, 3, none⟩) hb _
set_option maxHeartbeats 4000000 in
theorem version_any {L : Option Addr} {l : SL} {R : List Rw} {w : World} (hL : Ls L l w) (hR : rowsL l = R) (hn : R.length ≤ 1048575) (k : ByteArray) (a : Nat) :
    Calls Try.prog 33 #[.func (.func 34) #[.pointer L] #[], .string k, .int .u64 (a : Int)] w fun e w' => e = .returned (verV (getR R k a)) ∧ Below w.heap.size w w' := by
  have Z0 := Lib.hid (RowAt.new zeroR w)
  have W0 := Lib.hid (below_alloc w (.cells #[.string ⟨#[]⟩, .int .u64 0, .int .i64 0, .string ⟨#[]⟩] 43))
  have SK := seek_l (hL.grow W0.out) (by rw [← rows_len, hR]; omega) k a
  unfold plL at SK
  rw [hR] at SK
  cases hd : R.drop (plc R k a) with
  | nil =>
    rw [ver_nil hd]
    rw [hd, show seekR [] = .tuple #[.agg #[.string ⟨#[]⟩, .int .u64 0, .int .i64 0, .string ⟨#[]⟩], .bool false] from rfl] at SK
    have SK := Lib.hid SK
    clear hL hR hd hn
    go_enter Try.func33, Try.ntmps33
    go_wp2_with (go_at_call 34; ((with_reducible refine SK.out.mono ?_); rintro e w2 ⟨rfl, hb2⟩; have B2 := Lib.hid (below_of W0.out hb2); have Z2 := Lib.hid ((Z0.out.below hb2).below (below_alloc w2 (.cells #[.string ⟨#[]⟩, .int .u64 0, .int .i64 0, .string ⟨#[]⟩] 43))); obtain ⟨⟨v0, v1, v2, v3⟩, v4⟩ := Z2.out.cells; clear hb2 SK))
    have R2 : RowAt w.heap.size zeroR (((((w2.alloc (.cells #[.string ⟨#[]⟩, .int .u64 0, .int .i64 0, .string ⟨#[]⟩] 43)).setCell ⟨w.heap.size, 0, none⟩ (.string ⟨#[]⟩)).setCell ⟨w.heap.size, 1, none⟩ (.int .u64 0)).setCell ⟨w.heap.size, 2, none⟩ (.int .i64 0)).setCell ⟨w.heap.size, 3, none⟩ (.string ⟨#[]⟩)) := Z2.out.set4 zeroR
    have E2 : Below w.heap.size w (((((w2.alloc (.cells #[.string ⟨#[]⟩, .int .u64 0, .int .i64 0, .string ⟨#[]⟩] 43)).setCell ⟨w.heap.size, 0, none⟩ (.string ⟨#[]⟩)).setCell ⟨w.heap.size, 1, none⟩ (.int .u64 0)).setCell ⟨w.heap.size, 2, none⟩ (.int .i64 0)).setCell ⟨w.heap.size, 3, none⟩ (.string ⟨#[]⟩)) := below_set4 (below_of B2.out (below_alloc w2 (.cells #[.string ⟨#[]⟩, .int .u64 0, .int .i64 0, .string ⟨#[]⟩] 43))) (Nat.le_refl _) zeroR
    generalize ((((w2.alloc (.cells #[.string ⟨#[]⟩, .int .u64 0, .int .i64 0, .string ⟨#[]⟩] 43)).setCell ⟨w.heap.size, 0, none⟩ (.string ⟨#[]⟩)).setCell ⟨w.heap.size, 1, none⟩ (.int .u64 0)).setCell ⟨w.heap.size, 2, none⟩ (.int .i64 0)).setCell ⟨w.heap.size, 3, none⟩ (.string ⟨#[]⟩) = V at R2 E2 ⊢
    obtain ⟨⟨y0, y1, y2, y3⟩, _⟩ := R2.cells
    refine bodyPost_ret (v := verV none) (by simp [results, Try.results33, go_sem, verV, rowV, zeroR] at y0 y1 y2 y3 ⊢; simp [y0, y1, y2, y3]) rfl ⟨rfl, E2⟩
  | cons x r =>
    rw [hd] at SK
    by_cases he : x.key.toList = k.toList
    · rw [ver_hit hd he]
      obtain ⟨xk, xs, xi, xv⟩ := x
      rw [show seekR ((⟨xk, xs, xi, xv⟩ : Rw) :: r) = .tuple #[.agg #[.string xk, .int .u64 (xs : Int), .int .i64 xi, .string xv], .bool true] from rfl] at SK
      have hq : (xk.toList == k.toList) = true := by simpa using he
      clear he
      have SK := Lib.hid SK
      clear hL hR hd hn
      go_enter Try.func33, Try.ntmps33
      go_wp2_with (go_at_call 34; ((with_reducible refine SK.out.mono ?_); rintro e w2 ⟨rfl, hb2⟩; have B2 := Lib.hid (below_of W0.out hb2); have Z2 := Lib.hid ((Z0.out.below hb2).below (below_alloc w2 (.cells #[.string xk, .int .u64 (xs : Int), .int .i64 xi, .string xv] 43))); obtain ⟨⟨v0, v1, v2, v3⟩, v4⟩ := Z2.out.cells; clear hb2 SK))
      have R2 : RowAt w.heap.size ⟨xk, xs, xi, xv⟩ (((((w2.alloc (.cells #[.string xk, .int .u64 (xs : Int), .int .i64 xi, .string xv] 43)).setCell ⟨w.heap.size, 0, none⟩ (.string xk)).setCell ⟨w.heap.size, 1, none⟩ (.int .u64 (xs : Int))).setCell ⟨w.heap.size, 2, none⟩ (.int .i64 xi)).setCell ⟨w.heap.size, 3, none⟩ (.string xv)) := Z2.out.set4 ⟨xk, xs, xi, xv⟩
      have E2 : Below w.heap.size w (((((w2.alloc (.cells #[.string xk, .int .u64 (xs : Int), .int .i64 xi, .string xv] 43)).setCell ⟨w.heap.size, 0, none⟩ (.string xk)).setCell ⟨w.heap.size, 1, none⟩ (.int .u64 (xs : Int))).setCell ⟨w.heap.size, 2, none⟩ (.int .i64 xi)).setCell ⟨w.heap.size, 3, none⟩ (.string xv)) := below_set4 (below_of B2.out (below_alloc w2 (.cells #[.string xk, .int .u64 (xs : Int), .int .i64 xi, .string xv] 43))) (Nat.le_refl _) ⟨xk, xs, xi, xv⟩
      generalize ((((w2.alloc (.cells #[.string xk, .int .u64 (xs : Int), .int .i64 xi, .string xv] 43)).setCell ⟨w.heap.size, 0, none⟩ (.string xk)).setCell ⟨w.heap.size, 1, none⟩ (.int .u64 (xs : Int))).setCell ⟨w.heap.size, 2, none⟩ (.int .i64 xi)).setCell ⟨w.heap.size, 3, none⟩ (.string xv) = V at R2 E2 ⊢
      obtain ⟨⟨y0, y1, y2, y3⟩, _⟩ := R2.cells
      refine bodyPost_ret (v := verV (some ⟨xk, xs, xi, xv⟩)) (by simp [results, Try.results33, go_sem, verV, rowV, zeroR] at y0 y1 y2 y3 ⊢; simp [y0, y1, y2, y3]) rfl ⟨rfl, E2⟩
    · rw [ver_miss hd he]
      obtain ⟨xk, xs, xi, xv⟩ := x
      rw [show seekR ((⟨xk, xs, xi, xv⟩ : Rw) :: r) = .tuple #[.agg #[.string xk, .int .u64 (xs : Int), .int .i64 xi, .string xv], .bool true] from rfl] at SK
      have hq : (xk.toList == k.toList) = false := by simpa using he
      clear he
      have SK := Lib.hid SK
      clear hL hR hd hn
      go_enter Try.func33, Try.ntmps33
      go_wp2_with (go_at_call 34; ((with_reducible refine SK.out.mono ?_); rintro e w2 ⟨rfl, hb2⟩; have B2 := Lib.hid (below_of W0.out hb2); have Z2 := Lib.hid ((Z0.out.below hb2).below (below_alloc w2 (.cells #[.string xk, .int .u64 (xs : Int), .int .i64 xi, .string xv] 43))); obtain ⟨⟨v0, v1, v2, v3⟩, v4⟩ := Z2.out.cells; clear hb2 SK))
      have R2 : RowAt w.heap.size zeroR (((((w2.alloc (.cells #[.string xk, .int .u64 (xs : Int), .int .i64 xi, .string xv] 43)).setCell ⟨w.heap.size, 0, none⟩ (.string ⟨#[]⟩)).setCell ⟨w.heap.size, 1, none⟩ (.int .u64 0)).setCell ⟨w.heap.size, 2, none⟩ (.int .i64 0)).setCell ⟨w.heap.size, 3, none⟩ (.string ⟨#[]⟩)) := Z2.out.set4 zeroR
      have E2 : Below w.heap.size w (((((w2.alloc (.cells #[.string xk, .int .u64 (xs : Int), .int .i64 xi, .string xv] 43)).setCell ⟨w.heap.size, 0, none⟩ (.string ⟨#[]⟩)).setCell ⟨w.heap.size, 1, none⟩ (.int .u64 0)).setCell ⟨w.heap.size, 2, none⟩ (.int .i64 0)).setCell ⟨w.heap.size, 3, none⟩ (.string ⟨#[]⟩)) := below_set4 (below_of B2.out (below_alloc w2 (.cells #[.string xk, .int .u64 (xs : Int), .int .i64 xi, .string xv] 43))) (Nat.le_refl _) zeroR
      generalize ((((w2.alloc (.cells #[.string xk, .int .u64 (xs : Int), .int .i64 xi, .string xv] 43)).setCell ⟨w.heap.size, 0, none⟩ (.string ⟨#[]⟩)).setCell ⟨w.heap.size, 1, none⟩ (.int .u64 0)).setCell ⟨w.heap.size, 2, none⟩ (.int .i64 0)).setCell ⟨w.heap.size, 3, none⟩ (.string ⟨#[]⟩) = V at R2 E2 ⊢
      obtain ⟨⟨y0, y1, y2, y3⟩, _⟩ := R2.cells
      refine bodyPost_ret (v := verV none) (by simp [results, Try.results33, go_sem, verV, rowV, zeroR] at y0 y1 y2 y3 ⊢; simp [y0, y1, y2, y3]) rfl ⟨rfl, E2⟩
set_option maxHeartbeats 4000000 in
theorem get_any {q : Option Addr} {R : List Rw} {w : World} (h : TabQ q R w) (k : ByteArray) (a : Nat) :
    Calls Try.prog 14 #[.pointer q, .string k, .int .u64 (a : Int)] w fun e w' => e = .returned (verV (getR R k a)) ∧ Below w.heap.size w w' := by
  have Z0 := Lib.hid (RowAt.new zeroR w)
  have W0 := Lib.hid (below_alloc w (.cells #[.string ⟨#[]⟩, .int .u64 0, .int .i64 0, .string ⟨#[]⟩] 43))
  have h := h.grow W0.out
  rcases h with ⟨rfl, rfl⟩ | ⟨p, L, l, rfl, h, hL, hR, hn⟩
  · rw [show getR [] k a = none from rfl]
    obtain ⟨⟨v0, v1, v2, v3⟩, v4⟩ := Z0.out.cells
    go_enter Try.func14, Try.ntmps14
    go_wp2_with fail
    have R2 : RowAt w.heap.size zeroR (w.alloc (.cells #[.string ⟨#[]⟩, .int .u64 0, .int .i64 0, .string ⟨#[]⟩] 43)) := Z0.out
    have E2 : Below w.heap.size w (w.alloc (.cells #[.string ⟨#[]⟩, .int .u64 0, .int .i64 0, .string ⟨#[]⟩] 43)) := W0.out
    generalize w.alloc (.cells #[.string ⟨#[]⟩, .int .u64 0, .int .i64 0, .string ⟨#[]⟩] 43) = V at R2 E2 ⊢
    obtain ⟨⟨y0, y1, y2, y3⟩, _⟩ := R2.cells
    refine bodyPost_ret (v := verV none) (by simp [results, Try.results14, go_sem, verV, rowV, zeroR] at y0 y1 y2 y3 ⊢; simp [y0, y1, y2, y3]) rfl ⟨rfl, E2⟩
  · have VE := version_any hL hR hn k a
    obtain ⟨c0, _, _, _⟩ := h.cells
    clear h hL hR hn
    obtain ⟨o, ho⟩ := named (getR R k a)
    rw [← ho.out] at VE ⊢
    clear ho
    cases o with
    | none =>
      rw [show verV none = .tuple #[.agg #[.string ⟨#[]⟩, .int .u64 0, .int .i64 0, .string ⟨#[]⟩], .bool false] from rfl] at VE
      have VE := Lib.hid VE
      go_enter Try.func14, Try.ntmps14
      go_wp2_with (go_at_call 33; ((with_reducible refine VE.out.mono ?_); rintro e w2 ⟨rfl, hb2⟩; have B2 := Lib.hid (below_of W0.out hb2); have Z2 := Lib.hid (Z0.out.below hb2); obtain ⟨⟨v0, v1, v2, v3⟩, v4⟩ := Z2.out.cells; clear hb2 VE))
      have R2 : RowAt w.heap.size zeroR ((((w2.setCell ⟨w.heap.size, 0, none⟩ (.string ⟨#[]⟩)).setCell ⟨w.heap.size, 1, none⟩ (.int .u64 0)).setCell ⟨w.heap.size, 2, none⟩ (.int .i64 0)).setCell ⟨w.heap.size, 3, none⟩ (.string ⟨#[]⟩)) := Z2.out.set4 zeroR
      have E2 : Below w.heap.size w ((((w2.setCell ⟨w.heap.size, 0, none⟩ (.string ⟨#[]⟩)).setCell ⟨w.heap.size, 1, none⟩ (.int .u64 0)).setCell ⟨w.heap.size, 2, none⟩ (.int .i64 0)).setCell ⟨w.heap.size, 3, none⟩ (.string ⟨#[]⟩)) := below_set4 (B2.out) (Nat.le_refl _) zeroR
      generalize (((w2.setCell ⟨w.heap.size, 0, none⟩ (.string ⟨#[]⟩)).setCell ⟨w.heap.size, 1, none⟩ (.int .u64 0)).setCell ⟨w.heap.size, 2, none⟩ (.int .i64 0)).setCell ⟨w.heap.size, 3, none⟩ (.string ⟨#[]⟩) = V at R2 E2 ⊢
      obtain ⟨⟨y0, y1, y2, y3⟩, _⟩ := R2.cells
      refine bodyPost_ret (v := verV none) (by simp [results, Try.results14, go_sem, verV, rowV, zeroR] at y0 y1 y2 y3 ⊢; simp [y0, y1, y2, y3]) rfl ⟨rfl, E2⟩
    | some x =>
      obtain ⟨xk, xs, xi, xv⟩ := x
      rw [show verV (some ⟨xk, xs, xi, xv⟩) = .tuple #[.agg #[.string xk, .int .u64 (xs : Int), .int .i64 xi, .string xv], .bool true] from rfl] at VE
      have VE := Lib.hid VE
      go_enter Try.func14, Try.ntmps14
      go_wp2_with (go_at_call 33; ((with_reducible refine VE.out.mono ?_); rintro e w2 ⟨rfl, hb2⟩; have B2 := Lib.hid (below_of W0.out hb2); have Z2 := Lib.hid (Z0.out.below hb2); obtain ⟨⟨v0, v1, v2, v3⟩, v4⟩ := Z2.out.cells; clear hb2 VE))
      have R2 : RowAt w.heap.size ⟨xk, xs, xi, xv⟩ ((((w2.setCell ⟨w.heap.size, 0, none⟩ (.string xk)).setCell ⟨w.heap.size, 1, none⟩ (.int .u64 (xs : Int))).setCell ⟨w.heap.size, 2, none⟩ (.int .i64 xi)).setCell ⟨w.heap.size, 3, none⟩ (.string xv)) := Z2.out.set4 ⟨xk, xs, xi, xv⟩
      have E2 : Below w.heap.size w ((((w2.setCell ⟨w.heap.size, 0, none⟩ (.string xk)).setCell ⟨w.heap.size, 1, none⟩ (.int .u64 (xs : Int))).setCell ⟨w.heap.size, 2, none⟩ (.int .i64 xi)).setCell ⟨w.heap.size, 3, none⟩ (.string xv)) := below_set4 (B2.out) (Nat.le_refl _) ⟨xk, xs, xi, xv⟩
      generalize (((w2.setCell ⟨w.heap.size, 0, none⟩ (.string xk)).setCell ⟨w.heap.size, 1, none⟩ (.int .u64 (xs : Int))).setCell ⟨w.heap.size, 2, none⟩ (.int .i64 xi)).setCell ⟨w.heap.size, 3, none⟩ (.string xv) = V at R2 E2 ⊢
      obtain ⟨⟨y0, y1, y2, y3⟩, _⟩ := R2.cells
      refine bodyPost_ret (v := verV (some ⟨xk, xs, xi, xv⟩)) (by simp [results, Try.results14, go_sem, verV, rowV, zeroR] at y0 y1 y2 y3 ⊢; simp [y0, y1, y2, y3]) rfl ⟨rfl, E2⟩
end Go.Proofs.Ytdgbafpnfkedeaa
/-
  The law's own answer that the document fixes: true. No condition.
-/
namespace Go.Proofs.Ytdgbafpnfkedeaa
set_option maxRecDepth 100000
open Go.RowKit
attribute [local go_sem] eq_node ne_node eq_list
def aw1 : Rw := ⟨⟨#[97]⟩, 1, 0, ⟨#[]⟩⟩
def aw2 : Rw := ⟨⟨#[97]⟩, 2, 0, ⟨#[]⟩⟩
def aw3 : Rw := ⟨⟨#[98]⟩, 1, 0, ⟨#[]⟩⟩
theorem ahd_data (x : Rw) (k : ByteArray) (q : Nat) : ahd x k q = if x.key.data.toList = k.data.toList then decide (q < x.seq) else bytesBefore x.key.data.toList k.data.toList := by
  unfold ahd; rw [ByteArray.toList_eq, ByteArray.toList_eq]
theorem aw_put1 : thrL [] aw1.key aw1.seq = false ∧ putL [] aw1 (hgtOf 1) = [(aw1, 1)] := by
  refine ⟨rfl, rfl⟩
theorem aw_a12 : ahd aw1 aw2.key aw2.seq = false := by rw [ahd_data]; decide
theorem aw_a21 : ahd aw2 aw1.key aw1.seq = true := by rw [ahd_data]; decide
theorem aw_a13 : ahd aw1 aw3.key aw3.seq = true := by rw [ahd_data]; decide
theorem aw_a23 : ahd aw2 aw3.key aw3.seq = true := by rw [ahd_data]; decide
theorem aw_b1 : ahd aw1 ⟨#[97]⟩ 0 = true := by rw [ahd_data]; decide
theorem aw_b2 : ahd aw2 ⟨#[97]⟩ 0 = true := by rw [ahd_data]; decide
theorem aw_b3 : ahd aw3 ⟨#[97]⟩ 0 = false := by rw [ahd_data]; decide
theorem aw_a33 : ahd aw3 ⟨#[98]⟩ 1 = false := by rw [ahd_data]; decide
theorem aw_put2 : thrL [(aw1, 1)] aw2.key aw2.seq = false ∧ putL [(aw1, 1)] aw2 (hgtOf 3) = [(aw2, 3), (aw1, 1)] := by
  have e : plc [aw1] aw2.key aw2.seq = 0 := by unfold plc; rw [List.takeWhile_cons, aw_a12]; rfl
  have t : thrL [(aw1, 1)] aw2.key aw2.seq = false := by
    unfold thrL thr rowsL
    simp only [List.map_cons, List.map_nil, e]
    show (decide (aw1.key.toList = aw2.key.toList) && decide (aw1.seq = aw2.seq)) = false
    rw [show decide (aw1.seq = aw2.seq) = false by decide, Bool.and_false]
  refine ⟨t, ?_⟩
  unfold putL
  rw [t]
  unfold insL plL rowsL
  simp only [List.map_cons, List.map_nil, e]
  rfl
theorem aw_put3 : thrL [(aw2, 3), (aw1, 1)] aw3.key aw3.seq = false ∧ putL [(aw2, 3), (aw1, 1)] aw3 (hgtOf 2) = [(aw2, 3), (aw1, 1), (aw3, 2)] := by
  have e : plc [aw2, aw1] aw3.key aw3.seq = 2 := by unfold plc; rw [List.takeWhile_cons, aw_a23]; simp only [if_true]; rw [List.takeWhile_cons, aw_a13]; rfl
  have t : thrL [(aw2, 3), (aw1, 1)] aw3.key aw3.seq = false := by
    unfold thrL thr rowsL
    simp only [List.map_cons, List.map_nil, e]
    rfl
  refine ⟨t, ?_⟩
  unfold putL
  rw [t]
  unfold insL plL rowsL
  simp only [List.map_cons, List.map_nil, e]
  rfl
theorem aw_seek : seekR ((rowsL [(aw2, 3), (aw1, 1), (aw3, 2)]).drop (plL [(aw2, 3), (aw1, 1), (aw3, 2)] ⟨#[97]⟩ 0)) = .tuple #[rowV aw3, .bool true] := by
  have e : plc [aw2, aw1, aw3] ⟨#[97]⟩ 0 = 2 := by unfold plc; rw [List.takeWhile_cons, aw_b2]; simp only [if_true]; rw [List.takeWhile_cons, aw_b1]; simp only [if_true]; rw [List.takeWhile_cons, aw_b3]; rfl
  unfold plL rowsL
  simp only [List.map_cons, List.map_nil, e]
  rfl
theorem aw_steps : stepsL [(aw2, 3), (aw1, 1), (aw3, 2)] ⟨#[98]⟩ 1 = 2 := by
  have e : plc [aw2, aw1, aw3] ⟨#[98]⟩ 1 = 2 := by unfold plc; rw [List.takeWhile_cons, show ahd aw2 ⟨#[98]⟩ 1 = true from aw_a23]; simp only [if_true]; rw [List.takeWhile_cons, show ahd aw1 ⟨#[98]⟩ 1 = true from aw_a13]; simp only [if_true]; rw [List.takeWhile_cons, aw_a33]; rfl
  unfold stepsL plL rowsL hgtsL
  simp only [List.map_cons, List.map_nil, e]
  decide
end Go.Proofs.Ytdgbafpnfkedeaa
/-
  A slice of rows from some place on, as the laws take it; where a row of a list stands. No condition.
-/
namespace Go.Proofs.Ytdgbafpnfkedeaa
open Go.RowKit
set_option maxRecDepth 100000
theorem plc_self {l : List Rw} (hs : SortedR l) {i : Nat} {x : Rw} (hx : l[i]? = some x) : plc l x.key x.seq = i := by
  have h1 := plc_iff hs (k := x.key) (q := x.seq) hx
  rw [ahd_irrefl ⟨rfl, rfl⟩] at h1
  have hle : plc l x.key x.seq ≤ i := by
    rcases Nat.lt_or_ge i (plc l x.key x.seq) with h | h
    · exact absurd (h1.2 h) (by simp)
    · exact h
  rcases Nat.eq_or_lt_of_le hle with e | hlt
  · exact e
  · have hil := (List.getElem?_eq_some_iff.1 hx).1
    obtain ⟨y, hy⟩ : ∃ y, l[plc l x.key x.seq]? = some y := ⟨_, List.getElem?_eq_getElem (by omega)⟩
    have h3 : ahd y x.key x.seq = true := by
      have := List.pairwise_iff_getElem.1 hs _ _ (by omega) hil hlt
      rw [(List.getElem?_eq_some_iff.1 hy).2, (List.getElem?_eq_some_iff.1 hx).2] at this
      exact this
    exact absurd ((plc_iff hs hy).1 h3) (by omega)
theorem seek_self {l : SL} (hs : SortedR (rowsL l)) {i : Nat} {x : Rw} (hx : (rowsL l)[i]? = some x) : seekR ((rowsL l).drop (plL l x.key x.seq)) = .tuple #[rowV x, .bool true] := by
  unfold plL
  rw [plc_self hs hx]
  obtain ⟨h1, h2⟩ := List.getElem?_eq_some_iff.1 hx
  rw [List.drop_eq_getElem_cons h1, h2]
  rfl
theorem size_row (w : World) : (Go.sizeOf (Try.prog.elem 27)).run Try.prog w = .ok 4 w := by
  obtain ⟨i0, hi, hz0, hz1, hz2⟩ := info_parts (show (Try.prog.info? (Try.prog.elem 27)).map (fun i => (i.zero, i.size, i.bytes)) = some (some (.agg #[.string .empty, .int .u64 0, .int .i64 0, .string .empty]), 4, 48) by kernel_rfl)
  simp [Go.sizeOf, typeInfo, hi, hz1]
theorem addr_plus (b o k : Nat) : (⟨b, o, none⟩ : Addr).add k = ⟨b, o + k, none⟩ := by
  unfold Addr.add
  split
  · rename_i h0; rw [h0]; rfl
  · rfl
theorem rows_from {p : Option Addr} {n c b o e : Nat} {l : List Rw} {w : World} (h : Rs p n c b o l w) (he : e ≤ n) :
    ∃ p2, (∀ u, (Instr.slice 27 (.slice p n c) (some (.int .i64 (e : Int))) none none).run Try.prog u = .ok (.slice p2 (n - e) (c - e)) u) ∧ Rs p2 (n - e) (c - e) b (o + e * 4) (l.drop e) w := by
  have hc := h.cap
  have hm := h.most
  refine ⟨if c = e then p else p.map (·.add (e * 4)), fun u => ?_, by rw [List.length_drop, h.len], by omega, by omega, fun h0 => ?_, fun j x hx => ?_⟩
  · rw [run_slice_l u 27 p n c (by kernel_rfl) .i64 (e : Int) (by omega) (by omega), size_row]
    simp only [Result.andThen, sliced, Int.toNat_natCast]
  · obtain ⟨h1, h2⟩ := h.addr (by omega)
    subst h1
    rw [if_neg (by omega)]
    exact ⟨by simp only [Option.map_some, addr_plus], h2⟩
  · rw [List.getElem?_drop] at hx
    have := h.at' (e + j) x hx
    rw [show o + (e + j) * 4 = o + e * 4 + j * 4 by omega] at this
    exact this
theorem rows_upto {p : Option Addr} {n c b o e : Nat} {l : List Rw} {w : World} (h : Rs p n c b o l w) (he : e ≤ n) : Rs p e c b o (l.take e) w := by
  have hc := h.cap
  refine ⟨by rw [List.length_take, h.len]; omega, by omega, h.most, fun h0 => h.addr (by omega), fun j x hx => ?_⟩
  rw [List.getElem?_take] at hx
  split at hx
  · exact h.at' j x hx
  · cases hx
/-- What is handed back, as a slice of rows. -/
theorem rs_of_gave {l : List Rw} {w : World} {e : Ending} {w' : World} (h : GaveR l w e w') : ∃ p c b, e = .returned (.slice p l.length c) ∧ Rs p l.length c b 0 l w' ∧ Below w.heap.size w w' := by
  obtain ⟨v, rfl, hrow, hb⟩ := h
  obtain ⟨p, c, b, rfl, hr, _⟩ := rs_of_row hrow
  exact ⟨p, c, b, rfl, hr, hb⟩
/-- A row stands ahead, as the laws say it. -/
theorem ahd_parts (x : Rw) (k : ByteArray) (q : Nat) :
    (Op.bytesLess x.key.toList k.toList = true ∧ ahd x k q = true) ∨ (Op.bytesLess x.key.toList k.toList = false ∧ (x.key.toList == k.toList) = true ∧ ahd x k q = decide ((q : Int) < (x.seq : Int))) ∨ (Op.bytesLess x.key.toList k.toList = false ∧ (x.key.toList == k.toList) = false ∧ ahd x k q = false) := by
  have e2 : (decide (q < x.seq) : Bool) = decide ((q : Int) < (x.seq : Int)) := by congr 1; simp
  unfold ahd
  rw [less_before]
  by_cases e : x.key.toList = k.toList
  · rw [if_pos e]
    right; left
    exact ⟨by rw [e, WideAt.bytes_irrefl], by simpa using e, e2⟩
  · rw [if_neg e]
    cases h : bytesBefore x.key.toList k.toList with
    | true => exact .inl ⟨rfl, rfl⟩
    | false => exact .inr (.inr ⟨rfl, by simpa using e, rfl⟩)
theorem same_rows {p1 p2 : Option Addr} {n1 c1 b1 o1 n2 c2 b2 o2 : Nat} {l : List Rw} {w : World} (h1 : Rs p1 n1 c1 b1 o1 l w) (h2 : Rs p2 n2 c2 b2 o2 l w) :
    Calls Try.prog 17 #[.slice p1 n1 c1, .slice p2 n2 c2] w fun e w' => e = .returned (.bool true) ∧ Below w.heap.size w w' := by
  have := samerows_any h1 h2
  simpa using this
theorem rs_row_at {w : World} {B : Nat} {a : Option Addr} {n c : Nat} {l : List Rw} (h : w.ownsRow B 43 4 (.slice a n c) n (rowR l)) (hl : l.length = n) : ∃ b, Rs a n c b 0 l w := by
  subst hl
  obtain ⟨a', c', b, e, r, _⟩ := rs_of_row h
  cases e
  exact ⟨b, r⟩
theorem grown_below {w w2 w3 : World} {o : Obj} {e : TypeId} {size n : Nat} {v : Value} {xs : List Value} (h : Below w.heap.size w w2) (hr : w2.ownsRow w.heap.size e size v n xs) (hg : (w2.alloc o).grownBy w3 v.ownBlock) : Below w.heap.size w w3 := by
  have h1 := h.alloc h.size o
  exact h1.grown hg h1.size (fun k hk => (World.ownsRow.lt hr k hk).1)
end Go.Proofs.Ytdgbafpnfkedeaa
/-
  SkipSteps: a search goes past no more rows than there are, and, where all are one high, past those that are ahead. No condition.
-/
namespace Go.Proofs.Ytdgbafpnfkedeaa
set_option maxRecDepth 100000
open Go.RowKit
attribute [local go_sem] eq_node ne_node eq_list
abbrev zeroList : Obj := .cells #[.pointer none, .pointer none, .pointer none, .pointer none, .pointer none, .pointer none, .pointer none, .pointer none, .pointer none, .pointer none, .pointer none, .pointer none, .int .i64 0, .int .i64 0] 71
theorem num_at {a : Option Addr} {n c b o : Nat} {l : List Int} {w : World} (h : SlOf 1 cellsI a n c b o l w) {j : Nat} (hj : j < n) : ∃ x, l[j]? = some x ∧ a = some ⟨b, o, none⟩ ∧ w.cell? ⟨b, o + j, none⟩ = some (.int .i64 x) := by
  obtain ⟨x, hx⟩ : ∃ x, l[j]? = some x := ⟨_, List.getElem?_eq_getElem (by rw [h.len]; exact hj)⟩
  refine ⟨x, hx, (h.addr (by omega)).1, ?_⟩
  have := h.at' j x hx 0 _ rfl
  rw [Nat.mul_one, Nat.add_zero] at this
  exact this
/-- A list of a zoo, and what else a call may know of it. -/
theorem zoo_two (w : World) : Zoo w.heap.size [(w.heap.size, []), (w.heap.size + 1, [])] ((w.alloc zeroList).alloc zeroList) ∧ Below w.heap.size w ((w.alloc zeroList).alloc zeroList) := by
  have h1 := (Zoo.nil w.heap.size w).new (Nat.le_refl _)
  have h2 := h1.new (by rw [World.size_alloc]; omega)
  rw [World.size_alloc] at h2
  exact ⟨h2, below_of (below_alloc _ _) (below_alloc _ _)⟩
--LAW freshetlaw08.SkipSteps steps_walk rows:ra nums:ha string:key uint64:sq
--BEGIN
namespace SkipStepsProof
open Go.ChangeShapes Go.WideShapes Go.ChangeAt Go.RowKit
open Go.ChangeMaps (open_string shut_string)
theorem own : ownKnob Try.prog.godebug = none := by kernel_rfl
end SkipStepsProof
--END
end Go.Proofs.Ytdgbafpnfkedeaa
/-
  The document's list: Ahead, Place, There, Height, Steps. No condition but at most 1048575 rows.
-/
namespace Go.Proofs.Ytdgbafpnfkedeaa
set_option maxRecDepth 100000
open Go.RowKit
set_option maxRecDepth 100000 in
set_option maxHeartbeats 2000000 in
theorem ahead_ref (x : Rw) (k : ByteArray) (q : Nat) (w : World) : Calls Try.prog 48 #[rowV x, .string k, .int .u64 (q : Int)] w fun e w' => e = .returned (.bool (ahd x k q)) ∧ Below w.heap.size w w' := by
  have R0 := (RowAt.new x w).cells
  have W0 := Lib.hid (below_alloc w (.cells #[.string x.key, .int .u64 (x.seq : Int), .int .i64 x.kind, .string x.val] 43))
  have hp := ahd_parts x k q
  obtain ⟨xk, xs, xi, xv⟩ := x
  simp only at R0 W0 hp
  obtain ⟨⟨c0, c1, c2, c3⟩, _⟩ := R0
  rcases hp with ⟨p1, p2⟩ | ⟨p1, p3, p2⟩ | ⟨p1, p3, p2⟩
  · rw [p2]
    clear p2
    go_enter Try.func48, Try.ntmps48
    go_wp2_with fail
    go_returns
    exact ⟨rfl, W0.out⟩
  · rw [p2, show (decide ((q : Int) < (xs : Int))) = decide (q < xs) by congr 1; simp]
    clear p2
    go_enter Try.func48, Try.ntmps48
    go_wp2_with fail
    go_returns
    exact ⟨rfl, W0.out⟩
  · rw [p2]
    clear p2
    go_enter Try.func48, Try.ntmps48
    go_wp2_with fail
    go_returns
    exact ⟨rfl, W0.out⟩
theorem plc_drop {l : List Rw} {k : ByteArray} {q j : Nat} {x : Rw} (hx : l[j]? = some x) : plc (l.drop j) k q = if ahd x k q = true then 1 + plc (l.drop (j + 1)) k q else 0 := by
  obtain ⟨h1, h2⟩ := List.getElem?_eq_some_iff.1 hx
  rw [List.drop_eq_getElem_cons h1, h2]
  unfold plc
  rw [List.takeWhile_cons]
  split
  · simp; omega
  · rfl
set_option maxRecDepth 100000 in
set_option maxHeartbeats 4000000 in
theorem place_ref {p : Option Addr} {n c b o : Nat} {l : List Rw} {w : World} (h : Rs p n c b o l w) (hn : n ≤ 1048575) (k : ByteArray) (q : Nat) :
    Calls Try.prog 42 #[.slice p n c, .string k, .int .u64 (q : Int)] w fun e w' => e = .returned (.int .i64 (plc l k q : Int)) ∧ Below w.heap.size w w' := by
  have e0 := Lib.hid h.len
  have m0 := h.most
  have q0 := h.cap
  obtain ⟨E, hE⟩ := named (plc l k q)
  rw [← hE.out]
  have h := Lib.hid h
  go_enter Try.func42, Try.ntmps42
  go_wp2_with fail
  go_loopw [7] (fun i wr => ∃ j : Nat, j ≤ n ∧ i = .int .i64 (j : Int) ∧ E = j + plc (l.drop j) k q ∧ Below w.heap.size w wr) (fun i _ => n - (intOf i).toNat)
  case atStart => exact ⟨0, Nat.zero_le _, rfl, by rw [hE.out]; simp, Below.refl _ _⟩
  case round =>
    obtain ⟨j, hj, rfl, hEj, hb⟩ := hrel
    by_cases hlt : j < n
    · obtain ⟨x, hx, rfl, x0, x1, x2, x3⟩ := (h.out.below hb (Nat.le_refl _)).at4 hlt
      rw [plc_drop hx] at hEj
      have AC := Lib.hid (ahead_ref x k q wr)
      have i1 : (j : Int) < (n : Int) := by omega
      obtain ⟨xk, xs, xi, xv⟩ := x
      simp only at x0 x1 x2 x3 AC hEj
      obtain ⟨T, hT⟩ := named (ahd ⟨xk, xs, xi, xv⟩ k q)
      rw [← hT.out] at AC hEj
      have hb := Lib.hid hb
      clear hx
      cases T with
      | true =>
        have hEj2 : Hid (E = j + 1 + plc (l.drop (j + 1)) k q) := Lib.hid (by simp only [if_true] at hEj; omega)
        clear hEj
        go_wp2_with (go_at_call 48; ((with_reducible refine AC.out.mono ?_); rintro e w2 ⟨rfl, hb2⟩; have B2 := Lib.hid (below_of hb.out hb2); clear hb2))
        go_roundw
        case rel => exact ⟨j + 1, by omega, by go_num, hEj2.out, B2.out⟩
        case measure => simp [intOf]; omega
      | false =>
        have hEj2 : Hid (E = j) := Lib.hid (by simpa using hEj)
        clear hEj
        go_wp2_with (go_at_call 48; ((with_reducible refine AC.out.mono ?_); rintro e w2 ⟨rfl, hb2⟩; have B2 := Lib.hid (below_of hb.out hb2); clear hb2))
        go_returns
        exact ⟨by rw [hEj2.out]; rfl, B2.out⟩
    · have hjn : j = n := by omega
      have hEj2 : E = j := by
        rw [hEj, List.drop_eq_nil_of_le (by rw [e0.out]; omega)]
        simp [plc]
      have i1 : ¬ ((j : Int) < (n : Int)) := by omega
      have hb := Lib.hid hb
      replace hEj2 := Lib.hid hEj2
      clear hEj hjn
      go_wp2_with fail
      go_returns
      exact ⟨by rw [hEj2.out]; rfl, hb.out⟩
set_option maxRecDepth 100000 in
set_option maxHeartbeats 4000000 in
theorem there_ref {p : Option Addr} {n c b o : Nat} {l : List Rw} {w : World} (h : Rs p n c b o l w) (hn : n ≤ 1048575) (k : ByteArray) (q : Nat) :
    Calls Try.prog 29 #[.slice p n c, .string k, .int .u64 (q : Int)] w fun e w' => e = .returned (.bool (thr l k q)) ∧ Below w.heap.size w w' := by
  have m0 := h.most
  have q0 := h.cap
  have PC := Lib.hid (place_ref h hn k q)
  have ple := plc_le l k q
  rw [h.len] at ple
  obtain ⟨T, hT⟩ := named (thr l k q)
  have hT2 := hT.out
  rw [← hT.out]
  unfold thr at hT2
  obtain ⟨E, hE⟩ := named (plc l k q)
  rw [← hE.out] at PC hT2 ple
  by_cases hlt : E < n
  · have h' := Lib.hid h
    obtain ⟨x, hx, rfl, x0, x1, x2, x3⟩ := h.at4 hlt
    rw [hx] at hT2
    have hlb := World.block_lt_of_cell? _ _ x0
    have i1 : (E : Int) < (n : Int) := by omega
    obtain ⟨xk, xs, xi, xv⟩ := x
    simp only at x0 x1 x2 x3 hT2
    replace hT2 := Lib.hid hT2
    clear h hx ple
    go_enter Try.func29, Try.ntmps29
    by_cases q1 : xk.toList = k.toList
    · have q1b : (xk.toList == k.toList) = true := by simpa using q1
      by_cases q2 : xs = q
      · have q2b : ((xs : Int) == (q : Int)) = true := by rw [beq_iff_eq]; omega
        have hT3 : Hid (T = true) := Lib.hid (by rw [hT2.out, q1, q2]; simp)
        clear q1 q2
        go_wp2_with (go_at_call 42; ((with_reducible refine PC.out.mono ?_); rintro e w2 ⟨rfl, hb2⟩; have y0 := (hb2.cell (p := ⟨b, o + E * 4, none⟩) hlb).trans x0; have y1 := (hb2.cell (p := ⟨b, o + E * 4 + 1, none⟩) hlb).trans x1; have B2 := Lib.hid hb2; clear hb2))
        go_returns
        exact ⟨by rw [hT3.out]; rfl, B2.out⟩
      · have q2b : ((xs : Int) == (q : Int)) = false := by rw [beq_eq_false_iff_ne]; omega
        have hT3 : Hid (T = false) := Lib.hid (by rw [hT2.out, decide_eq_false q2]; simp)
        clear q1 q2
        go_wp2_with (go_at_call 42; ((with_reducible refine PC.out.mono ?_); rintro e w2 ⟨rfl, hb2⟩; have y0 := (hb2.cell (p := ⟨b, o + E * 4, none⟩) hlb).trans x0; have y1 := (hb2.cell (p := ⟨b, o + E * 4 + 1, none⟩) hlb).trans x1; have B2 := Lib.hid hb2; clear hb2))
        go_returns
        exact ⟨by rw [hT3.out]; rfl, B2.out⟩
    · have q1b : (xk.toList == k.toList) = false := by simpa using q1
      have hT3 : Hid (T = false) := Lib.hid (by rw [hT2.out, decide_eq_false q1]; simp)
      clear q1
      go_wp2_with (go_at_call 42; ((with_reducible refine PC.out.mono ?_); rintro e w2 ⟨rfl, hb2⟩; have y0 := (hb2.cell (p := ⟨b, o + E * 4, none⟩) hlb).trans x0; have y1 := (hb2.cell (p := ⟨b, o + E * 4 + 1, none⟩) hlb).trans x1; have B2 := Lib.hid hb2; clear hb2))
      go_returns
      exact ⟨by rw [hT3.out]; rfl, B2.out⟩
  · have hx : l[E]? = none := by rw [List.getElem?_eq_none_iff, h.len]; omega
    rw [hx] at hT2
    have i1 : ¬ ((E : Int) < (n : Int)) := by omega
    replace hT2 := Lib.hid hT2
    clear h hx ple hlt
    go_enter Try.func29, Try.ntmps29
    go_wp2_with (go_at_call 42; ((with_reducible refine PC.out.mono ?_); rintro e w2 ⟨rfl, hb2⟩; have B2 := Lib.hid hb2; clear hb2))
    go_returns
    exact ⟨by rw [hT2.out]; rfl, B2.out⟩
end Go.Proofs.Ytdgbafpnfkedeaa
/-
  The document's list: Height, Steps. No condition but at most 1048575 rows.
-/
namespace Go.Proofs.Ytdgbafpnfkedeaa
set_option maxRecDepth 100000
open Go.RowKit
def intsH (hs : List Nat) : List Int := hs.map fun (h : Nat) => ((h : Nat) : Int)
theorem intsH_at {hs : List Nat} {j : Nat} {x : Int} (h : (intsH hs)[j]? = some x) : ∃ y, hs[j]? = some y ∧ x = (y : Int) := by
  unfold intsH at h
  rw [List.getElem?_map] at h
  obtain ⟨y, hy, rfl⟩ := Option.map_eq_some_iff.1 h
  exact ⟨y, hy, rfl⟩
theorem pair_box {v : World} {N : Nat} {x0 x1 : Value} {T : TypeId} (h : v.heap[N]? = some (.cells #[x0, x1] T (0, 0))) : v.cell? ⟨N, 0, none⟩ = some x0 ∧ v.cell? ⟨N, 1, none⟩ = some x1 :=
  ⟨by simp [World.cell?, h], by simp [World.cell?, h]⟩
end Go.Proofs.Ytdgbafpnfkedeaa
/-
  The document's list in memory, and its Put. No condition but at most 1000000 rows.
-/
namespace Go.Proofs.Ytdgbafpnfkedeaa
set_option maxRecDepth 100000
open Go.RowKit
/-- Heights as cells. -/
def cellsH (hs : List Nat) : List Value := hs.map fun (h : Nat) => Value.int .i64 (h : Int)
theorem cellsH_len (hs : List Nat) : (cellsH hs).length = hs.length := by simp [cellsH]
theorem slof_of_row {w : World} {B : Nat} {a : Option Addr} {n c : Nat} {hs : List Nat} (h : w.ownsRow B 3 1 (.slice a n c) n (cellsH hs)) (hl : hs.length = n) : ∃ b, SlOf 1 cellsI a n c b 0 (intsH hs) w := by
  rcases h.2 with ⟨e, hz⟩ | ⟨g, cap, cur, e, hg, hb, hn, hm, hs', ht⟩
  · simp at e
    obtain ⟨rfl, rfl, rfl⟩ := e
    have : hs = [] := List.length_eq_zero_iff.1 hl
    subst this
    exact ⟨0, rfl, Nat.le_refl _, by omega, fun h => absurd h (by omega), fun j x hx => by simp [intsH] at hx⟩
  · simp at e
    obtain ⟨rfl, rfl⟩ := e
    unfold maxLen at hm
    refine ⟨g, by unfold intsH; rw [List.length_map]; exact hl, hn, by omega, fun _ => ⟨rfl, (Array.getElem?_eq_some_iff.1 hb).1⟩, fun j x hx m u hu => ?_⟩
    obtain ⟨y, hy, rfl⟩ := intsH_at hx
    have hm0 : m = 0 := by have := (List.getElem?_eq_some_iff.1 hu).1; simp [cellsI] at this; omega
    subst hm0
    have hu' : u = .int .i64 (y : Int) := by simpa [cellsI] using hu.symm
    subst hu'
    have hj : j < hs.length := (List.getElem?_eq_some_iff.1 hy).1
    have := World.ownsRow.cellAt h j (by omega)
    rw [show 0 + j * 1 + 0 = j by omega]
    refine this.trans ?_
    unfold cellsH
    rw [List.getElem?_map, hy]; rfl
theorem row_grow {w w' : World} {B : Nat} {e : TypeId} {size n : Nat} {v : Value} {xs : List Value} (h : w.ownsRow B e size v n xs) (hb : Below w.heap.size w w') : w'.ownsRow B e size v n xs := by
  refine ⟨h.1, ?_⟩
  rcases h.2 with e' | ⟨g, cap, cur, e', a, b, c⟩
  · exact .inl e'
  · exact .inr ⟨g, cap, cur, e', a, (hb.block g (Array.getElem?_eq_some_iff.1 b).1).trans b, c⟩
/-- A row stands where one of another type is appended to. -/
theorem row_row {w w' : World} {o : Obj} {B B2 : Nat} {e e2 : TypeId} {size n size2 n2 : Nat} {v v2 : Value} {xs ys : List Value} (h : w.ownsRow B e size v n xs) (h2 : w.ownsRow B2 e2 size2 v2 n2 ys) (hne : e ≠ e2) (hg : (w.alloc o).grownBy w' v2.ownBlock) : w'.ownsRow B e size v n xs := by
  refine ⟨h.1, ?_⟩
  rcases h.2 with e' | ⟨g, cap, cur, e', a, b, c⟩
  · exact .inl e'
  · have hlt := (Array.getElem?_eq_some_iff.1 b).1
    refine .inr ⟨g, cap, cur, e', a, ((hg.block g (by rw [World.size_alloc]; omega) (fun e3 => ?_)).trans (Lib.alloc_old w o g hlt)).trans b, c⟩
    rcases h2.2 with ⟨rfl, _⟩ | ⟨g2, cap2, cur2, rfl, _, hb2, _⟩
    · simp [Value.ownBlock] at e3
    · obtain rfl : g = g2 := by simpa [Value.ownBlock] using e3
      rw [b] at hb2
      simp only [Option.some.injEq, Obj.cells.injEq] at hb2
      exact hne hb2.2.1
/-- What Put has put together behind j rows. -/
def bl (l : SL) (x : Rw) (h e j : Nat) : SL := if j ≤ e then l.take j else l.take e ++ (x, h) :: (l.drop e).take (j - e)
theorem bl_zero (l : SL) (x : Rw) (h e : Nat) : bl l x h e 0 = [] := by unfold bl; rw [if_pos (Nat.zero_le _)]; rfl
theorem bl_before {l : SL} {x : Rw} {h e j : Nat} {y : Rw × Nat} (hj : j < e) (hy : l[j]? = some y) : bl l x h e (j + 1) = bl l x h e j ++ [y] := by
  unfold bl
  rw [if_pos (by omega), if_pos (by omega), List.take_add_one, hy]; rfl
theorem bl_here {l : SL} {x : Rw} {h e : Nat} {y : Rw × Nat} (hy : l[e]? = some y) : bl l x h e (e + 1) = bl l x h e e ++ [(x, h)] ++ [y] := by
  unfold bl
  rw [if_neg (by omega), if_pos (Nat.le_refl _), show e + 1 - e = 1 by omega]
  obtain ⟨h1, h2⟩ := List.getElem?_eq_some_iff.1 hy
  rw [List.drop_eq_getElem_cons h1, h2]
  simp
theorem bl_behind {l : SL} {x : Rw} {h e j : Nat} {y : Rw × Nat} (hj : e < j) (hy : l[j]? = some y) : bl l x h e (j + 1) = bl l x h e j ++ [y] := by
  unfold bl
  rw [if_neg (by omega), if_neg (by omega), show j + 1 - e = (j - e) + 1 by omega, List.take_add_one, List.getElem?_drop, show e + (j - e) = j by omega, hy]
  simp
theorem bl_len {l : SL} {x : Rw} {h e j : Nat} (hj : j ≤ l.length) (he : e ≤ l.length) : (bl l x h e j).length ≤ j + 1 := by
  unfold bl
  split
  · rw [List.length_take]; omega
  · simp only [List.length_append, List.length_cons, List.length_take, List.length_drop]; omega
theorem bl_end {l : SL} {x : Rw} {h e : Nat} (he : e < l.length) : bl l x h e l.length = l.take e ++ (x, h) :: l.drop e := by
  unfold bl
  rw [if_neg (by omega), show (l.drop e).take (l.length - e) = l.drop e from List.take_of_length_le (by rw [List.length_drop]; omega)]
theorem bl_last {l : SL} {x : Rw} {h : Nat} : bl l x h l.length l.length ++ [(x, h)] = l.take l.length ++ (x, h) :: l.drop l.length := by
  unfold bl
  rw [if_pos (Nat.le_refl _), List.drop_length]
theorem rowsL_snoc (l : SL) (y : Rw × Nat) : rowsL (l ++ [y]) = rowsL l ++ [y.1] := by simp [rowsL]
theorem cellsH_snoc (l : SL) (y : Rw × Nat) : cellsH (hgtsL (l ++ [y])) = cellsH (hgtsL l) ++ [.int .i64 (y.2 : Int)] := by simp [cellsH, hgtsL]
theorem hgtsL_snoc (l : SL) (y : Rw × Nat) : hgtsL (l ++ [y]) = hgtsL l ++ [y.2] := by simp [hgtsL]
theorem info_int : (Try.prog.info? 3).map (fun i => (i.zero, i.size, i.bytes)) = some (some (.int .i64 0), 1, 8) := by kernel_rfl
theorem undrew {w v : World} (h : Below w.drew.heap.size w.drew v) : Below w.heap.size w v := ⟨h.os, h.tape, h.output, h.size, h.block⟩
/-- Two rows under way. -/
structure TwoR (w : World) (rv hv : Value) (L1 : List Rw) (L2 : List Nat) (v : World) : Prop where
  rows : v.ownsRow w.heap.size 43 4 rv L1.length (rowR L1)
  hgts : v.ownsRow w.heap.size 3 1 hv L2.length (cellsH L2)
  blw : Below w.heap.size w v
theorem TwoR.addRow {w : World} {rv hv rv' : Value} {L1 : List Rw} {L2 : List Nat} {v u : World} {o : Obj} {x : Rw} (h : TwoR w rv hv L1 L2 v) (hown : u.ownsRow w.heap.size 43 4 rv' (L1.length + 1) (rowR L1 ++ [.string x.key, .int .u64 (x.seq : Int), .int .i64 x.kind, .string x.val])) (hg : (v.alloc o).grownBy u rv.ownBlock) : TwoR w rv' hv (L1 ++ [x]) L2 u :=
  ⟨by rw [rowR_snoc, List.length_append]; exact hown, row_row h.hgts h.rows (by decide) hg, grown_below h.blw h.rows hg⟩
theorem TwoR.addHgt {w : World} {rv hv hv' : Value} {L1 : List Rw} {L2 : List Nat} {v u : World} {o : Obj} {y : Nat} (h : TwoR w rv hv L1 L2 v) (hown : u.ownsRow w.heap.size 3 1 hv' (L2.length + 1) (cellsH L2 ++ [.int .i64 (y : Int)])) (hg : (v.alloc o).grownBy u hv.ownBlock) : TwoR w rv hv' L1 (L2 ++ [y]) u :=
  ⟨row_row h.rows h.hgts (by decide) hg, by rw [List.length_append]; unfold cellsH; rw [List.map_append]; exact hown, grown_below h.blw h.hgts hg⟩
theorem row_base {w : World} {B B' : Nat} {e : TypeId} {size n : Nat} {v : Value} {xs : List Value} (h : w.ownsRow B' e size v n xs) (hB : B ≤ B') : w.ownsRow B e size v n xs := by
  refine ⟨h.1, ?_⟩
  rcases h.2 with e' | ⟨g, cap, cur, e', a, b⟩
  · exact .inl e'
  · exact .inr ⟨g, cap, cur, e', Nat.le_trans hB a, b⟩
theorem news_one {w : World} {T : TypeId} {v : Value} : ∀ j u, ([v] : List Value)[j]? = some u → (w.alloc (.cells #[v] T)).cell? ((⟨w.heap.size, 0, none⟩ : Addr).add j) = some u := World.news_of_block (heap_alloc_new _ _)
end Go.Proofs.Ytdgbafpnfkedeaa
/-
  An argument of type []Op: opened.
-/
namespace Go.Proofs.Ytdgbafpnfkedeaa
open Go.RowKit
set_option maxRecDepth 100000
structure SkOp where
  act : Int
  row : Rw
  hgt : Int
  deriving Inhabited
def cellsK (v : SkOp) : List Value := [.int .i64 v.act, .string v.row.key, .int .u64 (v.row.seq : Int), .int .i64 v.row.kind, .string v.row.val, .int .i64 v.hgt]
def SkOpIn (v : SkOp) : Prop := (Lit.int .i64 v.act).wf = true ∧ RwIn v.row ∧ (Lit.int .i64 v.hgt).wf = true
end Go.Proofs.Ytdgbafpnfkedeaa
/-
  The program's list and the document's, side by side: SkipPlays's relation.
-/
namespace Go.Proofs.Ytdgbafpnfkedeaa
set_option maxRecDepth 100000
open Go.RowKit
theorem Zoo.but {base d : Nat} {zs : List (Nat × SL)} {w w' : World} {cs : Array Value} {T : TypeId} {z : Nat × Nat} (h : Zoo base zs w) (hd : w.heap[d]? = some (.cells cs T z)) (h1 : T ≠ 71) (h2 : T ≠ 97) (hb : But d w w') : Zoo base zs w' := by
  obtain ⟨f, k1, k2⟩ := h
  have bl : ∀ b U, Typed w b U → U ≠ T → b < w.heap.size → w'.heap[b]? = w.heap[b]? := fun b U ht hU hlt => hb.block b hlt (fun e => by
    subst e
    obtain ⟨c, hc⟩ := ht
    rw [hd] at hc
    simp only [Option.some.injEq, Obj.cells.injEq] at hc
    exact hU hc.2.1.symm)
  exact ⟨f, fun i p l e' => ⟨(k1 i p l e').1.keep (bl p _ (k1 i p l e').1.typ (Ne.symm h1) (k1 i p l e').1.lt) (fun x hx => bl x.blk _ ((k1 i p l e').1.ntyp x hx) (Ne.symm h2) ((k1 i p l e').1.nlt hx)), (k1 i p l e').2⟩, k2⟩
end Go.Proofs.Ytdgbafpnfkedeaa
/-
  A drawn region whose loads are held by a condition, walked by hand: one operation taken, or passed over by its guard. No condition.
-/
namespace Go.Proofs.Ytdgbafpnfkedeaa
set_option maxRecDepth 100000
open Go
variable {P : Program} {md : Region.Mode} {ops : Array Oper} {Q : Exit → Act → World → Prop} {S : World → Prop} {fuel : Nat} {listed : Array Bool} {a : Act} {w : World}
theorem held_take {i : Nat} {dst : Option Tmp} {op : Op} {type : TypeId} {pos : String} {after} {guard} {v : Value} (hi : ops[i]? = some { dst := dst, op := op, type := type, pos := pos, after := after, guard := guard })
    (hs : Region.noSelect ops = true) (hf : Region.free md ops listed i = true) (hr : (Region.ready md ops listed).contains i = true)
    (hQ : ∀ c a w, Q (.panic c) (a.put dst v) w → Q (.panic c) a w) (hw : Region.wanted { dst := dst, op := op, type := type, pos := pos, after := after, guard := guard } (yielded ops a.tmps) = true)
    (hy : ∀ w, S w → (execOp a.eval { dst := dst, op := op, type := type, pos := pos, after := after, guard := guard }).run P w = .ok (.value v) w) (hS : S w)
    (h : wpAnyH P md ops Q S fuel (listed.setIfInBounds i true) (a.put dst v) w) : wpAnyH P md ops Q S (fuel + 1) listed a w := wpAnyH_take hi hs hf hr hQ (Or.inl ⟨hw, hy⟩) hS h
theorem held_skip {i : Nat} {dst : Option Tmp} {op : Op} {type : TypeId} {pos : String} {after} {guard} (hi : ops[i]? = some { dst := dst, op := op, type := type, pos := pos, after := after, guard := guard })
    (hs : Region.noSelect ops = true) (hf : Region.free md ops listed i = true) (hr : (Region.ready md ops listed).contains i = true)
    (hQ : ∀ c a w, Q (.panic c) (a.put dst undef) w → Q (.panic c) a w) (hw : Region.wanted { dst := dst, op := op, type := type, pos := pos, after := after, guard := guard } (yielded ops a.tmps) = false) (hS : S w)
    (h : wpAnyH P md ops Q S fuel (listed.setIfInBounds i true) (a.put dst undef) w) : wpAnyH P md ops Q S (fuel + 1) listed a w := wpAnyH_take hi hs hf hr hQ (Or.inr ⟨hw, rfl⟩) hS h
theorem held_call {i : Nat} {dst : Option Tmp} {op : Op} {type : TypeId} {pos : String} {after} {guard} (hr : Region.ready md ops listed = [i]) (hi : ops[i]? = some { dst := dst, op := op, type := type, pos := pos, after := after, guard := guard })
    (hw : Region.wanted { dst := dst, op := op, type := type, pos := pos, after := after, guard := guard } (yielded ops a.tmps) = true)
    (h : ∀ K : Act → World → Prop, Shut (∀ a w, S w → (S w → wpAnyH P md ops Q S fuel (listed.setIfInBounds i true) a w) → K a w) → Oper.wp P { dst := dst, op := op, type := type, pos := pos, after := after, guard := guard } a w K Q) : wpAnyH P md ops Q S (fuel + 1) listed a w :=
  wpAnyH_ready hr (by simp) (AllReadyH.cons hi (fun K hK => by rw [if_pos hw]; exact h K hK) AllReadyH.nil)
/-- Two operations that may come first: each way. -/
theorem held_two {i j : Nat} {o1 o2 : Oper} (hr : Region.ready md ops listed = [i, j]) (hi : ops[i]? = some o1) (hj : ops[j]? = some o2)
    (hw : Region.wanted o1 (yielded ops a.tmps) = true) (hw2 : Region.wanted o2 (yielded ops a.tmps) = true)
    (h : ∀ K : Act → World → Prop, Shut (∀ a w, S w → (S w → wpAnyH P md ops Q S fuel (listed.setIfInBounds i true) a w) → K a w) → Oper.wp P o1 a w K Q)
    (h2 : ∀ K : Act → World → Prop, Shut (∀ a w, S w → (S w → wpAnyH P md ops Q S fuel (listed.setIfInBounds j true) a w) → K a w) → Oper.wp P o2 a w K Q) : wpAnyH P md ops Q S (fuel + 1) listed a w :=
  wpAnyH_ready hr (by simp) (AllReadyH.cons hi (fun K hK => by rw [if_pos hw]; exact h K hK) (AllReadyH.cons hj (fun K hK => by rw [if_pos hw2]; exact h2 K hK) AllReadyH.nil))
end Go.Proofs.Ytdgbafpnfkedeaa
/-
  The contract of the table's insert. Condition: a row of a valid batch whose place is free, at most 1000000 rows.
-/
namespace Go.Proofs.Ytdgbafpnfkedeaa
set_option maxRecDepth 100000
open Go.RowKit
attribute [local go_sem] eq_node ne_node eq_list eq_table
/-- The world within insert: the lists, the table's block, the row's. -/
structure InS (base p ob : Nat) (zs : List (Nat × SL)) (x : Rw) (L : Nat) (a b c : Nat) (w0 w : World) : Prop where
  zoo : Zoo base zs w
  tab : w.heap[p]? = some (.cells #[.pointer (some ⟨L, 0, none⟩), .int .i64 (a : Int), .int .u64 (b : Int), .int .u64 (c : Int)] 54 (0, 0))
  row : RowAt ob x w
  but : But p w0 w
section
variable {base p ob : Nat} {zs : List (Nat × SL)} {x : Rw} {L a b c : Nat} {w0 w : World}
theorem InS.ne (h : InS base p ob zs x L a b c w0 w) : ob ≠ p := fun e => by
  have h1 := h.row
  have h2 := h.tab
  subst e
  unfold RowAt at h1
  rw [h2] at h1
  simp only [Option.some.injEq, Obj.cells.injEq] at h1
  exact absurd h1.2.1 (by decide)
theorem InS.drew (h : InS base p ob zs x L a b c w0 w) : InS base p ob zs x L a b c w0 w.drew := ⟨h.zoo.grow (Below.refl _ w).drew, h.tab, h.row, h.but.drew⟩
theorem but_set (p i : Nat) (v : Value) (w : World) : But p w (w.setCell ⟨p, i, none⟩ v) := (But.refl p w).setCell rfl v
theorem InS.set1 (h : InS base p ob zs x L a b c w0 w) (v : Nat) : InS base p ob zs x L v b c w0 (w.setCell ⟨p, 1, none⟩ (.int .i64 (v : Int))) :=
  ⟨h.zoo.but h.tab (by decide) (by decide) (but_set p 1 _ w), heap_setCell_same _ p 1 _ _ (.int .i64 (v : Int)) h.tab, (Below.heap_setCell w ⟨p, 1, none⟩ _ ob h.ne).trans h.row, h.but.trans (but_set p 1 _ w)⟩
theorem InS.set2 (h : InS base p ob zs x L a b c w0 w) (v : Nat) : InS base p ob zs x L a v c w0 (w.setCell ⟨p, 2, none⟩ (.int .u64 (v : Int))) :=
  ⟨h.zoo.but h.tab (by decide) (by decide) (but_set p 2 _ w), heap_setCell_same _ p 2 _ _ (.int .u64 (v : Int)) h.tab, (Below.heap_setCell w ⟨p, 2, none⟩ _ ob h.ne).trans h.row, h.but.trans (but_set p 2 _ w)⟩
theorem InS.set3 (h : InS base p ob zs x L a b c w0 w) (v : Nat) : InS base p ob zs x L a b v w0 (w.setCell ⟨p, 3, none⟩ (.int .u64 (v : Int))) :=
  ⟨h.zoo.but h.tab (by decide) (by decide) (but_set p 3 _ w), heap_setCell_same _ p 3 _ _ (.int .u64 (v : Int)) h.tab, (Below.heap_setCell w ⟨p, 3, none⟩ _ ob h.ne).trans h.row, h.but.trans (but_set p 3 _ w)⟩
theorem InS.cells (h : InS base p ob zs x L a b c w0 w) : w.cell? ⟨p, 0, none⟩ = some (.pointer (some ⟨L, 0, none⟩)) ∧ w.cell? ⟨p, 1, none⟩ = some (.int .i64 (a : Int)) ∧ w.cell? ⟨p, 2, none⟩ = some (.int .u64 (b : Int)) ∧ w.cell? ⟨p, 3, none⟩ = some (.int .u64 (c : Int)) ∧ ∀ i, w.frozen? ⟨p, i, none⟩ = false := by
  have h := h.tab
  refine ⟨?_, ?_, ?_, ?_, fun i => ?_⟩ <;> (first | (unfold World.cell?; rw [h]; rfl) | simp [World.frozen?, h])
end
/-- What a table's call leaves beside its own block: whatever is no list and no node. -/
def Else3 (p : Nat) (w w' : World) : Prop := ∀ k, k < w.heap.size → k ≠ p → ¬ Typed w k 71 → ¬ Typed w k 97 → w'.heap[k]? = w.heap[k]?
theorem else3_of {p : Nat} {w w1 w2 : World} (h : But p w w1) (he : Else w1 w2) : Else3 p w w2 := fun k hk hp n1 n2 => by
  have e := h.block k hk hp
  have t : ∀ T, Typed w1 k T → Typed w k T := fun T ht => by
    obtain ⟨cs, hc⟩ := ht
    exact ⟨cs, e ▸ hc⟩
  exact (he k (Nat.lt_of_lt_of_le hk h.size) (fun ht => n1 (t _ ht)) (fun ht => n2 (t _ ht))).trans e
theorem but_base {p base : Nat} {w w1 w2 : World} (h : But p w w1) (hp : base ≤ p) (hb : base ≤ w.heap.size) (h2 : Below base w1 w2) : Below base w w2 := (h.below hp hb).trans h2
theorem tab_else {p : Nat} {cs : Array Value} {w w' : World} (h : w.heap[p]? = some (.cells cs 54 (0, 0))) (he : Else w w') : w'.heap[p]? = some (.cells cs 54 (0, 0)) := by
  have nt : ∀ T, T ≠ 54 → ¬ Typed w p T := fun T hT ht => by
    obtain ⟨c, hc⟩ := ht
    rw [h] at hc
    simp only [Option.some.injEq, Obj.cells.injEq] at hc
    exact hT hc.2.1.symm
  exact (he p (Array.getElem?_eq_some_iff.1 h).1 (nt _ (by decide)) (nt _ (by decide))).trans h
theorem row_at_else {b : Nat} {x : Rw} {w w' : World} (h : RowAt b x w) (he : Else w w') : RowAt b x w' := by
  have nt : ∀ T, T ≠ 43 → ¬ Typed w b T := fun T hT ht => by
    obtain ⟨c, hc⟩ := ht
    unfold RowAt at h
    rw [h] at hc
    simp only [Option.some.injEq, Obj.cells.injEq] at hc
    exact hT hc.2.1.symm
  exact (he b (Array.getElem?_eq_some_iff.1 h).1 (nt _ (by decide)) (nt _ (by decide))).trans h
theorem tab_cell0 {p : Nat} {v a b c : Value} {T : TypeId} {w : World} (h : w.heap[p]? = some (.cells #[v, a, b, c] T (0, 0))) : w.cell? ⟨p, 0, none⟩ = some v := by unfold World.cell?; rw [h]; rfl
set_option maxHeartbeats 8000000 in
theorem insert_any {base p L : Nat} {zs : List (Nat × SL)} {l : SL} {i : Nat} {w : World} (hz : Zoo base zs w) (hb : base ≤ w.heap.size) (hi : zs[i]? = some (L, l)) (hT : TabAt p (some ⟨L, 0, none⟩) (rowsL l) w) (hbp : base ≤ p) (hn : l.length ≤ 1000000) (hs : ∀ y ∈ rowsL l, shortR y) (x : Rw) (hx : shortR x) (hf : thrL l x.key x.seq = false) (hgt : Int) :
    Calls Try.prog 35 #[.pointer (some ⟨p, 0, none⟩), rowV x, .int .i64 hgt] w fun e w' => e = .returned (.tuple #[]) ∧ Zoo base (zs.set i (L, putL l x (hgtOf hgt))) w' ∧ TabAt p (some ⟨L, 0, none⟩) (insR (rowsL l) x) w' ∧ Below base w w' ∧ Else3 p w w' := by
  have hpl : p < w.heap.size := (Array.getElem?_eq_some_iff.1 hT).1
  have hgl : (putL l x (hgtOf hgt)) = insL l x (hgtOf hgt) := by unfold putL; rw [if_neg (by rw [hf]; simp)]
  have rl := room_le hs
  have ll := ls_le hs
  have gl := gr_le hs
  have r1 := room_ins (rowsL l) x
  have l1 := ls_ins (rowsL l) x (short_in hx).2.2
  have g1 := gr_ins (rowsL l) x
  have hnl := rows_len l
  have LQ : TabQ (some ⟨p, 0, none⟩) (rowsL l) w := .inr ⟨p, some ⟨L, 0, none⟩, l, rfl, hT, hz.ls hi, rfl, by omega⟩
  obtain ⟨xk, xs, xi, xv⟩ := x
  dsimp only at l1 g1 hf
  have S0 : Hid (InS base p w.heap.size zs ⟨xk, xs, xi, xv⟩ L (roomR (rowsL l)) (lsR (rowsL l)) (grR (rowsL l)) w (w.alloc (.cells #[.string xk, .int .u64 (xs : Int), .int .i64 xi, .string xv] 43))) := Lib.hid ⟨hz.grow (below_alloc _ _), (below_alloc w _).block p hpl |>.trans hT, RowAt.new ⟨xk, xs, xi, xv⟩ w, But.of_below (below_alloc _ _) (Nat.le_refl _)⟩
  have LN := tlen_any (LQ.grow (below_alloc w (.cells #[.string xk, .int .u64 (xs : Int), .int .i64 xi, .string xv] 43)))
  have hxs := hx
  unfold shortR at hxs
  dsimp only at hxs
  have hsz : sizeR ⟨xk, xs, xi, xv⟩ = xk.size + xv.size + 16 := rfl
  obtain ⟨RM, hRM⟩ := named (roomR (rowsL l))
  obtain ⟨LS, hLS⟩ := named (lsR (rowsL l))
  obtain ⟨GR, hGR⟩ := named (grR (rowsL l))
  obtain ⟨K, hK⟩ := named (rowsL l).length
  obtain ⟨N, hN⟩ := named (roomR (insR (rowsL l) ⟨xk, xs, xi, xv⟩))
  obtain ⟨M, hM⟩ := named (lsR (insR (rowsL l) ⟨xk, xs, xi, xv⟩))
  obtain ⟨G, hG⟩ := named (grR (insR (rowsL l) ⟨xk, xs, xi, xv⟩))
  rw [← hRM.out, ← hLS.out, ← hGR.out] at S0
  rw [← hK.out] at LN rl
  rw [← hRM.out] at rl r1
  rw [← hLS.out, ← hK.out] at l1
  rw [← hLS.out] at ll
  rw [← hGR.out] at gl g1
  rw [← hN.out] at r1
  rw [← hM.out] at l1
  rw [← hG.out] at g1
  have LN := Lib.hid LN
  obtain ⟨c0, c1, c2, c3, cf⟩ := S0.out.cells
  have z0 := S0.out.row.cells.1.2.1
  have hN2 : (RM : Int) + (((xk.size : Int) + (xv.size : Int)) + 16) = (N : Int) := by omega
  have hKl : K ≤ 1000000 := by rw [hK.out, rows_len]; exact hn
  have hNb : N ≤ 9223372036854775807 := by omega
  have MX : ∀ u : World, (Builtin.max_ #[28, 28] 28 #[.int .u64 (GR : Int), .int .u64 (xs : Int)]).run Try.prog u = .ok (.int .u64 (G : Int)) u := fun u => by
    rw [run_max_int2]
    congr 2
    split <;> omega
  replace r1 := Lib.hid r1
  replace g1 := Lib.hid g1
  replace rl := Lib.hid rl
  replace ll := Lib.hid ll
  replace gl := Lib.hid gl
  replace hx := Lib.hid hx
  replace hxs := Lib.hid hxs
  replace hsz := Lib.hid hsz
  replace hnl := Lib.hid hnl
  replace hT := Lib.hid hT
  replace hz := Lib.hid hz
  replace LQ := Lib.hid LQ
  replace hpl := Lib.hid hpl
  replace hgl := Lib.hid hgl
  replace hf := Lib.hid hf
  replace hs := Lib.hid hs
  replace hN2' := Lib.hid hN2
  by_cases hk : K = 0
  · subst hk
    have MN : ∀ u : World, (Builtin.min_ #[28, 28] 28 #[.int .u64 (xs : Int), .int .u64 (xs : Int)]).run Try.prog u = .ok (.int .u64 (M : Int)) u := fun u => by
      rw [run_min_int2, l1]
      simp
    replace l1 := Lib.hid l1
    go_enter Try.func35, Try.ntmps35
    go_upto_region 3 with (go_at_call 25; ((with_reducible refine LN.out.mono ?_); rintro e w2 ⟨rfl, rfl⟩))
    have D0 := Lib.hid (S0.out.set2 xs)
    generalize (w.alloc (.cells #[.string xk, .int .u64 (xs : Int), .int .i64 xi, .string xv] 43)).setCell ⟨p, 2, none⟩ (.int .u64 (xs : Int)) = V0 at D0 ⊢
    clear LN S0 z0 c0 c1 c2 c3 cf
    obtain ⟨c0, c1, c2, c3, cf⟩ := D0.out.cells
    obtain ⟨⟨r0, r1, r2, r3⟩, r4⟩ := D0.out.row.cells
    go_region
    have D2 := Lib.hid ((D0.out.set2 M).set3 G).drew
    clear c0 c1 c2 c3 cf r0 r1 r2 r3 r4 D0
    go_upto_region 4 with fail
    generalize ((V0.setCell ⟨p, 2, none⟩ (.int .u64 (M : Int))).setCell ⟨p, 3, none⟩ (.int .u64 (G : Int))).drew = V2 at D2 ⊢
    obtain ⟨c0, c1, c2, c3, cf⟩ := D2.out.cells
    obtain ⟨⟨r0, r1, r2, r3⟩, r4⟩ := D2.out.row.cells
    go_still_tail 13, (by kernel_rfl)
    change wpList _ _ _ _ _ V2.drew
    have D3 := Lib.hid D2.out.drew
    clear c0 c1 c2 c3 cf r0 r1 r2 r3 r4 D2
    generalize V2.drew = V3 at D3 ⊢
    have D4 := Lib.hid (D3.out.set1 N)
    obtain ⟨c0, c1, c2, c3, cf⟩ := D3.out.cells
    go_upto_region 5 with fail
    rw [hN2]
    generalize V3.setCell ⟨p, 1, none⟩ (.int .i64 (N : Int)) = V4 at D4 ⊢
    clear c0 c1 c2 c3 cf D3
    have D5 := Lib.hid D4.out.drew
    have hb5 : base ≤ V4.drew.heap.size := Nat.le_trans hb D5.out.but.size
    have PU := Lib.hid (D5.out.zoo.putF hb5 hi (by omega) ⟨xk, xs, xi, xv⟩ (short_in hx.out).1 (short_in hx.out).2.1 (short_in hx.out).2.2 hgt)
    refine wp_region_held_drew (S := (fun v => v.cell? ⟨p, 0, none⟩ = some (.pointer (some ⟨L, 0, none⟩)) ∧ v.cell? ⟨w.heap.size, 0, none⟩ = some (.string xk) ∧ v.cell? ⟨w.heap.size, 1, none⟩ = some (.int .u64 (xs : Int)) ∧ v.cell? ⟨w.heap.size, 2, none⟩ = some (.int .i64 xi) ∧ v.cell? ⟨w.heap.size, 3, none⟩ = some (.string xv))) (by kernel_rfl) (⟨D5.out.cells.1, D5.out.row.cells.1⟩) (fun hHeld => ?_)
    refine held_take (i := 0) (v := ?_) rfl (by kernel_rfl) (by kernel_rfl) (by kernel_rfl) (fun _ _ _ h => h) (by rfl) (fun w hSw => ?_) (by assumption) ?_; rotate_left 1; focus (((try dsimp only at hSw); first | (go_simp; done) | (go_simp; with_reducible rfl)))
    try simp only [Act.put, List.setIfInBounds_toArray, List.set_cons_zero, List.set_cons_succ]
    refine held_take (i := 1) (v := ?_) rfl (by kernel_rfl) (by kernel_rfl) (by kernel_rfl) (fun _ _ _ h => h) (by rfl) (fun w hSw => ?_) (by assumption) ?_; rotate_left 1; focus (((try dsimp only at hSw); first | (go_simp; done) | (go_simp; with_reducible rfl)))
    try simp only [Act.put, List.setIfInBounds_toArray, List.set_cons_zero, List.set_cons_succ]
    refine held_take (i := 2) (v := ?_) rfl (by kernel_rfl) (by kernel_rfl) (by kernel_rfl) (fun _ _ _ h => h) (by rfl) (fun w hSw => ?_) (by assumption) ?_; rotate_left 1; focus (((try dsimp only at hSw); first | (go_simp; done) | (go_simp; with_reducible rfl)))
    try simp only [Act.put, List.setIfInBounds_toArray, List.set_cons_zero, List.set_cons_succ]
    refine held_take (i := 3) (v := ?_) rfl (by kernel_rfl) (by kernel_rfl) (by kernel_rfl) (fun _ _ _ h => h) (by rfl) (fun w hSw => ?_) (by assumption) ?_; rotate_left 1; focus (((try dsimp only at hSw); first | (go_simp; done) | (go_simp; with_reducible rfl)))
    try simp only [Act.put, List.setIfInBounds_toArray, List.set_cons_zero, List.set_cons_succ]
    refine held_take (i := 4) (v := ?_) rfl (by kernel_rfl) (by kernel_rfl) (by kernel_rfl) (fun _ _ _ h => h) (by rfl) (fun w hSw => ?_) (by assumption) ?_; rotate_left 1; focus (((try dsimp only at hSw); first | (go_simp; done) | (go_simp; with_reducible rfl)))
    try simp only [Act.put, List.setIfInBounds_toArray, List.set_cons_zero, List.set_cons_succ]
    refine held_take (i := 5) (v := ?_) rfl (by kernel_rfl) (by kernel_rfl) (by kernel_rfl) (fun _ _ _ h => h) (by rfl) (fun w hSw => ?_) (by assumption) ?_; rotate_left 1; focus (((try dsimp only at hSw); first | (go_simp; done) | (go_simp; with_reducible rfl)))
    try simp only [Act.put, List.setIfInBounds_toArray, List.set_cons_zero, List.set_cons_succ]
    refine held_call (i := 6) (by kernel_rfl) rfl (by rfl) (fun K hK => ?_)
    go_simp
    (go_at_call 46; ((with_reducible refine PU.out.mono ?_); rintro e w6 ⟨rfl, Z6, B6, E6⟩; have T6 := tab_else D5.out.tab E6; have R6 := row_at_else D5.out.row E6))
    refine hK.out _ _ (⟨tab_cell0 T6, R6.cells.1⟩) (fun hHeld => ?_)
    try simp only [Act.put, List.setIfInBounds_toArray, List.set_cons_zero, List.set_cons_succ]
    refine wpAnyH_done (by kernel_rfl) ?_ _
    go_wp2_with fail
    go_returns
    refine ⟨rfl, Z6, ?_, but_base D5.out.but hbp hb B6, else3_of D5.out.but E6⟩
    unfold TabAt
    rw [← hN.out, ← hM.out, ← hG.out]
    exact T6
  · have hk0 : ((K : Int) == 0) = false := by rw [beq_eq_false_iff_ne]; omega
    have hk1 : ¬ ((K : Int) = 0) := by omega
    have MN : ∀ u : World, (Builtin.min_ #[28, 28] 28 #[.int .u64 (LS : Int), .int .u64 (xs : Int)]).run Try.prog u = .ok (.int .u64 (M : Int)) u := fun u => by
      rw [run_min_int2, l1, if_neg hk]
      congr 2
      split <;> omega
    replace l1 := Lib.hid l1
    go_enter Try.func35, Try.ntmps35
    go_upto_region 3 with (go_at_call 25; ((with_reducible refine LN.out.mono ?_); rintro e w2 ⟨rfl, rfl⟩))
    have D0 := Lib.hid S0.out
    generalize w.alloc (.cells #[.string xk, .int .u64 (xs : Int), .int .i64 xi, .string xv] 43) = V0 at D0 ⊢
    clear LN S0 z0 c0 c1 c2 c3 cf
    obtain ⟨c0, c1, c2, c3, cf⟩ := D0.out.cells
    obtain ⟨⟨r0, r1, r2, r3⟩, r4⟩ := D0.out.row.cells
    go_region
    have D2 := Lib.hid ((D0.out.set2 M).set3 G).drew
    clear c0 c1 c2 c3 cf r0 r1 r2 r3 r4 D0
    go_upto_region 4 with fail
    generalize ((V0.setCell ⟨p, 2, none⟩ (.int .u64 (M : Int))).setCell ⟨p, 3, none⟩ (.int .u64 (G : Int))).drew = V2 at D2 ⊢
    obtain ⟨c0, c1, c2, c3, cf⟩ := D2.out.cells
    obtain ⟨⟨r0, r1, r2, r3⟩, r4⟩ := D2.out.row.cells
    go_still_tail 13, (by kernel_rfl)
    change wpList _ _ _ _ _ V2.drew
    have D3 := Lib.hid D2.out.drew
    clear c0 c1 c2 c3 cf r0 r1 r2 r3 r4 D2
    generalize V2.drew = V3 at D3 ⊢
    have D4 := Lib.hid (D3.out.set1 N)
    obtain ⟨c0, c1, c2, c3, cf⟩ := D3.out.cells
    go_upto_region 5 with fail
    rw [hN2]
    generalize V3.setCell ⟨p, 1, none⟩ (.int .i64 (N : Int)) = V4 at D4 ⊢
    clear c0 c1 c2 c3 cf D3
    have D5 := Lib.hid D4.out.drew
    have hb5 : base ≤ V4.drew.heap.size := Nat.le_trans hb D5.out.but.size
    have PU := Lib.hid (D5.out.zoo.putF hb5 hi (by omega) ⟨xk, xs, xi, xv⟩ (short_in hx.out).1 (short_in hx.out).2.1 (short_in hx.out).2.2 hgt)
    refine wp_region_held_drew (S := (fun v => v.cell? ⟨p, 0, none⟩ = some (.pointer (some ⟨L, 0, none⟩)) ∧ v.cell? ⟨w.heap.size, 0, none⟩ = some (.string xk) ∧ v.cell? ⟨w.heap.size, 1, none⟩ = some (.int .u64 (xs : Int)) ∧ v.cell? ⟨w.heap.size, 2, none⟩ = some (.int .i64 xi) ∧ v.cell? ⟨w.heap.size, 3, none⟩ = some (.string xv))) (by kernel_rfl) (⟨D5.out.cells.1, D5.out.row.cells.1⟩) (fun hHeld => ?_)
    refine held_take (i := 0) (v := ?_) rfl (by kernel_rfl) (by kernel_rfl) (by kernel_rfl) (fun _ _ _ h => h) (by rfl) (fun w hSw => ?_) (by assumption) ?_; rotate_left 1; focus (((try dsimp only at hSw); first | (go_simp; done) | (go_simp; with_reducible rfl)))
    try simp only [Act.put, List.setIfInBounds_toArray, List.set_cons_zero, List.set_cons_succ]
    refine held_take (i := 1) (v := ?_) rfl (by kernel_rfl) (by kernel_rfl) (by kernel_rfl) (fun _ _ _ h => h) (by rfl) (fun w hSw => ?_) (by assumption) ?_; rotate_left 1; focus (((try dsimp only at hSw); first | (go_simp; done) | (go_simp; with_reducible rfl)))
    try simp only [Act.put, List.setIfInBounds_toArray, List.set_cons_zero, List.set_cons_succ]
    refine held_take (i := 2) (v := ?_) rfl (by kernel_rfl) (by kernel_rfl) (by kernel_rfl) (fun _ _ _ h => h) (by rfl) (fun w hSw => ?_) (by assumption) ?_; rotate_left 1; focus (((try dsimp only at hSw); first | (go_simp; done) | (go_simp; with_reducible rfl)))
    try simp only [Act.put, List.setIfInBounds_toArray, List.set_cons_zero, List.set_cons_succ]
    refine held_take (i := 3) (v := ?_) rfl (by kernel_rfl) (by kernel_rfl) (by kernel_rfl) (fun _ _ _ h => h) (by rfl) (fun w hSw => ?_) (by assumption) ?_; rotate_left 1; focus (((try dsimp only at hSw); first | (go_simp; done) | (go_simp; with_reducible rfl)))
    try simp only [Act.put, List.setIfInBounds_toArray, List.set_cons_zero, List.set_cons_succ]
    refine held_take (i := 4) (v := ?_) rfl (by kernel_rfl) (by kernel_rfl) (by kernel_rfl) (fun _ _ _ h => h) (by rfl) (fun w hSw => ?_) (by assumption) ?_; rotate_left 1; focus (((try dsimp only at hSw); first | (go_simp; done) | (go_simp; with_reducible rfl)))
    try simp only [Act.put, List.setIfInBounds_toArray, List.set_cons_zero, List.set_cons_succ]
    refine held_take (i := 5) (v := ?_) rfl (by kernel_rfl) (by kernel_rfl) (by kernel_rfl) (fun _ _ _ h => h) (by rfl) (fun w hSw => ?_) (by assumption) ?_; rotate_left 1; focus (((try dsimp only at hSw); first | (go_simp; done) | (go_simp; with_reducible rfl)))
    try simp only [Act.put, List.setIfInBounds_toArray, List.set_cons_zero, List.set_cons_succ]
    refine held_call (i := 6) (by kernel_rfl) rfl (by rfl) (fun K hK => ?_)
    go_simp
    (go_at_call 46; ((with_reducible refine PU.out.mono ?_); rintro e w6 ⟨rfl, Z6, B6, E6⟩; have T6 := tab_else D5.out.tab E6; have R6 := row_at_else D5.out.row E6))
    refine hK.out _ _ (⟨tab_cell0 T6, R6.cells.1⟩) (fun hHeld => ?_)
    try simp only [Act.put, List.setIfInBounds_toArray, List.set_cons_zero, List.set_cons_succ]
    refine wpAnyH_done (by kernel_rfl) ?_ _
    go_wp2_with fail
    go_returns
    refine ⟨rfl, Z6, ?_, but_base D5.out.but hbp hb B6, else3_of D5.out.but E6⟩
    unfold TabAt
    rw [← hN.out, ← hM.out, ← hG.out]
    exact T6
end Go.Proofs.Ytdgbafpnfkedeaa
/-
  Tables in memory that share no block, each as its rows; New, insert on one of them. Condition: at most 1000000 rows.
-/
namespace Go.Proofs.Ytdgbafpnfkedeaa
set_option maxRecDepth 100000
open Go.RowKit
attribute [local go_sem] eq_node ne_node eq_list eq_table
/-- Tables: where each lies, and its rows. -/
def Tb (base : Nat) (ts : List (Nat × List Rw)) (w : World) : Prop :=
  ∃ zs : List (Nat × SL), Zoo base zs w ∧ zs.length = ts.length ∧
    (∀ (i p : Nat) (R : List Rw), ts[i]? = some (p, R) → ∃ L l, zs[i]? = some (L, l) ∧ rowsL l = R ∧ TabAt p (some ⟨L, 0, none⟩) R w ∧ base ≤ p ∧ ∀ x ∈ R, shortR x) ∧
    ∀ (i j p : Nat) (R : List Rw) (p' : Nat) (R' : List Rw), i ≠ j → ts[i]? = some (p, R) → ts[j]? = some (p', R') → p ≠ p'
/-- What the calls on tables leave: whatever is no list, no node and no table. -/
def Else4 (w w' : World) : Prop := ∀ k, k < w.heap.size → ¬ Typed w k 71 → ¬ Typed w k 97 → ¬ Typed w k 54 → w'.heap[k]? = w.heap[k]?
theorem Else4.of_below {B : Nat} {w w' : World} (h : Below B w w') (hB : w.heap.size ≤ B) : Else4 w w' := fun k hk _ _ _ => h.block k (Nat.lt_of_lt_of_le hk hB)
theorem Else4.refl (w : World) : Else4 w w := fun _ _ _ _ _ => rfl
theorem typed_else4 {w w' : World} (h : Else4 w w') {b : Nat} {cs : Array Value} {T : TypeId} (hc : w.heap[b]? = some (.cells cs T (0, 0))) (h1 : T ≠ 71) (h2 : T ≠ 97) (h3 : T ≠ 54) : w'.heap[b]? = w.heap[b]? := by
  have nt : ∀ U, T ≠ U → ¬ Typed w b U := fun U hU ht => by
    obtain ⟨c, hu⟩ := ht
    rw [hc] at hu
    simp only [Option.some.injEq, Obj.cells.injEq] at hu
    exact hU hu.2.1
  exact h b (Array.getElem?_eq_some_iff.1 hc).1 (nt _ h1) (nt _ h2) (nt _ h3)
/-- What stands behind such a call, of a block of another type, and of one that is old. -/
theorem Else4.trans {w w1 w2 : World} (h : Else4 w w1) (h' : Else4 w1 w2) (hs : w.heap.size ≤ w1.heap.size) : Else4 w w2 := fun k hk n1 n2 n3 => by
  have e := h k hk n1 n2 n3
  have t : ∀ T, Typed w1 k T → Typed w k T := fun T ht => by
    obtain ⟨cs, hc⟩ := ht
    exact ⟨cs, e ▸ hc⟩
  exact (h' k (Nat.lt_of_lt_of_le hk hs) (fun x => n1 (t _ x)) (fun x => n2 (t _ x)) (fun x => n3 (t _ x))).trans e
theorem Tb.grow {base : Nat} {ts : List (Nat × List Rw)} {w w' : World} (h : Tb base ts w) (hb : Below w.heap.size w w') : Tb base ts w' := by
  obtain ⟨zs, h1, h2, h3, h4⟩ := h
  refine ⟨zs, h1.grow hb, h2, fun i p R e => ?_, h4⟩
  obtain ⟨L, l, k1, k2, k3, k4⟩ := h3 i p R e
  exact ⟨L, l, k1, k2, k3.grow hb, k4⟩
theorem Tb.nil (base : Nat) (w : World) : Tb base [] w := ⟨[], Zoo.nil base w, rfl, fun i p R e => by simp at e, fun i j p R p' R' _ e => by simp at e⟩
theorem Tb.sort {base : Nat} {ts : List (Nat × List Rw)} {w : World} (h : Tb base ts w) {i p : Nat} {R : List Rw} (e : ts[i]? = some (p, R)) : SortedR R := by
  obtain ⟨zs, h1, h2, h3, h4⟩ := h
  obtain ⟨L, l, k1, k2, k3, k4⟩ := h3 i p R e
  rw [← k2]
  exact (h1.ls k1).sort
theorem Tb.short {base : Nat} {ts : List (Nat × List Rw)} {w : World} (h : Tb base ts w) {i p : Nat} {R : List Rw} (e : ts[i]? = some (p, R)) : ∀ x ∈ R, shortR x := by
  obtain ⟨zs, h1, h2, h3, h4⟩ := h
  obtain ⟨L, l, k1, k2, k3, k4, k5⟩ := h3 i p R e
  exact k5
theorem Tb.q {base : Nat} {ts : List (Nat × List Rw)} {w : World} (h : Tb base ts w) {i p : Nat} {R : List Rw} (e : ts[i]? = some (p, R)) (hn : R.length ≤ 1048575) : TabQ (some ⟨p, 0, none⟩) R w := by
  obtain ⟨zs, h1, h2, h3, h4⟩ := h
  obtain ⟨L, l, k1, k2, k3, k4⟩ := h3 i p R e
  exact .inr ⟨p, some ⟨L, 0, none⟩, l, rfl, k3, h1.ls k1, k2, hn⟩
/-- A table's own cells. -/
theorem Tb.at {base : Nat} {ts : List (Nat × List Rw)} {w : World} (h : Tb base ts w) {i p : Nat} {R : List Rw} (e : ts[i]? = some (p, R)) : ∃ L l, TabAt p (some ⟨L, 0, none⟩) R w ∧ Ls (some ⟨L, 0, none⟩) l w ∧ rowsL l = R := by
  obtain ⟨zs, h1, h2, h3, h4⟩ := h
  obtain ⟨L, l, k1, k2, k3, k4⟩ := h3 i p R e
  exact ⟨L, l, k3, h1.ls k1, k2⟩
theorem tb_insert {base : Nat} {ts : List (Nat × List Rw)} {w : World} (h : Tb base ts w) (hb : base ≤ w.heap.size) {i p : Nat} {R : List Rw} (hi : ts[i]? = some (p, R)) (hn : R.length ≤ 1000000) (x : Rw) (hx : shortR x) (hf : thr R x.key x.seq = false) (hgt : Int) :
    Calls Try.prog 35 #[.pointer (some ⟨p, 0, none⟩), rowV x, .int .i64 hgt] w fun e w' => e = .returned (.tuple #[]) ∧ Tb base (ts.set i (p, insR R x)) w' ∧ Below base w w' ∧ Else4 w w' := by
  obtain ⟨zs, h1, h2, h3, h4⟩ := h
  obtain ⟨L, l, k1, rfl, k3, k4, k5⟩ := h3 i p R hi
  have hil := (List.getElem?_eq_some_iff.1 hi).1
  refine (insert_any h1 hb k1 k3 k4 (by rw [← rows_len]; exact hn) k5 x hx hf hgt).mono fun e w' hd => ?_
  obtain ⟨he, hz, hT, hB, hE⟩ := hd
  refine ⟨he, ⟨_, hz, by rw [List.length_set, List.length_set, h2], fun j p' R' e' => ?_, fun j m p1 R1 p2 R2 hjm e1 e2 => ?_⟩, hB, fun k hk n1 n2 n3 => hE k hk (fun e => n3 (e ▸ ⟨_, k3⟩)) n1 n2⟩
  · by_cases hj : j = i
    · subst hj
      rw [List.getElem?_set_self hil] at e'
      cases e'
      refine ⟨L, putL l x (hgtOf hgt), by rw [List.getElem?_set_self (by omega)], ?_, hT, k4, fun y hy => ?_⟩
      · rw [rows_putL, if_neg (by rw [hf]; simp)]
      · rcases List.mem_cons.1 ((insR_perm _ _).mem_iff.1 hy) with rfl | h
        · exact hx
        · exact k5 y h
    · rw [List.getElem?_set_ne (Ne.symm hj)] at e'
      obtain ⟨L', l', m1, m2, m3, m4⟩ := h3 j p' R' e'
      refine ⟨L', l', by rw [List.getElem?_set_ne (Ne.symm hj)]; exact m1, m2, ?_, m4⟩
      have ne : p' ≠ p := h4 j i p' R' p _ hj e' hi
      have nt : ∀ U, 54 ≠ U → ¬ Typed w p' U := fun U hU ht => by
        obtain ⟨c, hu⟩ := ht
        unfold TabAt at m3
        rw [m3] at hu
        simp only [Option.some.injEq, Obj.cells.injEq] at hu
        exact hU hu.2.1
      exact (hE p' (Array.getElem?_eq_some_iff.1 m3).1 ne (nt _ (by decide)) (nt _ (by decide))).trans m3
  · have ns : ∀ j p1 R1, (ts.set i (p, insR (rowsL l) x))[j]? = some (p1, R1) → ∃ R0, ts[j]? = some (p1, R0) := fun j p1 R1 e => by
      by_cases hj : j = i
      · subst hj
        rw [List.getElem?_set_self hil] at e
        cases e
        exact ⟨_, hi⟩
      · rw [List.getElem?_set_ne (Ne.symm hj)] at e
        exact ⟨_, e⟩
    obtain ⟨_, f1⟩ := ns j p1 R1 e1
    obtain ⟨_, f2⟩ := ns m p2 R2 e2
    exact h4 j m p1 _ p2 _ hjm f1 f2
set_option maxHeartbeats 4000000 in
theorem new_tb {base : Nat} {ts : List (Nat × List Rw)} {w : World} (h : Tb base ts w) (hb : base ≤ w.heap.size) :
    Calls Try.prog 10 #[] w fun e w' => ∃ p, e = .returned (.pointer (some ⟨p, 0, none⟩)) ∧ Tb base (ts ++ [(p, [])]) w' ∧ Below w.heap.size w w' := by
  have fin : Hid (Tb base (ts ++ [(w.heap.size + 1, [])]) ((w.alloc (.cells #[.pointer none, .pointer none, .pointer none, .pointer none, .pointer none, .pointer none, .pointer none, .pointer none, .pointer none, .pointer none, .pointer none, .pointer none, .int .i64 0, .int .i64 0] 71)).alloc (.cells #[.pointer (some ⟨w.heap.size, 0, none⟩), .int .i64 0, .int .u64 0, .int .u64 0] 54)) ∧ Below w.heap.size w ((w.alloc (.cells #[.pointer none, .pointer none, .pointer none, .pointer none, .pointer none, .pointer none, .pointer none, .pointer none, .pointer none, .pointer none, .pointer none, .pointer none, .int .i64 0, .int .i64 0] 71)).alloc (.cells #[.pointer (some ⟨w.heap.size, 0, none⟩), .int .i64 0, .int .u64 0, .int .u64 0] 54))) := by
    obtain ⟨zs, h1, h2, h3, h4⟩ := h
    have z1 := h1.new hb
    have b1 := below_alloc w (.cells #[.pointer none, .pointer none, .pointer none, .pointer none, .pointer none, .pointer none, .pointer none, .pointer none, .pointer none, .pointer none, .pointer none, .pointer none, .int .i64 0, .int .i64 0] 71)
    have s1 := World.size_alloc w (.cells #[.pointer none, .pointer none, .pointer none, .pointer none, .pointer none, .pointer none, .pointer none, .pointer none, .pointer none, .pointer none, .pointer none, .pointer none, .int .i64 0, .int .i64 0] 71)
    generalize w.alloc (.cells #[.pointer none, .pointer none, .pointer none, .pointer none, .pointer none, .pointer none, .pointer none, .pointer none, .pointer none, .pointer none, .pointer none, .pointer none, .int .i64 0, .int .i64 0] 71) = W at z1 b1 s1 ⊢
    have b2 := below_alloc W (.cells #[.pointer (some ⟨w.heap.size, 0, none⟩), .int .i64 0, .int .u64 0, .int .u64 0] 54)
    have hT := heap_alloc_new W (.cells #[.pointer (some ⟨w.heap.size, 0, none⟩), .int .i64 0, .int .u64 0, .int .u64 0] 54)
    rw [s1] at hT
    have bb := below_of b1 b2
    refine Lib.hid ⟨⟨_, z1.grow b2, by rw [List.length_append, List.length_append, h2]; rfl, fun i p R e => ?_, fun i j p R p' R' hij e e' => ?_⟩, bb⟩
    · by_cases hi : i < ts.length
      · rw [List.getElem?_append_left hi] at e
        obtain ⟨L, l, k1, k2, k3, k4⟩ := h3 i p R e
        exact ⟨L, l, by rw [List.getElem?_append_left (by omega)]; exact k1, k2, k3.grow bb, k4⟩
      · rw [List.getElem?_append_right (by omega)] at e
        have hi2 : i = ts.length := by
          have := (List.getElem?_eq_some_iff.1 e).1
          simp at this; omega
        subst hi2
        simp at e
        obtain ⟨rfl, rfl⟩ := e
        refine ⟨w.heap.size, [], ?_, rfl, hT, by omega, fun x hx => by cases hx⟩
        rw [← h2]
        simp
    · have lt : ∀ i p R, ts[i]? = some (p, R) → p < w.heap.size := fun i p R e => by
        obtain ⟨L, l, k1, k2, k3, k4⟩ := h3 i p R e
        exact (Array.getElem?_eq_some_iff.1 k3).1
      have get : ∀ i p R, (ts ++ [(w.heap.size + 1, ([] : List Rw))])[i]? = some (p, R) → (i < ts.length ∧ ts[i]? = some (p, R)) ∨ (i = ts.length ∧ p = w.heap.size + 1) := fun i p R e => by
        by_cases hi : i < ts.length
        · exact .inl ⟨hi, by rwa [List.getElem?_append_left hi] at e⟩
        · rw [List.getElem?_append_right (by omega)] at e
          have hi2 : i = ts.length := by
            have := (List.getElem?_eq_some_iff.1 e).1
            simp at this; omega
          subst hi2
          simp at e
          exact .inr ⟨rfl, e.1.symm⟩
      rcases get i p R e with ⟨hi, e1⟩ | ⟨rfl, rfl⟩ <;> rcases get j p' R' e' with ⟨hj, e2⟩ | ⟨rfl, rfl⟩
      · exact h4 i j p R p' R' hij e1 e2
      · have := lt i p R e1; omega
      · have := lt j p' R' e2; omega
      · exact absurd rfl hij
  clear h
  go_enter Try.func10, Try.ntmps10
  go_wp2_with fail
  go_returns
  exact ⟨_, rfl, fin.out.1, fin.out.2⟩
end Go.Proofs.Ytdgbafpnfkedeaa
/-
  'append(a, b...)': a the call's own row, b any slice: one law for whatever element. No condition.
-/
namespace Go.Proofs.Ytdgbafpnfkedeaa
set_option maxRecDepth 100000
open Go.RowKit
theorem wp_append_src {P : Program} {o : Oper} {a : Act} {w : World} {K : Act → World → Prop} {Q : Exit → Act → World → Prop} (s x : Operand) (t : TypeId)
    (ho : o.op = .call { callee := .builtin .append, args := #[s, x], argTypes := #[t, t] }) (B : Nat) (e : TypeId) (size bytes : Nat) (z : Value) (ht : P.underlying t = some (.slice e))
    (hinf : (P.info? e).map (fun i => (i.zero, i.size, i.bytes)) = some (some z, size, bytes)) (hzs : z.cells.size = size) (hsz : 0 < size) (hby : bytes ≤ 64)
    (v : Value) (k : Nat) (xs : List Value) (q : Option Addr) (n c : Nat) (ys : List Value) (hown : w.ownsRow B e size v k xs) (hq : q = none → n = 0 ∧ c = 0) (hl : ys.length = n * size) (hsrc : ∀ p, q = some p → ∀ j u, ys[j]? = some u → w.cell? (p.add j) = some u) (hs : a.eval s = v) (hx : a.eval x = .slice q n c) (h1 : ∀ u ∈ ys, u.oneCell' = true) (hk : k ≤ 1048576) (hn : n ≤ 1048576) (hB : B ≤ w.heap.size)
    (h : ∀ v' w', w'.ownsRow B e size v' (k + n) (xs ++ ys) → w.grownBy w' v.ownBlock → (∃ va vc, v' = .slice va (k + n) vc) → K (a.put o.dst v') w') : o.wp P a w K Q := by
  obtain ⟨i0, hi, hz0, hz1, hz2⟩ := info_parts hinf
  have shape : ∀ {v' : Value} {w' : World} {l : List Value}, w'.ownsRow B e size v' (k + n) l → ∃ va vc, v' = .slice va (k + n) vc := fun hr => by
    rcases hr.2 with ⟨e1, e0⟩ | ⟨g', cap, cur, e1, _⟩
    · exact ⟨none, 0, by rw [e1, e0]⟩
    · exact ⟨_, _, e1⟩
  cases q with
  | none =>
    obtain ⟨rfl, rfl⟩ := hq rfl
    have hy : ys = [] := List.length_eq_zero_iff.1 (by rw [hl, Nat.zero_mul])
    subst hy
    have hrun : (Builtin.append_ #[t, t] o.type #[v, .slice none 0 0]).run P w = .ok v w := by
      rcases hown.2 with ⟨rfl, _⟩ | ⟨g, cap, cur, rfl, _, _, hle, _⟩
      · exact run_append_nothing w _ _ _ e i0 ht hi none 0 0 (Nat.le_refl _) _ (Src.ofNil w ht 0)
      · exact run_append_nothing w _ _ _ e i0 ht hi _ k cap hle _ (Src.ofNil w ht 0)
    have h2 : w.ownsRow B e size v (k + 0) (xs ++ []) := by rw [Nat.add_zero, List.append_nil]; exact hown
    unfold Oper.wp
    simp [execOp, ho, resolve, invoke, builtin, hs, hx, hrun, Result.andThen]
    exact h v w h2 ⟨rfl, rfl, rfl, Nat.le_refl _, fun _ _ _ => rfl⟩ (shape h2)
  | some p =>
    have hb2 : (k + n) * bytes ≤ 140737488355328 := Nat.le_trans (Nat.mul_le_mul_left (k + n) hby) (by omega)
    exact wp_append_own w s x t ho B e i0 z size bytes ht hi hz0 hz1 hz2 hzs hsz v k xs hs hown p n c ys hx hl (hsrc p rfl) h1 (by unfold maxLen; omega) hb2 hB fun v' w' a1 a2 _ => h v' w' a1 a2 (shape a1)
theorem wpList_append_src {P : Program} {ops : Array Oper} {rest : List Oper} {o : Oper} {a : Act} {w : World} {Q : Exit → Act → World → Prop} (hgd : o.guard = none) (s x : Operand) (t : TypeId)
    (ho : o.op = .call { callee := .builtin .append, args := #[s, x], argTypes := #[t, t] }) (B : Nat) (e : TypeId) (size bytes : Nat) (z : Value) (ht : P.underlying t = some (.slice e))
    (hinf : (P.info? e).map (fun i => (i.zero, i.size, i.bytes)) = some (some z, size, bytes)) (hzs : z.cells.size = size) (hsz : 0 < size) (hby : bytes ≤ 64)
    (v : Value) (k : Nat) (xs : List Value) (q : Option Addr) (n c : Nat) (ys : List Value) (hown : w.ownsRow B e size v k xs) (hq : q = none → n = 0 ∧ c = 0) (hl : ys.length = n * size) (hsrc : ∀ p, q = some p → ∀ j u, ys[j]? = some u → w.cell? (p.add j) = some u) (hs : a.eval s = v) (hx : a.eval x = .slice q n c) (h1 : ∀ u ∈ ys, u.oneCell' = true) (hk : k ≤ 1048576) (hn : n ≤ 1048576) (hB : B ≤ w.heap.size)
    (h : ∀ v' w', w'.ownsRow B e size v' (k + n) (xs ++ ys) → w.grownBy w' v.ownBlock → (∃ va vc, v' = .slice va (k + n) vc) → wpList P ops Q rest (a.put o.dst v') w') : wpList P ops Q (o :: rest) a w :=
  wpList_plain hgd fun _ hK => wp_append_src s x t ho B e size bytes z ht hinf hzs hsz hby v k xs q n c ys hown hq hl hsrc hs hx h1 hk hn hB fun v' w' a1 a2 a3 => hK _ _ (h v' w' a1 a2 a3)
theorem step_append_src {P : Program} {ops : Array Oper} {o : Oper} {a : Act} {w : World} {K : Act → World → Prop} {Q : Exit → Act → World → Prop} {E : Prop} (hgd : o.guard = none) (s x : Operand) (t : TypeId)
    (ho : o.op = .call { callee := .builtin .append, args := #[s, x], argTypes := #[t, t] }) (B : Nat) (e : TypeId) (size bytes : Nat) (z : Value) (ht : P.underlying t = some (.slice e))
    (hinf : (P.info? e).map (fun i => (i.zero, i.size, i.bytes)) = some (some z, size, bytes)) (hzs : z.cells.size = size) (hsz : 0 < size) (hby : bytes ≤ 64)
    (v : Value) (k : Nat) (xs : List Value) (q : Option Addr) (n c : Nat) (ys : List Value) (hown : w.ownsRow B e size v k xs) (hq : q = none → n = 0 ∧ c = 0) (hl : ys.length = n * size) (hsrc : ∀ p, q = some p → ∀ j u, ys[j]? = some u → w.cell? (p.add j) = some u) (hs : a.eval s = v) (hx : a.eval x = .slice q n c) (h1 : ∀ u ∈ ys, u.oneCell' = true) (hk : k ≤ 1048576) (hn : n ≤ 1048576) (hB : B ≤ w.heap.size)
    (h : ∀ v' w', w'.ownsRow B e size v' (k + n) (xs ++ ys) → w.grownBy w' v.ownBlock → (∃ va vc, v' = .slice va (k + n) vc) → K (a.put o.dst v') w') :
    if Region.wanted o (yielded ops a.tmps) = true then Oper.wp P o a w K Q else E := by
  have hw : Region.wanted o (yielded ops a.tmps) = true := by simp [Region.wanted, hgd]
  rw [if_pos hw]
  exact wp_append_src s x t ho B e size bytes z ht hinf hzs hsz hby v k xs q n c ys hown hq hl hsrc hs hx h1 hk hn hB h
end Go.Proofs.Ytdgbafpnfkedeaa
/-
  'append(a, b...)': a the call's own row, b another row, nil or not: one law for whatever element. No condition.
-/
namespace Go.Proofs.Ytdgbafpnfkedeaa
set_option maxRecDepth 100000
open Go.RowKit
theorem wp_append_two {P : Program} {o : Oper} {a : Act} {w : World} {K : Act → World → Prop} {Q : Exit → Act → World → Prop} (s x : Operand) (t : TypeId)
    (ho : o.op = .call { callee := .builtin .append, args := #[s, x], argTypes := #[t, t] }) (B B' : Nat) (e : TypeId) (size bytes : Nat) (z : Value) (ht : P.underlying t = some (.slice e))
    (hinf : (P.info? e).map (fun i => (i.zero, i.size, i.bytes)) = some (some z, size, bytes)) (hzs : z.cells.size = size) (hsz : 0 < size) (hby : bytes ≤ 64)
    (v : Value) (k : Nat) (xs : List Value) (sv : Value) (n : Nat) (ys : List Value) (hown : w.ownsRow B e size v k xs) (hsrc : w.ownsRow B' e size sv n ys) (hs : a.eval s = v) (hx : a.eval x = sv) (h1 : ∀ u ∈ ys, u.oneCell' = true) (hk : k ≤ 1048576) (hn : n ≤ 1048576) (hB : B ≤ w.heap.size)
    (h : ∀ v' w', w'.ownsRow B e size v' (k + n) (xs ++ ys) → w.grownBy w' v.ownBlock → (∃ va vc, v' = .slice va (k + n) vc) → K (a.put o.dst v') w') : o.wp P a w K Q := by
  obtain ⟨i0, hi, hz0, hz1, hz2⟩ := info_parts hinf
  have shape : ∀ {v' : Value} {w' : World} {l : List Value}, w'.ownsRow B e size v' (k + n) l → ∃ va vc, v' = .slice va (k + n) vc := fun hr => by
    rcases hr.2 with ⟨e1, e0⟩ | ⟨g', cap, cur, e1, _⟩
    · exact ⟨none, 0, by rw [e1, e0]⟩
    · exact ⟨_, _, e1⟩
  rcases hsrc.2 with ⟨rfl, rfl⟩ | ⟨g, cap, cur, rfl, hg, hb, hle, hm, hcs, htk⟩
  · have hy : ys = [] := List.length_eq_zero_iff.1 (by simpa using hsrc.1)
    subst hy
    have hrun : (Builtin.append_ #[t, t] o.type #[v, .slice none 0 0]).run P w = .ok v w := by
      rcases hown.2 with ⟨rfl, _⟩ | ⟨g, cap, cur, rfl, _, _, hle, _⟩
      · exact run_append_nothing w _ _ _ e i0 ht hi none 0 0 (Nat.le_refl _) _ (Src.ofNil w ht 0)
      · exact run_append_nothing w _ _ _ e i0 ht hi _ k cap hle _ (Src.ofNil w ht 0)
    have h2 : w.ownsRow B e size v (k + 0) (xs ++ []) := by rw [Nat.add_zero, List.append_nil]; exact hown
    unfold Oper.wp
    simp [execOp, ho, resolve, invoke, builtin, hs, hx, hrun, Result.andThen]
    exact h v w h2 ⟨rfl, rfl, rfl, Nat.le_refl _, fun _ _ _ => rfl⟩ (shape h2)
  · have hb2 : (k + n) * bytes ≤ 140737488355328 := Nat.le_trans (Nat.mul_le_mul_left (k + n) hby) (by omega)
    exact wp_append_own w s x t ho B e i0 z size bytes ht hi hz0 hz1 hz2 hzs hsz v k xs hs hown ⟨g, 0, none⟩ n cap ys hx hsrc.1 (fun j u hj => World.ownsRow.cells hsrc (g := g) rfl j u hj) h1 (by unfold maxLen; omega) hb2 hB fun v' w' a1 a2 _ => h v' w' a1 a2 (shape a1)
theorem wpList_append_two {P : Program} {ops : Array Oper} {rest : List Oper} {o : Oper} {a : Act} {w : World} {Q : Exit → Act → World → Prop} (hgd : o.guard = none) (s x : Operand) (t : TypeId)
    (ho : o.op = .call { callee := .builtin .append, args := #[s, x], argTypes := #[t, t] }) (B B' : Nat) (e : TypeId) (size bytes : Nat) (z : Value) (ht : P.underlying t = some (.slice e))
    (hinf : (P.info? e).map (fun i => (i.zero, i.size, i.bytes)) = some (some z, size, bytes)) (hzs : z.cells.size = size) (hsz : 0 < size) (hby : bytes ≤ 64)
    (v : Value) (k : Nat) (xs : List Value) (sv : Value) (n : Nat) (ys : List Value) (hown : w.ownsRow B e size v k xs) (hsrc : w.ownsRow B' e size sv n ys) (hs : a.eval s = v) (hx : a.eval x = sv) (h1 : ∀ u ∈ ys, u.oneCell' = true) (hk : k ≤ 1048576) (hn : n ≤ 1048576) (hB : B ≤ w.heap.size)
    (h : ∀ v' w', w'.ownsRow B e size v' (k + n) (xs ++ ys) → w.grownBy w' v.ownBlock → (∃ va vc, v' = .slice va (k + n) vc) → wpList P ops Q rest (a.put o.dst v') w') : wpList P ops Q (o :: rest) a w :=
  wpList_plain hgd fun _ hK => wp_append_two s x t ho B B' e size bytes z ht hinf hzs hsz hby v k xs sv n ys hown hsrc hs hx h1 hk hn hB fun v' w' a1 a2 a3 => hK _ _ (h v' w' a1 a2 a3)
theorem step_append_two {P : Program} {ops : Array Oper} {o : Oper} {a : Act} {w : World} {K : Act → World → Prop} {Q : Exit → Act → World → Prop} {E : Prop} (hgd : o.guard = none) (s x : Operand) (t : TypeId)
    (ho : o.op = .call { callee := .builtin .append, args := #[s, x], argTypes := #[t, t] }) (B B' : Nat) (e : TypeId) (size bytes : Nat) (z : Value) (ht : P.underlying t = some (.slice e))
    (hinf : (P.info? e).map (fun i => (i.zero, i.size, i.bytes)) = some (some z, size, bytes)) (hzs : z.cells.size = size) (hsz : 0 < size) (hby : bytes ≤ 64)
    (v : Value) (k : Nat) (xs : List Value) (sv : Value) (n : Nat) (ys : List Value) (hown : w.ownsRow B e size v k xs) (hsrc : w.ownsRow B' e size sv n ys) (hs : a.eval s = v) (hx : a.eval x = sv) (h1 : ∀ u ∈ ys, u.oneCell' = true) (hk : k ≤ 1048576) (hn : n ≤ 1048576) (hB : B ≤ w.heap.size)
    (h : ∀ v' w', w'.ownsRow B e size v' (k + n) (xs ++ ys) → w.grownBy w' v.ownBlock → (∃ va vc, v' = .slice va (k + n) vc) → K (a.put o.dst v') w') :
    if Region.wanted o (yielded ops a.tmps) = true then Oper.wp P o a w K Q else E := by
  have hw : Region.wanted o (yielded ops a.tmps) = true := by simp [Region.wanted, hgd]
  rw [if_pos hw]
  exact wp_append_two s x t ho B B' e size bytes z ht hinf hzs hsz hby v k xs sv n ys hown hsrc hs hx h1 hk hn hB h
/-- A block of one element is an own row. -/
theorem row_single {w : World} {g B size : Nat} {e : TypeId} {cs : Array Value} (h : w.heap[g]? = some (.cells cs e (0, 0))) (hs : cs.size = size) (hB : B ≤ g) : w.ownsRow B e size (.slice (some ⟨g, 0, none⟩) 1 1) 1 cs.toList := by
  refine ⟨by simp [hs], .inr ⟨g, 1, cs, rfl, hB, h, Nat.le_refl _, by unfold maxLen; omega, by omega, ?_⟩⟩
  rw [List.take_of_length_le (by simp; omega)]
end Go.Proofs.Ytdgbafpnfkedeaa
/-
  The document's own With: rows, and one more at its place. Condition: at most 1000000 rows.
-/
namespace Go.Proofs.Ytdgbafpnfkedeaa
set_option maxRecDepth 100000
open Go.RowKit
theorem own_below {w w' : World} {base size n : Nat} {e : TypeId} {v : Value} {xs : List Value} (h : w.ownsRow base e size v n xs) (hb : Below w.heap.size w w') : w'.ownsRow base e size v n xs := h.kept (grown_of_below hb) (by cases v.ownBlock <;> simp)
/-- An empty slice of an own block. -/
theorem row_zero {w : World} {g B size : Nat} {e : TypeId} (h : w.heap[g]? = some (.cells #[] e (0, 0))) (hB : B ≤ g) : w.ownsRow B e size (.slice (some ⟨g, 0, none⟩) 0 0) 0 [] :=
  ⟨by simp, .inr ⟨g, 0, #[], rfl, hB, h, Nat.le_refl _, by unfold maxLen; omega, by simp, by simp⟩⟩
theorem one_cells (l : List Rw) : ∀ u ∈ rowR l, u.oneCell' = true := by
  intro u hu
  unfold rowR at hu
  obtain ⟨x, _, hx⟩ := List.mem_flatMap.1 hu
  exact row_one x u hx
/-- Rows in a slice, whose block is one of rows. -/
structure Rt (a : Option Addr) (n c b o : Nat) (l : List Rw) (w : World) : Prop where
  rs : Rs a n c b o l w
  nil : a = none → c = 0
  typ : 0 < n → ∃ cs, w.heap[b]? = some (.cells cs 43 (0, 0))
theorem Rt.below {a : Option Addr} {n c b o : Nat} {l : List Rw} {w w' : World} (h : Rt a n c b o l w) (hb : Below w.heap.size w w') : Rt a n c b o l w' :=
  ⟨h.rs.below hb (Nat.le_refl _), h.nil, fun h0 => by
    obtain ⟨cs, hc⟩ := h.typ h0
    exact ⟨cs, (hb.block _ (Array.getElem?_eq_some_iff.1 hc).1).trans hc⟩⟩
theorem Rt.none (w : World) : Rt none 0 0 0 0 [] w := ⟨⟨rfl, Nat.le_refl _, by omega, fun h => absurd h (by omega), RwsAt.nil _ _ _⟩, fun _ => rfl, fun h => absurd h (by omega)⟩
theorem rt_of_row {w : World} {B : Nat} {v : Value} {l : List Rw} (h : w.ownsRow B 43 4 v l.length (rowR l)) : ∃ a c b, v = .slice a l.length c ∧ Rt a l.length c b 0 l w := by
  rcases h.2 with ⟨rfl, hz⟩ | ⟨g, cap, cur, rfl, hg, hb, hn, hm, hs, ht⟩
  · have : l = [] := List.length_eq_zero_iff.1 hz
    subst this
    exact ⟨none, 0, 0, rfl, Rt.none w⟩
  · obtain ⟨a, c, b, hv, hr, _⟩ := rs_of_row h
    simp only [Value.slice.injEq] at hv
    obtain ⟨rfl, _, rfl⟩ := hv
    refine ⟨_, _, b, rfl, hr, (fun e => by cases e), fun h0 => ?_⟩
    have := (hr.addr h0).1
    simp only [Option.some.injEq, Addr.mk.injEq] at this
    obtain ⟨rfl, _, _⟩ := this
    exact ⟨_, hb⟩
theorem add_off (b o j : Nat) : (⟨b, o, none⟩ : Addr).add j = ⟨b, o + j, none⟩ := by
  unfold Addr.add
  split
  · rename_i h0; rw [h0]; rfl
  · rfl
/-- The cells of rows in a slice, as append reads them. -/
theorem rs_src {a : Option Addr} {n c b o : Nat} {l : List Rw} {w : World} (h : Rs a n c b o l w) : ∀ p, a = some p → ∀ j u, (rowR l)[j]? = some u → w.cell? (p.add j) = some u := by
  intro p hp j u hu
  have hj := (List.getElem?_eq_some_iff.1 hu).1
  rw [rowR_len, h.len] at hj
  obtain ⟨rfl, _⟩ : p = ⟨b, o, none⟩ ∧ True := by
    have := (h.addr (by omega)).1
    rw [hp] at this
    exact ⟨by simpa using this, trivial⟩
  rw [add_off]
  obtain ⟨i, m, rfl, hm⟩ : ∃ i m, j = i * 4 + m ∧ m < 4 := ⟨j / 4, j % 4, by omega, Nat.mod_lt _ (by omega)⟩
  obtain ⟨x, hx⟩ : ∃ x, l[i]? = some x := ⟨_, List.getElem?_eq_getElem (by rw [h.len]; omega)⟩
  obtain ⟨e0, e1, e2, e3⟩ := rowR_at l i hx
  obtain ⟨f0, f1, f2, f3⟩ := h.at' i x hx
  obtain rfl | rfl | rfl | rfl : m = 0 ∨ m = 1 ∨ m = 2 ∨ m = 3 := by omega
  · rw [Nat.add_zero, e0] at hu; rw [Nat.add_zero, f0, hu]
  · rw [e1] at hu; rw [show o + (i * 4 + 1) = o + i * 4 + 1 by omega, f1, hu]
  · rw [e2] at hu; rw [show o + (i * 4 + 2) = o + i * 4 + 2 by omega, f2, hu]
  · rw [e3] at hu; rw [show o + (i * 4 + 3) = o + i * 4 + 3 by omega, f3, hu]
theorem rt_take {a : Option Addr} {n c b o : Nat} {l : List Rw} {w : World} (h : Rt a n c b o l w) {e : Nat} (he : e ≤ n) :
    (∀ u, (Instr.slice 27 (.slice a n c) none (some (.int .i64 (e : Int))) none).run Try.prog u = .ok (.slice a e c) u) ∧ Rs a e c b o (l.take e) w := by
  have hc := h.rs.cap
  have hm := h.rs.most
  refine ⟨fun u => ?_, ⟨by rw [List.length_take, h.rs.len]; omega, by omega, hm, fun h0 => h.rs.addr (by omega), fun j x hx => ?_⟩⟩
  · rw [run_slice_h u 27 a n c (by kernel_rfl) .i64 (e : Int) (by omega) (by omega), size_row]
    simp only [Result.andThen, sliced, Int.toNat_natCast]
    have ea : (if c = 0 then a else a.map (·.add (0 * 4))) = a := by
      split
      · rfl
      · cases a with
        | none => rfl
        | some p => simp [Addr.add]
    simp only [Nat.sub_zero] at *
    first | rw [ea] | simp [Addr.add] | skip
  · rw [List.getElem?_take] at hx
    split at hx
    · exact h.rs.at' j x hx
    · cases hx
theorem rt_drop {a : Option Addr} {n c b o : Nat} {l : List Rw} {w : World} (h : Rt a n c b o l w) {e : Nat} (he : e ≤ n) :
    ∃ p2, (∀ u, (Instr.slice 27 (.slice a n c) (some (.int .i64 (e : Int))) none none).run Try.prog u = .ok (.slice p2 (n - e) (c - e)) u) ∧ Rs p2 (n - e) (c - e) b (o + e * 4) (l.drop e) w ∧ (p2 = none → n - e = 0 ∧ c - e = 0) := by
  have hc := h.rs.cap
  have hm := h.rs.most
  refine ⟨if c = e then a else a.map (·.add (e * 4)), fun u => ?_, ⟨by rw [List.length_drop, h.rs.len], by omega, by omega, fun h0 => ?_, fun j x hx => ?_⟩, fun hp => ?_⟩
  · rw [run_slice_l u 27 a n c (by kernel_rfl) .i64 (e : Int) (by omega) (by omega), size_row]
    simp only [Result.andThen, sliced, Int.toNat_natCast]
  · obtain ⟨h1, h2⟩ := h.rs.addr (by omega)
    subst h1
    rw [if_neg (by omega)]
    exact ⟨by simp only [Option.map_some, addr_plus], h2⟩
  · rw [List.getElem?_drop] at hx
    have := h.rs.at' (e + j) x hx
    rw [show o + (e + j) * 4 = o + e * 4 + j * 4 by omega] at this
    exact this
  · split at hp
    · have := h.nil hp; omega
    · rw [Option.map_eq_none_iff] at hp
      have := h.nil hp; omega
end Go.Proofs.Ytdgbafpnfkedeaa
/-
  The contract of the document's Check. No condition.
-/
namespace Go.Proofs.Ytdgbafpnfkedeaa
set_option maxRecDepth 100000
open Go.RowKit
theorem Wr.long_no {x : Wr} (h : x.long = false) : x.key.size ≤ 520 ∧ x.val.size ≤ 2048 := by
  unfold Wr.long at h
  simp only [Bool.or_eq_false_iff, decide_eq_false_iff_not] at h
  omega
theorem empty_iff (s : ByteArray) : s = ByteArray.empty ↔ s.size = 0 := by
  constructor
  · intro h; rw [h]; rfl
  · intro h
    apply ByteArray.ext
    exact Array.eq_empty_of_size_eq_zero h
set_option maxRecDepth 100000 in
set_option maxHeartbeats 2000000 in
theorem refcheck_arg {seq : Nat} {a : Option Addr} {n c : Nat} (w : World) (hE : n = 0 ∨ seq < 1 ∨ 72057594037927872 < seq) :
    Calls Try.prog 21 #[batchV seq a n c] w fun e w' => e = .returned (.int .i64 2) ∧ Below w.heap.size w w' := by
  obtain ⟨c0, c1⟩ := box_batch w seq (.slice a n c)
  go_enter Try.func21, Try.ntmps21
  go_wp2
  all_goals first
    | (exfalso; omega)
    | (go_returns; exact ⟨rfl, below_alloc _ _⟩)
set_option maxRecDepth 100000 in
set_option maxHeartbeats 4000000 in
theorem refcheck_main {seq : Nat} {a : Option Addr} {n c b o : Nat} {l : List Wr} {w : World} (h : Ws a n c b o l w) (h0 : n ≠ 0) (h1 : 1 ≤ seq) (h2 : seq ≤ 72057594037927872) :
    Calls Try.prog 21 #[batchV seq a n c] w fun e w' => e = .returned (.int .i64 (chkB seq l)) ∧ Below w.heap.size w w' := by
  obtain ⟨c0, c1⟩ := box_batch w seq (.slice a n c)
  have K := Lib.hid (below_alloc w (.cells #[.int .u64 (seq : Int), .slice a n c] 31))
  have E0 := Lib.hid (heap_alloc_new w (.cells #[.int .u64 (seq : Int), .slice a n c] 31))
  have hcap := h.cap
  have hmost := h.most
  have hE := Lib.hid (chkB_end (seq := seq) (l := l) (by rw [h.len]; omega))
  have hbad := Lib.hid (fun hb : l.any Wr.bad = true => chkB_bad (seq := seq) hb)
  have hlen := Lib.hid h.len
  obtain ⟨R, hR⟩ := named (chkB seq l)
  rw [← hR.out] at hE hbad ⊢
  rw [hlen.out] at hE
  have h := Lib.hid h
  clear hR
  have q0 : ((n : Int) == 0) = false := by simp; omega
  have q1 : decide ((seq : Int) < 1) = false := by rw [decide_eq_false_iff_not]; omega
  have q2 : decide ((72057594037927872 : Int) < (seq : Int)) = false := by rw [decide_eq_false_iff_not]; omega
  go_enter Try.func21, Try.ntmps21
  go_wp2_with fail
  generalize w.alloc (.cells #[.int .u64 (seq : Int), .slice a n c] 31) = W at *
  go_loopw [3] (fun i wr => ∃ j : Nat, j ≤ n ∧ i = .int .i64 (j : Int) ∧ (l.take j).any Wr.bad = false ∧ Below w.heap.size w wr ∧ wr.heap[w.heap.size]? = some (.cells #[.int .u64 (seq : Int), .slice a n c] 31 (0, 0))) (fun i _ => n - (intOf i).toNat)
  case atStart => exact ⟨0, Nat.zero_le _, rfl, by simp, K.out, E0.out⟩
  case round =>
    clear c0 c1 K E0
    obtain ⟨j, hj, rfl, hany, hb, hblk⟩ := hrel
    have c0 : wr.cell? ⟨w.heap.size, 0, none⟩ = some (.int .u64 (seq : Int)) := by simp [World.cell?, hblk]
    have c1 : wr.cell? ⟨w.heap.size, 1, none⟩ = some (.slice a n c) := by simp [World.cell?, hblk]
    have hlt0 := (Array.getElem?_eq_some_iff.1 hblk).1
    have hblk := Lib.hid hblk
    have hb := Lib.hid hb
    have hany := Lib.hid hany
    by_cases hlt : j < n
    · obtain ⟨x, hx, rfl, e0, e1, e2⟩ := (h.out.keep (w' := wr) (fun h0 => hb.out.block b (h.out.addr h0).2) hb.out.size).at3 hlt
      have hx := Lib.hid hx
      obtain ⟨xk, xs, xv⟩ := x
      simp only at e0 e1 e2
      have hlb := World.block_lt_of_cell? _ _ e0
      have hB : Wr.bad ⟨xk, xs, xv⟩ = true ↔ ((xk ≠ 1 ∧ xk ≠ 2) ∨ xs.size = 0 ∨ (xk = 2 ∧ xv.size ≠ 0)) := by
        unfold Wr.bad
        simp only [Bool.or_eq_true, Bool.and_eq_true, bne_iff_ne, beq_iff_eq]
      have take1 : Hid (l.take (j + 1) = l.take j ++ [⟨xk, xs, xv⟩]) := Lib.hid (by rw [List.take_add_one, hx.out]; rfl)
      have BD : Hid (Wr.bad ⟨xk, xs, xv⟩ = true → R = 2) := Lib.hid fun hq => hbad.out (List.any_eq_true.2 ⟨_, List.mem_of_getElem? hx.out, hq⟩)
      have GD : Hid (¬ Wr.bad ⟨xk, xs, xv⟩ = true → (l.take (j + 1)).any Wr.bad = false) := Lib.hid fun hq => by rw [take1.out, List.any_append, hany.out]; simp [Bool.not_eq_true _ ▸ hq]
      have hB := Lib.hid hB
      have KB : Hid (∀ cs, Below w.heap.size w (wr.alloc (.cells cs 41)) ∧ (wr.alloc (.cells cs 41)).heap[w.heap.size]? = some (.cells #[.int .u64 (seq : Int), .slice (some ⟨b, o, none⟩) n c] 31 (0, 0))) := Lib.hid fun cs => ⟨hb.out.alloc hb.out.size _, (show (wr.alloc (.cells cs 41)).heap[w.heap.size]? = wr.heap[w.heap.size]? from by first | exact heap_alloc_old wr _ hlt0 | exact heap_alloc_old wr _ _ hlt0 | exact heap_alloc_old _ hlt0).trans hblk.out⟩
      go_wp2_with fail
      all_goals first
        | (go_returns
           have hB := hB.out
           simp only [empty_iff, beq_iff_eq, beq_eq_false_iff_ne, ne_eq] at *
           have hR2 := BD.out (hB.2 (by omega))
           exact ⟨by rw [hR2]; rfl, (KB.out _).1⟩)
        | (refine ⟨⟨j + 1, by omega, by go_num, GD.out (fun hq => ?_), (KB.out _).1, (KB.out _).2⟩, ?_⟩
           · have hB := hB.out.1 hq
             simp only [empty_iff, beq_eq_false_iff_ne, ne_eq] at *
             omega
           · simp [intOf]; omega)
    · have hjn : j = n := by omega
      subst hjn
      have ht : l.take j = l := by rw [← hlen.out, List.take_length]
      have hR0 := hE.out (by have := hany.out; rwa [ht] at this)
      have hR0 := Lib.hid hR0
      have R3 : Hid (64 < j ∨ l.any Wr.long = true → R = 3) := Lib.hid fun hq => by
        rw [hR0.out]; unfold sofar; rw [if_pos]; rcases hq with hq | hq
        · exact .inl (by simpa using hq)
        · exact .inr hq
      have RZ : Hid (¬ 64 < j → l.any Wr.long = false → R = 0) := Lib.hid fun hq hq2 => by
        rw [hR0.out]; unfold sofar; rw [if_neg]; simp [hq, hq2]
      clear hany hE hbad
      by_cases h64 : 64 < j
      · have d64 : decide ((64 : Int) < (j : Int)) = true := by rw [decide_eq_true_eq]; omega
        have hR3 := R3.out (.inl h64)
        subst hR3
        go_wp2_with fail
        go_returns
        exact ⟨rfl, hb.out⟩
      · have d64 : decide ((64 : Int) < (j : Int)) = false := by rw [decide_eq_false_iff_not]; omega
        go_wp2_with fail
        go_loopw [5] (fun i wq => ∃ k : Nat, k ≤ j ∧ i = .int .i64 (k : Int) ∧ (l.take k).any Wr.long = false ∧ Below w.heap.size w wq ∧ wq.heap[w.heap.size]? = some (.cells #[.int .u64 (seq : Int), .slice a j c] 31 (0, 0))) (fun i _ => j - (intOf i).toNat)
        case atStart => exact ⟨0, Nat.zero_le _, rfl, by simp, hb.out, hblk.out⟩
        case round =>
          clear c0 c1 hb hblk hlt0
          obtain ⟨k, hk, rfl, hlong, hb, hblk⟩ := hrel
          have c1 : wr.cell? ⟨w.heap.size, 1, none⟩ = some (.slice a j c) := by simp [World.cell?, hblk]
          have hblk := Lib.hid hblk
          have hb := Lib.hid hb
          have hlong := Lib.hid hlong
          by_cases hlt : k < j
          · obtain ⟨x, hx, rfl, e0, e1, e2⟩ := (h.out.keep (w' := wr) (fun h0 => hb.out.block b (h.out.addr h0).2) hb.out.size).at3 hlt
            have hx := Lib.hid hx
            obtain ⟨xk, xs, xv⟩ := x
            simp only at e0 e1 e2
            have take1 : Hid (l.take (k + 1) = l.take k ++ [⟨xk, xs, xv⟩]) := Lib.hid (by rw [List.take_add_one, hx.out]; rfl)
            by_cases hq : Wr.long ⟨xk, xs, xv⟩ = true
            · have hR3 := R3.out (.inr (List.any_eq_true.2 ⟨_, List.mem_of_getElem? hx.out, hq⟩))
              have hq2 : 520 < xs.size ∨ (xs.size ≤ 520 ∧ 2048 < xv.size) := by
                unfold Wr.long at hq
                simp only [Bool.or_eq_true, decide_eq_true_eq] at hq
                omega
              subst hR3
              clear hq
              rcases hq2 with g1 | ⟨g1, g2⟩
              · have d1 : decide ((520 : Int) < (xs.size : Int)) = true := by rw [decide_eq_true_eq]; omega
                go_wp2_with fail
                go_returns
                exact ⟨rfl, hb.out⟩
              · have d1 : decide ((520 : Int) < (xs.size : Int)) = false := by rw [decide_eq_false_iff_not]; omega
                have d2 : decide ((2048 : Int) < (xv.size : Int)) = true := by rw [decide_eq_true_eq]; omega
                go_wp2_with fail
                go_returns
                exact ⟨rfl, hb.out⟩
            · have hl := Wr.long_no (by simpa using hq : Wr.long ⟨xk, xs, xv⟩ = false)
              simp only at hl
              have d1 : decide ((520 : Int) < (xs.size : Int)) = false := by rw [decide_eq_false_iff_not]; omega
              have d2 : decide ((2048 : Int) < (xv.size : Int)) = false := by rw [decide_eq_false_iff_not]; omega
              have any1 : Hid ((l.take (k + 1)).any Wr.long = false) := Lib.hid (by rw [take1.out, List.any_append, hlong.out]; simpa using hq)
              clear hq
              go_wp2_with fail
              go_roundw
              case rel => exact ⟨k + 1, by omega, by go_num, any1.out, hb.out, hblk.out⟩
              case measure => simp [intOf]; omega
          · have hkj : k = j := by omega
            subst hkj
            have hRz := RZ.out h64 (by have := hlong.out; rwa [ht] at this)
            subst hRz
            go_wp2_with fail
            go_returns
            exact ⟨rfl, hb.out⟩
theorem refcheck_any {seq : Nat} {a : Option Addr} {n c b o : Nat} {l : List Wr} {w : World} (h : Ws a n c b o l w) :
    Calls Try.prog 21 #[batchV seq a n c] w fun e w' => e = .returned (.int .i64 (chkB seq l)) ∧ Below w.heap.size w w' := by
  by_cases hE : n = 0 ∨ seq < 1 ∨ 72057594037927872 < seq
  · rw [chkB_arg (by rw [h.len]; exact hE)]
    exact refcheck_arg w hE
  · exact refcheck_main h (by omega) (by omega) (by omega)
end Go.Proofs.Ytdgbafpnfkedeaa
