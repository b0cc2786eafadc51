/-
  How versions, edits and lists of tables lie in memory. No condition.
-/
import Derived.Test.YtnmjfdejgfmoiaaPack1
import Derived.Laws.IdiomArrays
import Derived.Deep.RegionHeld
import Derived.WalkKit
namespace Go.Proofs.Ytnmjfdejgfmoiaa
open Go Go.RowKit Go.ChangeShapes Go.WideShapes Go.Deep
set_option maxRecDepth 100000
/-- A table's metadata. -/
structure Mt where
  num : Nat
  size : Int
  rows : Int
  fst : ByteArray
  lst : ByteArray
  least : Nat
  gr : Nat
instance : Inhabited Mt := ⟨⟨0, 0, 0, .empty, .empty, 0, 0⟩⟩
def cellsM (x : Mt) : List Value := [.int .u64 (x.num : Int), .int .i64 x.size, .int .i64 x.rows, .string x.fst, .string x.lst, .int .u64 (x.least : Int), .int .u64 (x.gr : Int)]
/-- What holds of each table that came in. -/
def MtIn (x : Mt) : Prop := x.num ≤ 18446744073709551615 ∧ x.fst.size ≤ 281474976710656 ∧ x.lst.size ≤ 281474976710656 ∧ x.least ≤ 18446744073709551615 ∧ x.gr ≤ 18446744073709551615 ∧ (Lit.int .i64 x.size).wf = true ∧ (Lit.int .i64 x.rows).wf = true
/-- A table that goes. -/
structure Gn where
  lev : Int
  num : Nat
instance : Inhabited Gn := ⟨⟨0, 0⟩⟩
def cellsG (x : Gn) : List Value := [.int .i64 x.lev, .int .u64 (x.num : Int)]
def GnIn (x : Gn) : Prop := (Lit.int .i64 x.lev).wf = true ∧ x.num ≤ 18446744073709551615
/-- A table that is added. -/
structure Pl where
  lev : Int
  tb : Mt
instance : Inhabited Pl := ⟨⟨0, default⟩⟩
def cellsP (x : Pl) : List Value := .int .i64 x.lev :: cellsM x.tb
def PlIn (x : Pl) : Prop := (Lit.int .i64 x.lev).wf = true ∧ MtIn x.tb
/-- Where a slice lies. -/
structure Hd where
  a : Option Addr
  n : Nat
  c : Nat
  b : Nat
  o : Nat
instance : Inhabited Hd := ⟨⟨none, 0, 0, 0, 0⟩⟩
abbrev hdV (h : Hd) : Value := .slice h.a h.n h.c
/-- A slice of tables. -/
structure Ms (h : Hd) (l : List Mt) (w : World) : Prop where
  sl : SlOf 7 cellsM h.a h.n h.c h.b h.o l w
  none' : h.a = none → h.n = 0 ∧ h.c = 0
structure Gs (h : Hd) (l : List Gn) (w : World) : Prop where
  sl : SlOf 2 cellsG h.a h.n h.c h.b h.o l w
  none' : h.a = none → h.n = 0 ∧ h.c = 0
structure Ps (h : Hd) (l : List Pl) (w : World) : Prop where
  sl : SlOf 8 cellsP h.a h.n h.c h.b h.o l w
  none' : h.a = none → h.n = 0 ∧ h.c = 0
theorem Ms.below {h : Hd} {l : List Mt} {w w' : World} (k : Ms h l w) (hb : Below w.heap.size w w') : Ms h l w' := ⟨k.sl.below hb (Nat.le_refl _), k.none'⟩
theorem Gs.below {h : Hd} {l : List Gn} {w w' : World} (k : Gs h l w) (hb : Below w.heap.size w w') : Gs h l w' := ⟨k.sl.below hb (Nat.le_refl _), k.none'⟩
theorem Ps.below {h : Hd} {l : List Pl} {w w' : World} (k : Ps h l w) (hb : Below w.heap.size w w') : Ps h l w' := ⟨k.sl.below hb (Nat.le_refl _), k.none'⟩
theorem Ms.nil (w : World) : Ms ⟨none, 0, 0, 0, 0⟩ [] w := ⟨⟨rfl, Nat.le_refl _, Nat.zero_le _, fun h => absurd h (Nat.lt_irrefl 0), fun j x h => by simp at h⟩, fun _ => ⟨rfl, rfl⟩⟩
theorem Gs.nil (w : World) : Gs ⟨none, 0, 0, 0, 0⟩ [] w := ⟨⟨rfl, Nat.le_refl _, Nat.zero_le _, fun h => absurd h (Nat.lt_irrefl 0), fun j x h => by simp at h⟩, fun _ => ⟨rfl, rfl⟩⟩
theorem Ps.nil (w : World) : Ps ⟨none, 0, 0, 0, 0⟩ [] w := ⟨⟨rfl, Nat.le_refl _, Nat.zero_le _, fun h => absurd h (Nat.lt_irrefl 0), fun j x h => by simp at h⟩, fun _ => ⟨rfl, rfl⟩⟩
theorem Ms.len {h : Hd} {l : List Mt} {w : World} (k : Ms h l w) : l.length = h.n := k.sl.len
theorem Gs.len {h : Hd} {l : List Gn} {w : World} (k : Gs h l w) : l.length = h.n := k.sl.len
theorem Ps.len {h : Hd} {l : List Pl} {w : World} (k : Ps h l w) : l.length = h.n := k.sl.len
/-- The cells of element j. -/
theorem Ms.at7 {h : Hd} {l : List Mt} {w : World} (k : Ms h l w) {j : Nat} (hj : j < h.n) : ∃ x, l[j]? = some x ∧ h.a = some ⟨h.b, h.o, none⟩ ∧ h.b < w.heap.size ∧ w.cell? ⟨h.b, h.o + j * 7, none⟩ = some (.int .u64 (x.num : Int)) ∧ w.cell? ⟨h.b, h.o + j * 7 + 1, none⟩ = some (.int .i64 x.size) ∧ w.cell? ⟨h.b, h.o + j * 7 + 2, none⟩ = some (.int .i64 x.rows) ∧ w.cell? ⟨h.b, h.o + j * 7 + 3, none⟩ = some (.string x.fst) ∧ w.cell? ⟨h.b, h.o + j * 7 + 4, none⟩ = some (.string x.lst) ∧ w.cell? ⟨h.b, h.o + j * 7 + 5, none⟩ = some (.int .u64 (x.least : Int)) ∧ w.cell? ⟨h.b, h.o + j * 7 + 6, none⟩ = some (.int .u64 (x.gr : Int)) := by
  obtain ⟨x, hx⟩ : ∃ x, l[j]? = some x := ⟨_, List.getElem?_eq_getElem (by rw [k.len]; exact hj)⟩
  have ad := k.sl.addr (by omega)
  exact ⟨x, hx, ad.1, ad.2, k.sl.at' j x hx 0 _ rfl, k.sl.at' j x hx 1 _ rfl, k.sl.at' j x hx 2 _ rfl, k.sl.at' j x hx 3 _ rfl, k.sl.at' j x hx 4 _ rfl, k.sl.at' j x hx 5 _ rfl, k.sl.at' j x hx 6 _ rfl⟩
theorem Gs.at2 {h : Hd} {l : List Gn} {w : World} (k : Gs h l w) {j : Nat} (hj : j < h.n) : ∃ x, l[j]? = some x ∧ h.a = some ⟨h.b, h.o, none⟩ ∧ h.b < w.heap.size ∧ w.cell? ⟨h.b, h.o + j * 2, none⟩ = some (.int .i64 x.lev) ∧ w.cell? ⟨h.b, h.o + j * 2 + 1, none⟩ = some (.int .u64 (x.num : Int)) := by
  obtain ⟨x, hx⟩ : ∃ x, l[j]? = some x := ⟨_, List.getElem?_eq_getElem (by rw [k.len]; exact hj)⟩
  have ad := k.sl.addr (by omega)
  exact ⟨x, hx, ad.1, ad.2, k.sl.at' j x hx 0 _ rfl, k.sl.at' j x hx 1 _ rfl⟩
theorem Ps.at8 {h : Hd} {l : List Pl} {w : World} (k : Ps h l w) {j : Nat} (hj : j < h.n) : ∃ x, l[j]? = some x ∧ h.a = some ⟨h.b, h.o, none⟩ ∧ h.b < w.heap.size ∧ w.cell? ⟨h.b, h.o + j * 8, none⟩ = some (.int .i64 x.lev) ∧ w.cell? ⟨h.b, h.o + j * 8 + 1, none⟩ = some (.int .u64 (x.tb.num : Int)) ∧ w.cell? ⟨h.b, h.o + j * 8 + 2, none⟩ = some (.int .i64 x.tb.size) ∧ w.cell? ⟨h.b, h.o + j * 8 + 3, none⟩ = some (.int .i64 x.tb.rows) ∧ w.cell? ⟨h.b, h.o + j * 8 + 4, none⟩ = some (.string x.tb.fst) ∧ w.cell? ⟨h.b, h.o + j * 8 + 5, none⟩ = some (.string x.tb.lst) ∧ w.cell? ⟨h.b, h.o + j * 8 + 6, none⟩ = some (.int .u64 (x.tb.least : Int)) ∧ w.cell? ⟨h.b, h.o + j * 8 + 7, none⟩ = some (.int .u64 (x.tb.gr : Int)) := by
  obtain ⟨x, hx⟩ : ∃ x, l[j]? = some x := ⟨_, List.getElem?_eq_getElem (by rw [k.len]; exact hj)⟩
  have ad := k.sl.addr (by omega)
  exact ⟨x, hx, ad.1, ad.2, k.sl.at' j x hx 0 _ rfl, k.sl.at' j x hx 1 _ rfl, k.sl.at' j x hx 2 _ rfl, k.sl.at' j x hx 3 _ rfl, k.sl.at' j x hx 4 _ rfl, k.sl.at' j x hx 5 _ rfl, k.sl.at' j x hx 6 _ rfl, k.sl.at' j x hx 7 _ rfl⟩
theorem Ms.at7x {a : Option Addr} {n c b o : Nat} {l : List Mt} {w : World} (k : Ms ⟨a, n, c, b, o⟩ l w) {j : Nat} (hj : j < n) : ∃ x, l[j]? = some x ∧ a = some ⟨b, o, none⟩ ∧ b < w.heap.size ∧ w.cell? ⟨b, o + j * 7, none⟩ = some (.int .u64 (x.num : Int)) ∧ w.cell? ⟨b, o + j * 7 + 1, none⟩ = some (.int .i64 x.size) ∧ w.cell? ⟨b, o + j * 7 + 2, none⟩ = some (.int .i64 x.rows) ∧ w.cell? ⟨b, o + j * 7 + 3, none⟩ = some (.string x.fst) ∧ w.cell? ⟨b, o + j * 7 + 4, none⟩ = some (.string x.lst) ∧ w.cell? ⟨b, o + j * 7 + 5, none⟩ = some (.int .u64 (x.least : Int)) ∧ w.cell? ⟨b, o + j * 7 + 6, none⟩ = some (.int .u64 (x.gr : Int)) := k.at7 hj
theorem Gs.at2x {a : Option Addr} {n c b o : Nat} {l : List Gn} {w : World} (k : Gs ⟨a, n, c, b, o⟩ l w) {j : Nat} (hj : j < n) : ∃ x, l[j]? = some x ∧ a = some ⟨b, o, none⟩ ∧ b < w.heap.size ∧ w.cell? ⟨b, o + j * 2, none⟩ = some (.int .i64 x.lev) ∧ w.cell? ⟨b, o + j * 2 + 1, none⟩ = some (.int .u64 (x.num : Int)) := k.at2 hj
theorem Ps.at8x {a : Option Addr} {n c b o : Nat} {l : List Pl} {w : World} (k : Ps ⟨a, n, c, b, o⟩ l w) {j : Nat} (hj : j < n) : ∃ x, l[j]? = some x ∧ a = some ⟨b, o, none⟩ ∧ b < w.heap.size ∧ w.cell? ⟨b, o + j * 8, none⟩ = some (.int .i64 x.lev) ∧ w.cell? ⟨b, o + j * 8 + 1, none⟩ = some (.int .u64 (x.tb.num : Int)) ∧ w.cell? ⟨b, o + j * 8 + 2, none⟩ = some (.int .i64 x.tb.size) ∧ w.cell? ⟨b, o + j * 8 + 3, none⟩ = some (.int .i64 x.tb.rows) ∧ w.cell? ⟨b, o + j * 8 + 4, none⟩ = some (.string x.tb.fst) ∧ w.cell? ⟨b, o + j * 8 + 5, none⟩ = some (.string x.tb.lst) ∧ w.cell? ⟨b, o + j * 8 + 6, none⟩ = some (.int .u64 (x.tb.least : Int)) ∧ w.cell? ⟨b, o + j * 8 + 7, none⟩ = some (.int .u64 (x.tb.gr : Int)) := k.at8 hj
/-- A version. -/
structure Vr where
  log : Nat
  next : Nat
  seq : Nat
  lv : Nat → List Mt
abbrev verV (v : Vr) (H : Nat → Hd) : Value := .agg #[.int .u64 (v.log : Int), .int .u64 (v.next : Int), .int .u64 (v.seq : Int), .slice (H 0).a (H 0).n (H 0).c, .slice (H 1).a (H 1).n (H 1).c, .slice (H 2).a (H 2).n (H 2).c, .slice (H 3).a (H 3).n (H 3).c]
/-- The version's levels lie so. -/
def VrAt (v : Vr) (H : Nat → Hd) (w : World) : Prop := ∀ i, i < 4 → Ms (H i) (v.lv i) w
theorem VrAt.below {v : Vr} {H : Nat → Hd} {w w' : World} (h : VrAt v H w) (hb : Below w.heap.size w w') : VrAt v H w' := fun i hi => (h i hi).below hb
/-- What holds of each version that came in. -/
def VrIn (v : Vr) : Prop := v.log ≤ 18446744073709551615 ∧ v.next ≤ 18446744073709551615 ∧ v.seq ≤ 18446744073709551615 ∧ ∀ i, i < 4 → ∀ x ∈ v.lv i, MtIn x
/-- An edit. -/
structure Ed where
  log : Nat
  next : Nat
  seq : Nat
  gone : List Gn
  added : List Pl
abbrev edV (e : Ed) (hg ha : Hd) : Value := .agg #[.int .u64 (e.log : Int), .int .u64 (e.next : Int), .int .u64 (e.seq : Int), .slice hg.a hg.n hg.c, .slice ha.a ha.n ha.c]
structure EdAt (e : Ed) (hg ha : Hd) (w : World) : Prop where
  gone : Gs hg e.gone w
  added : Ps ha e.added w
theorem EdAt.below {e : Ed} {hg ha : Hd} {w w' : World} (h : EdAt e hg ha w) (hb : Below w.heap.size w w') : EdAt e hg ha w' := ⟨h.gone.below hb, h.added.below hb⟩
def EdIn (e : Ed) : Prop := e.log ≤ 18446744073709551615 ∧ e.next ≤ 18446744073709551615 ∧ e.seq ≤ 18446744073709551615 ∧ (∀ x ∈ e.gone, GnIn x) ∧ ∀ x ∈ e.added, PlIn x
section
variable {H : Type} {enc : TypeId × Value → H} {W : World}
theorem u64_nat {a : Int} (h : (Lit.int .u64 a).wf = true) : ∃ n : Nat, a = (n : Int) ∧ n ≤ 18446744073709551615 := by
  have hr : 0 ≤ a ∧ a ≤ 18446744073709551615 := by simpa [Lit.wf, IntKind.min, IntKind.max, IntKind.signed, IntKind.bits] using h
  exact ⟨a.toNat, by omega, by omega⟩
theorem mt_read {fuel : Nat} {cs : List Value} {y : DataW H × List MemPlace} (h : DataW.trod enc Try.prog W 0 (fun _ => true) true fuel 40 cs = some y) :
    ∃ x : Mt, cs = cellsM x ∧ (x.num ≤ 18446744073709551615 ∧ x.least ≤ 18446744073709551615 ∧ x.gr ≤ 18446744073709551615 ∧ (Lit.int .i64 x.size).wf = true ∧ (Lit.int .i64 x.rows).wf = true) ∧ ∀ n ∈ [x.fst.size, x.lst.size], n ∈ y.1.weights Try.prog 40 := by
  have oc : Try.prog.cellsOf 40 = 7 := by kernel_rfl
  have i1 : Try.prog.cellsOf 3 = 1 := by kernel_rfl
  have q1 : Try.prog.cellsOf 22 = 1 := by kernel_rfl
  have s1 : Try.prog.cellsOf 9 = 1 := by kernel_rfl
  obtain ⟨xs, n, _, hx, hsz, hn, hg⟩ := DataW.trod_struct Try.underlying40 h
  have g0 := hg 0 _ rfl
  have g1 := hg 1 _ rfl
  have g2 := hg 2 _ rfl
  have g3 := hg 3 _ rfl
  have g4 := hg 4 _ rfl
  have g5 := hg 5 _ rfl
  have g6 := hg 6 _ rfl
  clear hg h
  rw [oc] at hsz
  have hm : xs.length = 7 := hn
  match cs, hsz with
  | [c0, c1, c2, c3, c4, c5, c6], _ =>
    match xs, hm with
    | [y0, y1, y2, y3, y4, y5, y6], _ =>
      obtain ⟨a0, e0, f0, w0⟩ := DataW.trod_int Try.underlying22 g0
      obtain ⟨a1, e1, f1, w1⟩ := DataW.trod_int Try.underlying3 g1
      obtain ⟨a2, e2, f2, w2⟩ := DataW.trod_int Try.underlying3 g2
      obtain ⟨a3, e3, f3, w3⟩ := DataW.trod_string Try.underlying9 g3
      obtain ⟨a4, e4, f4, w4⟩ := DataW.trod_string Try.underlying9 g4
      obtain ⟨a5, e5, f5, w5⟩ := DataW.trod_int Try.underlying22 g5
      obtain ⟨a6, e6, f6, w6⟩ := DataW.trod_int Try.underlying22 g6
      simp [i1, s1, q1] at e0 e1 e2 e3 e4 e5 e6
      subst e0 e1 e2 e3 e4 e5 e6 f0 f1 f2 f3 f4 f5 f6
      obtain ⟨m0, rfl, r0⟩ := u64_nat w0
      obtain ⟨m5, rfl, r5⟩ := u64_nat w5
      obtain ⟨m6, rfl, r6⟩ := u64_nat w6
      refine ⟨⟨m0, a1, a2, a3, a4, m5, m6⟩, rfl, ⟨r0, r5, r6, w1, w2⟩, fun m hm => ?_⟩
      have hy : y.1 = .agg [.lit (.int .u64 (m0 : Int)), .lit (.int .i64 a1), .lit (.int .i64 a2), .lit (.string a3.data.toList), .lit (.string a4.data.toList), .lit (.int .u64 (m5 : Int)), .lit (.int .u64 (m6 : Int))] := by rw [hx]; rfl
      rw [hy]
      simp only [DataW.weights, Try.underlying40, DataW.weightsEach, List.map_cons, List.map_nil]
      have e : ∀ s : ByteArray, s.data.toList.length = s.size := fun s => by rw [Array.length_toList]; rfl
      simp only [List.mem_cons, List.not_mem_nil, or_false] at hm
      rcases hm with rfl | rfl
      · rw [← e]; simp
      · rw [← e]; simp
theorem mtIn_of {x : Mt} (h : x.num ≤ 18446744073709551615 ∧ x.least ≤ 18446744073709551615 ∧ x.gr ≤ 18446744073709551615 ∧ (Lit.int .i64 x.size).wf = true ∧ (Lit.int .i64 x.rows).wf = true) (hn : ∀ n ∈ [x.fst.size, x.lst.size], n ≤ reachBytes) : MtIn x := by
  have h1 := hn _ (List.mem_cons_self ..)
  have h2 := hn x.lst.size (by simp)
  unfold reachBytes at h1 h2
  exact ⟨h.1, by omega, by omega, h.2.1, h.2.2.1, h.2.2.2.1, h.2.2.2.2⟩
theorem gn_read {fuel : Nat} {cs : List Value} {y : DataW H × List MemPlace} (h : DataW.trod enc Try.prog W 0 (fun _ => true) true fuel 45 cs = some y) :
    ∃ x : Gn, cs = cellsG x ∧ GnIn x ∧ ∀ n ∈ ([] : List Nat), n ∈ y.1.weights Try.prog 45 := by
  have oc : Try.prog.cellsOf 45 = 2 := by kernel_rfl
  have i1 : Try.prog.cellsOf 3 = 1 := by kernel_rfl
  have q1 : Try.prog.cellsOf 22 = 1 := by kernel_rfl
  obtain ⟨xs, n, _, hx, hsz, hn, hg⟩ := DataW.trod_struct Try.underlying45 h
  have g0 := hg 0 _ rfl
  have g1 := hg 1 _ rfl
  clear hg h
  rw [oc] at hsz
  have hm : xs.length = 2 := hn
  match cs, hsz with
  | [c0, c1], _ =>
    match xs, hm with
    | [y0, y1], _ =>
      obtain ⟨a0, e0, f0, w0⟩ := DataW.trod_int Try.underlying3 g0
      obtain ⟨a1, e1, f1, w1⟩ := DataW.trod_int Try.underlying22 g1
      simp [i1, q1] at e0 e1
      subst e0 e1
      obtain ⟨m1, rfl, r1⟩ := u64_nat w1
      exact ⟨⟨a0, m1⟩, rfl, ⟨w0, r1⟩, fun n hn => by cases hn⟩
theorem pl_read {fuel : Nat} {cs : List Value} {y : DataW H × List MemPlace} (h : DataW.trod enc Try.prog W 0 (fun _ => true) true fuel 56 cs = some y) :
    ∃ x : Pl, cs = cellsP x ∧ ((Lit.int .i64 x.lev).wf = true ∧ x.tb.num ≤ 18446744073709551615 ∧ x.tb.least ≤ 18446744073709551615 ∧ x.tb.gr ≤ 18446744073709551615 ∧ (Lit.int .i64 x.tb.size).wf = true ∧ (Lit.int .i64 x.tb.rows).wf = true) ∧ ∀ n ∈ [x.tb.fst.size, x.tb.lst.size], n ∈ y.1.weights Try.prog 56 := by
  have oc : Try.prog.cellsOf 56 = 8 := by kernel_rfl
  have i1 : Try.prog.cellsOf 3 = 1 := by kernel_rfl
  have m1 : Try.prog.cellsOf 40 = 7 := by kernel_rfl
  obtain ⟨xs, n, _, hx, hsz, hn, hg⟩ := DataW.trod_struct Try.underlying56 h
  have g0 := hg 0 _ rfl
  have g1 := hg 1 _ rfl
  clear hg h
  rw [oc] at hsz
  have hm : xs.length = 2 := hn
  match cs, hsz with
  | [c0, c1, c2, c3, c4, c5, c6, c7], _ =>
    match xs, hm with
    | [y0, y1], _ =>
      obtain ⟨a0, e0, f0, w0⟩ := DataW.trod_int Try.underlying3 g0
      obtain ⟨x, e1, r1, n1⟩ := mt_read g1
      simp [i1, m1] at e0 e1
      subst e0 f0
      refine ⟨⟨a0, x⟩, by unfold cellsP; rw [← e1], ⟨w0, r1⟩, fun m hm => ?_⟩
      have hy : y.1 = .agg [.lit (.int .i64 a0), y1.1] := by rw [hx]; rfl
      rw [hy]
      simp only [DataW.weights, Try.underlying56, DataW.weightsEach, List.map_cons, List.map_nil]
      simp [n1 m hm]
theorem slice_hd {T E : TypeId} (hT : Try.prog.underlying T = some (.slice E)) {fuel : Nat} {c : Value} {y : DataW H × List MemPlace} (h : DataW.trod enc Try.prog W 0 (fun _ => true) true fuel T [c] = some y) :
    ∃ a n k, c = .slice a n k ∧ (a = none → n = 0 ∧ k = 0) := by
  rcases DataW.trod_slice hT h with ⟨hc, _⟩ | ⟨a, len, cap, _, _, _, _, hc, _⟩
  · exact ⟨none, 0, 0, by simpa using hc, fun _ => ⟨rfl, rfl⟩⟩
  · exact ⟨some a, len, cap, by simpa using hc, fun h => by cases h⟩
theorem open_ms {fuel : Nat} {c : Value} {y : DataW H × List MemPlace} (h : DataW.trod enc Try.prog W 0 (fun _ => true) true fuel 23 [c] = some y) (hsz : ∀ n ∈ y.1.weights Try.prog 23, n ≤ reachBytes) :
    ∃ (hd : Hd) (l : List Mt), c = hdV hd ∧ Ms hd l W ∧ ∀ x ∈ l, MtIn x := by
  obtain ⟨a, n, k, rfl, hn⟩ := slice_hd Try.underlying23 h
  have oc : Try.prog.cellsOf 40 = 7 := by kernel_rfl
  obtain ⟨b, o, l, hs, hg⟩ := open_slice_of (α := Mt) 7 Try.underlying23 oc (by omega) cellsM (fun _ => rfl) (fun x => x.num ≤ 18446744073709551615 ∧ x.least ≤ 18446744073709551615 ∧ x.gr ≤ 18446744073709551615 ∧ (Lit.int .i64 x.size).wf = true ∧ (Lit.int .i64 x.rows).wf = true) (fun x => [x.fst.size, x.lst.size]) mt_read h hsz
  exact ⟨⟨a, n, k, b, o⟩, l, rfl, ⟨hs, hn⟩, fun x hx => mtIn_of (hg x hx).1 (hg x hx).2⟩
theorem open_gs {fuel : Nat} {c : Value} {y : DataW H × List MemPlace} (h : DataW.trod enc Try.prog W 0 (fun _ => true) true fuel 27 [c] = some y) (hsz : ∀ n ∈ y.1.weights Try.prog 27, n ≤ reachBytes) :
    ∃ (hd : Hd) (l : List Gn), c = hdV hd ∧ Gs hd l W ∧ ∀ x ∈ l, GnIn x := by
  obtain ⟨a, n, k, rfl, hn⟩ := slice_hd Try.underlying27 h
  have oc : Try.prog.cellsOf 45 = 2 := by kernel_rfl
  obtain ⟨b, o, l, hs, hg⟩ := open_slice_of (α := Gn) 2 Try.underlying27 oc (by omega) cellsG (fun _ => rfl) GnIn (fun _ => []) gn_read h hsz
  exact ⟨⟨a, n, k, b, o⟩, l, rfl, ⟨hs, hn⟩, fun x hx => (hg x hx).1⟩
theorem open_ps {fuel : Nat} {c : Value} {y : DataW H × List MemPlace} (h : DataW.trod enc Try.prog W 0 (fun _ => true) true fuel 28 [c] = some y) (hsz : ∀ n ∈ y.1.weights Try.prog 28, n ≤ reachBytes) :
    ∃ (hd : Hd) (l : List Pl), c = hdV hd ∧ Ps hd l W ∧ ∀ x ∈ l, PlIn x := by
  obtain ⟨a, n, k, rfl, hn⟩ := slice_hd Try.underlying28 h
  have oc : Try.prog.cellsOf 56 = 8 := by kernel_rfl
  obtain ⟨b, o, l, hs, hg⟩ := open_slice_of (α := Pl) 8 Try.underlying28 oc (by omega) cellsP (fun _ => rfl) (fun x => (Lit.int .i64 x.lev).wf = true ∧ x.tb.num ≤ 18446744073709551615 ∧ x.tb.least ≤ 18446744073709551615 ∧ x.tb.gr ≤ 18446744073709551615 ∧ (Lit.int .i64 x.tb.size).wf = true ∧ (Lit.int .i64 x.tb.rows).wf = true) (fun x => [x.tb.fst.size, x.tb.lst.size]) pl_read h hsz
  exact ⟨⟨a, n, k, b, o⟩, l, rfl, ⟨hs, hn⟩, fun x hx => ⟨(hg x hx).1.1, mtIn_of (hg x hx).1.2 (hg x hx).2⟩⟩
/-- A version that came in. -/
theorem open_ver {b0 : Nat} {r : Reach} {v : Value} {d : DataW H} {ps : List MemPlace} {ts : List TypeId} {ds : List (DataW H)}
    (hv : Value.okWide Try.prog W r b0 26 v) (h : DataW.Trod enc Try.prog W 0 (fun _ => true) true 26 v d ps)
    (hsz : (DataW.weightsEach Try.prog ts ds).all (· ≤ reachBytes) = true) {j : Nat} (ht : ts[j]? = some 26) (hd : ds[j]? = some d) :
    ∃ (x : Vr) (hh : Nat → Hd), v = verV x hh ∧ VrAt x hh W ∧ VrIn x := by
  obtain ⟨cs, rfl, hsz2⟩ := okWide_struct Try.underlying26 hv
  obtain ⟨fuel, hf⟩ := h
  have oc : Try.prog.cellsOf 26 = 7 := by kernel_rfl
  have q1 : Try.prog.cellsOf 22 = 1 := by kernel_rfl
  have k1 : Try.prog.cellsOf 24 = 4 := by kernel_rfl
  have s1 : Try.prog.cellsOf 23 = 1 := by kernel_rfl
  obtain ⟨xs, n, _, hx, _, hn, hg⟩ := DataW.trod_struct Try.underlying26 hf
  have g0 := hg 0 _ rfl
  have g1 := hg 1 _ rfl
  have g2 := hg 2 _ rfl
  have g3 := hg 3 _ rfl
  clear hg hf
  rw [oc] at hsz2
  obtain ⟨l⟩ := cs
  have hl : l.length = 7 := hsz2
  match l, hl with
  | [c0, c1, c2, c3, c4, c5, c6], _ =>
    have hm : xs.length = 4 := hn
    match xs, hm with
    | [y0, y1, y2, y3], _ =>
      simp only [Value.cells] at g0 g1 g2 g3
      obtain ⟨a0, e0, f0, w0⟩ := DataW.trod_int Try.underlying22 g0
      obtain ⟨a1, e1, f1, w1⟩ := DataW.trod_int Try.underlying22 g1
      obtain ⟨a2, e2, f2, w2⟩ := DataW.trod_int Try.underlying22 g2
      simp [q1] at e0 e1 e2
      subst e0 e1 e2
      obtain ⟨m0, rfl, r0⟩ := u64_nat w0
      obtain ⟨m1, rfl, r1⟩ := u64_nat w1
      obtain ⟨m2, rfl, r2⟩ := u64_nat w2
      have g3' : DataW.trod enc Try.prog W 0 (fun _ => true) true n 24 [c3, c4, c5, c6] = some y3 := by simpa [q1, k1] using g3
      obtain ⟨z0, z1, z2, z3, m, hz, t0, t1, t2, t3⟩ := trod_array4 Try.underlying24 s1 g3'
      have hwt : ∀ m ∈ d.weights Try.prog 26, m ≤ reachBytes := fun m hm => by have := List.all_eq_true.1 hsz _ (DataW.weights_mem_each ht hd m hm); simpa using this
      have hd2 : d = .agg [y0.1, y1.1, y2.1, y3.1] := by have := congrArg Prod.fst hx; simpa using this
      have hy3 : y3.1 = .agg [z0.1, z1.1, z2.1, z3.1] := by rw [hz]
      rw [hd2, hy3] at hwt
      simp only [DataW.weights, Try.underlying26, Try.underlying24, DataW.weightsEach, List.map_cons, List.map_nil] at hwt
      obtain ⟨h0, l0, rfl, k0, i0⟩ := open_ms t0 (fun m hm => hwt m (by simp [DataW.weightsAll, hm]))
      obtain ⟨h1, l1, rfl, k1, i1⟩ := open_ms t1 (fun m hm => hwt m (by simp [DataW.weightsAll, hm]))
      obtain ⟨h2, l2, rfl, k2, i2⟩ := open_ms t2 (fun m hm => hwt m (by simp [DataW.weightsAll, hm]))
      obtain ⟨h3, l3, rfl, k3, i3⟩ := open_ms t3 (fun m hm => hwt m (by simp [DataW.weightsAll, hm]))
      refine ⟨⟨m0, m1, m2, fun i => match i with | 0 => l0 | 1 => l1 | 2 => l2 | _ => l3⟩, fun i => match i with | 0 => h0 | 1 => h1 | 2 => h2 | _ => h3, rfl, fun i hi => ?_, r0, r1, r2, fun i hi => ?_⟩
      · rcases (show i = 0 ∨ i = 1 ∨ i = 2 ∨ i = 3 by omega) with rfl | rfl | rfl | rfl
        · exact k0
        · exact k1
        · exact k2
        · exact k3
      · rcases (show i = 0 ∨ i = 1 ∨ i = 2 ∨ i = 3 by omega) with rfl | rfl | rfl | rfl
        · exact i0
        · exact i1
        · exact i2
        · exact i3
/-- An edit that came in. -/
theorem open_ed {b0 : Nat} {r : Reach} {v : Value} {d : DataW H} {ps : List MemPlace} {ts : List TypeId} {ds : List (DataW H)}
    (hv : Value.okWide Try.prog W r b0 30 v) (h : DataW.Trod enc Try.prog W 0 (fun _ => true) true 30 v d ps)
    (hsz : (DataW.weightsEach Try.prog ts ds).all (· ≤ reachBytes) = true) {j : Nat} (ht : ts[j]? = some 30) (hd : ds[j]? = some d) :
    ∃ (x : Ed) (hg ha : Hd), v = edV x hg ha ∧ EdAt x hg ha W ∧ EdIn x := by
  obtain ⟨cs, rfl, hsz2⟩ := okWide_struct Try.underlying30 hv
  obtain ⟨fuel, hf⟩ := h
  have oc : Try.prog.cellsOf 30 = 5 := by kernel_rfl
  have q1 : Try.prog.cellsOf 22 = 1 := by kernel_rfl
  have s1 : Try.prog.cellsOf 27 = 1 := by kernel_rfl
  have s2 : Try.prog.cellsOf 28 = 1 := by kernel_rfl
  obtain ⟨xs, n, _, hx, _, hn, hg⟩ := DataW.trod_struct Try.underlying30 hf
  have g0 := hg 0 _ rfl
  have g1 := hg 1 _ rfl
  have g2 := hg 2 _ rfl
  have g3 := hg 3 _ rfl
  have g4 := hg 4 _ rfl
  clear hg hf
  rw [oc] at hsz2
  obtain ⟨l⟩ := cs
  have hl : l.length = 5 := hsz2
  match l, hl with
  | [c0, c1, c2, c3, c4], _ =>
    have hm : xs.length = 5 := hn
    match xs, hm with
    | [y0, y1, y2, y3, y4], _ =>
      simp only [Value.cells] at g0 g1 g2 g3 g4
      obtain ⟨a0, e0, f0, w0⟩ := DataW.trod_int Try.underlying22 g0
      obtain ⟨a1, e1, f1, w1⟩ := DataW.trod_int Try.underlying22 g1
      obtain ⟨a2, e2, f2, w2⟩ := DataW.trod_int Try.underlying22 g2
      simp [q1] at e0 e1 e2
      subst e0 e1 e2
      obtain ⟨m0, rfl, r0⟩ := u64_nat w0
      obtain ⟨m1, rfl, r1⟩ := u64_nat w1
      obtain ⟨m2, rfl, r2⟩ := u64_nat w2
      have g3' : DataW.trod enc Try.prog W 0 (fun _ => true) true n 27 [c3] = some y3 := by simpa [q1, s1] using g3
      have g4' : DataW.trod enc Try.prog W 0 (fun _ => true) true n 28 [c4] = some y4 := by simpa [q1, s1, s2] using g4
      have hwt : ∀ m ∈ d.weights Try.prog 30, m ≤ reachBytes := fun m hm => by have := List.all_eq_true.1 hsz _ (DataW.weights_mem_each ht hd m hm); simpa using this
      have hd2 : d = .agg [y0.1, y1.1, y2.1, y3.1, y4.1] := by have := congrArg Prod.fst hx; simpa using this
      rw [hd2] at hwt
      simp only [DataW.weights, Try.underlying30, DataW.weightsEach, List.map_cons, List.map_nil] at hwt
      obtain ⟨hg, lg, rfl, kg, ig⟩ := open_gs g3' (fun m hm => hwt m (by simp [hm]))
      obtain ⟨ha, la, rfl, ka, ia⟩ := open_ps g4' (fun m hm => hwt m (by simp [hm]))
      exact ⟨⟨m0, m1, m2, lg, la⟩, hg, ha, rfl, ⟨kg, ka⟩, r0, r1, r2, ig, ia⟩
end
end Go.Proofs.Ytnmjfdejgfmoiaa
/-
  A drawn region whose loads are held by a condition, walked by hand: one operation taken, or passed over by its guard. No condition.
-/
namespace Go.Proofs.Ytnmjfdejgfmoiaa
set_option maxRecDepth 100000
open Go
variable {P : Program} {md : Region.Mode} {ops : Array Oper} {Q : Exit → Act → World → Prop} {S : World → Prop} {fuel : Nat} {listed : Array Bool} {a : Act} {w : World}
theorem held_take {i : Nat} {dst : Option Tmp} {op : Op} {type : TypeId} {pos : String} {after} {guard} {v : Value} (hi : ops[i]? = some { dst := dst, op := op, type := type, pos := pos, after := after, guard := guard })
    (hs : Region.noSelect ops = true) (hf : Region.free md ops listed i = true) (hr : (Region.ready md ops listed).contains i = true)
    (hQ : ∀ c a w, Q (.panic c) (a.put dst v) w → Q (.panic c) a w) (hw : Region.wanted { dst := dst, op := op, type := type, pos := pos, after := after, guard := guard } (yielded ops a.tmps) = true)
    (hy : ∀ w, S w → (execOp a.eval { dst := dst, op := op, type := type, pos := pos, after := after, guard := guard }).run P w = .ok (.value v) w) (hS : S w)
    (h : wpAnyH P md ops Q S fuel (listed.setIfInBounds i true) (a.put dst v) w) : wpAnyH P md ops Q S (fuel + 1) listed a w := wpAnyH_take hi hs hf hr hQ (Or.inl ⟨hw, hy⟩) hS h
theorem held_skip {i : Nat} {dst : Option Tmp} {op : Op} {type : TypeId} {pos : String} {after} {guard} (hi : ops[i]? = some { dst := dst, op := op, type := type, pos := pos, after := after, guard := guard })
    (hs : Region.noSelect ops = true) (hf : Region.free md ops listed i = true) (hr : (Region.ready md ops listed).contains i = true)
    (hQ : ∀ c a w, Q (.panic c) (a.put dst undef) w → Q (.panic c) a w) (hw : Region.wanted { dst := dst, op := op, type := type, pos := pos, after := after, guard := guard } (yielded ops a.tmps) = false) (hS : S w)
    (h : wpAnyH P md ops Q S fuel (listed.setIfInBounds i true) (a.put dst undef) w) : wpAnyH P md ops Q S (fuel + 1) listed a w := wpAnyH_take hi hs hf hr hQ (Or.inr ⟨hw, rfl⟩) hS h
theorem held_call {i : Nat} {dst : Option Tmp} {op : Op} {type : TypeId} {pos : String} {after} {guard} (hr : Region.ready md ops listed = [i]) (hi : ops[i]? = some { dst := dst, op := op, type := type, pos := pos, after := after, guard := guard })
    (hw : Region.wanted { dst := dst, op := op, type := type, pos := pos, after := after, guard := guard } (yielded ops a.tmps) = true)
    (h : ∀ K : Act → World → Prop, Shut (∀ a w, S w → (S w → wpAnyH P md ops Q S fuel (listed.setIfInBounds i true) a w) → K a w) → Oper.wp P { dst := dst, op := op, type := type, pos := pos, after := after, guard := guard } a w K Q) : wpAnyH P md ops Q S (fuel + 1) listed a w :=
  wpAnyH_ready hr (by simp) (AllReadyH.cons hi (fun K hK => by rw [if_pos hw]; exact h K hK) AllReadyH.nil)
/-- Two operations that may come first: each way. -/
theorem held_two {i j : Nat} {o1 o2 : Oper} (hr : Region.ready md ops listed = [i, j]) (hi : ops[i]? = some o1) (hj : ops[j]? = some o2)
    (hw : Region.wanted o1 (yielded ops a.tmps) = true) (hw2 : Region.wanted o2 (yielded ops a.tmps) = true)
    (h : ∀ K : Act → World → Prop, Shut (∀ a w, S w → (S w → wpAnyH P md ops Q S fuel (listed.setIfInBounds i true) a w) → K a w) → Oper.wp P o1 a w K Q)
    (h2 : ∀ K : Act → World → Prop, Shut (∀ a w, S w → (S w → wpAnyH P md ops Q S fuel (listed.setIfInBounds j true) a w) → K a w) → Oper.wp P o2 a w K Q) : wpAnyH P md ops Q S (fuel + 1) listed a w :=
  wpAnyH_ready hr (by simp) (AllReadyH.cons hi (fun K hK => by rw [if_pos hw]; exact h K hK) (AllReadyH.cons hj (fun K hK => by rw [if_pos hw2]; exact h2 K hK) AllReadyH.nil))
/-- Three operations that may come first: each way. -/
theorem held_three {i j k : Nat} {o1 o2 o3 : Oper} (hr : Region.ready md ops listed = [i, j, k]) (hi : ops[i]? = some o1) (hj : ops[j]? = some o2) (hk : ops[k]? = some o3)
    (hw : Region.wanted o1 (yielded ops a.tmps) = true) (hw2 : Region.wanted o2 (yielded ops a.tmps) = true) (hw3 : Region.wanted o3 (yielded ops a.tmps) = true)
    (h : ∀ K : Act → World → Prop, Shut (∀ a w, S w → (S w → wpAnyH P md ops Q S fuel (listed.setIfInBounds i true) a w) → K a w) → Oper.wp P o1 a w K Q)
    (h2 : ∀ K : Act → World → Prop, Shut (∀ a w, S w → (S w → wpAnyH P md ops Q S fuel (listed.setIfInBounds j true) a w) → K a w) → Oper.wp P o2 a w K Q)
    (h3 : ∀ K : Act → World → Prop, Shut (∀ a w, S w → (S w → wpAnyH P md ops Q S fuel (listed.setIfInBounds k true) a w) → K a w) → Oper.wp P o3 a w K Q) : wpAnyH P md ops Q S (fuel + 1) listed a w :=
  wpAnyH_ready hr (by simp) (AllReadyH.cons hi (fun K hK => by rw [if_pos hw]; exact h K hK) (AllReadyH.cons hj (fun K hK => by rw [if_pos hw2]; exact h2 K hK) (AllReadyH.cons hk (fun K hK => by rw [if_pos hw3]; exact h3 K hK) AllReadyH.nil)))
end Go.Proofs.Ytnmjfdejgfmoiaa
