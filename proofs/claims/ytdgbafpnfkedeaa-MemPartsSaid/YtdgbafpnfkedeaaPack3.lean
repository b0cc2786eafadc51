/-
  The law's own answer that the document fixes: true. No condition.
-/
import Derived.Test.YtdgbafpnfkedeaaPack2
import Derived.Test.YtdgbafpnfkedeaaRows
import Derived.ChangeSame
import Derived.ProofKit
import Derived.SizedLaws
import Derived.Deep.Slices
import Derived.Deep.Fields
import Derived.ChangeSlices
import Derived.OpenShut
import Derived.SliceStrings
import Derived.Deep.RegionWith
import Derived.Deep.RegionHeld
import Derived.WalkKit
import Derived.StillTailTactics
namespace Go.Proofs.Ytdgbafpnfkedeaa
set_option maxRecDepth 100000
open Go.RowKit
attribute [local go_sem] eq_node ne_node eq_list
def aw1 : Rw := ⟨⟨#[97]⟩, 1, 0, ⟨#[]⟩⟩
def aw2 : Rw := ⟨⟨#[97]⟩, 2, 0, ⟨#[]⟩⟩
def aw3 : Rw := ⟨⟨#[98]⟩, 1, 0, ⟨#[]⟩⟩
theorem ahd_data (x : Rw) (k : ByteArray) (q : Nat) : ahd x k q = if x.key.data.toList = k.data.toList then decide (q < x.seq) else bytesBefore x.key.data.toList k.data.toList := by
  unfold ahd; rw [ByteArray.toList_eq, ByteArray.toList_eq]
theorem aw_put1 : thrL [] aw1.key aw1.seq = false ∧ putL [] aw1 (hgtOf 1) = [(aw1, 1)] := by
  refine ⟨rfl, rfl⟩
theorem aw_a12 : ahd aw1 aw2.key aw2.seq = false := by rw [ahd_data]; decide
theorem aw_a21 : ahd aw2 aw1.key aw1.seq = true := by rw [ahd_data]; decide
theorem aw_a13 : ahd aw1 aw3.key aw3.seq = true := by rw [ahd_data]; decide
theorem aw_a23 : ahd aw2 aw3.key aw3.seq = true := by rw [ahd_data]; decide
theorem aw_b1 : ahd aw1 ⟨#[97]⟩ 0 = true := by rw [ahd_data]; decide
theorem aw_b2 : ahd aw2 ⟨#[97]⟩ 0 = true := by rw [ahd_data]; decide
theorem aw_b3 : ahd aw3 ⟨#[97]⟩ 0 = false := by rw [ahd_data]; decide
theorem aw_a33 : ahd aw3 ⟨#[98]⟩ 1 = false := by rw [ahd_data]; decide
theorem aw_put2 : thrL [(aw1, 1)] aw2.key aw2.seq = false ∧ putL [(aw1, 1)] aw2 (hgtOf 3) = [(aw2, 3), (aw1, 1)] := by
  have e : plc [aw1] aw2.key aw2.seq = 0 := by unfold plc; rw [List.takeWhile_cons, aw_a12]; rfl
  have t : thrL [(aw1, 1)] aw2.key aw2.seq = false := by
    unfold thrL thr rowsL
    simp only [List.map_cons, List.map_nil, e]
    show (decide (aw1.key.toList = aw2.key.toList) && decide (aw1.seq = aw2.seq)) = false
    rw [show decide (aw1.seq = aw2.seq) = false by decide, Bool.and_false]
  refine ⟨t, ?_⟩
  unfold putL
  rw [t]
  unfold insL plL rowsL
  simp only [List.map_cons, List.map_nil, e]
  rfl
theorem aw_put3 : thrL [(aw2, 3), (aw1, 1)] aw3.key aw3.seq = false ∧ putL [(aw2, 3), (aw1, 1)] aw3 (hgtOf 2) = [(aw2, 3), (aw1, 1), (aw3, 2)] := by
  have e : plc [aw2, aw1] aw3.key aw3.seq = 2 := by unfold plc; rw [List.takeWhile_cons, aw_a23]; simp only [if_true]; rw [List.takeWhile_cons, aw_a13]; rfl
  have t : thrL [(aw2, 3), (aw1, 1)] aw3.key aw3.seq = false := by
    unfold thrL thr rowsL
    simp only [List.map_cons, List.map_nil, e]
    rfl
  refine ⟨t, ?_⟩
  unfold putL
  rw [t]
  unfold insL plL rowsL
  simp only [List.map_cons, List.map_nil, e]
  rfl
theorem aw_seek : seekR ((rowsL [(aw2, 3), (aw1, 1), (aw3, 2)]).drop (plL [(aw2, 3), (aw1, 1), (aw3, 2)] ⟨#[97]⟩ 0)) = .tuple #[rowV aw3, .bool true] := by
  have e : plc [aw2, aw1, aw3] ⟨#[97]⟩ 0 = 2 := by unfold plc; rw [List.takeWhile_cons, aw_b2]; simp only [if_true]; rw [List.takeWhile_cons, aw_b1]; simp only [if_true]; rw [List.takeWhile_cons, aw_b3]; rfl
  unfold plL rowsL
  simp only [List.map_cons, List.map_nil, e]
  rfl
theorem aw_steps : stepsL [(aw2, 3), (aw1, 1), (aw3, 2)] ⟨#[98]⟩ 1 = 2 := by
  have e : plc [aw2, aw1, aw3] ⟨#[98]⟩ 1 = 2 := by unfold plc; rw [List.takeWhile_cons, show ahd aw2 ⟨#[98]⟩ 1 = true from aw_a23]; simp only [if_true]; rw [List.takeWhile_cons, show ahd aw1 ⟨#[98]⟩ 1 = true from aw_a13]; simp only [if_true]; rw [List.takeWhile_cons, aw_a33]; rfl
  unfold stepsL plL rowsL hgtsL
  simp only [List.map_cons, List.map_nil, e]
  decide
end Go.Proofs.Ytdgbafpnfkedeaa
/-
  The program's types are laid out. No condition.
-/
namespace Go.Proofs.Ytdgbafpnfkedeaa
set_option maxRecDepth 100000
open Go Go.RowKit Go.ChangeShapes
theorem laid_out : laidOutB Try.prog = true := by kernel_rfl
end Go.Proofs.Ytdgbafpnfkedeaa
/-
  A slice of structs that came in as an argument, whatever its element: opened once, over how one element reads. Rows (api.Row) and slices of rows. No condition.
-/
namespace Go.Proofs.Ytdgbafpnfkedeaa
open Go Go.RowKit Go.ChangeShapes Go.WideShapes Go.Deep
set_option maxRecDepth 100000
theorem weights_of {H : Type} {P : Program} {e : TypeId} : ∀ {l : List (DataW H)} {d : DataW H} {n : Nat}, d ∈ l → n ∈ d.weights P e → n ∈ DataW.weightsAll P e l
  | [], _, _, h, _ => by cases h
  | x :: r, d, n, h, hn => by
    rw [DataW.weightsAll]
    rcases List.mem_cons.1 h with rfl | h
    · exact List.mem_append_left _ hn
    · exact List.mem_append_right _ (weights_of h hn)
/-- A slice of elements of k cells: where it lies, and what it holds. -/
structure SlOf {α : Type} (k : Nat) (cells : α → List Value) (a : Option Addr) (n c b o : Nat) (l : List α) (w : World) : Prop where
  len : l.length = n
  cap : n ≤ c
  most : c ≤ 9223372036854775807
  addr : 0 < n → a = some ⟨b, o, none⟩ ∧ b < w.heap.size
  at' : ∀ j x, l[j]? = some x → ∀ m u, (cells x)[m]? = some u → w.cell? ⟨b, o + j * k + m, none⟩ = some u
theorem open_slice_of {α : Type} [Inhabited α] {H : Type} {enc : TypeId × Value → H} {W : World} {a0 : Option Addr} {len cap fuel : Nat} {x : DataW H × List MemPlace} {T E : TypeId} (k : Nat) (hT : Try.prog.underlying T = some (.slice E)) (hk : Try.prog.cellsOf E = k) (hk0 : 0 < k)
    (cells : α → List Value) (hcl : ∀ v, (cells v).length = k) (Good : α → Prop) (Ns : α → List Nat)
    (read : ∀ {fuel : Nat} {cs : List Value} {y : DataW H × List MemPlace}, DataW.trod enc Try.prog W 0 (fun _ => true) true fuel E cs = some y → ∃ v : α, cs = cells v ∧ Good v ∧ ∀ n ∈ Ns v, n ∈ y.1.weights Try.prog E)
    (hf : DataW.trod enc Try.prog W 0 (fun _ => true) true fuel T [.slice a0 len cap] = some x) (hsz : ∀ n ∈ x.1.weights Try.prog T, n ≤ reachBytes) :
    ∃ b o l, SlOf k cells a0 len cap b o l W ∧ ∀ v ∈ l, Good v ∧ ∀ n ∈ Ns v, n ≤ reachBytes := by
  rcases DataW.trod_slice hT hf with ⟨hcs, _⟩ | ⟨a, len', cap', elems, rest, n, _, hcs, hx, _, hl, hm, hlen, hel, _, _⟩
  · simp at hcs
    obtain ⟨rfl, rfl, rfl⟩ := hcs
    exact ⟨0, 0, [], ⟨rfl, Nat.le_refl _, by omega, fun h => absurd h (by omega), fun j x hx => by simp at hx⟩, fun x hx => by cases hx⟩
  · simp at hcs
    obtain ⟨rfl, rfl, rfl⟩ := hcs
    obtain ⟨b, off, spot⟩ := a
    have el : ∀ i, i < len → ∃ v : α, (∀ m u, (cells v)[m]? = some u → W.cell? ((⟨b, off, spot⟩ : Addr).add (i * k + m)) = some u) ∧ Good v ∧ ∃ y, elems[i]? = some y ∧ ∀ n ∈ Ns v, n ∈ y.1.weights Try.prog E := by
      intro i hi
      have h1 := hel i hi
      rw [hk] at h1
      have hys : elems[i]? = some (elems[i]'(by omega)) := List.getElem?_eq_getElem (by omega)
      rw [hys] at h1
      obtain ⟨cs, hc, ht'⟩ := Option.bind_eq_some_iff.1 h1
      obtain ⟨v, rfl, hg, hy⟩ := read ht'
      obtain ⟨_, hcl', hat⟩ := World.cells?_some hc
      refine ⟨v, fun m u hu => ?_, hg, _, hys, hy⟩
      have hm5 : m < k := by have := (List.getElem?_eq_some_iff.1 hu).1; rw [hcl] at this; exact this
      rw [← Go.Deep.add_add, hat m hm5, hu]
    obtain ⟨vf, hvf⟩ : ∃ vf : Nat → α, ∀ i, i < len → (∀ m u, (cells (vf i))[m]? = some u → W.cell? ((⟨b, off, spot⟩ : Addr).add (i * k + m)) = some u) ∧ Good (vf i) ∧ ∃ y, elems[i]? = some y ∧ ∀ n ∈ Ns (vf i), n ∈ y.1.weights Try.prog E := by
      refine ⟨fun i => if h : i < len then (el i h).choose else default, fun i hi => ?_⟩
      simp only [dif_pos hi]
      exact (el i hi).choose_spec
    have hwt : ∀ i, i < len → ∀ n, n ∈ Ns (vf i) → n ≤ reachBytes := by
      intro i hi n hn
      obtain ⟨_, _, y, hy, he⟩ := hvf i hi
      refine hsz n ?_
      rw [hx, DataW.weights, hT]
      exact List.mem_cons_of_mem _ (List.mem_append_left _ (weights_of (List.mem_map.2 ⟨y, List.mem_of_getElem? hy, rfl⟩) (he n hn)))
    have hspot : 0 < len → spot = none := fun h0 => by
      obtain ⟨hcell, _⟩ := hvf 0 h0
      have := hcell 0 _ (List.getElem?_eq_getElem (by rw [hcl]; exact hk0))
      simpa [Addr.add] using World.cell?_spot this
    unfold maxLen at hm
    refine ⟨b, off, (List.range len).map vf, ⟨by simp, hl, by omega, fun h0 => ?_, fun j v hj m u hu => ?_⟩, fun v hv => ?_⟩
    · have hs := hspot h0
      subst hs
      obtain ⟨hcell, _⟩ := hvf 0 h0
      have hb := World.block_lt_of_cell? _ _ (hcell 0 _ (List.getElem?_eq_getElem (by rw [hcl]; exact hk0)))
      exact ⟨rfl, by simpa [Addr.add] using hb⟩
    · have hjl : j < len := by have := (List.getElem?_eq_some_iff.1 hj).1; simpa using this
      have hvj : v = vf j := by simpa [hjl] using hj.symm
      subst hvj
      have hs := hspot (by omega)
      subst hs
      obtain ⟨hcell, _⟩ := hvf j hjl
      have := hcell m u hu
      have e1 : (⟨b, off, none⟩ : Addr).add (j * k + m) = ⟨b, off + j * k + m, none⟩ := by
        unfold Addr.add
        split
        · rename_i h0
          rw [show off + j * k + m = off by omega]
        · simp only [Addr.mk.injEq, true_and, and_true]; omega
      rw [e1] at this
      exact this
    · obtain ⟨i, hi, rfl⟩ := List.mem_map.1 hv
      have hil : i < len := List.mem_range.1 hi
      exact ⟨(hvf i hil).2.1, hwt i hil⟩
/-- A row's cells. -/
def cellsR (x : Rw) : List Value := [.string x.key, .int .u64 (x.seq : Int), .int .i64 x.kind, .string x.val]
instance : Inhabited Rw := ⟨⟨.empty, 0, 0, .empty⟩⟩
/-- What holds of each row that came in. -/
def RwIn (x : Rw) : Prop := x.key.size ≤ 281474976710656 ∧ x.val.size ≤ 281474976710656 ∧ x.seq ≤ 18446744073709551615
theorem rw_read {H : Type} {enc : TypeId × Value → H} {w : World} {fuel : Nat} {cs : List Value} {y : DataW H × List MemPlace} (h : DataW.trod enc Try.prog w 0 (fun _ => true) true fuel 43 cs = some y) :
    ∃ x : Rw, cs = cellsR x ∧ x.seq ≤ 18446744073709551615 ∧ ∀ n ∈ [x.key.size, x.val.size], n ∈ y.1.weights Try.prog 43 := by
  have oc : Try.prog.cellsOf 43 = 4 := by kernel_rfl
  have i1 : Try.prog.cellsOf 3 = 1 := by kernel_rfl
  have q1 : Try.prog.cellsOf 28 = 1 := by kernel_rfl
  have s1 : Try.prog.cellsOf 9 = 1 := by kernel_rfl
  obtain ⟨xs, n, _, hx, hsz, hn, hg⟩ := DataW.trod_struct Try.underlying43 h
  have g0 := hg 0 _ rfl
  have g1 := hg 1 _ rfl
  have g2 := hg 2 _ rfl
  have g3 := hg 3 _ rfl
  clear hg h
  rw [oc] at hsz
  have hm : xs.length = 4 := hn
  match cs, hsz with
  | [c0, c1, c2, c3], _ =>
    match xs, hm with
    | [y0, y1, y2, y3], _ =>
      obtain ⟨a0, e0, f0, w0⟩ := DataW.trod_string Try.underlying9 g0
      obtain ⟨a1, e1, f1, w1⟩ := DataW.trod_int Try.underlying28 g1
      obtain ⟨a2, e2, f2, w2⟩ := DataW.trod_int Try.underlying3 g2
      obtain ⟨a3, e3, f3, w3⟩ := DataW.trod_string Try.underlying9 g3
      simp [i1, s1, q1] at e0 e1 e2 e3
      subst e0 e1 e2 e3 f0 f1 f2 f3
      have hr : 0 ≤ a1 ∧ a1 ≤ 18446744073709551615 := by simpa [Lit.wf, IntKind.min, IntKind.max, IntKind.signed, IntKind.bits] using w1
      have e5 : ((a1.toNat : Nat) : Int) = a1 := by omega
      refine ⟨⟨a0, a1.toNat, a2, a3⟩, by simp only [cellsR, e5], by show a1.toNat ≤ _; omega, fun m hm => ?_⟩
      have hy : y.1 = .agg [.lit (.string a0.data.toList), .lit (.int .u64 a1), .lit (.int .i64 a2), .lit (.string a3.data.toList)] := by rw [hx]; rfl
      rw [hy]
      simp only [DataW.weights, Try.underlying43, DataW.weightsEach, List.map_cons, List.map_nil]
      have e : ∀ s : ByteArray, s.data.toList.length = s.size := fun s => by rw [Array.length_toList]; rfl
      simp only [List.mem_cons, List.not_mem_nil, or_false] at hm
      rcases hm with rfl | rfl
      · rw [← e]; simp
      · rw [← e]; simp
theorem rwIn_of {x : Rw} (h : x.seq ≤ 18446744073709551615) (hn : ∀ n ∈ [x.key.size, x.val.size], n ≤ reachBytes) : RwIn x := by
  have h1 := hn _ (List.mem_cons_self ..)
  have h2 := hn x.val.size (by simp)
  unfold reachBytes at h1 h2
  exact ⟨by omega, by omega, h⟩
/-- Rows that came in. -/
theorem open_rows {H : Type} {enc : TypeId × Value → H} {W : World} {a0 : Option Addr} {len cap fuel : Nat} {x : DataW H × List MemPlace} {ts : List TypeId} {ds : List (DataW H)}
    (hf : DataW.trod enc Try.prog W 0 (fun _ => true) true fuel 27 [.slice a0 len cap] = some x) (hsz : (DataW.weightsEach Try.prog ts ds).all (· ≤ reachBytes) = true) {j : Nat} (ht : ts[j]? = some 27) (hd : ds[j]? = some x.1) :
    ∃ b o l, Rs a0 len cap b o l W ∧ ∀ v ∈ l, RwIn v := by
  have oc : Try.prog.cellsOf 43 = 4 := by kernel_rfl
  obtain ⟨b, o, l, hs, hg⟩ := open_slice_of (α := Rw) 4 Try.underlying27 oc (by omega) cellsR (fun _ => rfl) (fun v => v.seq ≤ 18446744073709551615) (fun v => [v.key.size, v.val.size]) rw_read hf
    (fun m hm => by have := List.all_eq_true.1 hsz _ (DataW.weights_mem_each ht hd m hm); simpa using this)
  refine ⟨b, o, l, ⟨hs.len, hs.cap, hs.most, hs.addr, fun j v hj => ?_⟩, fun v hv => rwIn_of (hg v hv).1 (hg v hv).2⟩
  exact ⟨hs.at' j v hj 0 _ rfl, hs.at' j v hj 1 _ rfl, hs.at' j v hj 2 _ rfl, hs.at' j v hj 3 _ rfl⟩
/-- A row that came in. -/
theorem open_row {H : Type} {enc : TypeId × Value → H} {W : World} {b0 : Nat} {r : Reach} {v : Value} {d : DataW H} {ps : List MemPlace} {ts : List TypeId} {ds : List (DataW H)}
    (hv : Value.okWide Try.prog W r b0 43 v) (h : DataW.Trod enc Try.prog W 0 (fun _ => true) true 43 v d ps)
    (hsz : (DataW.weightsEach Try.prog ts ds).all (· ≤ reachBytes) = true) {j : Nat} (ht : ts[j]? = some 43) (hd : ds[j]? = some d) :
    ∃ x : Rw, v = .agg #[.string x.key, .int .u64 (x.seq : Int), .int .i64 x.kind, .string x.val] ∧ RwIn x := by
  obtain ⟨cs, rfl, hsz2⟩ := okWide_struct Try.underlying43 hv
  obtain ⟨fuel, hf⟩ := h
  obtain ⟨x, hc, hq, hw⟩ := rw_read hf
  obtain ⟨l⟩ := cs
  have hc' : l = cellsR x := hc
  subst hc'
  exact ⟨x, rfl, rwIn_of hq fun n hn => by
    have := List.all_eq_true.1 hsz _ (DataW.weights_mem_each ht hd n (hw n hn)); simpa using this⟩
/-- Integers that came in. -/
def cellsI (x : Int) : List Value := [.int .i64 x]
theorem open_nums {H : Type} {enc : TypeId × Value → H} {W : World} {a0 : Option Addr} {len cap fuel : Nat} {x : DataW H × List MemPlace} {ts : List TypeId} {ds : List (DataW H)}
    (hf : DataW.trod enc Try.prog W 0 (fun _ => true) true fuel 32 [.slice a0 len cap] = some x) (hsz : (DataW.weightsEach Try.prog ts ds).all (· ≤ reachBytes) = true) {j : Nat} (ht : ts[j]? = some 32) (hd : ds[j]? = some x.1) :
    ∃ b o l, SlOf 1 cellsI a0 len cap b o l W ∧ ∀ v ∈ l, (Lit.int .i64 v).wf = true := by
  have i1 : Try.prog.cellsOf 3 = 1 := by kernel_rfl
  obtain ⟨b, o, l, hs, hg⟩ := open_slice_of (α := Int) 1 Try.underlying32 i1 (by omega) cellsI (fun _ => rfl) (fun v => (Lit.int .i64 v).wf = true) (fun _ => []) (fun {fuel cs y} h => by
      obtain ⟨a0, e0, f0, w0⟩ := DataW.trod_int Try.underlying3 h
      exact ⟨a0, e0, w0, fun n hn => by cases hn⟩) hf
    (fun m hm => by have := List.all_eq_true.1 hsz _ (DataW.weights_mem_each ht hd m hm); simpa using this)
  exact ⟨b, o, l, hs, fun v hv => (hg v hv).1⟩
theorem SlOf.keep {α : Type} {k : Nat} {cells : α → List Value} {a : Option Addr} {n c b o : Nat} {l : List α} {w w' : World} (h : SlOf k cells a n c b o l w) (hk : 0 < n → w'.heap[b]? = w.heap[b]?) (hs : w.heap.size ≤ w'.heap.size) : SlOf k cells a n c b o l w' := by
  refine ⟨h.len, h.cap, h.most, fun h0 => ⟨(h.addr h0).1, Nat.lt_of_lt_of_le (h.addr h0).2 hs⟩, fun j x hx m u hu => ?_⟩
  have hj : j < n := by rw [← h.len]; exact (List.getElem?_eq_some_iff.1 hx).1
  rw [World.cell?_of_block (a := ⟨b, o + j * k + m, none⟩) (hk (by omega))]
  exact h.at' j x hx m u hu
theorem SlOf.below {α : Type} {k : Nat} {cells : α → List Value} {a : Option Addr} {n c b o : Nat} {l : List α} {w w' : World} {B : Nat} (h : SlOf k cells a n c b o l w) (hb : Below B w w') (hB : w.heap.size ≤ B) : SlOf k cells a n c b o l w' := h.keep (fun h0 => hb.block b (Nat.lt_of_lt_of_le (h.addr h0).2 hB)) hb.size
end Go.Proofs.Ytdgbafpnfkedeaa
/-
  A slice of rows from some place on, as the laws take it; where a row of a list stands. No condition.
-/
namespace Go.Proofs.Ytdgbafpnfkedeaa
open Go.RowKit
set_option maxRecDepth 100000
theorem plc_self {l : List Rw} (hs : SortedR l) {i : Nat} {x : Rw} (hx : l[i]? = some x) : plc l x.key x.seq = i := by
  have h1 := plc_iff hs (k := x.key) (q := x.seq) hx
  rw [ahd_irrefl ⟨rfl, rfl⟩] at h1
  have hle : plc l x.key x.seq ≤ i := by
    rcases Nat.lt_or_ge i (plc l x.key x.seq) with h | h
    · exact absurd (h1.2 h) (by simp)
    · exact h
  rcases Nat.eq_or_lt_of_le hle with e | hlt
  · exact e
  · have hil := (List.getElem?_eq_some_iff.1 hx).1
    obtain ⟨y, hy⟩ : ∃ y, l[plc l x.key x.seq]? = some y := ⟨_, List.getElem?_eq_getElem (by omega)⟩
    have h3 : ahd y x.key x.seq = true := by
      have := List.pairwise_iff_getElem.1 hs _ _ (by omega) hil hlt
      rw [(List.getElem?_eq_some_iff.1 hy).2, (List.getElem?_eq_some_iff.1 hx).2] at this
      exact this
    exact absurd ((plc_iff hs hy).1 h3) (by omega)
theorem seek_self {l : SL} (hs : SortedR (rowsL l)) {i : Nat} {x : Rw} (hx : (rowsL l)[i]? = some x) : seekR ((rowsL l).drop (plL l x.key x.seq)) = .tuple #[rowV x, .bool true] := by
  unfold plL
  rw [plc_self hs hx]
  obtain ⟨h1, h2⟩ := List.getElem?_eq_some_iff.1 hx
  rw [List.drop_eq_getElem_cons h1, h2]
  rfl
theorem size_row (w : World) : (Go.sizeOf (Try.prog.elem 27)).run Try.prog w = .ok 4 w := by
  obtain ⟨i0, hi, hz0, hz1, hz2⟩ := info_parts (show (Try.prog.info? (Try.prog.elem 27)).map (fun i => (i.zero, i.size, i.bytes)) = some (some (.agg #[.string .empty, .int .u64 0, .int .i64 0, .string .empty]), 4, 48) by kernel_rfl)
  simp [Go.sizeOf, typeInfo, hi, hz1]
theorem addr_plus (b o k : Nat) : (⟨b, o, none⟩ : Addr).add k = ⟨b, o + k, none⟩ := by
  unfold Addr.add
  split
  · rename_i h0; rw [h0]; rfl
  · rfl
theorem rows_from {p : Option Addr} {n c b o e : Nat} {l : List Rw} {w : World} (h : Rs p n c b o l w) (he : e ≤ n) :
    ∃ p2, (∀ u, (Instr.slice 27 (.slice p n c) (some (.int .i64 (e : Int))) none none).run Try.prog u = .ok (.slice p2 (n - e) (c - e)) u) ∧ Rs p2 (n - e) (c - e) b (o + e * 4) (l.drop e) w := by
  have hc := h.cap
  have hm := h.most
  refine ⟨if c = e then p else p.map (·.add (e * 4)), fun u => ?_, by rw [List.length_drop, h.len], by omega, by omega, fun h0 => ?_, fun j x hx => ?_⟩
  · rw [run_slice_l u 27 p n c (by kernel_rfl) .i64 (e : Int) (by omega) (by omega), size_row]
    simp only [Result.andThen, sliced, Int.toNat_natCast]
  · obtain ⟨h1, h2⟩ := h.addr (by omega)
    subst h1
    rw [if_neg (by omega)]
    exact ⟨by simp only [Option.map_some, addr_plus], h2⟩
  · rw [List.getElem?_drop] at hx
    have := h.at' (e + j) x hx
    rw [show o + (e + j) * 4 = o + e * 4 + j * 4 by omega] at this
    exact this
theorem rows_upto {p : Option Addr} {n c b o e : Nat} {l : List Rw} {w : World} (h : Rs p n c b o l w) (he : e ≤ n) : Rs p e c b o (l.take e) w := by
  have hc := h.cap
  refine ⟨by rw [List.length_take, h.len]; omega, by omega, h.most, fun h0 => h.addr (by omega), fun j x hx => ?_⟩
  rw [List.getElem?_take] at hx
  split at hx
  · exact h.at' j x hx
  · cases hx
/-- What is handed back, as a slice of rows. -/
theorem rs_of_gave {l : List Rw} {w : World} {e : Ending} {w' : World} (h : GaveR l w e w') : ∃ p c b, e = .returned (.slice p l.length c) ∧ Rs p l.length c b 0 l w' ∧ Below w.heap.size w w' := by
  obtain ⟨v, rfl, hrow, hb⟩ := h
  obtain ⟨p, c, b, rfl, hr, _⟩ := rs_of_row hrow
  exact ⟨p, c, b, rfl, hr, hb⟩
/-- A row stands ahead, as the laws say it. -/
theorem ahd_parts (x : Rw) (k : ByteArray) (q : Nat) :
    (Op.bytesLess x.key.toList k.toList = true ∧ ahd x k q = true) ∨ (Op.bytesLess x.key.toList k.toList = false ∧ (x.key.toList == k.toList) = true ∧ ahd x k q = decide ((q : Int) < (x.seq : Int))) ∨ (Op.bytesLess x.key.toList k.toList = false ∧ (x.key.toList == k.toList) = false ∧ ahd x k q = false) := by
  have e2 : (decide (q < x.seq) : Bool) = decide ((q : Int) < (x.seq : Int)) := by congr 1; simp
  unfold ahd
  rw [less_before]
  by_cases e : x.key.toList = k.toList
  · rw [if_pos e]
    right; left
    exact ⟨by rw [e, WideAt.bytes_irrefl], by simpa using e, e2⟩
  · rw [if_neg e]
    cases h : bytesBefore x.key.toList k.toList with
    | true => exact .inl ⟨rfl, rfl⟩
    | false => exact .inr (.inr ⟨rfl, by simpa using e, rfl⟩)
theorem same_rows {p1 p2 : Option Addr} {n1 c1 b1 o1 n2 c2 b2 o2 : Nat} {l : List Rw} {w : World} (h1 : Rs p1 n1 c1 b1 o1 l w) (h2 : Rs p2 n2 c2 b2 o2 l w) :
    Calls Try.prog 17 #[.slice p1 n1 c1, .slice p2 n2 c2] w fun e w' => e = .returned (.bool true) ∧ Below w.heap.size w w' := by
  have := samerows_any h1 h2
  simpa using this
theorem rs_row_at {w : World} {B : Nat} {a : Option Addr} {n c : Nat} {l : List Rw} (h : w.ownsRow B 43 4 (.slice a n c) n (rowR l)) (hl : l.length = n) : ∃ b, Rs a n c b 0 l w := by
  subst hl
  obtain ⟨a', c', b, e, r, _⟩ := rs_of_row h
  cases e
  exact ⟨b, r⟩
theorem grown_below {w w2 w3 : World} {o : Obj} {e : TypeId} {size n : Nat} {v : Value} {xs : List Value} (h : Below w.heap.size w w2) (hr : w2.ownsRow w.heap.size e size v n xs) (hg : (w2.alloc o).grownBy w3 v.ownBlock) : Below w.heap.size w w3 := by
  have h1 := h.alloc h.size o
  exact h1.grown hg h1.size (fun k hk => (World.ownsRow.lt hr k hk).1)
end Go.Proofs.Ytdgbafpnfkedeaa
/-
  SkipSteps: a search goes past no more rows than there are, and, where all are one high, past those that are ahead. No condition.
-/
namespace Go.Proofs.Ytdgbafpnfkedeaa
set_option maxRecDepth 100000
open Go.RowKit
attribute [local go_sem] eq_node ne_node eq_list
abbrev zeroList : Obj := .cells #[.pointer none, .pointer none, .pointer none, .pointer none, .pointer none, .pointer none, .pointer none, .pointer none, .pointer none, .pointer none, .pointer none, .pointer none, .int .i64 0, .int .i64 0] 71
theorem num_at {a : Option Addr} {n c b o : Nat} {l : List Int} {w : World} (h : SlOf 1 cellsI a n c b o l w) {j : Nat} (hj : j < n) : ∃ x, l[j]? = some x ∧ a = some ⟨b, o, none⟩ ∧ w.cell? ⟨b, o + j, none⟩ = some (.int .i64 x) := by
  obtain ⟨x, hx⟩ : ∃ x, l[j]? = some x := ⟨_, List.getElem?_eq_getElem (by rw [h.len]; exact hj)⟩
  refine ⟨x, hx, (h.addr (by omega)).1, ?_⟩
  have := h.at' j x hx 0 _ rfl
  rw [Nat.mul_one, Nat.add_zero] at this
  exact this
/-- A list of a zoo, and what else a call may know of it. -/
theorem zoo_two (w : World) : Zoo w.heap.size [(w.heap.size, []), (w.heap.size + 1, [])] ((w.alloc zeroList).alloc zeroList) ∧ Below w.heap.size w ((w.alloc zeroList).alloc zeroList) := by
  have h1 := (Zoo.nil w.heap.size w).new (Nat.le_refl _)
  have h2 := h1.new (by rw [World.size_alloc]; omega)
  rw [World.size_alloc] at h2
  exact ⟨h2, below_of (below_alloc _ _) (below_alloc _ _)⟩
--LAW freshetlaw08.SkipSteps steps_walk rows:ra nums:ha string:key uint64:sq
--BEGIN
namespace SkipStepsProof
open Go.ChangeShapes Go.WideShapes Go.ChangeAt Go.RowKit
open Go.ChangeMaps (open_string shut_string)
theorem own : ownKnob Try.prog.godebug = none := by kernel_rfl
end SkipStepsProof
--END
end Go.Proofs.Ytdgbafpnfkedeaa
/-
  The document's list: Ahead, Place, There, Height, Steps. No condition but at most 1048575 rows.
-/
namespace Go.Proofs.Ytdgbafpnfkedeaa
set_option maxRecDepth 100000
open Go.RowKit
set_option maxRecDepth 100000 in
set_option maxHeartbeats 2000000 in
theorem ahead_ref (x : Rw) (k : ByteArray) (q : Nat) (w : World) : Calls Try.prog 48 #[rowV x, .string k, .int .u64 (q : Int)] w fun e w' => e = .returned (.bool (ahd x k q)) ∧ Below w.heap.size w w' := by
  have R0 := (RowAt.new x w).cells
  have W0 := Lib.hid (below_alloc w (.cells #[.string x.key, .int .u64 (x.seq : Int), .int .i64 x.kind, .string x.val] 43))
  have hp := ahd_parts x k q
  obtain ⟨xk, xs, xi, xv⟩ := x
  simp only at R0 W0 hp
  obtain ⟨⟨c0, c1, c2, c3⟩, _⟩ := R0
  rcases hp with ⟨p1, p2⟩ | ⟨p1, p3, p2⟩ | ⟨p1, p3, p2⟩
  · rw [p2]
    clear p2
    go_enter Try.func48, Try.ntmps48
    go_wp2_with fail
    go_returns
    exact ⟨rfl, W0.out⟩
  · rw [p2, show (decide ((q : Int) < (xs : Int))) = decide (q < xs) by congr 1; simp]
    clear p2
    go_enter Try.func48, Try.ntmps48
    go_wp2_with fail
    go_returns
    exact ⟨rfl, W0.out⟩
  · rw [p2]
    clear p2
    go_enter Try.func48, Try.ntmps48
    go_wp2_with fail
    go_returns
    exact ⟨rfl, W0.out⟩
theorem plc_drop {l : List Rw} {k : ByteArray} {q j : Nat} {x : Rw} (hx : l[j]? = some x) : plc (l.drop j) k q = if ahd x k q = true then 1 + plc (l.drop (j + 1)) k q else 0 := by
  obtain ⟨h1, h2⟩ := List.getElem?_eq_some_iff.1 hx
  rw [List.drop_eq_getElem_cons h1, h2]
  unfold plc
  rw [List.takeWhile_cons]
  split
  · simp; omega
  · rfl
set_option maxRecDepth 100000 in
set_option maxHeartbeats 4000000 in
theorem place_ref {p : Option Addr} {n c b o : Nat} {l : List Rw} {w : World} (h : Rs p n c b o l w) (hn : n ≤ 1048575) (k : ByteArray) (q : Nat) :
    Calls Try.prog 42 #[.slice p n c, .string k, .int .u64 (q : Int)] w fun e w' => e = .returned (.int .i64 (plc l k q : Int)) ∧ Below w.heap.size w w' := by
  have e0 := Lib.hid h.len
  have m0 := h.most
  have q0 := h.cap
  obtain ⟨E, hE⟩ := named (plc l k q)
  rw [← hE.out]
  have h := Lib.hid h
  go_enter Try.func42, Try.ntmps42
  go_wp2_with fail
  go_loopw [7] (fun i wr => ∃ j : Nat, j ≤ n ∧ i = .int .i64 (j : Int) ∧ E = j + plc (l.drop j) k q ∧ Below w.heap.size w wr) (fun i _ => n - (intOf i).toNat)
  case atStart => exact ⟨0, Nat.zero_le _, rfl, by rw [hE.out]; simp, Below.refl _ _⟩
  case round =>
    obtain ⟨j, hj, rfl, hEj, hb⟩ := hrel
    by_cases hlt : j < n
    · obtain ⟨x, hx, rfl, x0, x1, x2, x3⟩ := (h.out.below hb (Nat.le_refl _)).at4 hlt
      rw [plc_drop hx] at hEj
      have AC := Lib.hid (ahead_ref x k q wr)
      have i1 : (j : Int) < (n : Int) := by omega
      obtain ⟨xk, xs, xi, xv⟩ := x
      simp only at x0 x1 x2 x3 AC hEj
      obtain ⟨T, hT⟩ := named (ahd ⟨xk, xs, xi, xv⟩ k q)
      rw [← hT.out] at AC hEj
      have hb := Lib.hid hb
      clear hx
      cases T with
      | true =>
        have hEj2 : Hid (E = j + 1 + plc (l.drop (j + 1)) k q) := Lib.hid (by simp only [if_true] at hEj; omega)
        clear hEj
        go_wp2_with (go_at_call 48; ((with_reducible refine AC.out.mono ?_); rintro e w2 ⟨rfl, hb2⟩; have B2 := Lib.hid (below_of hb.out hb2); clear hb2))
        go_roundw
        case rel => exact ⟨j + 1, by omega, by go_num, hEj2.out, B2.out⟩
        case measure => simp [intOf]; omega
      | false =>
        have hEj2 : Hid (E = j) := Lib.hid (by simpa using hEj)
        clear hEj
        go_wp2_with (go_at_call 48; ((with_reducible refine AC.out.mono ?_); rintro e w2 ⟨rfl, hb2⟩; have B2 := Lib.hid (below_of hb.out hb2); clear hb2))
        go_returns
        exact ⟨by rw [hEj2.out]; rfl, B2.out⟩
    · have hjn : j = n := by omega
      have hEj2 : E = j := by
        rw [hEj, List.drop_eq_nil_of_le (by rw [e0.out]; omega)]
        simp [plc]
      have i1 : ¬ ((j : Int) < (n : Int)) := by omega
      have hb := Lib.hid hb
      replace hEj2 := Lib.hid hEj2
      clear hEj hjn
      go_wp2_with fail
      go_returns
      exact ⟨by rw [hEj2.out]; rfl, hb.out⟩
set_option maxRecDepth 100000 in
set_option maxHeartbeats 4000000 in
theorem there_ref {p : Option Addr} {n c b o : Nat} {l : List Rw} {w : World} (h : Rs p n c b o l w) (hn : n ≤ 1048575) (k : ByteArray) (q : Nat) :
    Calls Try.prog 29 #[.slice p n c, .string k, .int .u64 (q : Int)] w fun e w' => e = .returned (.bool (thr l k q)) ∧ Below w.heap.size w w' := by
  have m0 := h.most
  have q0 := h.cap
  have PC := Lib.hid (place_ref h hn k q)
  have ple := plc_le l k q
  rw [h.len] at ple
  obtain ⟨T, hT⟩ := named (thr l k q)
  have hT2 := hT.out
  rw [← hT.out]
  unfold thr at hT2
  obtain ⟨E, hE⟩ := named (plc l k q)
  rw [← hE.out] at PC hT2 ple
  by_cases hlt : E < n
  · have h' := Lib.hid h
    obtain ⟨x, hx, rfl, x0, x1, x2, x3⟩ := h.at4 hlt
    rw [hx] at hT2
    have hlb := World.block_lt_of_cell? _ _ x0
    have i1 : (E : Int) < (n : Int) := by omega
    obtain ⟨xk, xs, xi, xv⟩ := x
    simp only at x0 x1 x2 x3 hT2
    replace hT2 := Lib.hid hT2
    clear h hx ple
    go_enter Try.func29, Try.ntmps29
    by_cases q1 : xk.toList = k.toList
    · have q1b : (xk.toList == k.toList) = true := by simpa using q1
      by_cases q2 : xs = q
      · have q2b : ((xs : Int) == (q : Int)) = true := by rw [beq_iff_eq]; omega
        have hT3 : Hid (T = true) := Lib.hid (by rw [hT2.out, q1, q2]; simp)
        clear q1 q2
        go_wp2_with (go_at_call 42; ((with_reducible refine PC.out.mono ?_); rintro e w2 ⟨rfl, hb2⟩; have y0 := (hb2.cell (p := ⟨b, o + E * 4, none⟩) hlb).trans x0; have y1 := (hb2.cell (p := ⟨b, o + E * 4 + 1, none⟩) hlb).trans x1; have B2 := Lib.hid hb2; clear hb2))
        go_returns
        exact ⟨by rw [hT3.out]; rfl, B2.out⟩
      · have q2b : ((xs : Int) == (q : Int)) = false := by rw [beq_eq_false_iff_ne]; omega
        have hT3 : Hid (T = false) := Lib.hid (by rw [hT2.out, decide_eq_false q2]; simp)
        clear q1 q2
        go_wp2_with (go_at_call 42; ((with_reducible refine PC.out.mono ?_); rintro e w2 ⟨rfl, hb2⟩; have y0 := (hb2.cell (p := ⟨b, o + E * 4, none⟩) hlb).trans x0; have y1 := (hb2.cell (p := ⟨b, o + E * 4 + 1, none⟩) hlb).trans x1; have B2 := Lib.hid hb2; clear hb2))
        go_returns
        exact ⟨by rw [hT3.out]; rfl, B2.out⟩
    · have q1b : (xk.toList == k.toList) = false := by simpa using q1
      have hT3 : Hid (T = false) := Lib.hid (by rw [hT2.out, decide_eq_false q1]; simp)
      clear q1
      go_wp2_with (go_at_call 42; ((with_reducible refine PC.out.mono ?_); rintro e w2 ⟨rfl, hb2⟩; have y0 := (hb2.cell (p := ⟨b, o + E * 4, none⟩) hlb).trans x0; have y1 := (hb2.cell (p := ⟨b, o + E * 4 + 1, none⟩) hlb).trans x1; have B2 := Lib.hid hb2; clear hb2))
      go_returns
      exact ⟨by rw [hT3.out]; rfl, B2.out⟩
  · have hx : l[E]? = none := by rw [List.getElem?_eq_none_iff, h.len]; omega
    rw [hx] at hT2
    have i1 : ¬ ((E : Int) < (n : Int)) := by omega
    replace hT2 := Lib.hid hT2
    clear h hx ple hlt
    go_enter Try.func29, Try.ntmps29
    go_wp2_with (go_at_call 42; ((with_reducible refine PC.out.mono ?_); rintro e w2 ⟨rfl, hb2⟩; have B2 := Lib.hid hb2; clear hb2))
    go_returns
    exact ⟨by rw [hT2.out]; rfl, B2.out⟩
end Go.Proofs.Ytdgbafpnfkedeaa
/-
  The document's list: Height, Steps. No condition but at most 1048575 rows.
-/
namespace Go.Proofs.Ytdgbafpnfkedeaa
set_option maxRecDepth 100000
open Go.RowKit
def intsH (hs : List Nat) : List Int := hs.map fun (h : Nat) => ((h : Nat) : Int)
theorem intsH_at {hs : List Nat} {j : Nat} {x : Int} (h : (intsH hs)[j]? = some x) : ∃ y, hs[j]? = some y ∧ x = (y : Int) := by
  unfold intsH at h
  rw [List.getElem?_map] at h
  obtain ⟨y, hy, rfl⟩ := Option.map_eq_some_iff.1 h
  exact ⟨y, hy, rfl⟩
theorem pair_box {v : World} {N : Nat} {x0 x1 : Value} {T : TypeId} (h : v.heap[N]? = some (.cells #[x0, x1] T (0, 0))) : v.cell? ⟨N, 0, none⟩ = some x0 ∧ v.cell? ⟨N, 1, none⟩ = some x1 :=
  ⟨by simp [World.cell?, h], by simp [World.cell?, h]⟩
end Go.Proofs.Ytdgbafpnfkedeaa
/-
  The document's list in memory, and its Put. No condition but at most 1000000 rows.
-/
namespace Go.Proofs.Ytdgbafpnfkedeaa
set_option maxRecDepth 100000
open Go.RowKit
/-- Heights as cells. -/
def cellsH (hs : List Nat) : List Value := hs.map fun (h : Nat) => Value.int .i64 (h : Int)
theorem cellsH_len (hs : List Nat) : (cellsH hs).length = hs.length := by simp [cellsH]
theorem slof_of_row {w : World} {B : Nat} {a : Option Addr} {n c : Nat} {hs : List Nat} (h : w.ownsRow B 3 1 (.slice a n c) n (cellsH hs)) (hl : hs.length = n) : ∃ b, SlOf 1 cellsI a n c b 0 (intsH hs) w := by
  rcases h.2 with ⟨e, hz⟩ | ⟨g, cap, cur, e, hg, hb, hn, hm, hs', ht⟩
  · simp at e
    obtain ⟨rfl, rfl, rfl⟩ := e
    have : hs = [] := List.length_eq_zero_iff.1 hl
    subst this
    exact ⟨0, rfl, Nat.le_refl _, by omega, fun h => absurd h (by omega), fun j x hx => by simp [intsH] at hx⟩
  · simp at e
    obtain ⟨rfl, rfl⟩ := e
    unfold maxLen at hm
    refine ⟨g, by unfold intsH; rw [List.length_map]; exact hl, hn, by omega, fun _ => ⟨rfl, (Array.getElem?_eq_some_iff.1 hb).1⟩, fun j x hx m u hu => ?_⟩
    obtain ⟨y, hy, rfl⟩ := intsH_at hx
    have hm0 : m = 0 := by have := (List.getElem?_eq_some_iff.1 hu).1; simp [cellsI] at this; omega
    subst hm0
    have hu' : u = .int .i64 (y : Int) := by simpa [cellsI] using hu.symm
    subst hu'
    have hj : j < hs.length := (List.getElem?_eq_some_iff.1 hy).1
    have := World.ownsRow.cellAt h j (by omega)
    rw [show 0 + j * 1 + 0 = j by omega]
    refine this.trans ?_
    unfold cellsH
    rw [List.getElem?_map, hy]; rfl
theorem row_grow {w w' : World} {B : Nat} {e : TypeId} {size n : Nat} {v : Value} {xs : List Value} (h : w.ownsRow B e size v n xs) (hb : Below w.heap.size w w') : w'.ownsRow B e size v n xs := by
  refine ⟨h.1, ?_⟩
  rcases h.2 with e' | ⟨g, cap, cur, e', a, b, c⟩
  · exact .inl e'
  · exact .inr ⟨g, cap, cur, e', a, (hb.block g (Array.getElem?_eq_some_iff.1 b).1).trans b, c⟩
/-- A row stands where one of another type is appended to. -/
theorem row_row {w w' : World} {o : Obj} {B B2 : Nat} {e e2 : TypeId} {size n size2 n2 : Nat} {v v2 : Value} {xs ys : List Value} (h : w.ownsRow B e size v n xs) (h2 : w.ownsRow B2 e2 size2 v2 n2 ys) (hne : e ≠ e2) (hg : (w.alloc o).grownBy w' v2.ownBlock) : w'.ownsRow B e size v n xs := by
  refine ⟨h.1, ?_⟩
  rcases h.2 with e' | ⟨g, cap, cur, e', a, b, c⟩
  · exact .inl e'
  · have hlt := (Array.getElem?_eq_some_iff.1 b).1
    refine .inr ⟨g, cap, cur, e', a, ((hg.block g (by rw [World.size_alloc]; omega) (fun e3 => ?_)).trans (Lib.alloc_old w o g hlt)).trans b, c⟩
    rcases h2.2 with ⟨rfl, _⟩ | ⟨g2, cap2, cur2, rfl, _, hb2, _⟩
    · simp [Value.ownBlock] at e3
    · obtain rfl : g = g2 := by simpa [Value.ownBlock] using e3
      rw [b] at hb2
      simp only [Option.some.injEq, Obj.cells.injEq] at hb2
      exact hne hb2.2.1
/-- What Put has put together behind j rows. -/
def bl (l : SL) (x : Rw) (h e j : Nat) : SL := if j ≤ e then l.take j else l.take e ++ (x, h) :: (l.drop e).take (j - e)
theorem bl_zero (l : SL) (x : Rw) (h e : Nat) : bl l x h e 0 = [] := by unfold bl; rw [if_pos (Nat.zero_le _)]; rfl
theorem bl_before {l : SL} {x : Rw} {h e j : Nat} {y : Rw × Nat} (hj : j < e) (hy : l[j]? = some y) : bl l x h e (j + 1) = bl l x h e j ++ [y] := by
  unfold bl
  rw [if_pos (by omega), if_pos (by omega), List.take_add_one, hy]; rfl
theorem bl_here {l : SL} {x : Rw} {h e : Nat} {y : Rw × Nat} (hy : l[e]? = some y) : bl l x h e (e + 1) = bl l x h e e ++ [(x, h)] ++ [y] := by
  unfold bl
  rw [if_neg (by omega), if_pos (Nat.le_refl _), show e + 1 - e = 1 by omega]
  obtain ⟨h1, h2⟩ := List.getElem?_eq_some_iff.1 hy
  rw [List.drop_eq_getElem_cons h1, h2]
  simp
theorem bl_behind {l : SL} {x : Rw} {h e j : Nat} {y : Rw × Nat} (hj : e < j) (hy : l[j]? = some y) : bl l x h e (j + 1) = bl l x h e j ++ [y] := by
  unfold bl
  rw [if_neg (by omega), if_neg (by omega), show j + 1 - e = (j - e) + 1 by omega, List.take_add_one, List.getElem?_drop, show e + (j - e) = j by omega, hy]
  simp
theorem bl_len {l : SL} {x : Rw} {h e j : Nat} (hj : j ≤ l.length) (he : e ≤ l.length) : (bl l x h e j).length ≤ j + 1 := by
  unfold bl
  split
  · rw [List.length_take]; omega
  · simp only [List.length_append, List.length_cons, List.length_take, List.length_drop]; omega
theorem bl_end {l : SL} {x : Rw} {h e : Nat} (he : e < l.length) : bl l x h e l.length = l.take e ++ (x, h) :: l.drop e := by
  unfold bl
  rw [if_neg (by omega), show (l.drop e).take (l.length - e) = l.drop e from List.take_of_length_le (by rw [List.length_drop]; omega)]
theorem bl_last {l : SL} {x : Rw} {h : Nat} : bl l x h l.length l.length ++ [(x, h)] = l.take l.length ++ (x, h) :: l.drop l.length := by
  unfold bl
  rw [if_pos (Nat.le_refl _), List.drop_length]
theorem rowsL_snoc (l : SL) (y : Rw × Nat) : rowsL (l ++ [y]) = rowsL l ++ [y.1] := by simp [rowsL]
theorem cellsH_snoc (l : SL) (y : Rw × Nat) : cellsH (hgtsL (l ++ [y])) = cellsH (hgtsL l) ++ [.int .i64 (y.2 : Int)] := by simp [cellsH, hgtsL]
theorem hgtsL_snoc (l : SL) (y : Rw × Nat) : hgtsL (l ++ [y]) = hgtsL l ++ [y.2] := by simp [hgtsL]
theorem info_int : (Try.prog.info? 3).map (fun i => (i.zero, i.size, i.bytes)) = some (some (.int .i64 0), 1, 8) := by kernel_rfl
theorem undrew {w v : World} (h : Below w.drew.heap.size w.drew v) : Below w.heap.size w v := ⟨h.os, h.tape, h.output, h.size, h.block⟩
/-- Two rows under way. -/
structure TwoR (w : World) (rv hv : Value) (L1 : List Rw) (L2 : List Nat) (v : World) : Prop where
  rows : v.ownsRow w.heap.size 43 4 rv L1.length (rowR L1)
  hgts : v.ownsRow w.heap.size 3 1 hv L2.length (cellsH L2)
  blw : Below w.heap.size w v
theorem TwoR.addRow {w : World} {rv hv rv' : Value} {L1 : List Rw} {L2 : List Nat} {v u : World} {o : Obj} {x : Rw} (h : TwoR w rv hv L1 L2 v) (hown : u.ownsRow w.heap.size 43 4 rv' (L1.length + 1) (rowR L1 ++ [.string x.key, .int .u64 (x.seq : Int), .int .i64 x.kind, .string x.val])) (hg : (v.alloc o).grownBy u rv.ownBlock) : TwoR w rv' hv (L1 ++ [x]) L2 u :=
  ⟨by rw [rowR_snoc, List.length_append]; exact hown, row_row h.hgts h.rows (by decide) hg, grown_below h.blw h.rows hg⟩
theorem TwoR.addHgt {w : World} {rv hv hv' : Value} {L1 : List Rw} {L2 : List Nat} {v u : World} {o : Obj} {y : Nat} (h : TwoR w rv hv L1 L2 v) (hown : u.ownsRow w.heap.size 3 1 hv' (L2.length + 1) (cellsH L2 ++ [.int .i64 (y : Int)])) (hg : (v.alloc o).grownBy u hv.ownBlock) : TwoR w rv hv' L1 (L2 ++ [y]) u :=
  ⟨row_row h.rows h.hgts (by decide) hg, by rw [List.length_append]; unfold cellsH; rw [List.map_append]; exact hown, grown_below h.blw h.hgts hg⟩
theorem row_base {w : World} {B B' : Nat} {e : TypeId} {size n : Nat} {v : Value} {xs : List Value} (h : w.ownsRow B' e size v n xs) (hB : B ≤ B') : w.ownsRow B e size v n xs := by
  refine ⟨h.1, ?_⟩
  rcases h.2 with e' | ⟨g, cap, cur, e', a, b⟩
  · exact .inl e'
  · exact .inr ⟨g, cap, cur, e', Nat.le_trans hB a, b⟩
theorem news_one {w : World} {T : TypeId} {v : Value} : ∀ j u, ([v] : List Value)[j]? = some u → (w.alloc (.cells #[v] T)).cell? ((⟨w.heap.size, 0, none⟩ : Addr).add j) = some u := World.news_of_block (heap_alloc_new _ _)
end Go.Proofs.Ytdgbafpnfkedeaa
/-
  An argument of type []Op: opened.
-/
namespace Go.Proofs.Ytdgbafpnfkedeaa
open Go.RowKit
set_option maxRecDepth 100000
structure SkOp where
  act : Int
  row : Rw
  hgt : Int
  deriving Inhabited
def cellsK (v : SkOp) : List Value := [.int .i64 v.act, .string v.row.key, .int .u64 (v.row.seq : Int), .int .i64 v.row.kind, .string v.row.val, .int .i64 v.hgt]
def SkOpIn (v : SkOp) : Prop := (Lit.int .i64 v.act).wf = true ∧ RwIn v.row ∧ (Lit.int .i64 v.hgt).wf = true
end Go.Proofs.Ytdgbafpnfkedeaa
/-
  The program's list and the document's, side by side: SkipPlays's relation.
-/
namespace Go.Proofs.Ytdgbafpnfkedeaa
set_option maxRecDepth 100000
open Go.RowKit
theorem Zoo.but {base d : Nat} {zs : List (Nat × SL)} {w w' : World} {cs : Array Value} {T : TypeId} {z : Nat × Nat} (h : Zoo base zs w) (hd : w.heap[d]? = some (.cells cs T z)) (h1 : T ≠ 71) (h2 : T ≠ 97) (hb : But d w w') : Zoo base zs w' := by
  obtain ⟨f, k1, k2⟩ := h
  have bl : ∀ b U, Typed w b U → U ≠ T → b < w.heap.size → w'.heap[b]? = w.heap[b]? := fun b U ht hU hlt => hb.block b hlt (fun e => by
    subst e
    obtain ⟨c, hc⟩ := ht
    rw [hd] at hc
    simp only [Option.some.injEq, Obj.cells.injEq] at hc
    exact hU hc.2.1.symm)
  exact ⟨f, fun i p l e' => ⟨(k1 i p l e').1.keep (bl p _ (k1 i p l e').1.typ (Ne.symm h1) (k1 i p l e').1.lt) (fun x hx => bl x.blk _ ((k1 i p l e').1.ntyp x hx) (Ne.symm h2) ((k1 i p l e').1.nlt hx)), (k1 i p l e').2⟩, k2⟩
end Go.Proofs.Ytdgbafpnfkedeaa
/-
  A drawn region whose loads are held by a condition, walked by hand: one operation taken, or passed over by its guard. No condition.
-/
namespace Go.Proofs.Ytdgbafpnfkedeaa
set_option maxRecDepth 100000
open Go
variable {P : Program} {md : Region.Mode} {ops : Array Oper} {Q : Exit → Act → World → Prop} {S : World → Prop} {fuel : Nat} {listed : Array Bool} {a : Act} {w : World}
theorem held_take {i : Nat} {dst : Option Tmp} {op : Op} {type : TypeId} {pos : String} {after} {guard} {v : Value} (hi : ops[i]? = some { dst := dst, op := op, type := type, pos := pos, after := after, guard := guard })
    (hs : Region.noSelect ops = true) (hf : Region.free md ops listed i = true) (hr : (Region.ready md ops listed).contains i = true)
    (hQ : ∀ c a w, Q (.panic c) (a.put dst v) w → Q (.panic c) a w) (hw : Region.wanted { dst := dst, op := op, type := type, pos := pos, after := after, guard := guard } (yielded ops a.tmps) = true)
    (hy : ∀ w, S w → (execOp a.eval { dst := dst, op := op, type := type, pos := pos, after := after, guard := guard }).run P w = .ok (.value v) w) (hS : S w)
    (h : wpAnyH P md ops Q S fuel (listed.setIfInBounds i true) (a.put dst v) w) : wpAnyH P md ops Q S (fuel + 1) listed a w := wpAnyH_take hi hs hf hr hQ (Or.inl ⟨hw, hy⟩) hS h
theorem held_skip {i : Nat} {dst : Option Tmp} {op : Op} {type : TypeId} {pos : String} {after} {guard} (hi : ops[i]? = some { dst := dst, op := op, type := type, pos := pos, after := after, guard := guard })
    (hs : Region.noSelect ops = true) (hf : Region.free md ops listed i = true) (hr : (Region.ready md ops listed).contains i = true)
    (hQ : ∀ c a w, Q (.panic c) (a.put dst undef) w → Q (.panic c) a w) (hw : Region.wanted { dst := dst, op := op, type := type, pos := pos, after := after, guard := guard } (yielded ops a.tmps) = false) (hS : S w)
    (h : wpAnyH P md ops Q S fuel (listed.setIfInBounds i true) (a.put dst undef) w) : wpAnyH P md ops Q S (fuel + 1) listed a w := wpAnyH_take hi hs hf hr hQ (Or.inr ⟨hw, rfl⟩) hS h
theorem held_call {i : Nat} {dst : Option Tmp} {op : Op} {type : TypeId} {pos : String} {after} {guard} (hr : Region.ready md ops listed = [i]) (hi : ops[i]? = some { dst := dst, op := op, type := type, pos := pos, after := after, guard := guard })
    (hw : Region.wanted { dst := dst, op := op, type := type, pos := pos, after := after, guard := guard } (yielded ops a.tmps) = true)
    (h : ∀ K : Act → World → Prop, Shut (∀ a w, S w → (S w → wpAnyH P md ops Q S fuel (listed.setIfInBounds i true) a w) → K a w) → Oper.wp P { dst := dst, op := op, type := type, pos := pos, after := after, guard := guard } a w K Q) : wpAnyH P md ops Q S (fuel + 1) listed a w :=
  wpAnyH_ready hr (by simp) (AllReadyH.cons hi (fun K hK => by rw [if_pos hw]; exact h K hK) AllReadyH.nil)
/-- Two operations that may come first: each way. -/
theorem held_two {i j : Nat} {o1 o2 : Oper} (hr : Region.ready md ops listed = [i, j]) (hi : ops[i]? = some o1) (hj : ops[j]? = some o2)
    (hw : Region.wanted o1 (yielded ops a.tmps) = true) (hw2 : Region.wanted o2 (yielded ops a.tmps) = true)
    (h : ∀ K : Act → World → Prop, Shut (∀ a w, S w → (S w → wpAnyH P md ops Q S fuel (listed.setIfInBounds i true) a w) → K a w) → Oper.wp P o1 a w K Q)
    (h2 : ∀ K : Act → World → Prop, Shut (∀ a w, S w → (S w → wpAnyH P md ops Q S fuel (listed.setIfInBounds j true) a w) → K a w) → Oper.wp P o2 a w K Q) : wpAnyH P md ops Q S (fuel + 1) listed a w :=
  wpAnyH_ready hr (by simp) (AllReadyH.cons hi (fun K hK => by rw [if_pos hw]; exact h K hK) (AllReadyH.cons hj (fun K hK => by rw [if_pos hw2]; exact h2 K hK) AllReadyH.nil))
end Go.Proofs.Ytdgbafpnfkedeaa
/-
  The contract of the table's insert. Condition: a row of a valid batch whose place is free, at most 1000000 rows.
-/
namespace Go.Proofs.Ytdgbafpnfkedeaa
set_option maxRecDepth 100000
open Go.RowKit
attribute [local go_sem] eq_node ne_node eq_list eq_table
/-- The world within insert: the lists, the table's block, the row's. -/
structure InS (base p ob : Nat) (zs : List (Nat × SL)) (x : Rw) (L : Nat) (a b c : Nat) (w0 w : World) : Prop where
  zoo : Zoo base zs w
  tab : w.heap[p]? = some (.cells #[.pointer (some ⟨L, 0, none⟩), .int .i64 (a : Int), .int .u64 (b : Int), .int .u64 (c : Int)] 54 (0, 0))
  row : RowAt ob x w
  but : But p w0 w
section
variable {base p ob : Nat} {zs : List (Nat × SL)} {x : Rw} {L a b c : Nat} {w0 w : World}
theorem InS.ne (h : InS base p ob zs x L a b c w0 w) : ob ≠ p := fun e => by
  have h1 := h.row
  have h2 := h.tab
  subst e
  unfold RowAt at h1
  rw [h2] at h1
  simp only [Option.some.injEq, Obj.cells.injEq] at h1
  exact absurd h1.2.1 (by decide)
theorem InS.drew (h : InS base p ob zs x L a b c w0 w) : InS base p ob zs x L a b c w0 w.drew := ⟨h.zoo.grow (Below.refl _ w).drew, h.tab, h.row, h.but.drew⟩
theorem but_set (p i : Nat) (v : Value) (w : World) : But p w (w.setCell ⟨p, i, none⟩ v) := (But.refl p w).setCell rfl v
theorem InS.set1 (h : InS base p ob zs x L a b c w0 w) (v : Nat) : InS base p ob zs x L v b c w0 (w.setCell ⟨p, 1, none⟩ (.int .i64 (v : Int))) :=
  ⟨h.zoo.but h.tab (by decide) (by decide) (but_set p 1 _ w), heap_setCell_same _ p 1 _ _ (.int .i64 (v : Int)) h.tab, (Below.heap_setCell w ⟨p, 1, none⟩ _ ob h.ne).trans h.row, h.but.trans (but_set p 1 _ w)⟩
theorem InS.set2 (h : InS base p ob zs x L a b c w0 w) (v : Nat) : InS base p ob zs x L a v c w0 (w.setCell ⟨p, 2, none⟩ (.int .u64 (v : Int))) :=
  ⟨h.zoo.but h.tab (by decide) (by decide) (but_set p 2 _ w), heap_setCell_same _ p 2 _ _ (.int .u64 (v : Int)) h.tab, (Below.heap_setCell w ⟨p, 2, none⟩ _ ob h.ne).trans h.row, h.but.trans (but_set p 2 _ w)⟩
theorem InS.set3 (h : InS base p ob zs x L a b c w0 w) (v : Nat) : InS base p ob zs x L a b v w0 (w.setCell ⟨p, 3, none⟩ (.int .u64 (v : Int))) :=
  ⟨h.zoo.but h.tab (by decide) (by decide) (but_set p 3 _ w), heap_setCell_same _ p 3 _ _ (.int .u64 (v : Int)) h.tab, (Below.heap_setCell w ⟨p, 3, none⟩ _ ob h.ne).trans h.row, h.but.trans (but_set p 3 _ w)⟩
theorem InS.cells (h : InS base p ob zs x L a b c w0 w) : w.cell? ⟨p, 0, none⟩ = some (.pointer (some ⟨L, 0, none⟩)) ∧ w.cell? ⟨p, 1, none⟩ = some (.int .i64 (a : Int)) ∧ w.cell? ⟨p, 2, none⟩ = some (.int .u64 (b : Int)) ∧ w.cell? ⟨p, 3, none⟩ = some (.int .u64 (c : Int)) ∧ ∀ i, w.frozen? ⟨p, i, none⟩ = false := by
  have h := h.tab
  refine ⟨?_, ?_, ?_, ?_, fun i => ?_⟩ <;> (first | (unfold World.cell?; rw [h]; rfl) | simp [World.frozen?, h])
end
/-- What a table's call leaves beside its own block: whatever is no list and no node. -/
def Else3 (p : Nat) (w w' : World) : Prop := ∀ k, k < w.heap.size → k ≠ p → ¬ Typed w k 71 → ¬ Typed w k 97 → w'.heap[k]? = w.heap[k]?
theorem else3_of {p : Nat} {w w1 w2 : World} (h : But p w w1) (he : Else w1 w2) : Else3 p w w2 := fun k hk hp n1 n2 => by
  have e := h.block k hk hp
  have t : ∀ T, Typed w1 k T → Typed w k T := fun T ht => by
    obtain ⟨cs, hc⟩ := ht
    exact ⟨cs, e ▸ hc⟩
  exact (he k (Nat.lt_of_lt_of_le hk h.size) (fun ht => n1 (t _ ht)) (fun ht => n2 (t _ ht))).trans e
theorem but_base {p base : Nat} {w w1 w2 : World} (h : But p w w1) (hp : base ≤ p) (hb : base ≤ w.heap.size) (h2 : Below base w1 w2) : Below base w w2 := (h.below hp hb).trans h2
theorem tab_else {p : Nat} {cs : Array Value} {w w' : World} (h : w.heap[p]? = some (.cells cs 54 (0, 0))) (he : Else w w') : w'.heap[p]? = some (.cells cs 54 (0, 0)) := by
  have nt : ∀ T, T ≠ 54 → ¬ Typed w p T := fun T hT ht => by
    obtain ⟨c, hc⟩ := ht
    rw [h] at hc
    simp only [Option.some.injEq, Obj.cells.injEq] at hc
    exact hT hc.2.1.symm
  exact (he p (Array.getElem?_eq_some_iff.1 h).1 (nt _ (by decide)) (nt _ (by decide))).trans h
theorem row_at_else {b : Nat} {x : Rw} {w w' : World} (h : RowAt b x w) (he : Else w w') : RowAt b x w' := by
  have nt : ∀ T, T ≠ 43 → ¬ Typed w b T := fun T hT ht => by
    obtain ⟨c, hc⟩ := ht
    unfold RowAt at h
    rw [h] at hc
    simp only [Option.some.injEq, Obj.cells.injEq] at hc
    exact hT hc.2.1.symm
  exact (he b (Array.getElem?_eq_some_iff.1 h).1 (nt _ (by decide)) (nt _ (by decide))).trans h
theorem tab_cell0 {p : Nat} {v a b c : Value} {T : TypeId} {w : World} (h : w.heap[p]? = some (.cells #[v, a, b, c] T (0, 0))) : w.cell? ⟨p, 0, none⟩ = some v := by unfold World.cell?; rw [h]; rfl
set_option maxHeartbeats 8000000 in
theorem insert_any {base p L : Nat} {zs : List (Nat × SL)} {l : SL} {i : Nat} {w : World} (hz : Zoo base zs w) (hb : base ≤ w.heap.size) (hi : zs[i]? = some (L, l)) (hT : TabAt p (some ⟨L, 0, none⟩) (rowsL l) w) (hbp : base ≤ p) (hn : l.length ≤ 1000000) (hs : ∀ y ∈ rowsL l, shortR y) (x : Rw) (hx : shortR x) (hf : thrL l x.key x.seq = false) (hgt : Int) :
    Calls Try.prog 35 #[.pointer (some ⟨p, 0, none⟩), rowV x, .int .i64 hgt] w fun e w' => e = .returned (.tuple #[]) ∧ Zoo base (zs.set i (L, putL l x (hgtOf hgt))) w' ∧ TabAt p (some ⟨L, 0, none⟩) (insR (rowsL l) x) w' ∧ Below base w w' ∧ Else3 p w w' := by
  have hpl : p < w.heap.size := (Array.getElem?_eq_some_iff.1 hT).1
  have hgl : (putL l x (hgtOf hgt)) = insL l x (hgtOf hgt) := by unfold putL; rw [if_neg (by rw [hf]; simp)]
  have rl := room_le hs
  have ll := ls_le hs
  have gl := gr_le hs
  have r1 := room_ins (rowsL l) x
  have l1 := ls_ins (rowsL l) x (short_in hx).2.2
  have g1 := gr_ins (rowsL l) x
  have hnl := rows_len l
  have LQ : TabQ (some ⟨p, 0, none⟩) (rowsL l) w := .inr ⟨p, some ⟨L, 0, none⟩, l, rfl, hT, hz.ls hi, rfl, by omega⟩
  obtain ⟨xk, xs, xi, xv⟩ := x
  dsimp only at l1 g1 hf
  have S0 : Hid (InS base p w.heap.size zs ⟨xk, xs, xi, xv⟩ L (roomR (rowsL l)) (lsR (rowsL l)) (grR (rowsL l)) w (w.alloc (.cells #[.string xk, .int .u64 (xs : Int), .int .i64 xi, .string xv] 43))) := Lib.hid ⟨hz.grow (below_alloc _ _), (below_alloc w _).block p hpl |>.trans hT, RowAt.new ⟨xk, xs, xi, xv⟩ w, But.of_below (below_alloc _ _) (Nat.le_refl _)⟩
  have LN := tlen_any (LQ.grow (below_alloc w (.cells #[.string xk, .int .u64 (xs : Int), .int .i64 xi, .string xv] 43)))
  have hxs := hx
  unfold shortR at hxs
  dsimp only at hxs
  have hsz : sizeR ⟨xk, xs, xi, xv⟩ = xk.size + xv.size + 16 := rfl
  obtain ⟨RM, hRM⟩ := named (roomR (rowsL l))
  obtain ⟨LS, hLS⟩ := named (lsR (rowsL l))
  obtain ⟨GR, hGR⟩ := named (grR (rowsL l))
  obtain ⟨K, hK⟩ := named (rowsL l).length
  obtain ⟨N, hN⟩ := named (roomR (insR (rowsL l) ⟨xk, xs, xi, xv⟩))
  obtain ⟨M, hM⟩ := named (lsR (insR (rowsL l) ⟨xk, xs, xi, xv⟩))
  obtain ⟨G, hG⟩ := named (grR (insR (rowsL l) ⟨xk, xs, xi, xv⟩))
  rw [← hRM.out, ← hLS.out, ← hGR.out] at S0
  rw [← hK.out] at LN rl
  rw [← hRM.out] at rl r1
  rw [← hLS.out, ← hK.out] at l1
  rw [← hLS.out] at ll
  rw [← hGR.out] at gl g1
  rw [← hN.out] at r1
  rw [← hM.out] at l1
  rw [← hG.out] at g1
  have LN := Lib.hid LN
  obtain ⟨c0, c1, c2, c3, cf⟩ := S0.out.cells
  have z0 := S0.out.row.cells.1.2.1
  have hN2 : (RM : Int) + (((xk.size : Int) + (xv.size : Int)) + 16) = (N : Int) := by omega
  have hKl : K ≤ 1000000 := by rw [hK.out, rows_len]; exact hn
  have hNb : N ≤ 9223372036854775807 := by omega
  have MX : ∀ u : World, (Builtin.max_ #[28, 28] 28 #[.int .u64 (GR : Int), .int .u64 (xs : Int)]).run Try.prog u = .ok (.int .u64 (G : Int)) u := fun u => by
    rw [run_max_int2]
    congr 2
    split <;> omega
  replace r1 := Lib.hid r1
  replace g1 := Lib.hid g1
  replace rl := Lib.hid rl
  replace ll := Lib.hid ll
  replace gl := Lib.hid gl
  replace hx := Lib.hid hx
  replace hxs := Lib.hid hxs
  replace hsz := Lib.hid hsz
  replace hnl := Lib.hid hnl
  replace hT := Lib.hid hT
  replace hz := Lib.hid hz
  replace LQ := Lib.hid LQ
  replace hpl := Lib.hid hpl
  replace hgl := Lib.hid hgl
  replace hf := Lib.hid hf
  replace hs := Lib.hid hs
  replace hN2' := Lib.hid hN2
  by_cases hk : K = 0
  · subst hk
    have MN : ∀ u : World, (Builtin.min_ #[28, 28] 28 #[.int .u64 (xs : Int), .int .u64 (xs : Int)]).run Try.prog u = .ok (.int .u64 (M : Int)) u := fun u => by
      rw [run_min_int2, l1]
      simp
    replace l1 := Lib.hid l1
    go_enter Try.func35, Try.ntmps35
    go_upto_region 3 with (go_at_call 25; ((with_reducible refine LN.out.mono ?_); rintro e w2 ⟨rfl, rfl⟩))
    have D0 := Lib.hid (S0.out.set2 xs)
    generalize (w.alloc (.cells #[.string xk, .int .u64 (xs : Int), .int .i64 xi, .string xv] 43)).setCell ⟨p, 2, none⟩ (.int .u64 (xs : Int)) = V0 at D0 ⊢
    clear LN S0 z0 c0 c1 c2 c3 cf
    obtain ⟨c0, c1, c2, c3, cf⟩ := D0.out.cells
    obtain ⟨⟨r0, r1, r2, r3⟩, r4⟩ := D0.out.row.cells
    go_region
    have D2 := Lib.hid ((D0.out.set2 M).set3 G).drew
    clear c0 c1 c2 c3 cf r0 r1 r2 r3 r4 D0
    go_upto_region 4 with fail
    generalize ((V0.setCell ⟨p, 2, none⟩ (.int .u64 (M : Int))).setCell ⟨p, 3, none⟩ (.int .u64 (G : Int))).drew = V2 at D2 ⊢
    obtain ⟨c0, c1, c2, c3, cf⟩ := D2.out.cells
    obtain ⟨⟨r0, r1, r2, r3⟩, r4⟩ := D2.out.row.cells
    go_still_tail 13, (by kernel_rfl)
    change wpList _ _ _ _ _ V2.drew
    have D3 := Lib.hid D2.out.drew
    clear c0 c1 c2 c3 cf r0 r1 r2 r3 r4 D2
    generalize V2.drew = V3 at D3 ⊢
    have D4 := Lib.hid (D3.out.set1 N)
    obtain ⟨c0, c1, c2, c3, cf⟩ := D3.out.cells
    go_upto_region 5 with fail
    rw [hN2]
    generalize V3.setCell ⟨p, 1, none⟩ (.int .i64 (N : Int)) = V4 at D4 ⊢
    clear c0 c1 c2 c3 cf D3
    have D5 := Lib.hid D4.out.drew
    have hb5 : base ≤ V4.drew.heap.size := Nat.le_trans hb D5.out.but.size
    have PU := Lib.hid (D5.out.zoo.putF hb5 hi (by omega) ⟨xk, xs, xi, xv⟩ (short_in hx.out).1 (short_in hx.out).2.1 (short_in hx.out).2.2 hgt)
    refine wp_region_held_drew (S := (fun v => v.cell? ⟨p, 0, none⟩ = some (.pointer (some ⟨L, 0, none⟩)) ∧ v.cell? ⟨w.heap.size, 0, none⟩ = some (.string xk) ∧ v.cell? ⟨w.heap.size, 1, none⟩ = some (.int .u64 (xs : Int)) ∧ v.cell? ⟨w.heap.size, 2, none⟩ = some (.int .i64 xi) ∧ v.cell? ⟨w.heap.size, 3, none⟩ = some (.string xv))) (by kernel_rfl) (⟨D5.out.cells.1, D5.out.row.cells.1⟩) (fun hHeld => ?_)
    refine held_take (i := 0) (v := ?_) rfl (by kernel_rfl) (by kernel_rfl) (by kernel_rfl) (fun _ _ _ h => h) (by rfl) (fun w hSw => ?_) (by assumption) ?_; rotate_left 1; focus (((try dsimp only at hSw); first | (go_simp; done) | (go_simp; with_reducible rfl)))
    try simp only [Act.put, List.setIfInBounds_toArray, List.set_cons_zero, List.set_cons_succ]
    refine held_take (i := 1) (v := ?_) rfl (by kernel_rfl) (by kernel_rfl) (by kernel_rfl) (fun _ _ _ h => h) (by rfl) (fun w hSw => ?_) (by assumption) ?_; rotate_left 1; focus (((try dsimp only at hSw); first | (go_simp; done) | (go_simp; with_reducible rfl)))
    try simp only [Act.put, List.setIfInBounds_toArray, List.set_cons_zero, List.set_cons_succ]
    refine held_take (i := 2) (v := ?_) rfl (by kernel_rfl) (by kernel_rfl) (by kernel_rfl) (fun _ _ _ h => h) (by rfl) (fun w hSw => ?_) (by assumption) ?_; rotate_left 1; focus (((try dsimp only at hSw); first | (go_simp; done) | (go_simp; with_reducible rfl)))
    try simp only [Act.put, List.setIfInBounds_toArray, List.set_cons_zero, List.set_cons_succ]
    refine held_take (i := 3) (v := ?_) rfl (by kernel_rfl) (by kernel_rfl) (by kernel_rfl) (fun _ _ _ h => h) (by rfl) (fun w hSw => ?_) (by assumption) ?_; rotate_left 1; focus (((try dsimp only at hSw); first | (go_simp; done) | (go_simp; with_reducible rfl)))
    try simp only [Act.put, List.setIfInBounds_toArray, List.set_cons_zero, List.set_cons_succ]
    refine held_take (i := 4) (v := ?_) rfl (by kernel_rfl) (by kernel_rfl) (by kernel_rfl) (fun _ _ _ h => h) (by rfl) (fun w hSw => ?_) (by assumption) ?_; rotate_left 1; focus (((try dsimp only at hSw); first | (go_simp; done) | (go_simp; with_reducible rfl)))
    try simp only [Act.put, List.setIfInBounds_toArray, List.set_cons_zero, List.set_cons_succ]
    refine held_take (i := 5) (v := ?_) rfl (by kernel_rfl) (by kernel_rfl) (by kernel_rfl) (fun _ _ _ h => h) (by rfl) (fun w hSw => ?_) (by assumption) ?_; rotate_left 1; focus (((try dsimp only at hSw); first | (go_simp; done) | (go_simp; with_reducible rfl)))
    try simp only [Act.put, List.setIfInBounds_toArray, List.set_cons_zero, List.set_cons_succ]
    refine held_call (i := 6) (by kernel_rfl) rfl (by rfl) (fun K hK => ?_)
    go_simp
    (go_at_call 46; ((with_reducible refine PU.out.mono ?_); rintro e w6 ⟨rfl, Z6, B6, E6⟩; have T6 := tab_else D5.out.tab E6; have R6 := row_at_else D5.out.row E6))
    refine hK.out _ _ (⟨tab_cell0 T6, R6.cells.1⟩) (fun hHeld => ?_)
    try simp only [Act.put, List.setIfInBounds_toArray, List.set_cons_zero, List.set_cons_succ]
    refine wpAnyH_done (by kernel_rfl) ?_ _
    go_wp2_with fail
    go_returns
    refine ⟨rfl, Z6, ?_, but_base D5.out.but hbp hb B6, else3_of D5.out.but E6⟩
    unfold TabAt
    rw [← hN.out, ← hM.out, ← hG.out]
    exact T6
  · have hk0 : ((K : Int) == 0) = false := by rw [beq_eq_false_iff_ne]; omega
    have hk1 : ¬ ((K : Int) = 0) := by omega
    have MN : ∀ u : World, (Builtin.min_ #[28, 28] 28 #[.int .u64 (LS : Int), .int .u64 (xs : Int)]).run Try.prog u = .ok (.int .u64 (M : Int)) u := fun u => by
      rw [run_min_int2, l1, if_neg hk]
      congr 2
      split <;> omega
    replace l1 := Lib.hid l1
    go_enter Try.func35, Try.ntmps35
    go_upto_region 3 with (go_at_call 25; ((with_reducible refine LN.out.mono ?_); rintro e w2 ⟨rfl, rfl⟩))
    have D0 := Lib.hid S0.out
    generalize w.alloc (.cells #[.string xk, .int .u64 (xs : Int), .int .i64 xi, .string xv] 43) = V0 at D0 ⊢
    clear LN S0 z0 c0 c1 c2 c3 cf
    obtain ⟨c0, c1, c2, c3, cf⟩ := D0.out.cells
    obtain ⟨⟨r0, r1, r2, r3⟩, r4⟩ := D0.out.row.cells
    go_region
    have D2 := Lib.hid ((D0.out.set2 M).set3 G).drew
    clear c0 c1 c2 c3 cf r0 r1 r2 r3 r4 D0
    go_upto_region 4 with fail
    generalize ((V0.setCell ⟨p, 2, none⟩ (.int .u64 (M : Int))).setCell ⟨p, 3, none⟩ (.int .u64 (G : Int))).drew = V2 at D2 ⊢
    obtain ⟨c0, c1, c2, c3, cf⟩ := D2.out.cells
    obtain ⟨⟨r0, r1, r2, r3⟩, r4⟩ := D2.out.row.cells
    go_still_tail 13, (by kernel_rfl)
    change wpList _ _ _ _ _ V2.drew
    have D3 := Lib.hid D2.out.drew
    clear c0 c1 c2 c3 cf r0 r1 r2 r3 r4 D2
    generalize V2.drew = V3 at D3 ⊢
    have D4 := Lib.hid (D3.out.set1 N)
    obtain ⟨c0, c1, c2, c3, cf⟩ := D3.out.cells
    go_upto_region 5 with fail
    rw [hN2]
    generalize V3.setCell ⟨p, 1, none⟩ (.int .i64 (N : Int)) = V4 at D4 ⊢
    clear c0 c1 c2 c3 cf D3
    have D5 := Lib.hid D4.out.drew
    have hb5 : base ≤ V4.drew.heap.size := Nat.le_trans hb D5.out.but.size
    have PU := Lib.hid (D5.out.zoo.putF hb5 hi (by omega) ⟨xk, xs, xi, xv⟩ (short_in hx.out).1 (short_in hx.out).2.1 (short_in hx.out).2.2 hgt)
    refine wp_region_held_drew (S := (fun v => v.cell? ⟨p, 0, none⟩ = some (.pointer (some ⟨L, 0, none⟩)) ∧ v.cell? ⟨w.heap.size, 0, none⟩ = some (.string xk) ∧ v.cell? ⟨w.heap.size, 1, none⟩ = some (.int .u64 (xs : Int)) ∧ v.cell? ⟨w.heap.size, 2, none⟩ = some (.int .i64 xi) ∧ v.cell? ⟨w.heap.size, 3, none⟩ = some (.string xv))) (by kernel_rfl) (⟨D5.out.cells.1, D5.out.row.cells.1⟩) (fun hHeld => ?_)
    refine held_take (i := 0) (v := ?_) rfl (by kernel_rfl) (by kernel_rfl) (by kernel_rfl) (fun _ _ _ h => h) (by rfl) (fun w hSw => ?_) (by assumption) ?_; rotate_left 1; focus (((try dsimp only at hSw); first | (go_simp; done) | (go_simp; with_reducible rfl)))
    try simp only [Act.put, List.setIfInBounds_toArray, List.set_cons_zero, List.set_cons_succ]
    refine held_take (i := 1) (v := ?_) rfl (by kernel_rfl) (by kernel_rfl) (by kernel_rfl) (fun _ _ _ h => h) (by rfl) (fun w hSw => ?_) (by assumption) ?_; rotate_left 1; focus (((try dsimp only at hSw); first | (go_simp; done) | (go_simp; with_reducible rfl)))
    try simp only [Act.put, List.setIfInBounds_toArray, List.set_cons_zero, List.set_cons_succ]
    refine held_take (i := 2) (v := ?_) rfl (by kernel_rfl) (by kernel_rfl) (by kernel_rfl) (fun _ _ _ h => h) (by rfl) (fun w hSw => ?_) (by assumption) ?_; rotate_left 1; focus (((try dsimp only at hSw); first | (go_simp; done) | (go_simp; with_reducible rfl)))
    try simp only [Act.put, List.setIfInBounds_toArray, List.set_cons_zero, List.set_cons_succ]
    refine held_take (i := 3) (v := ?_) rfl (by kernel_rfl) (by kernel_rfl) (by kernel_rfl) (fun _ _ _ h => h) (by rfl) (fun w hSw => ?_) (by assumption) ?_; rotate_left 1; focus (((try dsimp only at hSw); first | (go_simp; done) | (go_simp; with_reducible rfl)))
    try simp only [Act.put, List.setIfInBounds_toArray, List.set_cons_zero, List.set_cons_succ]
    refine held_take (i := 4) (v := ?_) rfl (by kernel_rfl) (by kernel_rfl) (by kernel_rfl) (fun _ _ _ h => h) (by rfl) (fun w hSw => ?_) (by assumption) ?_; rotate_left 1; focus (((try dsimp only at hSw); first | (go_simp; done) | (go_simp; with_reducible rfl)))
    try simp only [Act.put, List.setIfInBounds_toArray, List.set_cons_zero, List.set_cons_succ]
    refine held_take (i := 5) (v := ?_) rfl (by kernel_rfl) (by kernel_rfl) (by kernel_rfl) (fun _ _ _ h => h) (by rfl) (fun w hSw => ?_) (by assumption) ?_; rotate_left 1; focus (((try dsimp only at hSw); first | (go_simp; done) | (go_simp; with_reducible rfl)))
    try simp only [Act.put, List.setIfInBounds_toArray, List.set_cons_zero, List.set_cons_succ]
    refine held_call (i := 6) (by kernel_rfl) rfl (by rfl) (fun K hK => ?_)
    go_simp
    (go_at_call 46; ((with_reducible refine PU.out.mono ?_); rintro e w6 ⟨rfl, Z6, B6, E6⟩; have T6 := tab_else D5.out.tab E6; have R6 := row_at_else D5.out.row E6))
    refine hK.out _ _ (⟨tab_cell0 T6, R6.cells.1⟩) (fun hHeld => ?_)
    try simp only [Act.put, List.setIfInBounds_toArray, List.set_cons_zero, List.set_cons_succ]
    refine wpAnyH_done (by kernel_rfl) ?_ _
    go_wp2_with fail
    go_returns
    refine ⟨rfl, Z6, ?_, but_base D5.out.but hbp hb B6, else3_of D5.out.but E6⟩
    unfold TabAt
    rw [← hN.out, ← hM.out, ← hG.out]
    exact T6
end Go.Proofs.Ytdgbafpnfkedeaa
/-
  Tables in memory that share no block, each as its rows; New, insert on one of them. Condition: at most 1000000 rows.
-/
namespace Go.Proofs.Ytdgbafpnfkedeaa
set_option maxRecDepth 100000
open Go.RowKit
attribute [local go_sem] eq_node ne_node eq_list eq_table
/-- Tables: where each lies, and its rows. -/
def Tb (base : Nat) (ts : List (Nat × List Rw)) (w : World) : Prop :=
  ∃ zs : List (Nat × SL), Zoo base zs w ∧ zs.length = ts.length ∧
    (∀ (i p : Nat) (R : List Rw), ts[i]? = some (p, R) → ∃ L l, zs[i]? = some (L, l) ∧ rowsL l = R ∧ TabAt p (some ⟨L, 0, none⟩) R w ∧ base ≤ p ∧ ∀ x ∈ R, shortR x) ∧
    ∀ (i j p : Nat) (R : List Rw) (p' : Nat) (R' : List Rw), i ≠ j → ts[i]? = some (p, R) → ts[j]? = some (p', R') → p ≠ p'
/-- What the calls on tables leave: whatever is no list, no node and no table. -/
def Else4 (w w' : World) : Prop := ∀ k, k < w.heap.size → ¬ Typed w k 71 → ¬ Typed w k 97 → ¬ Typed w k 54 → w'.heap[k]? = w.heap[k]?
theorem Else4.of_below {B : Nat} {w w' : World} (h : Below B w w') (hB : w.heap.size ≤ B) : Else4 w w' := fun k hk _ _ _ => h.block k (Nat.lt_of_lt_of_le hk hB)
theorem Else4.refl (w : World) : Else4 w w := fun _ _ _ _ _ => rfl
theorem typed_else4 {w w' : World} (h : Else4 w w') {b : Nat} {cs : Array Value} {T : TypeId} (hc : w.heap[b]? = some (.cells cs T (0, 0))) (h1 : T ≠ 71) (h2 : T ≠ 97) (h3 : T ≠ 54) : w'.heap[b]? = w.heap[b]? := by
  have nt : ∀ U, T ≠ U → ¬ Typed w b U := fun U hU ht => by
    obtain ⟨c, hu⟩ := ht
    rw [hc] at hu
    simp only [Option.some.injEq, Obj.cells.injEq] at hu
    exact hU hu.2.1
  exact h b (Array.getElem?_eq_some_iff.1 hc).1 (nt _ h1) (nt _ h2) (nt _ h3)
/-- What stands behind such a call, of a block of another type, and of one that is old. -/
theorem Else4.trans {w w1 w2 : World} (h : Else4 w w1) (h' : Else4 w1 w2) (hs : w.heap.size ≤ w1.heap.size) : Else4 w w2 := fun k hk n1 n2 n3 => by
  have e := h k hk n1 n2 n3
  have t : ∀ T, Typed w1 k T → Typed w k T := fun T ht => by
    obtain ⟨cs, hc⟩ := ht
    exact ⟨cs, e ▸ hc⟩
  exact (h' k (Nat.lt_of_lt_of_le hk hs) (fun x => n1 (t _ x)) (fun x => n2 (t _ x)) (fun x => n3 (t _ x))).trans e
theorem Tb.grow {base : Nat} {ts : List (Nat × List Rw)} {w w' : World} (h : Tb base ts w) (hb : Below w.heap.size w w') : Tb base ts w' := by
  obtain ⟨zs, h1, h2, h3, h4⟩ := h
  refine ⟨zs, h1.grow hb, h2, fun i p R e => ?_, h4⟩
  obtain ⟨L, l, k1, k2, k3, k4⟩ := h3 i p R e
  exact ⟨L, l, k1, k2, k3.grow hb, k4⟩
theorem Tb.nil (base : Nat) (w : World) : Tb base [] w := ⟨[], Zoo.nil base w, rfl, fun i p R e => by simp at e, fun i j p R p' R' _ e => by simp at e⟩
theorem Tb.sort {base : Nat} {ts : List (Nat × List Rw)} {w : World} (h : Tb base ts w) {i p : Nat} {R : List Rw} (e : ts[i]? = some (p, R)) : SortedR R := by
  obtain ⟨zs, h1, h2, h3, h4⟩ := h
  obtain ⟨L, l, k1, k2, k3, k4⟩ := h3 i p R e
  rw [← k2]
  exact (h1.ls k1).sort
theorem Tb.short {base : Nat} {ts : List (Nat × List Rw)} {w : World} (h : Tb base ts w) {i p : Nat} {R : List Rw} (e : ts[i]? = some (p, R)) : ∀ x ∈ R, shortR x := by
  obtain ⟨zs, h1, h2, h3, h4⟩ := h
  obtain ⟨L, l, k1, k2, k3, k4, k5⟩ := h3 i p R e
  exact k5
theorem Tb.q {base : Nat} {ts : List (Nat × List Rw)} {w : World} (h : Tb base ts w) {i p : Nat} {R : List Rw} (e : ts[i]? = some (p, R)) (hn : R.length ≤ 1048575) : TabQ (some ⟨p, 0, none⟩) R w := by
  obtain ⟨zs, h1, h2, h3, h4⟩ := h
  obtain ⟨L, l, k1, k2, k3, k4⟩ := h3 i p R e
  exact .inr ⟨p, some ⟨L, 0, none⟩, l, rfl, k3, h1.ls k1, k2, hn⟩
/-- A table's own cells. -/
theorem Tb.at {base : Nat} {ts : List (Nat × List Rw)} {w : World} (h : Tb base ts w) {i p : Nat} {R : List Rw} (e : ts[i]? = some (p, R)) : ∃ L l, TabAt p (some ⟨L, 0, none⟩) R w ∧ Ls (some ⟨L, 0, none⟩) l w ∧ rowsL l = R := by
  obtain ⟨zs, h1, h2, h3, h4⟩ := h
  obtain ⟨L, l, k1, k2, k3, k4⟩ := h3 i p R e
  exact ⟨L, l, k3, h1.ls k1, k2⟩
theorem tb_insert {base : Nat} {ts : List (Nat × List Rw)} {w : World} (h : Tb base ts w) (hb : base ≤ w.heap.size) {i p : Nat} {R : List Rw} (hi : ts[i]? = some (p, R)) (hn : R.length ≤ 1000000) (x : Rw) (hx : shortR x) (hf : thr R x.key x.seq = false) (hgt : Int) :
    Calls Try.prog 35 #[.pointer (some ⟨p, 0, none⟩), rowV x, .int .i64 hgt] w fun e w' => e = .returned (.tuple #[]) ∧ Tb base (ts.set i (p, insR R x)) w' ∧ Below base w w' ∧ Else4 w w' := by
  obtain ⟨zs, h1, h2, h3, h4⟩ := h
  obtain ⟨L, l, k1, rfl, k3, k4, k5⟩ := h3 i p R hi
  have hil := (List.getElem?_eq_some_iff.1 hi).1
  refine (insert_any h1 hb k1 k3 k4 (by rw [← rows_len]; exact hn) k5 x hx hf hgt).mono fun e w' hd => ?_
  obtain ⟨he, hz, hT, hB, hE⟩ := hd
  refine ⟨he, ⟨_, hz, by rw [List.length_set, List.length_set, h2], fun j p' R' e' => ?_, fun j m p1 R1 p2 R2 hjm e1 e2 => ?_⟩, hB, fun k hk n1 n2 n3 => hE k hk (fun e => n3 (e ▸ ⟨_, k3⟩)) n1 n2⟩
  · by_cases hj : j = i
    · subst hj
      rw [List.getElem?_set_self hil] at e'
      cases e'
      refine ⟨L, putL l x (hgtOf hgt), by rw [List.getElem?_set_self (by omega)], ?_, hT, k4, fun y hy => ?_⟩
      · rw [rows_putL, if_neg (by rw [hf]; simp)]
      · rcases List.mem_cons.1 ((insR_perm _ _).mem_iff.1 hy) with rfl | h
        · exact hx
        · exact k5 y h
    · rw [List.getElem?_set_ne (Ne.symm hj)] at e'
      obtain ⟨L', l', m1, m2, m3, m4⟩ := h3 j p' R' e'
      refine ⟨L', l', by rw [List.getElem?_set_ne (Ne.symm hj)]; exact m1, m2, ?_, m4⟩
      have ne : p' ≠ p := h4 j i p' R' p _ hj e' hi
      have nt : ∀ U, 54 ≠ U → ¬ Typed w p' U := fun U hU ht => by
        obtain ⟨c, hu⟩ := ht
        unfold TabAt at m3
        rw [m3] at hu
        simp only [Option.some.injEq, Obj.cells.injEq] at hu
        exact hU hu.2.1
      exact (hE p' (Array.getElem?_eq_some_iff.1 m3).1 ne (nt _ (by decide)) (nt _ (by decide))).trans m3
  · have ns : ∀ j p1 R1, (ts.set i (p, insR (rowsL l) x))[j]? = some (p1, R1) → ∃ R0, ts[j]? = some (p1, R0) := fun j p1 R1 e => by
      by_cases hj : j = i
      · subst hj
        rw [List.getElem?_set_self hil] at e
        cases e
        exact ⟨_, hi⟩
      · rw [List.getElem?_set_ne (Ne.symm hj)] at e
        exact ⟨_, e⟩
    obtain ⟨_, f1⟩ := ns j p1 R1 e1
    obtain ⟨_, f2⟩ := ns m p2 R2 e2
    exact h4 j m p1 _ p2 _ hjm f1 f2
set_option maxHeartbeats 4000000 in
theorem new_tb {base : Nat} {ts : List (Nat × List Rw)} {w : World} (h : Tb base ts w) (hb : base ≤ w.heap.size) :
    Calls Try.prog 10 #[] w fun e w' => ∃ p, e = .returned (.pointer (some ⟨p, 0, none⟩)) ∧ Tb base (ts ++ [(p, [])]) w' ∧ Below w.heap.size w w' := by
  have fin : Hid (Tb base (ts ++ [(w.heap.size + 1, [])]) ((w.alloc (.cells #[.pointer none, .pointer none, .pointer none, .pointer none, .pointer none, .pointer none, .pointer none, .pointer none, .pointer none, .pointer none, .pointer none, .pointer none, .int .i64 0, .int .i64 0] 71)).alloc (.cells #[.pointer (some ⟨w.heap.size, 0, none⟩), .int .i64 0, .int .u64 0, .int .u64 0] 54)) ∧ Below w.heap.size w ((w.alloc (.cells #[.pointer none, .pointer none, .pointer none, .pointer none, .pointer none, .pointer none, .pointer none, .pointer none, .pointer none, .pointer none, .pointer none, .pointer none, .int .i64 0, .int .i64 0] 71)).alloc (.cells #[.pointer (some ⟨w.heap.size, 0, none⟩), .int .i64 0, .int .u64 0, .int .u64 0] 54))) := by
    obtain ⟨zs, h1, h2, h3, h4⟩ := h
    have z1 := h1.new hb
    have b1 := below_alloc w (.cells #[.pointer none, .pointer none, .pointer none, .pointer none, .pointer none, .pointer none, .pointer none, .pointer none, .pointer none, .pointer none, .pointer none, .pointer none, .int .i64 0, .int .i64 0] 71)
    have s1 := World.size_alloc w (.cells #[.pointer none, .pointer none, .pointer none, .pointer none, .pointer none, .pointer none, .pointer none, .pointer none, .pointer none, .pointer none, .pointer none, .pointer none, .int .i64 0, .int .i64 0] 71)
    generalize w.alloc (.cells #[.pointer none, .pointer none, .pointer none, .pointer none, .pointer none, .pointer none, .pointer none, .pointer none, .pointer none, .pointer none, .pointer none, .pointer none, .int .i64 0, .int .i64 0] 71) = W at z1 b1 s1 ⊢
    have b2 := below_alloc W (.cells #[.pointer (some ⟨w.heap.size, 0, none⟩), .int .i64 0, .int .u64 0, .int .u64 0] 54)
    have hT := heap_alloc_new W (.cells #[.pointer (some ⟨w.heap.size, 0, none⟩), .int .i64 0, .int .u64 0, .int .u64 0] 54)
    rw [s1] at hT
    have bb := below_of b1 b2
    refine Lib.hid ⟨⟨_, z1.grow b2, by rw [List.length_append, List.length_append, h2]; rfl, fun i p R e => ?_, fun i j p R p' R' hij e e' => ?_⟩, bb⟩
    · by_cases hi : i < ts.length
      · rw [List.getElem?_append_left hi] at e
        obtain ⟨L, l, k1, k2, k3, k4⟩ := h3 i p R e
        exact ⟨L, l, by rw [List.getElem?_append_left (by omega)]; exact k1, k2, k3.grow bb, k4⟩
      · rw [List.getElem?_append_right (by omega)] at e
        have hi2 : i = ts.length := by
          have := (List.getElem?_eq_some_iff.1 e).1
          simp at this; omega
        subst hi2
        simp at e
        obtain ⟨rfl, rfl⟩ := e
        refine ⟨w.heap.size, [], ?_, rfl, hT, by omega, fun x hx => by cases hx⟩
        rw [← h2]
        simp
    · have lt : ∀ i p R, ts[i]? = some (p, R) → p < w.heap.size := fun i p R e => by
        obtain ⟨L, l, k1, k2, k3, k4⟩ := h3 i p R e
        exact (Array.getElem?_eq_some_iff.1 k3).1
      have get : ∀ i p R, (ts ++ [(w.heap.size + 1, ([] : List Rw))])[i]? = some (p, R) → (i < ts.length ∧ ts[i]? = some (p, R)) ∨ (i = ts.length ∧ p = w.heap.size + 1) := fun i p R e => by
        by_cases hi : i < ts.length
        · exact .inl ⟨hi, by rwa [List.getElem?_append_left hi] at e⟩
        · rw [List.getElem?_append_right (by omega)] at e
          have hi2 : i = ts.length := by
            have := (List.getElem?_eq_some_iff.1 e).1
            simp at this; omega
          subst hi2
          simp at e
          exact .inr ⟨rfl, e.1.symm⟩
      rcases get i p R e with ⟨hi, e1⟩ | ⟨rfl, rfl⟩ <;> rcases get j p' R' e' with ⟨hj, e2⟩ | ⟨rfl, rfl⟩
      · exact h4 i j p R p' R' hij e1 e2
      · have := lt i p R e1; omega
      · have := lt j p' R' e2; omega
      · exact absurd rfl hij
  clear h
  go_enter Try.func10, Try.ntmps10
  go_wp2_with fail
  go_returns
  exact ⟨_, rfl, fin.out.1, fin.out.2⟩
end Go.Proofs.Ytdgbafpnfkedeaa
/-
  The contract of the table's Add. Condition: at most 900000 rows.
-/
namespace Go.Proofs.Ytdgbafpnfkedeaa
set_option maxRecDepth 100000
open Go.RowKit
attribute [local go_sem] eq_node ne_node eq_list eq_table
theorem set_same {α : Type} {l : List α} {i : Nat} {x : α} (h : l[i]? = some x) : l.set i x = l := by
  apply List.ext_getElem?
  intro j
  by_cases hj : j = i
  · subst hj
    rw [List.getElem?_set_self (List.getElem?_eq_some_iff.1 h).1, h]
  · rw [List.getElem?_set_ne (Ne.symm hj)]
theorem thr_get (R : List Rw) (k : ByteArray) (q : Nat) : thr R k q = match getR R k q with | some y => decide (y.seq = q) | none => false := by
  unfold thr getR
  cases hd : R.drop (plc R k q) with
  | nil =>
    have : R[plc R k q]? = none := by rw [List.getElem?_eq_none_iff]; exact List.drop_eq_nil_iff.1 hd
    rw [this]
  | cons y r =>
    have : R[plc R k q]? = some y := by
      have := congrArg (fun t => t[0]?) hd
      simpa using this
    rw [this]
    dsimp only
    by_cases e : y.key.toList = k.toList
    · rw [if_pos e]; simp [e]
    · rw [if_neg e]; simp [e]
theorem take_next {xs : List Rw} {j : Nat} {x : Rw} (h : xs[j]? = some x) (R : List Rw) : insR (insAll R (xs.take j)) x = insAll R (xs.take (j + 1)) := by
  rw [List.take_add_one, h]
  exact (insAll_snoc _ _ _).symm
theorem below_then {base : Nat} {w w1 w2 w3 : World} (h1 : Below base w w1) (h2 : Below w1.heap.size w1 w2) (hb : base ≤ w.heap.size) (h3 : Below base w2 w3) : Below base w w3 := (h1.trans (h2.mono (Nat.le_trans hb h1.size))).trans h3
theorem row_set4 {b g : Nat} {x : Rw} {W : World} (h : RowAt b x W) (hne : b ≠ g) (y : Rw) : RowAt b x ((((W.setCell ⟨g, 0, none⟩ (.string y.key)).setCell ⟨g, 1, none⟩ (.int .u64 (y.seq : Int))).setCell ⟨g, 2, none⟩ (.int .i64 y.kind)).setCell ⟨g, 3, none⟩ (.string y.val)) := by
  have e : ∀ (V : World) (o : Nat) (v : Value), RowAt b x V → RowAt b x (V.setCell ⟨g, o, none⟩ v) := fun V o v hV => (Below.heap_setCell V ⟨g, o, none⟩ v b hne).trans hV
  exact e _ _ _ (e _ _ _ (e _ _ _ (e _ _ _ h)))
theorem rs_else4 {a : Option Addr} {n c b o : Nat} {l : List Rw} {w w' : World} (h : Rs a n c b o l w) (hc : 0 < n → Typed w b 43) (he : Else4 w w') (hs : w.heap.size ≤ w'.heap.size) : Rs a n c b o l w' :=
  h.keep (fun h0 => typed_else4 he (hc h0).choose_spec (by decide) (by decide) (by decide)) hs
/-- What stands while places are looked up. -/
structure AdI (w0 : World) (p L : Nat) (R : List Rw) (rb : Nat) (x : Rw) (v : World) : Prop where
  tab : TabAt p (some ⟨L, 0, none⟩) R v
  row : RowAt rb x v
  bel : Below w0.heap.size w0 v
theorem AdI.grow {w0 : World} {p L : Nat} {R : List Rw} {rb : Nat} {x : Rw} {v v' : World} (h : AdI w0 p L R rb x v) (hb : Below v.heap.size v v') : AdI w0 p L R rb x v' := ⟨h.tab.grow hb, h.row.below hb, below_of h.bel hb⟩
theorem AdI.set4 {w0 : World} {p L : Nat} {R : List Rw} {rb g : Nat} {x z : Rw} {v : World} (h : AdI w0 p L R rb x v) (hg : RowAt g z v) (hw : w0.heap.size ≤ g) (hne : rb ≠ g) (y : Rw) : AdI w0 p L R rb x ((((v.setCell ⟨g, 0, none⟩ (.string y.key)).setCell ⟨g, 1, none⟩ (.int .u64 (y.seq : Int))).setCell ⟨g, 2, none⟩ (.int .i64 y.kind)).setCell ⟨g, 3, none⟩ (.string y.val)) := by
  have hp : p ≠ g := fun e => by
    have h1 := h.tab
    unfold TabAt at h1
    unfold RowAt at hg
    rw [e, hg] at h1
    simp only [Option.some.injEq, Obj.cells.injEq] at h1
    exact absurd h1.2.1 (by decide)
  have e : ∀ (V : World) (o : Nat) (u : Value), TabAt p (some ⟨L, 0, none⟩) R V → TabAt p (some ⟨L, 0, none⟩) R (V.setCell ⟨g, o, none⟩ u) := fun V o u hV => (Below.heap_setCell V ⟨g, o, none⟩ u p hp).trans hV
  exact ⟨e _ _ _ (e _ _ _ (e _ _ _ (e _ _ _ h.tab))), row_set4 h.row hne y, below_set4 h.bel hw y⟩
theorem AdI.s {w0 : World} {p L : Nat} {R : List Rw} {rb : Nat} {x : Rw} {v : World} (h : AdI w0 p L R rb x v) : (v.cell? ⟨p, 0, none⟩ = some (.pointer (some ⟨L, 0, none⟩)) ∧ v.cell? ⟨rb, 0, none⟩ = some (.string x.key) ∧ v.cell? ⟨rb, 1, none⟩ = some (.int .u64 (x.seq : Int))) ∧ Hid (AdI w0 p L R rb x v) := ⟨⟨h.tab.cells.1, h.row.cells.1.1, h.row.cells.1.2.1⟩, Lib.hid h⟩
set_option maxHeartbeats 8000000 in
theorem add_bad {base : Nat} {ts : List (Nat × List Rw)} {w : World} (h : Tb base ts w) {i p : Nat} {R : List Rw} (hi : ts[i]? = some (p, R)) {seq : Nat} {a : Option Addr} {n c b o : Nat} {ws : List Wr} (hw : Ws a n c b o ws w) (hv : Value) (hc : chkB seq ws ≠ 0) :
    Calls Try.prog 12 #[.pointer (some ⟨p, 0, none⟩), batchV seq a n c, hv] w fun e w' => e = .returned (.int .i64 (addR R seq ws).2) ∧ Tb base (ts.set i (p, (addR R seq ws).1)) w' ∧ Below w.heap.size w w' := by
  rw [addR_bad hc, set_same hi]
  have W0 := Lib.hid (below_alloc w (.cells #[.int .u64 (seq : Int), .slice a n c] 31))
  obtain ⟨b0, b1⟩ := box_batch w seq (.slice a n c)
  have CK := check_any (seq := seq) (hw.below W0.out (Nat.le_refl _))
  obtain ⟨L, l, hT, _, _⟩ := (h.grow W0.out).at hi
  obtain ⟨c0, _, _, _⟩ := hT.cells
  obtain ⟨C, hC⟩ := named (chkB seq ws)
  rw [← hC.out] at CK hc ⊢
  have q1 : (C != 0) = true := by simpa using hc
  have CK := Lib.hid CK
  have h := Lib.hid h
  clear hT hw hC hi
  go_enter Try.func12, Try.ntmps12
  go_wp2_with (go_at_call 31; ((with_reducible refine CK.out.mono ?_); rintro e w2 ⟨rfl, hb2⟩; have B2 := Lib.hid (below_of W0.out hb2); clear hb2 CK))
  go_returns
  exact ⟨rfl, h.out.grow B2.out, B2.out⟩
set_option maxHeartbeats 8000000 in
theorem add_good {base : Nat} {ts : List (Nat × List Rw)} {w : World} (h : Tb base ts w) (hb : base ≤ w.heap.size) {i p : Nat} {R : List Rw} (hi : ts[i]? = some (p, R)) (hn : R.length ≤ 900000) {seq : Nat} {a : Option Addr} {n c b o : Nat} {ws : List Wr} (hw : Ws a n c b o ws w) {a1 : Option Addr} {n1 c1 b1 o1 : Nat} {hs : List Int}
    (hk : ∀ w', Below base w w' → Else4 w w' → SlOf 1 cellsI a1 n1 c1 b1 o1 hs w') (hc : chkB seq ws = 0) :
    Calls Try.prog 12 #[.pointer (some ⟨p, 0, none⟩), batchV seq a n c, .slice a1 n1 c1] w fun e w' => e = .returned (.int .i64 (addR R seq ws).2) ∧ Tb base (ts.set i (p, (addR R seq ws).1)) w' ∧ Below base w w' ∧ Else4 w w' := by
  have W0 := Lib.hid (below_alloc w (.cells #[.int .u64 (seq : Int), .slice a n c] 31))
  obtain ⟨b0, b1'⟩ := box_batch w seq (.slice a n c)
  have CK := check_any (seq := seq) (hw.below W0.out (Nat.le_refl _))
  rw [hc] at CK
  have CK := Lib.hid CK
  have RO : Hid (∀ u, Below (w.alloc (.cells #[.int .u64 (seq : Int), .slice a n c] 31)).heap.size (w.alloc (.cells #[.int .u64 (seq : Int), .slice a n c] 31)) u → Calls Try.prog 32 #[batchV seq a n c] u (RowsB seq ws u) ∧ u.cell? ⟨w.heap.size, 0, none⟩ = some (.int .u64 (seq : Int)) ∧ u.cell? ⟨w.heap.size, 1, none⟩ = some (.slice a n c)) := Lib.hid fun u hu =>
    ⟨rows_any ((hw.below W0.out (Nat.le_refl _)).below hu (Nat.le_refl _)), (hu.cell (p := ⟨w.heap.size, 0, none⟩) (by rw [World.size_alloc]; exact Nat.lt_succ_self _)).trans b0, (hu.cell (p := ⟨w.heap.size, 1, none⟩) (by rw [World.size_alloc]; exact Nat.lt_succ_self _)).trans b1'⟩
  obtain ⟨L, l, hTp, hLs, hRl⟩ := h.at hi
  obtain ⟨c0, _, _, _⟩ := (hTp.grow W0.out).cells
  have hTp := Lib.hid hTp
  have hLs := Lib.hid hLs
  have hRl := Lib.hid hRl
  have h1k : 1 ≤ n1 ∨ n1 = 0 := by omega
  have sl0 := hk w (Below.refl _ _) (Else4.refl _)
  have mh := sl0.most
  have ch := sl0.cap
  have h := Lib.hid h
  replace hk := Lib.hid hk
  have hsort := Lib.hid (h.out.sort hi)
  have hshort := Lib.hid (rowsFrom_short hc)
  clear sl0
  go_enter Try.func12, Try.ntmps12
  go_upto_region 6 with (go_at_call 31; ((with_reducible refine CK.out.mono ?_); rintro e w2 ⟨rfl, hb2⟩; have B2 := Lib.hid (below_of W0.out hb2); obtain ⟨ro, r0, r1⟩ := RO.out _ hb2; have RO2 := Lib.hid ro; clear hb2 CK ro))
  go_wp2_with (go_at_call 32; ((with_reducible refine RO2.out.mono ?_); rintro e w3 hd; obtain ⟨ra, N, rc, rb, rfl, hR, hT, hb3⟩ := rs_of_rows hd; have B3 := Lib.hid (below_of B2.out hb3); have HR := Lib.hid hR; have HT := Lib.hid hT; have rm := hR.most; have rcp := hR.cap; clear hb3 hd hR hT RO2 r0 r1 RO))
  have eX : rowsB seq ws = rowsFrom seq ws := by unfold rowsB; rw [if_pos hc]
  rw [eX] at HR
  have hX64 : (rowsFrom seq ws).length ≤ 64 := by rw [rowsFrom_len]; exact (chkB_ok hc).2.2.2.1
  obtain ⟨X, hX⟩ := named (rowsFrom seq ws)
  rw [← hX.out] at HR hshort hX64
  have hNX : N = X.length := HR.out.len.symm
  have hN64 : N ≤ 64 := by omega
  have hpw : p < w.heap.size := (Array.getElem?_eq_some_iff.1 hTp.out).1
  have VE : Hid (∀ (k : ByteArray) (q : Nat) u, Below w.heap.size w u → Calls Try.prog 33 #[.func (.func 34) #[.pointer (some ⟨L, 0, none⟩)] #[], .string k, .int .u64 (q : Int)] u fun e w' => e = .returned (verV (getR R k q)) ∧ Below u.heap.size u w') := Lib.hid fun k q u hu => version_any (hLs.out.grow hu) hRl.out (by omega) k q
  replace hc := Lib.hid hc
  replace hi := Lib.hid hi
  replace hb := Lib.hid hb
  replace hNX := Lib.hid hNX
  replace hX64 := Lib.hid hX64
  clear eX
  go_loopw [34] (fun v wr => ∃ j : Nat, j ≤ N ∧ v = .int .i64 (j : Int) ∧ (∀ (m : Nat) (x : Rw), m < j → X[m]? = some x → thr R x.key x.seq = false) ∧ Below w3.heap.size w3 wr) (fun v _ => N - (intOf v).toNat)
  case atStart => exact ⟨0, Nat.zero_le _, rfl, fun m x hm => absurd hm (Nat.not_lt_zero _), Below.refl _ _⟩
  case round =>
    obtain ⟨j, hj, rfl, hfr, hB⟩ := hrel
    have hfr := Lib.hid hfr
    by_cases hlt : j < N
    · obtain ⟨x, hx, rfl, x0, x1, x2, x3⟩ := (HR.out.below hB (Nat.le_refl _)).at4 hlt
      rw [Nat.zero_add] at x0 x1 x2 x3
      obtain ⟨xk, xs, xi, xv⟩ := x
      simp only at x0 x1 x2 x3
      have hx := Lib.hid hx
      have DV := Lib.hid (below_of (below_of B3.out hB) (below_alloc wr (.cells #[.string xk, .int .u64 (xs : Int), .int .i64 xi, .string xv] 43)))
      have D3 := Lib.hid (below_of hB (below_alloc wr (.cells #[.string xk, .int .u64 (xs : Int), .int .i64 xi, .string xv] 43)))
      have RV := Lib.hid (RowAt.new ⟨xk, xs, xi, xv⟩ wr)
      have VE := Lib.hid (VE.out xk xs)
      have i1 : (j : Int) < (N : Int) := by omega
      have hsz : wr.heap.size ≥ w3.heap.size := hB.size
      have hpr : p < wr.heap.size := by have := (below_of B3.out hB).size; omega
      have hVs := World.size_alloc wr (.cells #[.string xk, .int .u64 (xs : Int), .int .i64 xi, .string xv] 43)
      go_upto_region 10 with fail
      have cV := (hTp.out.grow DV.out).cells.1
      generalize wr.alloc (.cells #[.string xk, .int .u64 (xs : Int), .int .i64 xi, .string xv] 43) = V at DV D3 RV hVs cV ⊢
      have gn1 : ¬ p = V.heap.size := by omega
      have gn2 : ¬ wr.heap.size = V.heap.size := by omega
      have gn3 : Hid (wr.heap.size ≠ V.heap.size) := Lib.hid (by omega)
      have gl1 : p < V.heap.size := by omega
      have gl2 : wr.heap.size < V.heap.size := by omega
      have gm1 : ¬ V.heap.size = p := by omega
      have gm2 : ¬ V.heap.size = wr.heap.size := by omega
      have hsz3 : w3.heap.size ≤ V.heap.size := by omega
      replace hVs := Lib.hid hVs
      obtain ⟨⟨z0, z1, z2, z3⟩, _⟩ := RV.out.cells
      have I0 : Hid (AdI w3 p L R wr.heap.size ⟨xk, xs, xi, xv⟩ V.drew) := Lib.hid ⟨(hTp.out.grow DV.out).grow (Below.refl _ V).drew, RV.out.below (Below.refl _ V).drew, D3.out.drew⟩
      clear x0 x1 x2 x3 c0
      cases hg : getR R xk xs with
      | none =>
        replace hg := Lib.hid hg
        have VC : Hid (∀ u, Below w3.heap.size w3 u → Calls Try.prog 33 #[.func (.func 34) #[.pointer (some ⟨L, 0, none⟩)] #[], .string xk, .int .u64 (xs : Int)] u fun e w' => e = .returned (.tuple #[.agg #[.string ⟨#[]⟩, .int .u64 0, .int .i64 0, .string ⟨#[]⟩], .bool false]) ∧ Below u.heap.size u w') := Lib.hid fun u hu => (VE.out u (below_of B3.out hu)).mono fun e w' hp => ⟨by rw [hp.1, hg.out]; rfl, hp.2⟩
        go_cut [11, 12] from 38 to 50 (fun r ok wc => ok = .bool false ∧ ∃ g, r = .pointer (some ⟨g, 0, none⟩) ∧ RowAt g zeroR wc ∧ RowAt wr.heap.size ⟨xk, xs, xi, xv⟩ wc ∧ Below w3.heap.size w3 wc)
        case first =>
          refine wp_region_held_drew (S := (fun v => (v.cell? ⟨p, 0, none⟩ = some (.pointer (some ⟨L, 0, none⟩)) ∧ v.cell? ⟨wr.heap.size, 0, none⟩ = some (.string xk) ∧ v.cell? ⟨wr.heap.size, 1, none⟩ = some (.int .u64 (xs : Int))) ∧ Hid (AdI w3 p L R wr.heap.size ⟨xk, xs, xi, xv⟩ v))) (by kernel_rfl) (I0.out.s) (fun hHeld => ?_)
          refine held_take (i := 0) (v := ?_) rfl (by kernel_rfl) (by kernel_rfl) (by kernel_rfl) (fun _ _ _ h => h) (by rfl) (fun w hSw => ?_) (by assumption) ?_; rotate_left 1; focus (((try dsimp only at hSw); first | (go_simp; done) | (go_simp; with_reducible rfl)))
          try simp only [Act.put, List.setIfInBounds_toArray, List.set_cons_zero, List.set_cons_succ]
          refine held_take (i := 1) (v := ?_) rfl (by kernel_rfl) (by kernel_rfl) (by kernel_rfl) (fun _ _ _ h => h) (by rfl) (fun w hSw => ?_) (by assumption) ?_; rotate_left 1; focus (((try dsimp only at hSw); first | (go_simp; done) | (go_simp; with_reducible rfl)))
          try simp only [Act.put, List.setIfInBounds_toArray, List.set_cons_zero, List.set_cons_succ]
          refine held_take (i := 2) (v := ?_) rfl (by kernel_rfl) (by kernel_rfl) (by kernel_rfl) (fun _ _ _ h => h) (by rfl) (fun w hSw => ?_) (by assumption) ?_; rotate_left 1; focus (((try dsimp only at hSw); first | (go_simp; done) | (go_simp; with_reducible rfl)))
          try simp only [Act.put, List.setIfInBounds_toArray, List.set_cons_zero, List.set_cons_succ]
          refine held_take (i := 3) (v := ?_) rfl (by kernel_rfl) (by kernel_rfl) (by kernel_rfl) (fun _ _ _ h => h) (by rfl) (fun w hSw => ?_) (by assumption) ?_; rotate_left 1; focus (((try dsimp only at hSw); first | (go_simp; done) | (go_simp; with_reducible rfl)))
          try simp only [Act.put, List.setIfInBounds_toArray, List.set_cons_zero, List.set_cons_succ]
          refine held_take (i := 4) (v := ?_) rfl (by kernel_rfl) (by kernel_rfl) (by kernel_rfl) (fun _ _ _ h => h) (by rfl) (fun w hSw => ?_) (by assumption) ?_; rotate_left 1; focus (((try dsimp only at hSw); first | (go_simp; done) | (go_simp; with_reducible rfl)))
          try simp only [Act.put, List.setIfInBounds_toArray, List.set_cons_zero, List.set_cons_succ]
          refine held_take (i := 5) (v := ?_) rfl (by kernel_rfl) (by kernel_rfl) (by kernel_rfl) (fun _ _ _ h => h) (by rfl) (fun w hSw => ?_) (by assumption) ?_; rotate_left 1; focus (((try dsimp only at hSw); first | (go_simp; done) | (go_simp; with_reducible rfl)))
          try simp only [Act.put, List.setIfInBounds_toArray, List.set_cons_zero, List.set_cons_succ]
          refine held_take (i := 6) (v := ?_) rfl (by kernel_rfl) (by kernel_rfl) (by kernel_rfl) (fun _ _ _ h => h) (by rfl) (fun w hSw => ?_) (by assumption) ?_; rotate_left 1; focus (((try dsimp only at hSw); first | (go_simp; done) | (go_simp; with_reducible rfl)))
          try simp only [Act.put, List.setIfInBounds_toArray, List.set_cons_zero, List.set_cons_succ]
          refine held_take (i := 7) (v := ?_) rfl (by kernel_rfl) (by kernel_rfl) (by kernel_rfl) (fun _ _ _ h => h) (by rfl) (fun w hSw => ?_) (by assumption) ?_; rotate_left 1; focus (((try dsimp only at hSw); first | (go_simp; done) | (go_simp; with_reducible rfl)))
          try simp only [Act.put, List.setIfInBounds_toArray, List.set_cons_zero, List.set_cons_succ]
          refine held_take (i := 8) (v := ?_) rfl (by kernel_rfl) (by kernel_rfl) (by kernel_rfl) (fun _ _ _ h => h) (by rfl) (fun w hSw => ?_) (by assumption) ?_; rotate_left 1; focus (((try dsimp only at hSw); first | (go_simp; done) | (go_simp; with_reducible rfl)))
          try simp only [Act.put, List.setIfInBounds_toArray, List.set_cons_zero, List.set_cons_succ]
          refine held_two (i := 9) (j := 13) (by kernel_rfl) rfl rfl (by rfl) (by rfl) (fun K hK => ?_) (fun K hK => ?_)
          · go_simp
            (go_at_call 33; ((with_reducible refine (VC.out _ hHeld.2.out.bel).mono ?_); rintro e w5 ⟨rfl, hb5⟩))
            have I5 := Lib.hid (hHeld.2.out.grow hb5)
            clear hHeld hb5
            refine hK.out _ _ (I5.out.s) (fun hHeld => ?_)
            try simp only [Act.put, List.setIfInBounds_toArray, List.set_cons_zero, List.set_cons_succ]
            refine held_take (i := 10) (v := ?_) rfl (by kernel_rfl) (by kernel_rfl) (by kernel_rfl) (fun _ _ _ h => h) (by rfl) (fun w hSw => ?_) (by assumption) ?_; rotate_left 1; focus (((try dsimp only at hSw); first | (go_simp; done) | (go_simp; with_reducible rfl)))
            try simp only [Act.put, List.setIfInBounds_toArray, List.set_cons_zero, List.set_cons_succ]
            refine held_take (i := 11) (v := ?_) rfl (by kernel_rfl) (by kernel_rfl) (by kernel_rfl) (fun _ _ _ h => h) (by rfl) (fun w hSw => ?_) (by assumption) ?_; rotate_left 1; focus (((try dsimp only at hSw); first | (go_simp; done) | (go_simp; with_reducible rfl)))
            try simp only [Act.put, List.setIfInBounds_toArray, List.set_cons_zero, List.set_cons_succ]
            refine held_take (i := 12) (v := ?_) rfl (by kernel_rfl) (by kernel_rfl) (by kernel_rfl) (fun _ _ _ h => h) (by rfl) (fun w hSw => ?_) (by assumption) ?_; rotate_left 1; focus (((try dsimp only at hSw); first | (go_simp; done) | (go_simp; with_reducible rfl)))
            try simp only [Act.put, List.setIfInBounds_toArray, List.set_cons_zero, List.set_cons_succ]
            refine held_call (i := 13) (by kernel_rfl) rfl (by rfl) (fun K hK => ?_)
            go_simp
            have I6 := Lib.hid (I5.out.grow (below_alloc w5 (.cells #[.string ⟨#[]⟩, .int .u64 0, .int .i64 0, .string ⟨#[]⟩] 43)))
            refine hK.out _ _ (I6.out.s) (fun hHeld => ?_)
            try simp only [Act.put, List.setIfInBounds_toArray, List.set_cons_zero, List.set_cons_succ]
            refine held_call (i := 14) (by kernel_rfl) rfl (by rfl) (fun K hK => ?_)
            go_simp
            refine hK.out _ _ ((I5.out.grow (below_alloc w5 _)).s) (fun hHeld => ?_)
            try simp only [Act.put, List.setIfInBounds_toArray, List.set_cons_zero, List.set_cons_succ]
            refine held_take (i := 15) (v := ?_) rfl (by kernel_rfl) (by kernel_rfl) (by kernel_rfl) (fun _ _ _ h => h) (by rfl) (fun w hSw => ?_) (by assumption) ?_; rotate_left 1; focus (((try dsimp only at hSw); first | (go_simp; done) | (go_simp; with_reducible rfl)))
            try simp only [Act.put, List.setIfInBounds_toArray, List.set_cons_zero, List.set_cons_succ]
            refine wpAnyH_done (by kernel_rfl) ?_ _
            go_wp2_with fail
            go_meet
            exact ⟨rfl, _, rfl, RowAt.new zeroR w5, hHeld.2.out.row, hHeld.2.out.bel⟩
          · go_simp
            have I5 := Lib.hid (hHeld.2.out.grow (below_alloc _ (.cells #[.string ⟨#[]⟩, .int .u64 0, .int .i64 0, .string ⟨#[]⟩] 43)))
            have Z5 := Lib.hid (show RowAt V.heap.size zeroR (V.drew.alloc (.cells #[.string ⟨#[]⟩, .int .u64 0, .int .i64 0, .string ⟨#[]⟩] 43)) from RowAt.new zeroR V.drew)
            refine hK.out _ _ (I5.out.s) (fun hHeld => ?_)
            try simp only [Act.put, List.setIfInBounds_toArray, List.set_cons_zero, List.set_cons_succ]
            refine held_call (i := 9) (by kernel_rfl) rfl (by rfl) (fun K hK => ?_)
            go_simp
            (go_at_call 33; ((with_reducible refine (VC.out _ hHeld.2.out.bel).mono ?_); rintro e w5 ⟨rfl, hb5⟩))
            have I6 := Lib.hid (hHeld.2.out.grow hb5)
            have Z6 := Lib.hid (Z5.out.below hb5)
            clear hHeld hb5 I5 Z5
            obtain ⟨⟨v0, v1, v2, v3⟩, v4⟩ := Z6.out.cells
            refine hK.out _ _ (I6.out.s) (fun hHeld => ?_)
            try simp only [Act.put, List.setIfInBounds_toArray, List.set_cons_zero, List.set_cons_succ]
            refine held_take (i := 10) (v := ?_) rfl (by kernel_rfl) (by kernel_rfl) (by kernel_rfl) (fun _ _ _ h => h) (by rfl) (fun w hSw => ?_) (by assumption) ?_; rotate_left 1; focus (((try dsimp only at hSw); first | (go_simp; done) | (go_simp; with_reducible rfl)))
            try simp only [Act.put, List.setIfInBounds_toArray, List.set_cons_zero, List.set_cons_succ]
            refine held_take (i := 11) (v := ?_) rfl (by kernel_rfl) (by kernel_rfl) (by kernel_rfl) (fun _ _ _ h => h) (by rfl) (fun w hSw => ?_) (by assumption) ?_; rotate_left 1; focus (((try dsimp only at hSw); first | (go_simp; done) | (go_simp; with_reducible rfl)))
            try simp only [Act.put, List.setIfInBounds_toArray, List.set_cons_zero, List.set_cons_succ]
            refine held_take (i := 12) (v := ?_) rfl (by kernel_rfl) (by kernel_rfl) (by kernel_rfl) (fun _ _ _ h => h) (by rfl) (fun w hSw => ?_) (by assumption) ?_; rotate_left 1; focus (((try dsimp only at hSw); first | (go_simp; done) | (go_simp; with_reducible rfl)))
            try simp only [Act.put, List.setIfInBounds_toArray, List.set_cons_zero, List.set_cons_succ]
            refine held_call (i := 14) (by kernel_rfl) rfl (by rfl) (fun K hK => ?_)
            go_simp
            refine hK.out _ _ ((I6.out.set4 Z6.out hsz3 gn3.out zeroR).s) (fun hHeld => ?_)
            try simp only [Act.put, List.setIfInBounds_toArray, List.set_cons_zero, List.set_cons_succ]
            refine held_take (i := 15) (v := ?_) rfl (by kernel_rfl) (by kernel_rfl) (by kernel_rfl) (fun _ _ _ h => h) (by rfl) (fun w hSw => ?_) (by assumption) ?_; rotate_left 1; focus (((try dsimp only at hSw); first | (go_simp; done) | (go_simp; with_reducible rfl)))
            try simp only [Act.put, List.setIfInBounds_toArray, List.set_cons_zero, List.set_cons_succ]
            refine wpAnyH_done (by kernel_rfl) ?_ _
            go_wp2_with fail
            go_meet
            exact ⟨rfl, _, rfl, RowAt.set4 Z6.out zeroR, hHeld.2.out.row, hHeld.2.out.bel⟩
        case rest =>
          obtain ⟨rfl, g, rfl, rg, X5, B5⟩ := hcut
          obtain ⟨⟨y0, y1, y2, y3⟩, _⟩ := rg.cells
          obtain ⟨⟨u0, u1, u2, u3⟩, _⟩ := X5.cells
          have B5 := Lib.hid B5
          clear VC rg X5
          have tj : Hid (thr R xk xs = false) := Lib.hid (by rw [thr_get, hg.out])
          go_wp2_with fail
          go_roundw
          case rel => exact ⟨j + 1, by omega, by go_num, fun m y hm hy => by
            by_cases hmj : m < j
            · exact hfr.out m y hmj hy
            · obtain rfl : m = j := by omega
              rw [hx.out] at hy
              cases hy
              exact tj.out, B5.out⟩
          case measure => simp [intOf]; omega
      | some y =>
        obtain ⟨yk, ys, yi, yv⟩ := y
        replace hg := Lib.hid hg
        have VC : Hid (∀ u, Below w3.heap.size w3 u → Calls Try.prog 33 #[.func (.func 34) #[.pointer (some ⟨L, 0, none⟩)] #[], .string xk, .int .u64 (xs : Int)] u fun e w' => e = .returned (.tuple #[.agg #[.string yk, .int .u64 (ys : Int), .int .i64 yi, .string yv], .bool true]) ∧ Below u.heap.size u w') := Lib.hid fun u hu => (VE.out u (below_of B3.out hu)).mono fun e w' hp => ⟨by rw [hp.1, hg.out]; rfl, hp.2⟩
        go_cut [11, 12] from 38 to 50 (fun r ok wc => ok = .bool true ∧ ∃ g, r = .pointer (some ⟨g, 0, none⟩) ∧ RowAt g ⟨yk, ys, yi, yv⟩ wc ∧ RowAt wr.heap.size ⟨xk, xs, xi, xv⟩ wc ∧ Below w3.heap.size w3 wc)
        case first =>
          refine wp_region_held_drew (S := (fun v => (v.cell? ⟨p, 0, none⟩ = some (.pointer (some ⟨L, 0, none⟩)) ∧ v.cell? ⟨wr.heap.size, 0, none⟩ = some (.string xk) ∧ v.cell? ⟨wr.heap.size, 1, none⟩ = some (.int .u64 (xs : Int))) ∧ Hid (AdI w3 p L R wr.heap.size ⟨xk, xs, xi, xv⟩ v))) (by kernel_rfl) (I0.out.s) (fun hHeld => ?_)
          refine held_take (i := 0) (v := ?_) rfl (by kernel_rfl) (by kernel_rfl) (by kernel_rfl) (fun _ _ _ h => h) (by rfl) (fun w hSw => ?_) (by assumption) ?_; rotate_left 1; focus (((try dsimp only at hSw); first | (go_simp; done) | (go_simp; with_reducible rfl)))
          try simp only [Act.put, List.setIfInBounds_toArray, List.set_cons_zero, List.set_cons_succ]
          refine held_take (i := 1) (v := ?_) rfl (by kernel_rfl) (by kernel_rfl) (by kernel_rfl) (fun _ _ _ h => h) (by rfl) (fun w hSw => ?_) (by assumption) ?_; rotate_left 1; focus (((try dsimp only at hSw); first | (go_simp; done) | (go_simp; with_reducible rfl)))
          try simp only [Act.put, List.setIfInBounds_toArray, List.set_cons_zero, List.set_cons_succ]
          refine held_take (i := 2) (v := ?_) rfl (by kernel_rfl) (by kernel_rfl) (by kernel_rfl) (fun _ _ _ h => h) (by rfl) (fun w hSw => ?_) (by assumption) ?_; rotate_left 1; focus (((try dsimp only at hSw); first | (go_simp; done) | (go_simp; with_reducible rfl)))
          try simp only [Act.put, List.setIfInBounds_toArray, List.set_cons_zero, List.set_cons_succ]
          refine held_take (i := 3) (v := ?_) rfl (by kernel_rfl) (by kernel_rfl) (by kernel_rfl) (fun _ _ _ h => h) (by rfl) (fun w hSw => ?_) (by assumption) ?_; rotate_left 1; focus (((try dsimp only at hSw); first | (go_simp; done) | (go_simp; with_reducible rfl)))
          try simp only [Act.put, List.setIfInBounds_toArray, List.set_cons_zero, List.set_cons_succ]
          refine held_take (i := 4) (v := ?_) rfl (by kernel_rfl) (by kernel_rfl) (by kernel_rfl) (fun _ _ _ h => h) (by rfl) (fun w hSw => ?_) (by assumption) ?_; rotate_left 1; focus (((try dsimp only at hSw); first | (go_simp; done) | (go_simp; with_reducible rfl)))
          try simp only [Act.put, List.setIfInBounds_toArray, List.set_cons_zero, List.set_cons_succ]
          refine held_take (i := 5) (v := ?_) rfl (by kernel_rfl) (by kernel_rfl) (by kernel_rfl) (fun _ _ _ h => h) (by rfl) (fun w hSw => ?_) (by assumption) ?_; rotate_left 1; focus (((try dsimp only at hSw); first | (go_simp; done) | (go_simp; with_reducible rfl)))
          try simp only [Act.put, List.setIfInBounds_toArray, List.set_cons_zero, List.set_cons_succ]
          refine held_take (i := 6) (v := ?_) rfl (by kernel_rfl) (by kernel_rfl) (by kernel_rfl) (fun _ _ _ h => h) (by rfl) (fun w hSw => ?_) (by assumption) ?_; rotate_left 1; focus (((try dsimp only at hSw); first | (go_simp; done) | (go_simp; with_reducible rfl)))
          try simp only [Act.put, List.setIfInBounds_toArray, List.set_cons_zero, List.set_cons_succ]
          refine held_take (i := 7) (v := ?_) rfl (by kernel_rfl) (by kernel_rfl) (by kernel_rfl) (fun _ _ _ h => h) (by rfl) (fun w hSw => ?_) (by assumption) ?_; rotate_left 1; focus (((try dsimp only at hSw); first | (go_simp; done) | (go_simp; with_reducible rfl)))
          try simp only [Act.put, List.setIfInBounds_toArray, List.set_cons_zero, List.set_cons_succ]
          refine held_take (i := 8) (v := ?_) rfl (by kernel_rfl) (by kernel_rfl) (by kernel_rfl) (fun _ _ _ h => h) (by rfl) (fun w hSw => ?_) (by assumption) ?_; rotate_left 1; focus (((try dsimp only at hSw); first | (go_simp; done) | (go_simp; with_reducible rfl)))
          try simp only [Act.put, List.setIfInBounds_toArray, List.set_cons_zero, List.set_cons_succ]
          refine held_two (i := 9) (j := 13) (by kernel_rfl) rfl rfl (by rfl) (by rfl) (fun K hK => ?_) (fun K hK => ?_)
          · go_simp
            (go_at_call 33; ((with_reducible refine (VC.out _ hHeld.2.out.bel).mono ?_); rintro e w5 ⟨rfl, hb5⟩))
            have I5 := Lib.hid (hHeld.2.out.grow hb5)
            clear hHeld hb5
            refine hK.out _ _ (I5.out.s) (fun hHeld => ?_)
            try simp only [Act.put, List.setIfInBounds_toArray, List.set_cons_zero, List.set_cons_succ]
            refine held_take (i := 10) (v := ?_) rfl (by kernel_rfl) (by kernel_rfl) (by kernel_rfl) (fun _ _ _ h => h) (by rfl) (fun w hSw => ?_) (by assumption) ?_; rotate_left 1; focus (((try dsimp only at hSw); first | (go_simp; done) | (go_simp; with_reducible rfl)))
            try simp only [Act.put, List.setIfInBounds_toArray, List.set_cons_zero, List.set_cons_succ]
            refine held_take (i := 11) (v := ?_) rfl (by kernel_rfl) (by kernel_rfl) (by kernel_rfl) (fun _ _ _ h => h) (by rfl) (fun w hSw => ?_) (by assumption) ?_; rotate_left 1; focus (((try dsimp only at hSw); first | (go_simp; done) | (go_simp; with_reducible rfl)))
            try simp only [Act.put, List.setIfInBounds_toArray, List.set_cons_zero, List.set_cons_succ]
            refine held_take (i := 12) (v := ?_) rfl (by kernel_rfl) (by kernel_rfl) (by kernel_rfl) (fun _ _ _ h => h) (by rfl) (fun w hSw => ?_) (by assumption) ?_; rotate_left 1; focus (((try dsimp only at hSw); first | (go_simp; done) | (go_simp; with_reducible rfl)))
            try simp only [Act.put, List.setIfInBounds_toArray, List.set_cons_zero, List.set_cons_succ]
            refine held_call (i := 13) (by kernel_rfl) rfl (by rfl) (fun K hK => ?_)
            go_simp
            have I6 := Lib.hid (I5.out.grow (below_alloc w5 (.cells #[.string ⟨#[]⟩, .int .u64 0, .int .i64 0, .string ⟨#[]⟩] 43)))
            refine hK.out _ _ (I6.out.s) (fun hHeld => ?_)
            try simp only [Act.put, List.setIfInBounds_toArray, List.set_cons_zero, List.set_cons_succ]
            refine held_call (i := 14) (by kernel_rfl) rfl (by rfl) (fun K hK => ?_)
            go_simp
            refine hK.out _ _ ((I5.out.grow (below_alloc w5 _)).s) (fun hHeld => ?_)
            try simp only [Act.put, List.setIfInBounds_toArray, List.set_cons_zero, List.set_cons_succ]
            refine held_take (i := 15) (v := ?_) rfl (by kernel_rfl) (by kernel_rfl) (by kernel_rfl) (fun _ _ _ h => h) (by rfl) (fun w hSw => ?_) (by assumption) ?_; rotate_left 1; focus (((try dsimp only at hSw); first | (go_simp; done) | (go_simp; with_reducible rfl)))
            try simp only [Act.put, List.setIfInBounds_toArray, List.set_cons_zero, List.set_cons_succ]
            refine wpAnyH_done (by kernel_rfl) ?_ _
            go_wp2_with fail
            go_meet
            exact ⟨rfl, _, rfl, RowAt.new ⟨yk, ys, yi, yv⟩ w5, hHeld.2.out.row, hHeld.2.out.bel⟩
          · go_simp
            have I5 := Lib.hid (hHeld.2.out.grow (below_alloc _ (.cells #[.string ⟨#[]⟩, .int .u64 0, .int .i64 0, .string ⟨#[]⟩] 43)))
            have Z5 := Lib.hid (show RowAt V.heap.size zeroR (V.drew.alloc (.cells #[.string ⟨#[]⟩, .int .u64 0, .int .i64 0, .string ⟨#[]⟩] 43)) from RowAt.new zeroR V.drew)
            refine hK.out _ _ (I5.out.s) (fun hHeld => ?_)
            try simp only [Act.put, List.setIfInBounds_toArray, List.set_cons_zero, List.set_cons_succ]
            refine held_call (i := 9) (by kernel_rfl) rfl (by rfl) (fun K hK => ?_)
            go_simp
            (go_at_call 33; ((with_reducible refine (VC.out _ hHeld.2.out.bel).mono ?_); rintro e w5 ⟨rfl, hb5⟩))
            have I6 := Lib.hid (hHeld.2.out.grow hb5)
            have Z6 := Lib.hid (Z5.out.below hb5)
            clear hHeld hb5 I5 Z5
            obtain ⟨⟨v0, v1, v2, v3⟩, v4⟩ := Z6.out.cells
            refine hK.out _ _ (I6.out.s) (fun hHeld => ?_)
            try simp only [Act.put, List.setIfInBounds_toArray, List.set_cons_zero, List.set_cons_succ]
            refine held_take (i := 10) (v := ?_) rfl (by kernel_rfl) (by kernel_rfl) (by kernel_rfl) (fun _ _ _ h => h) (by rfl) (fun w hSw => ?_) (by assumption) ?_; rotate_left 1; focus (((try dsimp only at hSw); first | (go_simp; done) | (go_simp; with_reducible rfl)))
            try simp only [Act.put, List.setIfInBounds_toArray, List.set_cons_zero, List.set_cons_succ]
            refine held_take (i := 11) (v := ?_) rfl (by kernel_rfl) (by kernel_rfl) (by kernel_rfl) (fun _ _ _ h => h) (by rfl) (fun w hSw => ?_) (by assumption) ?_; rotate_left 1; focus (((try dsimp only at hSw); first | (go_simp; done) | (go_simp; with_reducible rfl)))
            try simp only [Act.put, List.setIfInBounds_toArray, List.set_cons_zero, List.set_cons_succ]
            refine held_take (i := 12) (v := ?_) rfl (by kernel_rfl) (by kernel_rfl) (by kernel_rfl) (fun _ _ _ h => h) (by rfl) (fun w hSw => ?_) (by assumption) ?_; rotate_left 1; focus (((try dsimp only at hSw); first | (go_simp; done) | (go_simp; with_reducible rfl)))
            try simp only [Act.put, List.setIfInBounds_toArray, List.set_cons_zero, List.set_cons_succ]
            refine held_call (i := 14) (by kernel_rfl) rfl (by rfl) (fun K hK => ?_)
            go_simp
            refine hK.out _ _ ((I6.out.set4 Z6.out hsz3 gn3.out ⟨yk, ys, yi, yv⟩).s) (fun hHeld => ?_)
            try simp only [Act.put, List.setIfInBounds_toArray, List.set_cons_zero, List.set_cons_succ]
            refine held_take (i := 15) (v := ?_) rfl (by kernel_rfl) (by kernel_rfl) (by kernel_rfl) (fun _ _ _ h => h) (by rfl) (fun w hSw => ?_) (by assumption) ?_; rotate_left 1; focus (((try dsimp only at hSw); first | (go_simp; done) | (go_simp; with_reducible rfl)))
            try simp only [Act.put, List.setIfInBounds_toArray, List.set_cons_zero, List.set_cons_succ]
            refine wpAnyH_done (by kernel_rfl) ?_ _
            go_wp2_with fail
            go_meet
            exact ⟨rfl, _, rfl, RowAt.set4 Z6.out ⟨yk, ys, yi, yv⟩, hHeld.2.out.row, hHeld.2.out.bel⟩
        case rest =>
          obtain ⟨rfl, g, rfl, rg, X5, B5⟩ := hcut
          obtain ⟨⟨y0, y1, y2, y3⟩, _⟩ := rg.cells
          obtain ⟨⟨u0, u1, u2, u3⟩, _⟩ := X5.cells
          have B5 := Lib.hid B5
          clear VC rg X5
          by_cases hq : ys = xs
          · have tj := Lib.hid (show thr R xk xs = true by rw [thr_get, hg.out]; simp [hq])
            have q1 : ((ys : Int) == (xs : Int)) = true := by rw [beq_iff_eq]; omega
            have q2 : (ys : Int) = (xs : Int) := by omega
            subst hq
            go_wp2_with fail
            go_returns
            rw [addR_taken hc.out (x := ⟨xk, ys, xi, xv⟩) (by rw [← hX.out]; exact List.mem_of_getElem? hx.out) tj.out, set_same hi.out]
            have B6 := below_of B3.out B5.out
            exact ⟨rfl, h.out.grow B6, ⟨B6.os, B6.tape, B6.output, B6.size, fun k hk' => B6.block k (Nat.lt_of_lt_of_le hk' hb.out)⟩, Else4.of_below B6 (Nat.le_refl _)⟩
          · have tj := Lib.hid (show thr R xk xs = false by rw [thr_get, hg.out]; simp [hq])
            have q1 : ((ys : Int) == (xs : Int)) = false := by rw [beq_eq_false_iff_ne]; omega
            have q2 : ¬ (ys : Int) = (xs : Int) := by omega
            go_wp2_with fail
            go_roundw
            case rel => exact ⟨j + 1, by omega, by go_num, fun m y hm hy => by
              by_cases hmj : m < j
              · exact hfr.out m y hmj hy
              · obtain rfl : m = j := by omega
                rw [hx.out] at hy
                cases hy
                exact tj.out, B5.out⟩
            case measure => simp [intOf]; omega
    · have hjN : j = N := by omega
      subst hjN
      have i1 : ¬ ((j : Int) < (j : Int)) := by omega
      have hfa : Hid (∀ x ∈ X, thr R x.key x.seq = false) := Lib.hid fun x hx => by
        obtain ⟨m, hm⟩ := List.getElem?_of_mem hx
        exact hfr.out m x (by have := (List.getElem?_eq_some_iff.1 hm).1; rw [hNX.out]; exact this) hm
      have hap : Hid (Apart (X ++ R)) := Lib.hid (by rw [hX.out]; exact free_apart hsort.out (by rw [← hX.out]; exact hfa.out))
      have hgood : Hid (addR R seq ws = (insAll R X, 0)) := Lib.hid (by rw [hX.out]; exact addR_good hc.out (by rw [← hX.out]; exact hfa.out))
      have Tw : Tb base (ts.set i (p, insAll R (X.take 0))) wr := by
        rw [List.take_zero, show insAll R [] = R from rfl, set_same hi.out]
        exact h.out.grow (below_of B3.out hB)
      have Bw : Below base w wr := (below_of B3.out hB).mono hb.out
      have Ew : Else4 w3 wr := Else4.of_below hB (Nat.le_refl _)
      have Sw : w3.heap.size ≤ wr.heap.size := hB.size
      have E3 : Hid (Else4 w w3) := Lib.hid (Else4.of_below B3.out (Nat.le_refl _))
      have Tw := Lib.hid Tw
      have Bw := Lib.hid Bw
      have Ew := Lib.hid Ew
      have Sw := Lib.hid Sw
      obtain ⟨N, hjN⟩ := named j
      rw [← hjN.out] at HR HT rcp hN64 hNX ⊢
      clear hB hj hlt i1 hfr hjN
      go_wp2_with fail
      go_loopw [62] (fun v wq => ∃ j : Nat, j ≤ N ∧ v = .int .i64 (j : Int) ∧ Tb base (ts.set i (p, insAll R (X.take j))) wq ∧ Below base w wq ∧ Else4 w3 wq ∧ w3.heap.size ≤ wq.heap.size) (fun v _ => N - (intOf v).toNat)
      case atStart => exact ⟨0, Nat.zero_le _, rfl, Tw.out, Bw.out, Ew.out, Sw.out⟩
      case round =>
        clear Tw Bw Ew Sw
        obtain ⟨j, hj, rfl, T0, B0, E0, S0⟩ := hrel
        by_cases hlt : j < N
        · obtain ⟨x, hx, rfl, x0, x1, x2, x3⟩ := (rs_else4 HR.out (fun h0 => ⟨_, (HT.out h0).2.choose_spec.1⟩) E0 S0).at4 hlt
          rw [Nat.zero_add] at x0 x1 x2 x3
          have hfree := insAll_free hsort.out hap.out hx
          have hlen : (insAll R (X.take j)).length ≤ 1000000 := by rw [insAll_len, List.length_take]; have := hX64.out; omega
          have hil := (List.getElem?_eq_some_iff.1 hi.out).1
          have IN := Lib.hid fun (H : Int) => tb_insert (T0.grow (below_alloc wr (.cells #[.string x.key, .int .u64 (x.seq : Int), .int .i64 x.kind, .string x.val] 43))) (by rw [World.size_alloc]; have := B0.size; have := hb.out; omega) (List.getElem?_set_self hil) hlen x (hshort.out x (List.mem_of_getElem? hx)) hfree.2 H
          obtain ⟨xk, xs, xi, xv⟩ := x
          simp only at x0 x1 x2 x3
          have hx := Lib.hid hx
          have T0 := Lib.hid T0
          have B0' := B0
          have E0' := E0
          have B0 := Lib.hid B0
          have E0 := Lib.hid E0
          have S0 := Lib.hid S0
          have i1 : (j : Int) < (N : Int) := by omega
          clear hfree hlen hil
          by_cases hh : j < n1
          · have i2 : (j : Int) < (n1 : Int) := by omega
            have sl := hk.out wr B0.out (Else4.trans E3.out E0.out B3.out.size)
            have hbl := (sl.addr (by omega)).2
            obtain ⟨H, hH, rfl, y0⟩ := num_at sl hh
            have y1 : (wr.alloc (.cells #[.string xk, .int .u64 (xs : Int), .int .i64 xi, .string xv] 43)).cell? ⟨b1, o1 + j, none⟩ = some (.int .i64 H) := ((below_alloc wr (.cells #[.string xk, .int .u64 (xs : Int), .int .i64 xi, .string xv] 43)).cell (p := ⟨b1, o1 + j, none⟩) hbl).trans y0
            have e1 : ¬ b1 = wr.heap.size := by omega
            clear sl
            clear B0' E0'
            go_wp2_with (go_at_call 35; ((with_reducible refine (IN.out _).mono ?_); rintro e w5 ⟨rfl, T5, B5, E5⟩; have T5 := Lib.hid T5; have B5 := Lib.hid B5; have E5 := Lib.hid E5; clear IN))
            go_roundw
            case rel => exact ⟨j + 1, by omega, by go_num, by have := T5.out; rw [List.set_set, take_next hx.out] at this; exact this, below_then B0.out (below_alloc _ _) hb.out B5.out, Else4.trans (Else4.trans E0.out (Else4.of_below (below_alloc _ _) (Nat.le_refl _)) S0.out) E5.out (by rw [World.size_alloc]; have := S0.out; omega), by have := B5.out.size; rw [World.size_alloc] at this; have := S0.out; omega⟩
            case measure => simp [intOf]; omega
          · have i2 : ¬ ((j : Int) < (n1 : Int)) := by omega
            clear B0' E0'
            go_wp2_with (go_at_call 35; ((with_reducible refine (IN.out _).mono ?_); rintro e w5 ⟨rfl, T5, B5, E5⟩; have T5 := Lib.hid T5; have B5 := Lib.hid B5; have E5 := Lib.hid E5; clear IN))
            go_roundw
            case rel => exact ⟨j + 1, by omega, by go_num, by have := T5.out; rw [List.set_set, take_next hx.out] at this; exact this, below_then B0.out (below_alloc _ _) hb.out B5.out, Else4.trans (Else4.trans E0.out (Else4.of_below (below_alloc _ _) (Nat.le_refl _)) S0.out) E5.out (by rw [World.size_alloc]; have := S0.out; omega), by have := B5.out.size; rw [World.size_alloc] at this; have := S0.out; omega⟩
            case measure => simp [intOf]; omega
        · have hjN : j = N := by omega
          have i1 : ¬ ((j : Int) < (N : Int)) := by omega
          have T0 := Lib.hid T0
          have B0 := Lib.hid B0
          have E0 := Lib.hid E0
          have S0 := Lib.hid S0
          have fin : Hid (X.take j = X) := Lib.hid (List.take_of_length_le (by have := hNX.out; omega))
          go_wp2_with fail
          go_returns
          rw [hgood.out]
          have := T0.out
          rw [fin.out] at this
          exact ⟨rfl, this, B0.out, Else4.trans E3.out E0.out B3.out.size⟩
theorem add_any {base : Nat} {ts : List (Nat × List Rw)} {w : World} (h : Tb base ts w) (hb : base ≤ w.heap.size) {i p : Nat} {R : List Rw} (hi : ts[i]? = some (p, R)) (hn : R.length ≤ 900000) {seq : Nat} {a : Option Addr} {n c b o : Nat} {ws : List Wr} (hw : Ws a n c b o ws w) {a1 : Option Addr} {n1 c1 b1 o1 : Nat} {hs : List Int}
    (hk : ∀ w', Below base w w' → Else4 w w' → SlOf 1 cellsI a1 n1 c1 b1 o1 hs w') :
    Calls Try.prog 12 #[.pointer (some ⟨p, 0, none⟩), batchV seq a n c, .slice a1 n1 c1] w fun e w' => e = .returned (.int .i64 (addR R seq ws).2) ∧ Tb base (ts.set i (p, (addR R seq ws).1)) w' ∧ Below base w w' ∧ Else4 w w' := by
  by_cases hc : chkB seq ws = 0
  · exact add_good h hb hi hn hw hk hc
  · exact (add_bad h hi hw _ hc).mono fun e w' hd => ⟨hd.1, hd.2.1, hd.2.2.mono hb, Else4.of_below hd.2.2 (Nat.le_refl _)⟩
end Go.Proofs.Ytdgbafpnfkedeaa
/-
  The answer that the document fixes (awake). No condition.
-/
namespace Go.Proofs.Ytdgbafpnfkedeaa
set_option maxRecDepth 100000
open Go.RowKit
def ra1 : Rw := ⟨⟨#[97]⟩, 1, 1, ⟨#[120]⟩⟩
def rb2 : Rw := ⟨⟨#[98]⟩, 2, 1, ⟨#[121]⟩⟩
def ra3 : Rw := ⟨⟨#[97]⟩, 3, 2, ⟨#[]⟩⟩
def awA : List Wr := [⟨1, ⟨#[97]⟩, ⟨#[120]⟩⟩, ⟨1, ⟨#[98]⟩, ⟨#[121]⟩⟩]
def awB : List Wr := [⟨2, ⟨#[97]⟩, ⟨#[]⟩⟩]
theorem mw1 : addR [] 1 awA = ([ra1, rb2], 0) := by
  have h : rowsFrom 1 awA = [ra1, rb2] := rfl
  unfold addR
  rw [h]
  simp [insAll, thr, insR, plc, ahd, ra1, rb2, awA, Lib.toList_data, bytesBefore]
  decide
theorem mw2 : addR [ra1, rb2] 3 awB = ([ra3, ra1, rb2], 0) := by
  have h : rowsFrom 3 awB = [ra3] := rfl
  unfold addR
  rw [h]
  simp [insAll, thr, insR, plc, ahd, ra1, rb2, ra3, awB, Lib.toList_data]
  decide
theorem mw3 : getR [ra3, ra1, rb2] ⟨#[97]⟩ 2 = some ra1 := by
  simp [getR, plc, ahd, ra1, rb2, ra3, Lib.toList_data]
theorem mw4 : roomR [ra3, ra1, rb2] = 53 ∧ lsR [ra3, ra1, rb2] = 1 ∧ grR [ra3, ra1, rb2] = 3 := by decide
theorem ws_A (g : Nat) (V : World) (hV : V.heap[g]? = some (.cells #[.int .i64 1, .string ⟨#[97]⟩, .string ⟨#[120]⟩, .int .i64 1, .string ⟨#[98]⟩, .string ⟨#[121]⟩] 41 (0, 0))) : Ws (some ⟨g, 0, none⟩) 2 2 g 0 awA V := by
  refine ⟨rfl, Nat.le_refl _, by omega, fun _ => ⟨rfl, (Array.getElem?_eq_some_iff.1 hV).1⟩, fun j x hx => ?_, fun x hx => ?_⟩
  · match j, hx with
    | 0, hx => cases hx; exact ⟨by simp [World.cell?, hV], by simp [World.cell?, hV], by simp [World.cell?, hV]⟩
    | 1, hx => cases hx; exact ⟨by simp [World.cell?, hV], by simp [World.cell?, hV], by simp [World.cell?, hV]⟩
  · unfold awA at hx
    simp only [List.mem_cons, List.not_mem_nil, or_false] at hx
    rcases hx with rfl | rfl <;> exact ⟨by decide, by decide⟩
theorem ws_B (g : Nat) (V : World) (hV : V.heap[g]? = some (.cells #[.int .i64 2, .string ⟨#[97]⟩, .string ⟨#[]⟩] 41 (0, 0))) : Ws (some ⟨g, 0, none⟩) 1 1 g 0 awB V := by
  refine ⟨rfl, Nat.le_refl _, by omega, fun _ => ⟨rfl, (Array.getElem?_eq_some_iff.1 hV).1⟩, fun j x hx => ?_, fun x hx => ?_⟩
  · match j, hx with
    | 0, hx => cases hx; exact ⟨by simp [World.cell?, hV], by simp [World.cell?, hV], by simp [World.cell?, hV]⟩
  · unfold awB at hx
    simp only [List.mem_cons, List.not_mem_nil, or_false] at hx
    rcases hx with rfl
    exact ⟨by decide, by decide⟩
/-- A slice of ints that nobody handed over. -/
theorem sl_nil (w : World) : SlOf 1 cellsI none 0 0 0 0 [] w := ⟨rfl, Nat.le_refl _, by omega, fun h => absurd h (by omega), fun j x hx => by simp at hx⟩
theorem sl_one (g : Nat) (x : Int) {V : World} (hV : V.heap[g]? = some (.cells #[.int .i64 x] 3 (0, 0))) {w' : World} (he : Else4 V w') (hs : V.heap.size ≤ w'.heap.size) : SlOf 1 cellsI (some ⟨g, 0, none⟩) 1 1 g 0 [x] w' := by
  have hV' : w'.heap[g]? = some (.cells #[.int .i64 x] 3 (0, 0)) := (typed_else4 he hV (by decide) (by decide) (by decide)).trans hV
  refine ⟨rfl, Nat.le_refl _, by omega, fun _ => ⟨rfl, (Array.getElem?_eq_some_iff.1 hV').1⟩, fun j y hy m u hu => ?_⟩
  match j, hy with
  | 0, hy =>
    cases hy
    match m, hu with
    | 0, hu => cases hu; simp [World.cell?, hV']
set_option maxRecDepth 100000 in
set_option maxHeartbeats 4000000 in
theorem awake_mem (w : World) : Calls Try.prog 9 #[] w fun e w' => e = .returned (.bool true) ∧ Below w.heap.size w w' := by
  have NW := Lib.hid (new_tb (Tb.nil w.heap.size w) (Nat.le_refl _))
  go_enter Try.func9, Try.ntmps9
  go_upto_region 2 with (go_at_call 10; ((with_reducible refine NW.out.mono ?_); rintro e w1 ⟨p, rfl, T1, B1⟩; have T1 := Lib.hid T1; have B1 := Lib.hid B1; clear NW))
  have S1 := B1.out.size
  have A1 := add_any (T1.out.grow (below_alloc w1 (.cells #[.int .i64 1, .string ⟨#[97]⟩, .string ⟨#[120]⟩, .int .i64 1, .string ⟨#[98]⟩, .string ⟨#[121]⟩] 41))) (by rw [World.size_alloc]; omega) (i := 0) (p := p) (R := []) rfl (by simp) (seq := 1) (ws_A w1.heap.size _ (heap_alloc_new _ _)) (fun w' _ _ => sl_nil w')
  rw [mw1] at A1
  have A1 : Hid (Calls Try.prog 12 #[.pointer (some ⟨p, 0, none⟩), .agg #[.int .u64 1, .slice (some ⟨w1.heap.size, 0, none⟩) 2 2], .slice none 0 0] (w1.alloc (.cells #[.int .i64 1, .string ⟨#[97]⟩, .string ⟨#[120]⟩, .int .i64 1, .string ⟨#[98]⟩, .string ⟨#[121]⟩] 41)) fun e w' => e = .returned (.int .i64 0) ∧ Tb w.heap.size [(p, [ra1, rb2])] w' ∧ Below w.heap.size (w1.alloc (.cells #[.int .i64 1, .string ⟨#[97]⟩, .string ⟨#[120]⟩, .int .i64 1, .string ⟨#[98]⟩, .string ⟨#[121]⟩] 41)) w') := Lib.hid (A1.mono fun e w' h => ⟨h.1, h.2.1, h.2.2.1⟩)
  go_upto_region 3 with (go_at_call 12; ((with_reducible refine A1.out.mono ?_); rintro e w2 ⟨rfl, T2, B2⟩; have T2 := Lib.hid T2; have B2 := Lib.hid ((B1.out.trans ((below_alloc w1 (.cells #[.int .i64 1, .string ⟨#[97]⟩, .string ⟨#[120]⟩, .int .i64 1, .string ⟨#[98]⟩, .string ⟨#[121]⟩] 41)).mono S1)).trans B2); clear A1))
  have S2 := B2.out.size
  clear T1 B1 S1
  have A2 := add_any (T2.out.grow (below_of (below_alloc w2 (.cells #[.int .i64 2, .string ⟨#[97]⟩, .string ⟨#[]⟩] 41)) (below_alloc _ (.cells #[.int .i64 5] 3)))) (by rw [World.size_alloc, World.size_alloc]; omega) (i := 0) (p := p) (R := [ra1, rb2]) rfl (by simp) (seq := 3) (ws_B w2.heap.size _ (((below_alloc (w2.alloc (.cells #[.int .i64 2, .string ⟨#[97]⟩, .string ⟨#[]⟩] 41)) (.cells #[.int .i64 5] 3)).block _ (by rw [World.size_alloc]; omega)).trans (heap_alloc_new w2 (.cells #[.int .i64 2, .string ⟨#[97]⟩, .string ⟨#[]⟩] 41)))) (fun w' hb he => sl_one (w2.heap.size + 1) 5 (V := (w2.alloc (.cells #[.int .i64 2, .string ⟨#[97]⟩, .string ⟨#[]⟩] 41)).alloc (.cells #[.int .i64 5] 3)) (by have := heap_alloc_new (w2.alloc (.cells #[.int .i64 2, .string ⟨#[97]⟩, .string ⟨#[]⟩] 41)) (.cells #[.int .i64 5] 3); rw [World.size_alloc] at this; exact this) he hb.size)
  rw [mw2] at A2
  have A2 : Hid (Calls Try.prog 12 #[.pointer (some ⟨p, 0, none⟩), .agg #[.int .u64 3, .slice (some ⟨w2.heap.size, 0, none⟩) 1 1], .slice (some ⟨w2.heap.size + 1, 0, none⟩) 1 1] ((w2.alloc (.cells #[.int .i64 2, .string ⟨#[97]⟩, .string ⟨#[]⟩] 41)).alloc (.cells #[.int .i64 5] 3)) fun e w' => e = .returned (.int .i64 0) ∧ Tb w.heap.size [(p, [ra3, ra1, rb2])] w' ∧ Below w.heap.size ((w2.alloc (.cells #[.int .i64 2, .string ⟨#[97]⟩, .string ⟨#[]⟩] 41)).alloc (.cells #[.int .i64 5] 3)) w') := Lib.hid (A2.mono fun e w' h => ⟨h.1, h.2.1, h.2.2.1⟩)
  go_upto_region 4 with (go_at_call 12; ((with_reducible refine A2.out.mono ?_); rintro e w3 ⟨rfl, T3, B3⟩; have T3 := Lib.hid T3; have B3 := Lib.hid ((B2.out.trans ((below_of (below_alloc w2 (.cells #[.int .i64 2, .string ⟨#[97]⟩, .string ⟨#[]⟩] 41)) (below_alloc _ (.cells #[.int .i64 5] 3))).mono S2)).trans B3); clear A2))
  have S3 := B3.out.size
  clear T2 B2 S2
  have G3 := get_any (T3.out.q (i := 0) rfl (by simp)) ⟨#[97]⟩ 2
  rw [mw3] at G3
  have G3 : Hid (Calls Try.prog 14 #[.pointer (some ⟨p, 0, none⟩), .string ⟨#[97]⟩, .int .u64 2] w3 fun e w' => e = .returned (.tuple #[.agg #[.string ⟨#[97]⟩, .int .u64 1, .int .i64 1, .string ⟨#[120]⟩], .bool true]) ∧ Below w3.heap.size w3 w') := Lib.hid G3
  go_upto_region 5 with (go_at_call 14; ((with_reducible refine G3.out.mono ?_); rintro e w4 ⟨rfl, B4⟩; have B4 := Lib.hid B4; clear G3))
  have K4 : Hid (∀ o, TabQ (some ⟨p, 0, none⟩) [ra3, ra1, rb2] (w4.alloc o)) := Lib.hid fun o => (T3.out.grow (below_of B4.out (below_alloc w4 o))).q (i := 0) rfl (by simp)
  have RM : Hid (∀ o, Calls Try.prog 24 #[.pointer (some ⟨p, 0, none⟩)] (w4.alloc o) fun e w' => e = .returned (.int .i64 53) ∧ w' = w4.alloc o) := Lib.hid fun o => by have := room_any (K4.out o); rw [mw4.1] at this; exact this
  have LM : Hid (∀ o, Calls Try.prog 26 #[.pointer (some ⟨p, 0, none⟩)] (w4.alloc o) fun e w' => e = .returned (.int .u64 1) ∧ w' = w4.alloc o) := Lib.hid fun o => by have := least_any (K4.out o); rw [mw4.2.1] at this; exact this
  have GM : Hid (∀ o, Calls Try.prog 27 #[.pointer (some ⟨p, 0, none⟩)] (w4.alloc o) fun e w' => e = .returned (.int .u64 3) ∧ w' = w4.alloc o) := Lib.hid fun o => by have := greatest_any (K4.out o); rw [mw4.2.2] at this; exact this
  clear K4 T3
  go_wp2_with (first
    | (go_at_call 24; ((with_reducible refine (RM.out _).mono ?_); rintro e w5 ⟨rfl, rfl⟩))
    | (go_at_call 26; ((with_reducible refine (LM.out _).mono ?_); rintro e w5 ⟨rfl, rfl⟩))
    | (go_at_call 27; ((with_reducible refine (GM.out _).mono ?_); rintro e w5 ⟨rfl, rfl⟩))
    | fail "no arm")
  go_returns
  exact ⟨rfl, (B3.out.trans (B4.out.mono S3)).trans ((below_alloc w4 _).mono (by have := B4.out.size; omega))⟩
end Go.Proofs.Ytdgbafpnfkedeaa
/-
  A slice of structs that came in as an argument, whose elements hold what is told of them in memory, too. No condition.
-/
namespace Go.Proofs.Ytdgbafpnfkedeaa
open Go Go.RowKit Go.ChangeShapes Go.WideShapes Go.Deep
set_option maxRecDepth 100000
theorem open_slice_in {α : Type} [Inhabited α] {H : Type} {enc : TypeId × Value → H} {W : World} {a0 : Option Addr} {len cap fuel : Nat} {x : DataW H × List MemPlace} {T E : TypeId} (k : Nat) (hT : Try.prog.underlying T = some (.slice E)) (hk : Try.prog.cellsOf E = k) (hk0 : 0 < k)
    (cells : α → List Value) (hcl : ∀ v, (cells v).length = k) (Good : α → Prop)
    (read : ∀ {fuel : Nat} {cs : List Value} {y : DataW H × List MemPlace}, DataW.trod enc Try.prog W 0 (fun _ => true) true fuel E cs = some y → (∀ n ∈ y.1.weights Try.prog E, n ≤ reachBytes) → ∃ v : α, cs = cells v ∧ Good v)
    (hf : DataW.trod enc Try.prog W 0 (fun _ => true) true fuel T [.slice a0 len cap] = some x) (hsz : ∀ n ∈ x.1.weights Try.prog T, n ≤ reachBytes) :
    ∃ b o l, SlOf k cells a0 len cap b o l W ∧ ∀ v ∈ l, Good v := by
  rcases DataW.trod_slice hT hf with ⟨hcs, _⟩ | ⟨a, len', cap', elems, rest, n, _, hcs, hx, _, hl, hm, hlen, hel, _, _⟩
  · simp at hcs
    obtain ⟨rfl, rfl, rfl⟩ := hcs
    exact ⟨0, 0, [], ⟨rfl, Nat.le_refl _, by omega, fun h => absurd h (by omega), fun j x hx => by simp at hx⟩, fun x hx => by cases hx⟩
  · simp at hcs
    obtain ⟨rfl, rfl, rfl⟩ := hcs
    obtain ⟨b, off, spot⟩ := a
    have el : ∀ i, i < len → ∃ v : α, (∀ m u, (cells v)[m]? = some u → W.cell? ((⟨b, off, spot⟩ : Addr).add (i * k + m)) = some u) ∧ Good v := by
      intro i hi
      have h1 := hel i hi
      rw [hk] at h1
      have hys : elems[i]? = some (elems[i]'(by omega)) := List.getElem?_eq_getElem (by omega)
      rw [hys] at h1
      obtain ⟨cs, hc, ht'⟩ := Option.bind_eq_some_iff.1 h1
      obtain ⟨v, rfl, hg⟩ := read ht' (fun n hn => hsz n (by rw [hx, DataW.weights, hT]; exact List.mem_cons_of_mem _ (List.mem_append_left _ (weights_of (List.mem_map.2 ⟨_, List.mem_of_getElem? hys, rfl⟩) hn))))
      obtain ⟨_, hcl', hat⟩ := World.cells?_some hc
      refine ⟨v, fun m u hu => ?_, hg⟩
      have hm5 : m < k := by have := (List.getElem?_eq_some_iff.1 hu).1; rw [hcl] at this; exact this
      rw [← Go.Deep.add_add, hat m hm5, hu]
    obtain ⟨vf, hvf⟩ : ∃ vf : Nat → α, ∀ i, i < len → (∀ m u, (cells (vf i))[m]? = some u → W.cell? ((⟨b, off, spot⟩ : Addr).add (i * k + m)) = some u) ∧ Good (vf i) := by
      refine ⟨fun i => if h : i < len then (el i h).choose else default, fun i hi => ?_⟩
      simp only [dif_pos hi]
      exact (el i hi).choose_spec
    have hspot : 0 < len → spot = none := fun h0 => by
      obtain ⟨hcell, _⟩ := hvf 0 h0
      have := hcell 0 _ (List.getElem?_eq_getElem (by rw [hcl]; exact hk0))
      simpa [Addr.add] using World.cell?_spot this
    unfold maxLen at hm
    refine ⟨b, off, (List.range len).map vf, ⟨by simp, hl, by omega, fun h0 => ?_, fun j v hj m u hu => ?_⟩, fun v hv => ?_⟩
    · have hs := hspot h0
      subst hs
      obtain ⟨hcell, _⟩ := hvf 0 h0
      have hb := World.block_lt_of_cell? _ _ (hcell 0 _ (List.getElem?_eq_getElem (by rw [hcl]; exact hk0)))
      exact ⟨rfl, by simpa [Addr.add] using hb⟩
    · have hjl : j < len := by have := (List.getElem?_eq_some_iff.1 hj).1; simpa using this
      have hvj : v = vf j := by simpa [hjl] using hj.symm
      subst hvj
      have hs := hspot (by omega)
      subst hs
      obtain ⟨hcell, _⟩ := hvf j hjl
      have := hcell m u hu
      have e1 : (⟨b, off, none⟩ : Addr).add (j * k + m) = ⟨b, off + j * k + m, none⟩ := by
        unfold Addr.add
        split
        · rename_i h0
          rw [show off + j * k + m = off by omega]
        · simp only [Addr.mk.injEq, true_and, and_true]; omega
      rw [e1] at this
      exact this
    · obtain ⟨i, hi, rfl⟩ := List.mem_map.1 hv
      have hil : i < len := List.mem_range.1 hi
      exact (hvf i hil).2
end Go.Proofs.Ytdgbafpnfkedeaa
/-
  A batch that came in as an argument, as a walk wants it. No condition.
-/
namespace Go.Proofs.Ytdgbafpnfkedeaa
set_option maxRecDepth 100000
open Go Go.RowKit Go.ChangeShapes Go.WideShapes Go.Deep
theorem wr_read {H : Type} {enc : TypeId × Value → H} {w : World} {fuel : Nat} {cs : List Value} {y : DataW H × List MemPlace} (h : DataW.trod enc Try.prog w 0 (fun _ => true) true fuel 41 cs = some y) :
    ∃ x : Wr, cs = [.int .i64 x.kind, .string x.key, .string x.val] ∧ y.1 = .agg [.lit (.int .i64 x.kind), .lit (.string x.key.data.toList), .lit (.string x.val.data.toList)] := by
  have oc : Try.prog.cellsOf 41 = 3 := by kernel_rfl
  have i1 : Try.prog.cellsOf 3 = 1 := by kernel_rfl
  have s1 : Try.prog.cellsOf 9 = 1 := by kernel_rfl
  obtain ⟨xs, n, _, hx, hsz, hn, hg⟩ := DataW.trod_struct Try.underlying41 h
  have g0 := hg 0 _ rfl
  have g1 := hg 1 _ rfl
  have g2 := hg 2 _ rfl
  clear hg h
  rw [oc] at hsz
  have hm : xs.length = 3 := hn
  match cs, hsz with
  | [c0, c1, c2], _ =>
    match xs, hm with
    | [y0, y1, y2], _ =>
      obtain ⟨a0, e0, f0, w0⟩ := DataW.trod_int Try.underlying3 g0
      obtain ⟨a1, e1, f1, w1⟩ := DataW.trod_string Try.underlying9 g1
      obtain ⟨a2, e2, f2, w2⟩ := DataW.trod_string Try.underlying9 g2
      simp [i1, s1] at e0 e1 e2
      subst e0 e1 e2 f0 f1 f2
      exact ⟨⟨a0, a1, a2⟩, rfl, by rw [hx]; rfl⟩
theorem weights_all {H : Type} {P : Program} {e : TypeId} : ∀ {l : List (DataW H)} {d : DataW H} {n : Nat}, d ∈ l → n ∈ d.weights P e → n ∈ DataW.weightsAll P e l
  | [], _, _, h, _ => by cases h
  | x :: r, d, n, h, hn => by
    rw [DataW.weightsAll]
    rcases List.mem_cons.1 h with rfl | h
    · exact List.mem_append_left _ hn
    · exact List.mem_append_right _ (weights_all h hn)
theorem open_ws {H : Type} {enc : TypeId × Value → H} {W : World} {a0 : Option Addr} {len cap fuel : Nat} {x : DataW H × List MemPlace}
    (hf : DataW.trod enc Try.prog W 0 (fun _ => true) true fuel 29 [.slice a0 len cap] = some x) (hsz : ∀ n ∈ x.1.weights Try.prog 29, n ≤ reachBytes) :
    ∃ b o l, Ws a0 len cap b o l W := by
  have oc : Try.prog.cellsOf 41 = 3 := by kernel_rfl
  rcases DataW.trod_slice Try.underlying29 hf with ⟨hcs, _⟩ | ⟨a, len', cap', elems, rest, n, _, hcs, hx, _, hl, hm, hlen, hel, _, _⟩
  · simp at hcs
    obtain ⟨rfl, rfl, rfl⟩ := hcs
    exact ⟨0, 0, [], rfl, Nat.le_refl _, by omega, fun h => absurd h (by omega), fun j x hx => by simp at hx, fun x hx => by cases hx⟩
  · simp at hcs
    obtain ⟨rfl, rfl, rfl⟩ := hcs
    obtain ⟨b, off, spot⟩ := a
    have el : ∀ i, i < len → ∃ v : Wr, (∀ m u, ([.int .i64 v.kind, .string v.key, .string v.val] : List Value)[m]? = some u → W.cell? ((⟨b, off, spot⟩ : Addr).add (i * 3 + m)) = some u) ∧ ∃ y, elems[i]? = some y ∧ y.1 = .agg [.lit (.int .i64 v.kind), .lit (.string v.key.data.toList), .lit (.string v.val.data.toList)] := by
      intro i hi
      have h1 := hel i hi
      rw [oc] at h1
      have hys : elems[i]? = some (elems[i]'(by omega)) := List.getElem?_eq_getElem (by omega)
      rw [hys] at h1
      obtain ⟨cs, hc, ht'⟩ := Option.bind_eq_some_iff.1 h1
      obtain ⟨v, rfl, hy⟩ := wr_read ht'
      obtain ⟨_, hcl, hat⟩ := World.cells?_some hc
      refine ⟨v, fun m u hu => ?_, _, hys, hy⟩
      have hm5 : m < 3 := by have := (List.getElem?_eq_some_iff.1 hu).1; simpa using this
      rw [← Go.Deep.add_add, hat m hm5, hu]
    obtain ⟨vf, hvf⟩ : ∃ vf : Nat → Wr, ∀ i, i < len → (∀ m u, ([.int .i64 (vf i).kind, .string (vf i).key, .string (vf i).val] : List Value)[m]? = some u → W.cell? ((⟨b, off, spot⟩ : Addr).add (i * 3 + m)) = some u) ∧ ∃ y, elems[i]? = some y ∧ y.1 = .agg [.lit (.int .i64 (vf i).kind), .lit (.string (vf i).key.data.toList), .lit (.string (vf i).val.data.toList)] := by
      refine ⟨fun i => if h : i < len then (el i h).choose else ⟨0, .empty, .empty⟩, fun i hi => ?_⟩
      simp only [dif_pos hi]
      exact (el i hi).choose_spec
    have hwt : ∀ i, i < len → ∀ n, n ∈ [(vf i).key.data.toList.length, (vf i).val.data.toList.length] → n ≤ reachBytes := by
      intro i hi n hn
      obtain ⟨_, y, hy, he⟩ := hvf i hi
      refine hsz n ?_
      rw [hx, DataW.weights, Try.underlying29]
      refine List.mem_cons_of_mem _ (List.mem_append_left _ (weights_all (List.mem_map.2 ⟨y, List.mem_of_getElem? hy, rfl⟩) ?_))
      rw [he]
      simp only [DataW.weights, Try.underlying41, DataW.weightsEach, List.map_cons, List.map_nil]
      simp only [List.mem_cons, List.not_mem_nil, or_false] at hn
      rcases hn with rfl | rfl
      · simp
      · simp
    have hspot : 0 < len → spot = none := fun h0 => by
      obtain ⟨hcell, _⟩ := hvf 0 h0
      have := hcell 0 _ rfl
      simpa [Addr.add] using World.cell?_spot this
    unfold maxLen at hm
    refine ⟨b, off, (List.range len).map vf, by simp, hl, by omega, fun h0 => ?_, fun j v hj => ?_, fun v hv => ?_⟩
    · have hs := hspot h0
      subst hs
      obtain ⟨hcell, _⟩ := hvf 0 h0
      exact ⟨rfl, World.block_lt_of_cell? _ _ (hcell 0 _ rfl)⟩
    · have hjl : j < len := by have := (List.getElem?_eq_some_iff.1 hj).1; simpa using this
      have hvj : v = vf j := by simpa [hjl] using hj.symm
      subst hvj
      have hs := hspot (by omega)
      subst hs
      obtain ⟨hcell, _⟩ := hvf j hjl
      have cc : ∀ m u, ([.int .i64 (vf j).kind, .string (vf j).key, .string (vf j).val] : List Value)[m]? = some u → W.cell? ⟨b, off + j * 3 + m, none⟩ = some u := fun m u hu => by
        have := hcell m u hu
        have e1 : (⟨b, off, none⟩ : Addr).add (j * 3 + m) = ⟨b, off + j * 3 + m, none⟩ := by
          unfold Addr.add
          split
          · rename_i h0
            have : j * 3 = 0 ∧ m = 0 := by omega
            rw [this.1, this.2]; simp
          · simp only [Addr.mk.injEq, true_and, and_true]; omega
        rw [e1] at this
        exact this
      exact ⟨cc 0 _ rfl, cc 1 _ rfl, cc 2 _ rfl⟩
    · obtain ⟨i, hi, rfl⟩ := List.mem_map.1 hv
      have hil : i < len := List.mem_range.1 hi
      have e : ∀ s : ByteArray, s.data.toList.length = s.size := fun s => by rw [Array.length_toList]; rfl
      have w1 := hwt i hil _ (List.mem_cons_self ..)
      have w2 := hwt i hil ((vf i).val.data.toList.length) (by simp)
      rw [e] at w1 w2
      exact ⟨w1, w2⟩
/-- A batch that came in. -/
theorem open_batch {H : Type} {enc : TypeId × Value → H} {W : World} {b0 : Nat} {r : Reach} {v : Value} {d : DataW H} {ps : List MemPlace} {ts : List TypeId} {ds : List (DataW H)}
    (hv : Value.okWide Try.prog W r b0 31 v) (h : DataW.Trod enc Try.prog W 0 (fun _ => true) true 31 v d ps)
    (hsz : (DataW.weightsEach Try.prog ts ds).all (· ≤ reachBytes) = true) {j : Nat} (ht : ts[j]? = some 31) (hd : ds[j]? = some d) :
    ∃ seq a n c b o l, v = batchV seq a n c ∧ seq < 2 ^ 64 ∧ Ws a n c b o l W := by
  obtain ⟨cs, rfl, hsz2⟩ := okWide_struct Try.underlying31 hv
  obtain ⟨fuel, hf⟩ := h
  obtain ⟨xs, n, _, hx, _, hn, hg⟩ := DataW.trod_struct Try.underlying31 hf
  have oc : Try.prog.cellsOf 31 = 2 := by kernel_rfl
  have i1 : Try.prog.cellsOf 28 = 1 := by kernel_rfl
  have s1 : Try.prog.cellsOf 29 = 1 := by kernel_rfl
  have g0 := hg 0 _ rfl
  have g1 := hg 1 _ rfl
  clear hg hf
  rw [oc] at hsz2
  obtain ⟨l⟩ := cs
  have hl : l.length = 2 := hsz2
  match l, hl with
  | [c0, c1], _ =>
    have hm : xs.length = 2 := hn
    match xs, hm with
    | [y0, y1], _ =>
      simp only [Value.cells] at g0 g1
      obtain ⟨a0, e0, f0, w0⟩ := DataW.trod_int Try.underlying28 g0
      simp [i1] at e0
      subst e0
      have g1' : DataW.trod enc Try.prog W 0 (fun _ => true) true n 29 [c1] = some y1 := by simpa [i1, s1] using g1
      have e4 : ∃ sa sn sc, c1 = .slice sa sn sc := by
        rcases DataW.trod_slice Try.underlying29 g1' with ⟨hc, _⟩ | ⟨a, len, cap, _, _, _, _, hc, _⟩
        · exact ⟨none, 0, 0, by simpa using hc⟩
        · exact ⟨some a, len, cap, by simpa using hc⟩
      obtain ⟨sa, sn, sc, rfl⟩ := e4
      have hr : 0 ≤ a0 ∧ a0 ≤ 18446744073709551615 := by simpa [Lit.wf, IntKind.min, IntKind.max, IntKind.signed, IntKind.bits] using w0
      obtain ⟨b, o, l, hw⟩ := open_ws g1' (fun m hm => by
        have hm2 : m ∈ d.weights Try.prog 31 := by
          have hd2 : d = .agg [y0.1, y1.1] := by have := congrArg Prod.fst hx; simpa using this
          rw [hd2]
          simp only [DataW.weights, Try.underlying31, DataW.weightsEach, List.map_cons, List.map_nil]
          simp [hm]
        have := List.all_eq_true.1 hsz _ (DataW.weights_mem_each ht hd m hm2)
        simpa using this)
      refine ⟨a0.toNat, sa, sn, sc, b, o, l, ?_, by omega, hw⟩
      have : ((a0.toNat : Nat) : Int) = a0 := by omega
      show Value.agg #[_, _] = _
      unfold batchV
      rw [this]
end Go.Proofs.Ytdgbafpnfkedeaa
/-
  Arguments of the types []api.Batch and [][]api.Write: opened. No condition.
-/
namespace Go.Proofs.Ytdgbafpnfkedeaa
open Go Go.RowKit Go.ChangeShapes Go.WideShapes Go.Deep
set_option maxRecDepth 100000
/-- A batch, and where its writes lie. -/
structure Bt where
  seq : Nat
  a : Option Addr
  n : Nat
  c : Nat
  b : Nat
  o : Nat
  ws : List Wr
  deriving Inhabited
def cellsBt (v : Bt) : List Value := [.int .u64 (v.seq : Int), .slice v.a v.n v.c]
def BtAt (v : Bt) (W : World) : Prop := v.seq ≤ 18446744073709551615 ∧ Ws v.a v.n v.c v.b v.o v.ws W
theorem bt_read {H : Type} {enc : TypeId × Value → H} {W : World} {fuel : Nat} {cs : List Value} {y : DataW H × List MemPlace} (h : DataW.trod enc Try.prog W 0 (fun _ => true) true fuel 31 cs = some y)
    (hsz : ∀ n ∈ y.1.weights Try.prog 31, n ≤ reachBytes) : ∃ v : Bt, cs = cellsBt v ∧ BtAt v W := by
  obtain ⟨xs, n, _, hx, hsz2, hn, hg⟩ := DataW.trod_struct Try.underlying31 h
  have oc : Try.prog.cellsOf 31 = 2 := by kernel_rfl
  have i1 : Try.prog.cellsOf 28 = 1 := by kernel_rfl
  have s1 : Try.prog.cellsOf 29 = 1 := by kernel_rfl
  have g0 := hg 0 _ rfl
  have g1 := hg 1 _ rfl
  clear hg h
  rw [oc] at hsz2
  have hm : xs.length = 2 := hn
  match cs, hsz2 with
  | [c0, c1], _ =>
    match xs, hm with
    | [y0, y1], _ =>
      obtain ⟨a0, e0, f0, w0⟩ := DataW.trod_int Try.underlying28 g0
      simp [i1] at e0
      subst e0
      have g1' : DataW.trod enc Try.prog W 0 (fun _ => true) true n 29 [c1] = some y1 := by simpa [i1, s1] using g1
      have e4 : ∃ sa sn sc, c1 = .slice sa sn sc := by
        rcases DataW.trod_slice Try.underlying29 g1' with ⟨hc, _⟩ | ⟨a, len, cap, _, _, _, _, hc, _⟩
        · exact ⟨none, 0, 0, by simpa using hc⟩
        · exact ⟨some a, len, cap, by simpa using hc⟩
      obtain ⟨sa, sn, sc, rfl⟩ := e4
      have hr : 0 ≤ a0 ∧ a0 ≤ 18446744073709551615 := by simpa [Lit.wf, IntKind.min, IntKind.max, IntKind.signed, IntKind.bits] using w0
      obtain ⟨b, o, l, hw⟩ := open_ws g1' (fun m hm => hsz m (by
        have hy : y.1 = .agg [y0.1, y1.1] := by rw [hx]; rfl
        rw [hy]
        simp only [DataW.weights, Try.underlying31, DataW.weightsEach, List.map_cons, List.map_nil]
        simp [hm]))
      have e5 : ((a0.toNat : Nat) : Int) = a0 := by omega
      exact ⟨⟨a0.toNat, sa, sn, sc, b, o, l⟩, by simp only [cellsBt, e5], by show a0.toNat ≤ _; omega, hw⟩
/-- Batches that came in. -/
theorem open_bts {H : Type} {enc : TypeId × Value → H} {W : World} {a0 : Option Addr} {len cap fuel : Nat} {x : DataW H × List MemPlace} {ts : List TypeId} {ds : List (DataW H)}
    (hf : DataW.trod enc Try.prog W 0 (fun _ => true) true fuel 57 [.slice a0 len cap] = some x) (hsz : (DataW.weightsEach Try.prog ts ds).all (· ≤ reachBytes) = true) {j : Nat} (ht : ts[j]? = some 57) (hd : ds[j]? = some x.1) :
    ∃ b o l, SlOf 2 cellsBt a0 len cap b o l W ∧ ∀ v ∈ l, BtAt v W := by
  have oc : Try.prog.cellsOf 31 = 2 := by kernel_rfl
  exact open_slice_in (α := Bt) 2 Try.underlying57 oc (by omega) cellsBt (fun _ => rfl) (fun v => BtAt v W) bt_read hf
    (fun m hm => by have := List.all_eq_true.1 hsz _ (DataW.weights_mem_each ht hd m hm); simpa using this)
/-- Lists of writes that came in. -/
def cellsWl (v : Bt) : List Value := [.slice v.a v.n v.c]
theorem wl_read {H : Type} {enc : TypeId × Value → H} {W : World} {fuel : Nat} {cs : List Value} {y : DataW H × List MemPlace} (h : DataW.trod enc Try.prog W 0 (fun _ => true) true fuel 29 cs = some y)
    (hsz : ∀ n ∈ y.1.weights Try.prog 29, n ≤ reachBytes) : ∃ v : Bt, cs = cellsWl v ∧ BtAt v W := by
  have e4 : ∃ sa sn sc, cs = [.slice sa sn sc] := by
    rcases DataW.trod_slice Try.underlying29 h with ⟨hc, _⟩ | ⟨a, len, cap, _, _, _, _, hc, _⟩
    · exact ⟨none, 0, 0, hc⟩
    · exact ⟨some a, len, cap, hc⟩
  obtain ⟨sa, sn, sc, rfl⟩ := e4
  obtain ⟨b, o, l, hw⟩ := open_ws h hsz
  exact ⟨⟨0, sa, sn, sc, b, o, l⟩, rfl, Nat.zero_le _, hw⟩
theorem open_wls {H : Type} {enc : TypeId × Value → H} {W : World} {a0 : Option Addr} {len cap fuel : Nat} {x : DataW H × List MemPlace} {ts : List TypeId} {ds : List (DataW H)}
    (hf : DataW.trod enc Try.prog W 0 (fun _ => true) true fuel 56 [.slice a0 len cap] = some x) (hsz : (DataW.weightsEach Try.prog ts ds).all (· ≤ reachBytes) = true) {j : Nat} (ht : ts[j]? = some 56) (hd : ds[j]? = some x.1) :
    ∃ b o l, SlOf 1 cellsWl a0 len cap b o l W ∧ ∀ v ∈ l, BtAt v W := by
  have oc : Try.prog.cellsOf 29 = 1 := by kernel_rfl
  exact open_slice_in (α := Bt) 1 Try.underlying56 oc (by omega) cellsWl (fun _ => rfl) (fun v => BtAt v W) wl_read hf
    (fun m hm => by have := List.all_eq_true.1 hsz _ (DataW.weights_mem_each ht hd m hm); simpa using this)
end Go.Proofs.Ytdgbafpnfkedeaa
