/-
  Small words of our own that every text of this seat uses: what a law's walk says of the world; integers of 32 bits; naming. No condition.
-/
import Derived.WalkKit
import Derived.IntWalk
import Derived.Lib.Hide
import Derived.SizedLaws
import Derived.Test.YtdgbafpnfkedeaaRows
import Derived.ChangeSame
import Derived.ProofKit
import Derived.Laws.NewBlocks
import Derived.Deep.Draws
import Derived.Laws.OwnMore
import Derived.Handy
import Derived.Deep.QuietTactic
import Derived.BigQuiet
import Derived.Deep.Cut
import Derived.Deep.DeepCutAuto
import Derived.Deep.Slices
import Derived.Deep.Fields
import Derived.ChangeSlices
import Derived.OpenShut
import Derived.SliceStrings
import Derived.Lib.ReplaceLaws
import Derived.Lib.Index
import Derived.Lib.IndexBytes
import Derived.WideAt
import Derived.WideShapes
namespace Go.Proofs.Ytdgbafpnfkedeaa
set_option maxRecDepth 100000
open Go.RowKit
theorem named {α : Type} (a : α) : ∃ x, Hid (x = a) := ⟨a, Lib.hid rfl⟩
theorem below_of {w w1 w2 : World} (h1 : Below w.heap.size w w1) (h2 : Below w1.heap.size w1 w2) : Below w.heap.size w w2 := h1.trans (h2.mono h1.size)
theorem below_alloc (w : World) (o : Obj) : Below w.heap.size w (w.alloc o) := (Below.refl _ _).alloc (Nat.le_refl _) o
theorem u32_bv {x : Int} (h : (Lit.int .u32 x).wf = true) : ∃ v : BitVec 32, x = (v.toNat : Int) := by
  have hx : 0 ≤ x ∧ x ≤ 4294967295 := by simpa [Lit.wf, IntKind.min, IntKind.max, IntKind.signed, IntKind.bits] using h
  refine ⟨BitVec.ofInt 32 x, ?_⟩
  obtain ⟨n, rfl⟩ := Int.eq_ofNat_of_zero_le hx.1
  rw [BitVec.ofInt_natCast, BitVec.toNat_ofNat]
  omega
theorem u8_byte {x : Int} (h : (Lit.int .u8 x).wf = true) : ∃ v : UInt8, x = (v.toNat : Int) := by
  have hx : 0 ≤ x ∧ x ≤ 255 := by simpa [Lit.wf, IntKind.min, IntKind.max, IntKind.signed, IntKind.bits] using h
  obtain ⟨n, rfl⟩ := Int.eq_ofNat_of_zero_le hx.1
  refine ⟨UInt8.ofNat n, ?_⟩
  rw [UInt8.toNat_ofNat']
  omega
theorem i64_range {x : Int} (h : (Lit.int .i64 x).wf = true) : -9223372036854775808 ≤ x ∧ x ≤ 9223372036854775807 := by
  simpa [Lit.wf, IntKind.min, IntKind.max, IntKind.signed, IntKind.bits] using h
theorem reach_max {n : Nat} (h : n ≤ reachBytes) : n ≤ maxLen := by
  unfold reachBytes at h; unfold maxLen; omega
end Go.Proofs.Ytdgbafpnfkedeaa
/-
  The program's types are laid out. No condition.
-/
namespace Go.Proofs.Ytdgbafpnfkedeaa
set_option maxRecDepth 100000
open Go Go.RowKit Go.ChangeShapes
theorem laid_out : laidOutB Try.prog = true := by kernel_rfl
end Go.Proofs.Ytdgbafpnfkedeaa
/-
  What a call leaves that writes into one block of cells alone: of what there was, all else stands. No condition.
-/
namespace Go.Proofs.Ytdgbafpnfkedeaa
set_option maxRecDepth 100000
open Go.RowKit
/-- Of what there was, block b alone may have turned; more may have been made. -/
structure But (b : Nat) (w w' : World) : Prop where
  os : w'.os = w.os
  tape : w'.tape = w.tape
  output : w'.output = w.output
  size : w.heap.size ≤ w'.heap.size
  block : ∀ k : Nat, k < w.heap.size → k ≠ b → w'.heap[k]? = w.heap[k]?
theorem But.refl (b : Nat) (w : World) : But b w w := ⟨rfl, rfl, rfl, Nat.le_refl _, fun _ _ _ => rfl⟩
theorem But.trans {b : Nat} {x y z : World} (h : But b x y) (k : But b y z) : But b x z :=
  ⟨k.os.trans h.os, k.tape.trans h.tape, k.output.trans h.output, Nat.le_trans h.size k.size, fun j hj hb => (k.block j (Nat.lt_of_lt_of_le hj h.size) hb).trans (h.block j hj hb)⟩
theorem But.of_below {B b : Nat} {w w' : World} (h : Below B w w') (hB : w.heap.size ≤ B) : But b w w' := ⟨h.os, h.tape, h.output, h.size, fun k hk _ => h.block k (Nat.lt_of_lt_of_le hk hB)⟩
theorem But.below {B b : Nat} {w w' : World} (h : But b w w') (hB : B ≤ b) (hs : B ≤ w.heap.size) : Below B w w' := ⟨h.os, h.tape, h.output, h.size, fun k hk => h.block k (Nat.lt_of_lt_of_le hk hs) (by omega)⟩
theorem But.drew {b : Nat} {w w' : World} (h : But b w w') : But b w w'.drew := ⟨h.os, h.tape, h.output, h.size, h.block⟩
theorem But.drewN {b n : Nat} {w w' : World} (h : But b w w') : But b w (w'.drewN n) := ⟨h.os, h.tape, h.output, h.size, h.block⟩
theorem But.setCell {b : Nat} {w w' : World} (h : But b w w') {p : Addr} (hp : p.block = b) (u : Value) : But b w (w'.setCell p u) :=
  have g : Below 0 w' (w'.setCell p u) := (Below.refl 0 w').setCell (Nat.zero_le _) u
  ⟨g.os.trans h.os, g.tape.trans h.tape, g.output.trans h.output, Nat.le_trans h.size g.size, fun k hk hb => (Below.heap_setCell w' p u k (by rw [hp]; exact hb)).trans (h.block k hk hb)⟩
theorem But.alloc {b : Nat} {w w' : World} (h : But b w w') (o : Obj) : But b w (w'.alloc o) :=
  ⟨h.os, h.tape, h.output, by rw [World.size_alloc]; exact Nat.le_succ_of_le h.size, fun k hk hb => (Below.heap_alloc w' o k (Nat.lt_of_lt_of_le hk h.size)).trans (h.block k hk hb)⟩
theorem But.cell {b : Nat} {w w' : World} (h : But b w w') {p : Addr} (hp : p.block < w.heap.size) (hb : p.block ≠ b) : w'.cell? p = w.cell? p := by
  unfold World.cell?
  rw [h.block p.block hp hb]
theorem But.frozen {b : Nat} {w w' : World} (h : But b w w') {p : Addr} (hp : p.block < w.heap.size) (hb : p.block ≠ b) : w'.frozen? p = w.frozen? p := by
  unfold World.frozen?
  rw [h.block p.block hp hb]
theorem below_drewN {B n : Nat} {w w' : World} (h : Below B w w') : Below B w (w'.drewN n) := ⟨h.os, h.tape, h.output, h.size, h.block⟩
end Go.Proofs.Ytdgbafpnfkedeaa
/-
  How rows (api.Row) lie in memory, and the contract of the document's SameRows. No condition.
-/
namespace Go.Proofs.Ytdgbafpnfkedeaa
set_option maxRecDepth 100000
open Go.RowKit
theorem bytes_inj {s t : ByteArray} (h : s.toList = t.toList) : s = t := by
  rw [ByteArray.toList_eq, ByteArray.toList_eq] at h
  exact ByteArray.ext (Array.toList_inj.1 h)
/-- A row. -/
structure Rw where
  key : ByteArray
  seq : Nat
  kind : Int
  val : ByteArray
/-- Rows as cells. -/
def rowR (l : List Rw) : List Value := l.flatMap fun x => [.string x.key, .int .u64 (x.seq : Int), .int .i64 x.kind, .string x.val]
theorem rowR_len (l : List Rw) : (rowR l).length = l.length * 4 := by
  induction l with
  | nil => rfl
  | cons x r ih => show ([_, _, _, _] ++ rowR r).length = _; rw [List.length_append, ih]; simp; omega
theorem rowR_snoc (l : List Rw) (x : Rw) : rowR (l ++ [x]) = rowR l ++ [.string x.key, .int .u64 (x.seq : Int), .int .i64 x.kind, .string x.val] := by simp [rowR]
theorem rowR_app (l k : List Rw) : rowR (l ++ k) = rowR l ++ rowR k := by simp [rowR]
theorem rowR_at : ∀ (l : List Rw) (j : Nat) {x : Rw}, l[j]? = some x → (rowR l)[j * 4]? = some (.string x.key) ∧ (rowR l)[j * 4 + 1]? = some (.int .u64 (x.seq : Int)) ∧ (rowR l)[j * 4 + 2]? = some (.int .i64 x.kind) ∧ (rowR l)[j * 4 + 3]? = some (.string x.val)
  | [], _, _, h => by cases h
  | y :: r, 0, x, h => by
    obtain rfl : y = x := by simpa using h
    exact ⟨rfl, rfl, rfl, rfl⟩
  | y :: r, j + 1, x, h => by
    obtain ⟨h1, h2, h3, h4⟩ := rowR_at r j (x := x) (by simpa using h)
    refine ⟨?_, ?_, ?_, ?_⟩
    · show (_ :: _ :: _ :: _ :: rowR r)[(j + 1) * 4]? = _
      rw [show (j + 1) * 4 = j * 4 + 1 + 1 + 1 + 1 by omega]; simpa using h1
    · show (_ :: _ :: _ :: _ :: rowR r)[(j + 1) * 4 + 1]? = _
      rw [show (j + 1) * 4 + 1 = j * 4 + 1 + 1 + 1 + 1 + 1 by omega]; simpa using h2
    · show (_ :: _ :: _ :: _ :: rowR r)[(j + 1) * 4 + 2]? = _
      rw [show (j + 1) * 4 + 2 = j * 4 + 2 + 1 + 1 + 1 + 1 by omega]; simpa using h3
    · show (_ :: _ :: _ :: _ :: rowR r)[(j + 1) * 4 + 3]? = _
      rw [show (j + 1) * 4 + 3 = j * 4 + 3 + 1 + 1 + 1 + 1 by omega]; simpa using h4
/-- The rows lie one behind the other from ⟨b, o⟩ on. -/
def RwsAt (b o : Nat) (l : List Rw) (w : World) : Prop :=
  ∀ (j : Nat) x, l[j]? = some x → w.cell? ⟨b, o + j * 4, none⟩ = some (.string x.key) ∧ w.cell? ⟨b, o + j * 4 + 1, none⟩ = some (.int .u64 (x.seq : Int)) ∧ w.cell? ⟨b, o + j * 4 + 2, none⟩ = some (.int .i64 x.kind) ∧ w.cell? ⟨b, o + j * 4 + 3, none⟩ = some (.string x.val)
/-- A slice of rows. -/
structure Rs (a : Option Addr) (n c b o : Nat) (l : List Rw) (w : World) : Prop where
  len : l.length = n
  cap : n ≤ c
  most : c ≤ 9223372036854775807
  addr : 0 < n → a = some ⟨b, o, none⟩ ∧ b < w.heap.size
  at' : RwsAt b o l w
theorem RwsAt.keep {b o : Nat} {l : List Rw} {w w' : World} (h : RwsAt b o l w) (hk : w'.heap[b]? = w.heap[b]?) : RwsAt b o l w' := fun j x hx => by
  have e : ∀ a, w'.cell? ⟨b, a, none⟩ = w.cell? ⟨b, a, none⟩ := fun a => World.cell?_of_block (a := ⟨b, a, none⟩) hk
  rw [e, e, e, e]; exact h j x hx
theorem RwsAt.nil (b o : Nat) (w : World) : RwsAt b o [] w := fun j x h => by cases h
theorem Rs.keep {a : Option Addr} {n c b o : Nat} {l : List Rw} {w w' : World} (h : Rs a n c b o l w) (hk : 0 < n → w'.heap[b]? = w.heap[b]?) (hs : w.heap.size ≤ w'.heap.size) : Rs a n c b o l w' := by
  refine ⟨h.len, h.cap, h.most, fun h0 => ⟨(h.addr h0).1, Nat.lt_of_lt_of_le (h.addr h0).2 hs⟩, ?_⟩
  by_cases h0 : 0 < n
  · exact h.at'.keep (hk h0)
  · have : l = [] := List.length_eq_zero_iff.1 (by rw [h.len]; omega)
    subst this
    exact RwsAt.nil _ _ _
theorem Rs.below {B : Nat} {a : Option Addr} {n c b o : Nat} {l : List Rw} {w w' : World} (h : Rs a n c b o l w) (hb : Below B w w') (hB : w.heap.size ≤ B) : Rs a n c b o l w' := h.keep (fun h0 => hb.block b (Nat.lt_of_lt_of_le (h.addr h0).2 hB)) hb.size
theorem Rs.at4 {a : Option Addr} {n c b o : Nat} {l : List Rw} {w : World} (h : Rs a n c b o l w) {j : Nat} (hj : j < n) : ∃ x, l[j]? = some x ∧ a = some ⟨b, o, none⟩ ∧ w.cell? ⟨b, o + j * 4, none⟩ = some (.string x.key) ∧ w.cell? ⟨b, o + j * 4 + 1, none⟩ = some (.int .u64 (x.seq : Int)) ∧ w.cell? ⟨b, o + j * 4 + 2, none⟩ = some (.int .i64 x.kind) ∧ w.cell? ⟨b, o + j * 4 + 3, none⟩ = some (.string x.val) := by
  obtain ⟨x, hx⟩ : ∃ x, l[j]? = some x := ⟨_, List.getElem?_eq_getElem (by rw [h.len]; exact hj)⟩
  exact ⟨x, hx, (h.addr (by omega)).1, h.at' j x hx⟩
/-- An own row of rows is a slice of rows. -/
theorem rs_of_row {w : World} {B : Nat} {v : Value} {l : List Rw} (h : w.ownsRow B 43 4 v l.length (rowR l)) : ∃ a c b, v = .slice a l.length c ∧ Rs a l.length c b 0 l w ∧ (0 < l.length → B ≤ b) := by
  rcases h.2 with ⟨rfl, hz⟩ | ⟨g, cap, cur, rfl, hg, hb, hn, hm, hs, ht⟩
  · have : l = [] := List.length_eq_zero_iff.1 hz
    subst this
    exact ⟨none, 0, 0, rfl, ⟨rfl, Nat.le_refl _, by omega, fun h => absurd h (by simp), RwsAt.nil _ _ _⟩, fun h => absurd h (by simp)⟩
  · refine ⟨_, _, g, rfl, ⟨rfl, hn, hm, fun _ => ⟨rfl, (Array.getElem?_eq_some_iff.1 hb).1⟩, fun j x hx => ?_⟩, fun _ => hg⟩
    have hj : j < l.length := (List.getElem?_eq_some_iff.1 hx).1
    obtain ⟨e0, e1, e2, e3⟩ := rowR_at l j hx
    rw [Nat.zero_add]
    exact ⟨(World.ownsRow.cellAt h _ (by omega)).trans e0, (World.ownsRow.cellAt h _ (by omega)).trans e1, (World.ownsRow.cellAt h _ (by omega)).trans e2, (World.ownsRow.cellAt h _ (by omega)).trans e3⟩
theorem rw_eq {s1 s2 : Nat} {k1 k2 : Int} {a1 a2 v1 v2 : ByteArray} : (⟨a1, s1, k1, v1⟩ : Rw) = ⟨a2, s2, k2, v2⟩ ↔ a1.toList = a2.toList ∧ (s1 : Int) = (s2 : Int) ∧ k1 = k2 ∧ v1.toList = v2.toList := by
  simp only [Rw.mk.injEq]
  exact ⟨fun ⟨h1, h2, h3, h4⟩ => ⟨by rw [h1], by omega, h3, by rw [h4]⟩, fun ⟨h1, h2, h3, h4⟩ => ⟨bytes_inj h1, by omega, h3, bytes_inj h4⟩⟩
theorem neq_rw (xs ys : ByteArray) (xn yn : Nat) (xk yk : Int) (xv yv : ByteArray) (B : Bool) (hB : B = true ↔ ¬ (⟨xs, xn, xk, xv⟩ : Rw) = ⟨ys, yn, yk, yv⟩) (u : World) : (binOp .neq 43 (.agg #[.string xs, .int .u64 (xn : Int), .int .i64 xk, .string xv]) (.agg #[.string ys, .int .u64 (yn : Int), .int .i64 yk, .string yv])).run Try.prog u = .ok (.bool B) u := by
  rw [rw_eq] at hB
  go_simp
  by_cases h1 : xs.toList = ys.toList
  · by_cases h2 : (xn : Int) = (yn : Int)
    · by_cases h3 : xk = yk
      · by_cases h4 : xv.toList = yv.toList
        · have : B = false := by cases B <;> simp_all
          simp [h1, h2, h3, h4, this]
        · have : B = true := hB.2 (fun h => h4 h.2.2.2)
          simp [h1, h2, h3, h4, this]
      · have : B = true := hB.2 (fun h => h3 h.2.2.1)
        simp [h1, h2, h3, this]
    · have : B = true := hB.2 (fun h => h2 h.2.1)
      simp [h1, h2, this]
  · have : B = true := hB.2 (fun h => h1 h.1)
    simp [h1, this]
open Classical in
set_option maxRecDepth 100000 in
set_option maxHeartbeats 4000000 in
theorem samerows_any {p1 p2 : Option Addr} {n1 c1 b1 o1 n2 c2 b2 o2 : Nat} {l1 l2 : List Rw} {w : World} (h1 : Rs p1 n1 c1 b1 o1 l1 w) (h2 : Rs p2 n2 c2 b2 o2 l2 w) :
    Calls Try.prog 17 #[.slice p1 n1 c1, .slice p2 n2 c2] w fun e w' => e = .returned (.bool (decide (l1 = l2))) ∧ Below w.heap.size w w' := by
  have m1 := h1.most
  have m2 := h2.most
  have q1 := h1.cap
  have q2 := h2.cap
  by_cases hn : n1 = n2
  · subst hn
    have g2 : (((n1 : Nat) : Int) != ((n1 : Nat) : Int)) = false := by rw [bne_eq_false_iff_eq]
    obtain ⟨R, hR⟩ := named (decide (l1 = l2))
    rw [← hR.out]
    have e1 := Lib.hid h1.len
    have e2 := Lib.hid h2.len
    have h1 := Lib.hid h1
    have h2 := Lib.hid h2
    go_enter Try.func17, Try.ntmps17
    go_wp2_with fail
    go_loopw [5] (fun i wr => ∃ j : Nat, j ≤ n1 ∧ i = .int .i64 (j : Int) ∧ l1.take j = l2.take j ∧ Below w.heap.size w wr) (fun i _ => n1 - (intOf i).toNat)
    case atStart => exact ⟨0, Nat.zero_le _, rfl, rfl, Below.refl _ _⟩
    case round =>
      obtain ⟨j, hj, rfl, ht, hb⟩ := hrel
      by_cases hlt : j < n1
      · obtain ⟨x, hx, rfl, a0, a1, a2, a3⟩ := (h1.out.below hb (Nat.le_refl _)).at4 hlt
        obtain ⟨y, hy, rfl, d0, d1, d2, d3⟩ := (h2.out.below hb (Nat.le_refl _)).at4 hlt
        obtain ⟨xs, xn, xk, xv⟩ := x
        obtain ⟨ys, yn, yk, yv⟩ := y
        simp only at a0 a1 a2 a3 d0 d1 d2 d3
        have hx := Lib.hid hx
        have hy := Lib.hid hy
        have ht := Lib.hid ht
        have hb := Lib.hid hb
        by_cases hxy : (⟨xs, xn, xk, xv⟩ : Rw) = ⟨ys, yn, yk, yv⟩
        · have NEQ : ∀ u : World, (binOp .neq 43 (.agg #[.string xs, .int .u64 (xn : Int), .int .i64 xk, .string xv]) (.agg #[.string ys, .int .u64 (yn : Int), .int .i64 yk, .string yv])).run Try.prog u = .ok (.bool false) u := fun u => neq_rw _ _ _ _ _ _ _ _ _ (by simp [hxy]) u
          have ht2 : Hid (l1.take (j + 1) = l2.take (j + 1)) := Lib.hid (by rw [List.take_add_one, List.take_add_one, ht.out, hx.out, hy.out, hxy])
          clear hxy ht
          go_upto_region 6 with fail
          go_quiet (fail)
          go_wp2_with fail
          go_roundw
          case rel => exact ⟨j + 1, by omega, by go_num, ht2.out, below_drewN hb.out⟩
          case measure => simp [intOf]; omega
        · have NEQ : ∀ u : World, (binOp .neq 43 (.agg #[.string xs, .int .u64 (xn : Int), .int .i64 xk, .string xv]) (.agg #[.string ys, .int .u64 (yn : Int), .int .i64 yk, .string yv])).run Try.prog u = .ok (.bool true) u := fun u => neq_rw _ _ _ _ _ _ _ _ _ (by simpa using hxy) u
          have hR0 : R = false := by
            rw [hR.out, decide_eq_false_iff_not]
            intro e
            have h1 := hx.out
            rw [e, hy.out] at h1
            exact hxy (Option.some.inj h1).symm
          subst hR0
          clear hxy ht
          go_upto_region 6 with fail
          go_quiet (fail)
          go_wp2_with fail
          go_returns
          exact ⟨rfl, below_drewN hb.out⟩
      · have hjn : j = n1 := by omega
        subst hjn
        have hR1 : R = true := by
          rw [hR.out, decide_eq_true_eq]
          rw [← e1.out, List.take_length] at ht
          rw [ht, e1.out, ← e2.out, List.take_length]
        subst hR1
        go_wp2_with fail
        go_returns
        exact ⟨rfl, hb⟩
  · have hR : decide (l1 = l2) = false := by
      rw [decide_eq_false_iff_not]
      intro e
      rw [e] at h1
      exact hn (h1.len.symm.trans h2.len)
    rw [hR]
    have g2 : (((n1 : Nat) : Int) != ((n2 : Nat) : Int)) = true := by rw [bne_iff_ne]; omega
    clear h1 h2 hR
    go_enter Try.func17, Try.ntmps17
    go_wp2_with fail
    go_returns
    exact ⟨rfl, Below.refl _ _⟩
end Go.Proofs.Ytdgbafpnfkedeaa
/-
  A slice of structs that came in as an argument, whatever its element: opened once, over how one element reads. Rows (api.Row) and slices of rows. No condition.
-/
namespace Go.Proofs.Ytdgbafpnfkedeaa
open Go Go.RowKit Go.ChangeShapes Go.WideShapes Go.Deep
set_option maxRecDepth 100000
theorem weights_of {H : Type} {P : Program} {e : TypeId} : ∀ {l : List (DataW H)} {d : DataW H} {n : Nat}, d ∈ l → n ∈ d.weights P e → n ∈ DataW.weightsAll P e l
  | [], _, _, h, _ => by cases h
  | x :: r, d, n, h, hn => by
    rw [DataW.weightsAll]
    rcases List.mem_cons.1 h with rfl | h
    · exact List.mem_append_left _ hn
    · exact List.mem_append_right _ (weights_of h hn)
/-- A slice of elements of k cells: where it lies, and what it holds. -/
structure SlOf {α : Type} (k : Nat) (cells : α → List Value) (a : Option Addr) (n c b o : Nat) (l : List α) (w : World) : Prop where
  len : l.length = n
  cap : n ≤ c
  most : c ≤ 9223372036854775807
  addr : 0 < n → a = some ⟨b, o, none⟩ ∧ b < w.heap.size
  at' : ∀ j x, l[j]? = some x → ∀ m u, (cells x)[m]? = some u → w.cell? ⟨b, o + j * k + m, none⟩ = some u
theorem open_slice_of {α : Type} [Inhabited α] {H : Type} {enc : TypeId × Value → H} {W : World} {a0 : Option Addr} {len cap fuel : Nat} {x : DataW H × List MemPlace} {T E : TypeId} (k : Nat) (hT : Try.prog.underlying T = some (.slice E)) (hk : Try.prog.cellsOf E = k) (hk0 : 0 < k)
    (cells : α → List Value) (hcl : ∀ v, (cells v).length = k) (Good : α → Prop) (Ns : α → List Nat)
    (read : ∀ {fuel : Nat} {cs : List Value} {y : DataW H × List MemPlace}, DataW.trod enc Try.prog W 0 (fun _ => true) true fuel E cs = some y → ∃ v : α, cs = cells v ∧ Good v ∧ ∀ n ∈ Ns v, n ∈ y.1.weights Try.prog E)
    (hf : DataW.trod enc Try.prog W 0 (fun _ => true) true fuel T [.slice a0 len cap] = some x) (hsz : ∀ n ∈ x.1.weights Try.prog T, n ≤ reachBytes) :
    ∃ b o l, SlOf k cells a0 len cap b o l W ∧ ∀ v ∈ l, Good v ∧ ∀ n ∈ Ns v, n ≤ reachBytes := by
  rcases DataW.trod_slice hT hf with ⟨hcs, _⟩ | ⟨a, len', cap', elems, rest, n, _, hcs, hx, _, hl, hm, hlen, hel, _, _⟩
  · simp at hcs
    obtain ⟨rfl, rfl, rfl⟩ := hcs
    exact ⟨0, 0, [], ⟨rfl, Nat.le_refl _, by omega, fun h => absurd h (by omega), fun j x hx => by simp at hx⟩, fun x hx => by cases hx⟩
  · simp at hcs
    obtain ⟨rfl, rfl, rfl⟩ := hcs
    obtain ⟨b, off, spot⟩ := a
    have el : ∀ i, i < len → ∃ v : α, (∀ m u, (cells v)[m]? = some u → W.cell? ((⟨b, off, spot⟩ : Addr).add (i * k + m)) = some u) ∧ Good v ∧ ∃ y, elems[i]? = some y ∧ ∀ n ∈ Ns v, n ∈ y.1.weights Try.prog E := by
      intro i hi
      have h1 := hel i hi
      rw [hk] at h1
      have hys : elems[i]? = some (elems[i]'(by omega)) := List.getElem?_eq_getElem (by omega)
      rw [hys] at h1
      obtain ⟨cs, hc, ht'⟩ := Option.bind_eq_some_iff.1 h1
      obtain ⟨v, rfl, hg, hy⟩ := read ht'
      obtain ⟨_, hcl', hat⟩ := World.cells?_some hc
      refine ⟨v, fun m u hu => ?_, hg, _, hys, hy⟩
      have hm5 : m < k := by have := (List.getElem?_eq_some_iff.1 hu).1; rw [hcl] at this; exact this
      rw [← Go.Deep.add_add, hat m hm5, hu]
    obtain ⟨vf, hvf⟩ : ∃ vf : Nat → α, ∀ i, i < len → (∀ m u, (cells (vf i))[m]? = some u → W.cell? ((⟨b, off, spot⟩ : Addr).add (i * k + m)) = some u) ∧ Good (vf i) ∧ ∃ y, elems[i]? = some y ∧ ∀ n ∈ Ns (vf i), n ∈ y.1.weights Try.prog E := by
      refine ⟨fun i => if h : i < len then (el i h).choose else default, fun i hi => ?_⟩
      simp only [dif_pos hi]
      exact (el i hi).choose_spec
    have hwt : ∀ i, i < len → ∀ n, n ∈ Ns (vf i) → n ≤ reachBytes := by
      intro i hi n hn
      obtain ⟨_, _, y, hy, he⟩ := hvf i hi
      refine hsz n ?_
      rw [hx, DataW.weights, hT]
      exact List.mem_cons_of_mem _ (List.mem_append_left _ (weights_of (List.mem_map.2 ⟨y, List.mem_of_getElem? hy, rfl⟩) (he n hn)))
    have hspot : 0 < len → spot = none := fun h0 => by
      obtain ⟨hcell, _⟩ := hvf 0 h0
      have := hcell 0 _ (List.getElem?_eq_getElem (by rw [hcl]; exact hk0))
      simpa [Addr.add] using World.cell?_spot this
    unfold maxLen at hm
    refine ⟨b, off, (List.range len).map vf, ⟨by simp, hl, by omega, fun h0 => ?_, fun j v hj m u hu => ?_⟩, fun v hv => ?_⟩
    · have hs := hspot h0
      subst hs
      obtain ⟨hcell, _⟩ := hvf 0 h0
      have hb := World.block_lt_of_cell? _ _ (hcell 0 _ (List.getElem?_eq_getElem (by rw [hcl]; exact hk0)))
      exact ⟨rfl, by simpa [Addr.add] using hb⟩
    · have hjl : j < len := by have := (List.getElem?_eq_some_iff.1 hj).1; simpa using this
      have hvj : v = vf j := by simpa [hjl] using hj.symm
      subst hvj
      have hs := hspot (by omega)
      subst hs
      obtain ⟨hcell, _⟩ := hvf j hjl
      have := hcell m u hu
      have e1 : (⟨b, off, none⟩ : Addr).add (j * k + m) = ⟨b, off + j * k + m, none⟩ := by
        unfold Addr.add
        split
        · rename_i h0
          rw [show off + j * k + m = off by omega]
        · simp only [Addr.mk.injEq, true_and, and_true]; omega
      rw [e1] at this
      exact this
    · obtain ⟨i, hi, rfl⟩ := List.mem_map.1 hv
      have hil : i < len := List.mem_range.1 hi
      exact ⟨(hvf i hil).2.1, hwt i hil⟩
/-- A row's cells. -/
def cellsR (x : Rw) : List Value := [.string x.key, .int .u64 (x.seq : Int), .int .i64 x.kind, .string x.val]
instance : Inhabited Rw := ⟨⟨.empty, 0, 0, .empty⟩⟩
/-- What holds of each row that came in. -/
def RwIn (x : Rw) : Prop := x.key.size ≤ 281474976710656 ∧ x.val.size ≤ 281474976710656 ∧ x.seq ≤ 18446744073709551615
theorem rw_read {H : Type} {enc : TypeId × Value → H} {w : World} {fuel : Nat} {cs : List Value} {y : DataW H × List MemPlace} (h : DataW.trod enc Try.prog w 0 (fun _ => true) true fuel 43 cs = some y) :
    ∃ x : Rw, cs = cellsR x ∧ x.seq ≤ 18446744073709551615 ∧ ∀ n ∈ [x.key.size, x.val.size], n ∈ y.1.weights Try.prog 43 := by
  have oc : Try.prog.cellsOf 43 = 4 := by kernel_rfl
  have i1 : Try.prog.cellsOf 3 = 1 := by kernel_rfl
  have q1 : Try.prog.cellsOf 28 = 1 := by kernel_rfl
  have s1 : Try.prog.cellsOf 9 = 1 := by kernel_rfl
  obtain ⟨xs, n, _, hx, hsz, hn, hg⟩ := DataW.trod_struct Try.underlying43 h
  have g0 := hg 0 _ rfl
  have g1 := hg 1 _ rfl
  have g2 := hg 2 _ rfl
  have g3 := hg 3 _ rfl
  clear hg h
  rw [oc] at hsz
  have hm : xs.length = 4 := hn
  match cs, hsz with
  | [c0, c1, c2, c3], _ =>
    match xs, hm with
    | [y0, y1, y2, y3], _ =>
      obtain ⟨a0, e0, f0, w0⟩ := DataW.trod_string Try.underlying9 g0
      obtain ⟨a1, e1, f1, w1⟩ := DataW.trod_int Try.underlying28 g1
      obtain ⟨a2, e2, f2, w2⟩ := DataW.trod_int Try.underlying3 g2
      obtain ⟨a3, e3, f3, w3⟩ := DataW.trod_string Try.underlying9 g3
      simp [i1, s1, q1] at e0 e1 e2 e3
      subst e0 e1 e2 e3 f0 f1 f2 f3
      have hr : 0 ≤ a1 ∧ a1 ≤ 18446744073709551615 := by simpa [Lit.wf, IntKind.min, IntKind.max, IntKind.signed, IntKind.bits] using w1
      have e5 : ((a1.toNat : Nat) : Int) = a1 := by omega
      refine ⟨⟨a0, a1.toNat, a2, a3⟩, by simp only [cellsR, e5], by show a1.toNat ≤ _; omega, fun m hm => ?_⟩
      have hy : y.1 = .agg [.lit (.string a0.data.toList), .lit (.int .u64 a1), .lit (.int .i64 a2), .lit (.string a3.data.toList)] := by rw [hx]; rfl
      rw [hy]
      simp only [DataW.weights, Try.underlying43, DataW.weightsEach, List.map_cons, List.map_nil]
      have e : ∀ s : ByteArray, s.data.toList.length = s.size := fun s => by rw [Array.length_toList]; rfl
      simp only [List.mem_cons, List.not_mem_nil, or_false] at hm
      rcases hm with rfl | rfl
      · rw [← e]; simp
      · rw [← e]; simp
theorem rwIn_of {x : Rw} (h : x.seq ≤ 18446744073709551615) (hn : ∀ n ∈ [x.key.size, x.val.size], n ≤ reachBytes) : RwIn x := by
  have h1 := hn _ (List.mem_cons_self ..)
  have h2 := hn x.val.size (by simp)
  unfold reachBytes at h1 h2
  exact ⟨by omega, by omega, h⟩
/-- Rows that came in. -/
theorem open_rows {H : Type} {enc : TypeId × Value → H} {W : World} {a0 : Option Addr} {len cap fuel : Nat} {x : DataW H × List MemPlace} {ts : List TypeId} {ds : List (DataW H)}
    (hf : DataW.trod enc Try.prog W 0 (fun _ => true) true fuel 27 [.slice a0 len cap] = some x) (hsz : (DataW.weightsEach Try.prog ts ds).all (· ≤ reachBytes) = true) {j : Nat} (ht : ts[j]? = some 27) (hd : ds[j]? = some x.1) :
    ∃ b o l, Rs a0 len cap b o l W ∧ ∀ v ∈ l, RwIn v := by
  have oc : Try.prog.cellsOf 43 = 4 := by kernel_rfl
  obtain ⟨b, o, l, hs, hg⟩ := open_slice_of (α := Rw) 4 Try.underlying27 oc (by omega) cellsR (fun _ => rfl) (fun v => v.seq ≤ 18446744073709551615) (fun v => [v.key.size, v.val.size]) rw_read hf
    (fun m hm => by have := List.all_eq_true.1 hsz _ (DataW.weights_mem_each ht hd m hm); simpa using this)
  refine ⟨b, o, l, ⟨hs.len, hs.cap, hs.most, hs.addr, fun j v hj => ?_⟩, fun v hv => rwIn_of (hg v hv).1 (hg v hv).2⟩
  exact ⟨hs.at' j v hj 0 _ rfl, hs.at' j v hj 1 _ rfl, hs.at' j v hj 2 _ rfl, hs.at' j v hj 3 _ rfl⟩
/-- A row that came in. -/
theorem open_row {H : Type} {enc : TypeId × Value → H} {W : World} {b0 : Nat} {r : Reach} {v : Value} {d : DataW H} {ps : List MemPlace} {ts : List TypeId} {ds : List (DataW H)}
    (hv : Value.okWide Try.prog W r b0 43 v) (h : DataW.Trod enc Try.prog W 0 (fun _ => true) true 43 v d ps)
    (hsz : (DataW.weightsEach Try.prog ts ds).all (· ≤ reachBytes) = true) {j : Nat} (ht : ts[j]? = some 43) (hd : ds[j]? = some d) :
    ∃ x : Rw, v = .agg #[.string x.key, .int .u64 (x.seq : Int), .int .i64 x.kind, .string x.val] ∧ RwIn x := by
  obtain ⟨cs, rfl, hsz2⟩ := okWide_struct Try.underlying43 hv
  obtain ⟨fuel, hf⟩ := h
  obtain ⟨x, hc, hq, hw⟩ := rw_read hf
  obtain ⟨l⟩ := cs
  have hc' : l = cellsR x := hc
  subst hc'
  exact ⟨x, rfl, rwIn_of hq fun n hn => by
    have := List.all_eq_true.1 hsz _ (DataW.weights_mem_each ht hd n (hw n hn)); simpa using this⟩
/-- Integers that came in. -/
def cellsI (x : Int) : List Value := [.int .i64 x]
theorem open_nums {H : Type} {enc : TypeId × Value → H} {W : World} {a0 : Option Addr} {len cap fuel : Nat} {x : DataW H × List MemPlace} {ts : List TypeId} {ds : List (DataW H)}
    (hf : DataW.trod enc Try.prog W 0 (fun _ => true) true fuel 32 [.slice a0 len cap] = some x) (hsz : (DataW.weightsEach Try.prog ts ds).all (· ≤ reachBytes) = true) {j : Nat} (ht : ts[j]? = some 32) (hd : ds[j]? = some x.1) :
    ∃ b o l, SlOf 1 cellsI a0 len cap b o l W ∧ ∀ v ∈ l, (Lit.int .i64 v).wf = true := by
  have i1 : Try.prog.cellsOf 3 = 1 := by kernel_rfl
  obtain ⟨b, o, l, hs, hg⟩ := open_slice_of (α := Int) 1 Try.underlying32 i1 (by omega) cellsI (fun _ => rfl) (fun v => (Lit.int .i64 v).wf = true) (fun _ => []) (fun {fuel cs y} h => by
      obtain ⟨a0, e0, f0, w0⟩ := DataW.trod_int Try.underlying3 h
      exact ⟨a0, e0, w0, fun n hn => by cases hn⟩) hf
    (fun m hm => by have := List.all_eq_true.1 hsz _ (DataW.weights_mem_each ht hd m hm); simpa using this)
  exact ⟨b, o, l, hs, fun v hv => (hg v hv).1⟩
theorem SlOf.keep {α : Type} {k : Nat} {cells : α → List Value} {a : Option Addr} {n c b o : Nat} {l : List α} {w w' : World} (h : SlOf k cells a n c b o l w) (hk : 0 < n → w'.heap[b]? = w.heap[b]?) (hs : w.heap.size ≤ w'.heap.size) : SlOf k cells a n c b o l w' := by
  refine ⟨h.len, h.cap, h.most, fun h0 => ⟨(h.addr h0).1, Nat.lt_of_lt_of_le (h.addr h0).2 hs⟩, fun j x hx m u hu => ?_⟩
  have hj : j < n := by rw [← h.len]; exact (List.getElem?_eq_some_iff.1 hx).1
  rw [World.cell?_of_block (a := ⟨b, o + j * k + m, none⟩) (hk (by omega))]
  exact h.at' j x hx m u hu
theorem SlOf.below {α : Type} {k : Nat} {cells : α → List Value} {a : Option Addr} {n c b o : Nat} {l : List α} {w w' : World} {B : Nat} (h : SlOf k cells a n c b o l w) (hb : Below B w w') (hB : w.heap.size ≤ B) : SlOf k cells a n c b o l w' := h.keep (fun h0 => hb.block b (Nat.lt_of_lt_of_le (h.addr h0).2 hB)) hb.size
end Go.Proofs.Ytdgbafpnfkedeaa
/-
  A slice of structs that came in as an argument, whose elements hold what is told of them in memory, too. No condition.
-/
namespace Go.Proofs.Ytdgbafpnfkedeaa
open Go Go.RowKit Go.ChangeShapes Go.WideShapes Go.Deep
set_option maxRecDepth 100000
theorem open_slice_in {α : Type} [Inhabited α] {H : Type} {enc : TypeId × Value → H} {W : World} {a0 : Option Addr} {len cap fuel : Nat} {x : DataW H × List MemPlace} {T E : TypeId} (k : Nat) (hT : Try.prog.underlying T = some (.slice E)) (hk : Try.prog.cellsOf E = k) (hk0 : 0 < k)
    (cells : α → List Value) (hcl : ∀ v, (cells v).length = k) (Good : α → Prop)
    (read : ∀ {fuel : Nat} {cs : List Value} {y : DataW H × List MemPlace}, DataW.trod enc Try.prog W 0 (fun _ => true) true fuel E cs = some y → (∀ n ∈ y.1.weights Try.prog E, n ≤ reachBytes) → ∃ v : α, cs = cells v ∧ Good v)
    (hf : DataW.trod enc Try.prog W 0 (fun _ => true) true fuel T [.slice a0 len cap] = some x) (hsz : ∀ n ∈ x.1.weights Try.prog T, n ≤ reachBytes) :
    ∃ b o l, SlOf k cells a0 len cap b o l W ∧ ∀ v ∈ l, Good v := by
  rcases DataW.trod_slice hT hf with ⟨hcs, _⟩ | ⟨a, len', cap', elems, rest, n, _, hcs, hx, _, hl, hm, hlen, hel, _, _⟩
  · simp at hcs
    obtain ⟨rfl, rfl, rfl⟩ := hcs
    exact ⟨0, 0, [], ⟨rfl, Nat.le_refl _, by omega, fun h => absurd h (by omega), fun j x hx => by simp at hx⟩, fun x hx => by cases hx⟩
  · simp at hcs
    obtain ⟨rfl, rfl, rfl⟩ := hcs
    obtain ⟨b, off, spot⟩ := a
    have el : ∀ i, i < len → ∃ v : α, (∀ m u, (cells v)[m]? = some u → W.cell? ((⟨b, off, spot⟩ : Addr).add (i * k + m)) = some u) ∧ Good v := by
      intro i hi
      have h1 := hel i hi
      rw [hk] at h1
      have hys : elems[i]? = some (elems[i]'(by omega)) := List.getElem?_eq_getElem (by omega)
      rw [hys] at h1
      obtain ⟨cs, hc, ht'⟩ := Option.bind_eq_some_iff.1 h1
      obtain ⟨v, rfl, hg⟩ := read ht' (fun n hn => hsz n (by rw [hx, DataW.weights, hT]; exact List.mem_cons_of_mem _ (List.mem_append_left _ (weights_of (List.mem_map.2 ⟨_, List.mem_of_getElem? hys, rfl⟩) hn))))
      obtain ⟨_, hcl', hat⟩ := World.cells?_some hc
      refine ⟨v, fun m u hu => ?_, hg⟩
      have hm5 : m < k := by have := (List.getElem?_eq_some_iff.1 hu).1; rw [hcl] at this; exact this
      rw [← Go.Deep.add_add, hat m hm5, hu]
    obtain ⟨vf, hvf⟩ : ∃ vf : Nat → α, ∀ i, i < len → (∀ m u, (cells (vf i))[m]? = some u → W.cell? ((⟨b, off, spot⟩ : Addr).add (i * k + m)) = some u) ∧ Good (vf i) := by
      refine ⟨fun i => if h : i < len then (el i h).choose else default, fun i hi => ?_⟩
      simp only [dif_pos hi]
      exact (el i hi).choose_spec
    have hspot : 0 < len → spot = none := fun h0 => by
      obtain ⟨hcell, _⟩ := hvf 0 h0
      have := hcell 0 _ (List.getElem?_eq_getElem (by rw [hcl]; exact hk0))
      simpa [Addr.add] using World.cell?_spot this
    unfold maxLen at hm
    refine ⟨b, off, (List.range len).map vf, ⟨by simp, hl, by omega, fun h0 => ?_, fun j v hj m u hu => ?_⟩, fun v hv => ?_⟩
    · have hs := hspot h0
      subst hs
      obtain ⟨hcell, _⟩ := hvf 0 h0
      have hb := World.block_lt_of_cell? _ _ (hcell 0 _ (List.getElem?_eq_getElem (by rw [hcl]; exact hk0)))
      exact ⟨rfl, by simpa [Addr.add] using hb⟩
    · have hjl : j < len := by have := (List.getElem?_eq_some_iff.1 hj).1; simpa using this
      have hvj : v = vf j := by simpa [hjl] using hj.symm
      subst hvj
      have hs := hspot (by omega)
      subst hs
      obtain ⟨hcell, _⟩ := hvf j hjl
      have := hcell m u hu
      have e1 : (⟨b, off, none⟩ : Addr).add (j * k + m) = ⟨b, off + j * k + m, none⟩ := by
        unfold Addr.add
        split
        · rename_i h0
          rw [show off + j * k + m = off by omega]
        · simp only [Addr.mk.injEq, true_and, and_true]; omega
      rw [e1] at this
      exact this
    · obtain ⟨i, hi, rfl⟩ := List.mem_map.1 hv
      have hil : i < len := List.mem_range.1 hi
      exact (hvf i hil).2
end Go.Proofs.Ytdgbafpnfkedeaa
/-
  Plain mathematics of the short numbers, the ordered numbers, the ordered texts and the fields: what is written, what is read, and how the one comes to the other. No model's run in this text. No condition.
-/
namespace Go.Proofs.Ytdgbafpnfkedeaa.Code
/-- The short number of n. -/
def uvar (n : Nat) : List UInt8 := if n < 128 then [UInt8.ofNat n] else UInt8.ofNat (n % 128 + 128) :: uvar (n / 128)
termination_by n
decreasing_by omega
theorem uvar_small {n : Nat} (h : n < 128) : uvar n = [UInt8.ofNat n] := by rw [uvar, if_pos h]
theorem uvar_great {n : Nat} (h : ¬ n < 128) : uvar n = UInt8.ofNat (n % 128 + 128) :: uvar (n / 128) := by rw [uvar, if_neg h]
/-- What is read at place i of a short number: the number, its bytes, the error. -/
def rd : Nat → List UInt8 → Nat × Nat × Nat
  | _, [] => (0, 0, 6)
  | i, b :: l =>
    if (b.toNat = 0 ∧ 0 < i) ∨ (1 < b.toNat ∧ i = 9) then (0, 0, 7)
    else if b.toNat < 128 then (b.toNat, 1, 0)
    else if (rd (i + 1) l).2.2 = 0 then (b.toNat % 128 + 128 * (rd (i + 1) l).1, (rd (i + 1) l).2.1 + 1, 0) else (0, 0, (rd (i + 1) l).2.2)
theorem rd_nil (i : Nat) : rd i [] = (0, 0, 6) := by simp [rd]
theorem rd_form {i : Nat} {b : UInt8} (l : List UInt8) (h : (b.toNat = 0 ∧ 0 < i) ∨ (1 < b.toNat ∧ i = 9)) : rd i (b :: l) = (0, 0, 7) := by rw [rd, if_pos h]
theorem rd_last {i : Nat} {b : UInt8} (l : List UInt8) (h : ¬ ((b.toNat = 0 ∧ 0 < i) ∨ (1 < b.toNat ∧ i = 9))) (hb : b.toNat < 128) : rd i (b :: l) = (b.toNat, 1, 0) := by rw [rd, if_neg h, if_pos hb]
theorem rd_more {i : Nat} {b : UInt8} (l : List UInt8) (h : i ≠ 9) (hb : ¬ b.toNat < 128) :
    rd i (b :: l) = if (rd (i + 1) l).2.2 = 0 then (b.toNat % 128 + 128 * (rd (i + 1) l).1, (rd (i + 1) l).2.1 + 1, 0) else (0, 0, (rd (i + 1) l).2.2) := by
  rw [rd, if_neg (by omega), if_neg hb]
theorem rd_err (i : Nat) (l : List UInt8) : (rd i l).2.2 = 0 ∨ ((rd i l).2.2 = 6 ∨ (rd i l).2.2 = 7) ∧ (rd i l).1 = 0 ∧ (rd i l).2.1 = 0 := by
  induction l generalizing i with
  | nil => rw [rd_nil]; simp
  | cons b l ih =>
    rw [rd]
    split
    · simp
    · split
      · simp
      · split
        · simp
        · rename_i h; rcases ih (i + 1) with h0 | ⟨h1, _, _⟩
          · exact absurd h0 h
          · exact Or.inr ⟨h1, rfl, rfl⟩
/-- Of what place i on is read, with i bytes read ahead that told acc: the whole. -/
def lift (i acc : Nat) (r : Nat × Nat × Nat) : Nat × Nat × Nat := if r.2.2 = 0 then (acc + 128 ^ i * r.1, r.2.1 + i, 0) else (0, 0, r.2.2)
theorem lift_zero (l : List UInt8) : lift 0 0 (rd 0 l) = rd 0 l := by
  unfold lift
  rcases rd_err 0 l with h | ⟨h, h1, h2⟩
  · rw [if_pos h]; simp [Prod.ext_iff, h]
  · rw [if_neg (by omega)]; simp [Prod.ext_iff, h1, h2]
theorem lift_more (i acc : Nat) {b : UInt8} (l : List UInt8) (h : i ≠ 9) (hb : ¬ b.toNat < 128) : lift i acc (rd i (b :: l)) = lift (i + 1) (acc + 128 ^ i * (b.toNat % 128)) (rd (i + 1) l) := by
  rw [rd_more l h hb]
  unfold lift
  by_cases h0 : (rd (i + 1) l).2.2 = 0
  · rw [if_pos h0, if_pos h0, if_pos rfl]
    rw [Nat.mul_add, Nat.pow_succ, Nat.mul_assoc]
    simp [Nat.add_assoc, Nat.add_comm 1 i]
  · rw [if_neg h0, if_neg h0, if_neg h0]
theorem lift_last (i acc : Nat) {b : UInt8} (l : List UInt8) (h : ¬ ((b.toNat = 0 ∧ 0 < i) ∨ (1 < b.toNat ∧ i = 9))) (hb : b.toNat < 128) : lift i acc (rd i (b :: l)) = (acc + 128 ^ i * b.toNat, i + 1, 0) := by
  rw [rd_last l h hb]; unfold lift; simp [Nat.add_comm]
theorem lift_form (i acc : Nat) {b : UInt8} (l : List UInt8) (h : (b.toNat = 0 ∧ 0 < i) ∨ (1 < b.toNat ∧ i = 9)) : lift i acc (rd i (b :: l)) = (0, 0, 7) := by
  rw [rd_form l h]; rfl
theorem lift_nil (i acc : Nat) : lift i acc (rd i []) = (0, 0, 6) := by rw [rd_nil]; rfl
theorem pow_le {i j : Nat} (h : i ≤ j) : 128 ^ i ≤ 128 ^ j := Nat.pow_le_pow_right (by omega) h
theorem rd_uvar (n : Nat) : ∀ (i : Nat) (t : List UInt8), i ≤ 9 → (0 < i → n ≠ 0) → n * 128 ^ i < 2 ^ 64 → rd i (uvar n ++ t) = (n, (uvar n).length, 0) := by
  induction n using Nat.strongRecOn with
  | ind n ih =>
    intro i t hi h0 hn
    have h9 : i = 9 → n < 2 := fun e => by subst e; simp at hn; omega
    by_cases hs : n < 128
    · rw [uvar_small hs]
      have e : (UInt8.ofNat n).toNat = n := by rw [UInt8.toNat_ofNat']; omega
      rw [List.singleton_append, rd_last t (by rw [e]; rintro (⟨a, b⟩ | ⟨a, b⟩); exact h0 b a; exact absurd (h9 b) (by omega)) (by rw [e]; exact hs), e]
      rfl
    · have hlt : i < 9 := by
        rcases Nat.lt_or_ge i 9 with h | h
        · exact h
        · exact absurd (h9 (by omega)) (by omega)
      rw [uvar_great hs]
      have e : (UInt8.ofNat (n % 128 + 128)).toNat = n % 128 + 128 := by rw [UInt8.toNat_ofNat']; omega
      have hpow : n / 128 * 128 ^ (i + 1) ≤ n * 128 ^ i := by
        rw [Nat.pow_succ, Nat.mul_comm (128 ^ i), ← Nat.mul_assoc]
        exact Nat.mul_le_mul_right _ (Nat.div_mul_le_self n 128)
      rw [List.cons_append, rd_more _ (by omega) (by rw [e]; omega), ih (n / 128) (by omega) (i + 1) t (by omega) (by omega) (by omega)]
      simp only [if_pos, e, List.length_cons]
      rw [Prod.ext_iff]
      refine ⟨?_, rfl⟩
      show (n % 128 + 128) % 128 + 128 * (n / 128) = n
      omega
theorem uvar_rd (l : List UInt8) : ∀ i, i ≤ 9 → (rd i l).2.2 = 0 → 1 ≤ (rd i l).2.1 ∧ (rd i l).2.1 ≤ l.length ∧ l.take (rd i l).2.1 = uvar (rd i l).1 ∧ (rd i l).1 * 128 ^ i < 2 ^ 64 ∧ (0 < i → (rd i l).1 ≠ 0) := by
  induction l with
  | nil => intro i _ h; rw [rd_nil] at h; simp at h
  | cons b l ih =>
    intro i hi h
    by_cases hf : (b.toNat = 0 ∧ 0 < i) ∨ (1 < b.toNat ∧ i = 9)
    · rw [rd_form l hf] at h; simp at h
    by_cases hb : b.toNat < 128
    · rw [rd_last l hf hb]
      refine ⟨Nat.le_refl _, by simp, ?_, ?_, fun h0 e => hf (Or.inl ⟨e, h0⟩)⟩
      · show [b] = uvar b.toNat
        rw [uvar_small hb]; simp
      · show b.toNat * 128 ^ i < 2 ^ 64
        by_cases h9 : i = 9
        · subst h9
          have : b.toNat ≤ 1 := by omega
          have := Nat.mul_le_mul_right (128 ^ 9) this
          omega
        · have h8 := pow_le (i := i) (j := 8) (by omega)
          have := Nat.mul_le_mul (show b.toNat ≤ 127 by omega) h8
          omega
    · have h9 : i ≠ 9 := by omega
      rw [rd_more l h9 hb] at h ⊢
      by_cases h0 : (rd (i + 1) l).2.2 = 0
      · rw [if_pos h0]
        obtain ⟨g1, g2, g3, g4, g5⟩ := ih (i + 1) (by omega) h0
        have g6 := g5 (by omega)
        have hbl := UInt8.toNat_lt b
        refine ⟨by simp, by simp; omega, ?_, ?_, fun _ => by show b.toNat % 128 + 128 * (rd (i + 1) l).1 ≠ 0; omega⟩
        · show (b :: l).take ((rd (i + 1) l).2.1 + 1) = uvar (b.toNat % 128 + 128 * (rd (i + 1) l).1)
          rw [List.take_succ_cons, g3, uvar_great (n := b.toNat % 128 + 128 * (rd (i + 1) l).1) (by omega)]
          have e1 : (b.toNat % 128 + 128 * (rd (i + 1) l).1) % 128 + 128 = b.toNat := by omega
          have e2 : (b.toNat % 128 + 128 * (rd (i + 1) l).1) / 128 = (rd (i + 1) l).1 := by omega
          rw [e1, e2]; simp
        · show (b.toNat % 128 + 128 * (rd (i + 1) l).1) * 128 ^ i < 2 ^ 64
          rw [Nat.pow_succ, Nat.mul_comm (128 ^ i), ← Nat.mul_assoc] at g4
          -- (r * 128) * p < 2^64 and both sides multiples of p = 128^i
          have hd : ∃ c, 2 ^ 64 = c * 128 ^ i ∧ c % 128 = 0 ∨ i = 9 := by
            rcases (show i = 0 ∨ i = 1 ∨ i = 2 ∨ i = 3 ∨ i = 4 ∨ i = 5 ∨ i = 6 ∨ i = 7 ∨ i = 8 ∨ i = 9 by omega) with rfl | rfl | rfl | rfl | rfl | rfl | rfl | rfl | rfl | rfl
            · exact ⟨2 ^ 64, by decide⟩
            · exact ⟨2 ^ 57, by decide⟩
            · exact ⟨2 ^ 50, by decide⟩
            · exact ⟨2 ^ 43, by decide⟩
            · exact ⟨2 ^ 36, by decide⟩
            · exact ⟨2 ^ 29, by decide⟩
            · exact ⟨2 ^ 22, by decide⟩
            · exact ⟨2 ^ 15, by decide⟩
            · exact ⟨2 ^ 8, by decide⟩
            · exact ⟨0, Or.inr rfl⟩
          obtain ⟨c, ⟨hc, hm⟩ | hc⟩ := hd
          · rw [hc] at g4 ⊢
            have hp : 0 < 128 ^ i := Nat.pow_pos (by omega)
            have := Nat.lt_of_mul_lt_mul_right g4
            exact Nat.mul_lt_mul_of_pos_right (by omega) hp
          · exact absurd hc h9
      · rw [if_neg h0] at h; exact absurd h h0
theorem rd_fits (l : List UInt8) : (rd 0 l).1 < 2 ^ 64 := by
  rcases rd_err 0 l with h | ⟨_, h, _⟩
  · have := (uvar_rd l 0 (by omega) h).2.2.2.1; simpa using this
  · rw [h]; decide
theorem rd_size (l : List UInt8) : (rd 0 l).2.1 ≤ l.length := by
  rcases rd_err 0 l with h | ⟨_, _, h⟩
  · exact (uvar_rd l 0 (by omega) h).2.1
  · rw [h]; omega
theorem uvar_len (n : Nat) : 1 ≤ (uvar n).length := by
  by_cases h : n < 128
  · rw [uvar_small h]; simp
  · rw [uvar_great h]; simp
theorem uvar_mono (n : Nat) : ∀ m, m ≤ n → (uvar m).length ≤ (uvar n).length := by
  induction n using Nat.strongRecOn with
  | ind n ih =>
    intro m hm
    by_cases h : m < 128
    · rw [uvar_small h]; exact uvar_len n
    · rw [uvar_great h, uvar_great (n := n) (by omega)]
      have := ih (n / 128) (by omega) (m / 128) (by omega)
      simpa using this
theorem uvar_pow (k : Nat) : ∀ n, n < 128 ^ (k + 1) → (uvar n).length ≤ k + 1 := by
  induction k with
  | zero => intro n h; rw [uvar_small (by simpa using h)]; simp
  | succ k ih =>
    intro n h
    by_cases hs : n < 128
    · rw [uvar_small hs]; simp
    · rw [uvar_great hs]
      have := ih (n / 128) (by rw [Nat.pow_succ] at h; omega)
      simpa using this
theorem uvar_ten {n : Nat} (h : n < 2 ^ 64) : (uvar n).length ≤ 10 := uvar_pow 9 n (by
  have : (2 : Nat) ^ 64 ≤ 128 ^ (9 + 1) := by decide
  omega)
theorem rd_cut (n : Nat) : ∀ (i k : Nat), i + (uvar n).length ≤ 10 → k < (uvar n).length → rd i ((uvar n).take k) = (0, 0, 6) := by
  induction n using Nat.strongRecOn with
  | ind n ih =>
    intro i k hi hk
    by_cases hs : n < 128
    · rw [uvar_small hs] at hk
      have : k = 0 := by simpa using hk
      subst this
      rw [List.take_zero, rd_nil]
    · have hl := uvar_great hs
      rw [hl] at hk hi ⊢
      have hl1 := uvar_len (n / 128)
      simp only [List.length_cons] at hk hi
      cases k with
      | zero => rw [List.take_zero, rd_nil]
      | succ k =>
        have e : (UInt8.ofNat (n % 128 + 128)).toNat = n % 128 + 128 := by rw [UInt8.toNat_ofNat']; omega
        rw [List.take_succ_cons, rd_more _ (by omega) (by rw [e]; omega), ih (n / 128) (by omega) (i + 1) k (by omega) (by omega)]
        rfl
def accOf (l : List UInt8) : Nat → Nat
  | 0 => 0
  | k + 1 => accOf l k + 128 ^ k * ((l.getD k 0).toNat % 128)
theorem rd_lead (l : List UInt8) : ∀ k, k ≤ 9 → k ≤ l.length → (∀ i, i < k → 128 ≤ (l.getD i 0).toNat) → rd 0 l = lift k (accOf l k) (rd k (l.drop k)) := by
  intro k
  induction k with
  | zero => intro _ _ _; rw [List.drop_zero, accOf, lift_zero]
  | succ k ih =>
    intro h9 hl hb
    rw [ih (by omega) (by omega) (fun i hi => hb i (by omega))]
    have hk := hb k (by omega)
    have e : l.drop k = l.getD k 0 :: l.drop (k + 1) := by
      rw [List.drop_eq_getElem_cons (by omega : k < l.length)]
      simp [List.getD_eq_getElem?_getD, List.getElem?_eq_getElem (by omega : k < l.length)]
    rw [e, lift_more _ _ _ (by omega) (by omega), accOf]
/-- What is read of a field. -/
def rdField (l : List UInt8) (most : Int) : List UInt8 × Nat × Nat :=
  if (rd 0 l).2.2 ≠ 0 then ([], 0, (rd 0 l).2.2)
  else if most < (rd 0 l).1 then ([], 0, 3)
  else if l.length - (rd 0 l).2.1 < (rd 0 l).1 then ([], 0, 6)
  else ((l.drop (rd 0 l).2.1).take (rd 0 l).1, (rd 0 l).2.1 + (rd 0 l).1, 0)
/-! ### Ordered numbers -/
/-- The last i bytes of u, the highest first. -/
def be : Nat → Nat → List UInt8
  | 0, _ => []
  | i + 1, u => be i (u / 256) ++ [UInt8.ofNat u]
def unbe (l : List UInt8) : Nat := l.foldl (fun a b => a * 256 + b.toNat) 0
theorem be_length (i : Nat) : ∀ u, (be i u).length = i := by
  induction i with
  | zero => intro u; rfl
  | succ i ih => intro u; simp [be, ih]
theorem be_front (i : Nat) : ∀ u, be (i + 1) u = UInt8.ofNat (u / 256 ^ i) :: be i u := by
  induction i with
  | zero => intro u; simp [be]
  | succ i ih =>
    intro u
    rw [be, ih, be, List.cons_append, Nat.div_div_eq_div_mul, Nat.pow_succ, Nat.mul_comm 256]
theorem unbe_snoc (l : List UInt8) (b : UInt8) : unbe (l ++ [b]) = unbe l * 256 + b.toNat := by unfold unbe; rw [List.foldl_append]; rfl
theorem unbe_be (i : Nat) : ∀ u, unbe (be i u) = u % 256 ^ i := by
  induction i with
  | zero => intro u; simp [be, unbe, Nat.mod_one]
  | succ i ih =>
    intro u
    have e : u % 256 ^ (i + 1) = u % 256 + 256 * (u / 256 % 256 ^ i) := by rw [Nat.pow_succ, Nat.mul_comm (256 ^ i) 256, Nat.mod_mul]
    rw [be, unbe_snoc, ih, UInt8.toNat_ofNat', e]
    omega
theorem snoc_of {i : Nat} (l : List UInt8) (h : l.length = i + 1) : ∃ l' b, l = l' ++ [b] ∧ l'.length = i := by
  rcases List.eq_nil_or_concat l with rfl | ⟨l', b, rfl⟩
  · simp at h
  · exact ⟨l', b, by simp, by simpa using h⟩
theorem unbe_lt (i : Nat) : ∀ l : List UInt8, l.length = i → unbe l < 256 ^ i := by
  induction i with
  | zero => intro l h; rw [List.length_eq_zero_iff.1 h]; simp [unbe]
  | succ i ih =>
    intro l h
    obtain ⟨l', b, rfl, hl⟩ := snoc_of l h
    have := ih l' hl
    have := UInt8.toNat_lt b
    rw [unbe_snoc, Nat.pow_succ]
    omega
theorem be_unbe (i : Nat) : ∀ l : List UInt8, l.length = i → be i (unbe l) = l := by
  induction i with
  | zero => intro l h; rw [List.length_eq_zero_iff.1 h]; rfl
  | succ i ih =>
    intro l h
    obtain ⟨l', b, rfl, hl⟩ := snoc_of l h
    have hb := UInt8.toNat_lt b
    rw [be, unbe_snoc]
    have e1 : (unbe l' * 256 + b.toNat) / 256 = unbe l' := by omega
    have e2 : UInt8.ofNat (unbe l' * 256 + b.toNat) = b := by
      apply UInt8.toNat_inj.1
      rw [UInt8.toNat_ofNat']; omega
    rw [e1, e2, ih l' hl]
/-- What is read of an ordered number: it, the error. -/
def rdOrd (l : List UInt8) : Int × Nat := if l.length < 8 then (0, 6) else ((unbe (l.take 8) : Int) - 9223372036854775808, 0)
theorem take_snoc (l : List UInt8) (i : Nat) (h : i < l.length) : l.take (i + 1) = l.take i ++ [l[i]] := List.take_succ_eq_append_getElem h
/-! ### Ordered texts -/
def esc : List UInt8 → List UInt8
  | [] => []
  | b :: l => if b = 0 then 0 :: 255 :: esc l else b :: esc l
def txt (t : List UInt8) : List UInt8 := esc t ++ [0, 1]
/-- What is read of a text: it, its bytes, the error. -/
def untxt : List UInt8 → List UInt8 × Nat × Nat
  | [] => ([], 0, 6)
  | [_] => ([], 0, 6)
  | b :: c :: l =>
    if b ≠ 0 then (if (untxt (c :: l)).2.2 = 0 then (b :: (untxt (c :: l)).1, (untxt (c :: l)).2.1 + 1, 0) else ([], 0, (untxt (c :: l)).2.2))
    else if c = 1 then ([], 2, 0)
    else if c = 255 then (if (untxt l).2.2 = 0 then (0 :: (untxt l).1, (untxt l).2.1 + 2, 0) else ([], 0, (untxt l).2.2))
    else ([], 0, 7)
theorem esc_app (a b : List UInt8) : esc (a ++ b) = esc a ++ esc b := by
  induction a with
  | nil => rfl
  | cons x a ih =>
    by_cases h : x = 0
    · simp [esc, h, ih]
    · simp [esc, h, ih]
theorem esc_len (l : List UInt8) : (esc l).length ≤ 2 * l.length := by
  induction l with
  | nil => simp [esc]
  | cons b l ih => by_cases h : b = 0 <;> simp [esc, h] <;> omega
/-- Of what is read behind k bytes that told pre: the whole. -/
def liftT (k : Nat) (pre : List UInt8) (r : List UInt8 × Nat × Nat) : List UInt8 × Nat × Nat := if r.2.2 = 0 then (pre ++ r.1, r.2.1 + k, 0) else ([], 0, r.2.2)
theorem untxt_err : ∀ l : List UInt8, (untxt l).2.2 = 0 ∨ ((untxt l).2.2 = 6 ∨ (untxt l).2.2 = 7) ∧ (untxt l).1 = [] ∧ (untxt l).2.1 = 0
  | [] => Or.inr ⟨Or.inl rfl, rfl, rfl⟩
  | [_] => Or.inr ⟨Or.inl rfl, rfl, rfl⟩
  | b :: c :: l => by
    rw [untxt]
    split
    · split
      · exact Or.inl rfl
      · rename_i h; rcases untxt_err (c :: l) with h0 | ⟨h1, _, _⟩
        · exact absurd h0 h
        · exact Or.inr ⟨h1, rfl, rfl⟩
    · split
      · exact Or.inl rfl
      · split
        · split
          · exact Or.inl rfl
          · rename_i h; rcases untxt_err l with h0 | ⟨h1, _, _⟩
            · exact absurd h0 h
            · exact Or.inr ⟨h1, rfl, rfl⟩
        · exact Or.inr ⟨Or.inr rfl, rfl, rfl⟩
theorem liftT_zero (l : List UInt8) : liftT 0 [] (untxt l) = untxt l := by
  unfold liftT
  rcases untxt_err l with h | ⟨h, h1, h2⟩
  · rw [if_pos h]; simp [Prod.ext_iff, h]
  · rw [if_neg (by omega)]; simp [Prod.ext_iff, h1, h2]
theorem liftT_nil (k : Nat) (pre : List UInt8) : liftT k pre (untxt []) = ([], 0, 6) := rfl
theorem liftT_one (k : Nat) (pre : List UInt8) (b : UInt8) : liftT k pre (untxt [b]) = ([], 0, 6) := rfl
theorem liftT_byte (k : Nat) (pre : List UInt8) {b : UInt8} (l : List UInt8) (hb : b ≠ 0) : liftT k pre (untxt (b :: l)) = liftT (k + 1) (pre ++ [b]) (untxt l) := by
  cases l with
  | nil => rfl
  | cons c l =>
    rw [untxt, if_pos hb]
    unfold liftT
    by_cases h : (untxt (c :: l)).2.2 = 0
    · rw [if_pos h, if_pos rfl, if_pos h]; simp [Nat.add_assoc, Nat.add_comm 1 k]
    · rw [if_neg h, if_neg h, if_neg h]
theorem liftT_zero_byte (k : Nat) (pre : List UInt8) (l : List UInt8) : liftT k pre (untxt (0 :: 255 :: l)) = liftT (k + 2) (pre ++ [0]) (untxt l) := by
  rw [untxt, if_neg (by decide), if_neg (by decide), if_pos rfl]
  unfold liftT
  by_cases h : (untxt l).2.2 = 0
  · rw [if_pos h, if_pos rfl, if_pos h]; simp [Nat.add_assoc, Nat.add_comm 2 k]
  · rw [if_neg h, if_neg h, if_neg h]
theorem liftT_end (k : Nat) (pre : List UInt8) (l : List UInt8) : liftT k pre (untxt (0 :: 1 :: l)) = (pre, k + 2, 0) := by
  rw [untxt, if_neg (by decide), if_pos rfl]; unfold liftT; simp [Nat.add_comm]
theorem liftT_form (k : Nat) (pre : List UInt8) {c : UInt8} (l : List UInt8) (h1 : c ≠ 1) (h2 : c ≠ 255) : liftT k pre (untxt (0 :: c :: l)) = ([], 0, 7) := by
  rw [untxt, if_neg (by decide), if_neg h1, if_neg h2]; rfl
theorem index_zero : ∀ s : List UInt8, (Go.Lib.index s [0] = -1 ∧ esc s = s) ∨ ∃ i : Nat, Go.Lib.index s [0] = (i : Int) ∧ i < s.length ∧ esc s = s.take i ++ [0, 255] ++ esc (s.drop (i + 1))
  | [] => Or.inl ⟨rfl, rfl⟩
  | b :: l => by
    by_cases hb : b = 0
    · subst hb
      refine Or.inr ⟨0, ?_, by simp, ?_⟩
      · unfold Go.Lib.index; rw [if_pos (by simp)]; rfl
      · simp [esc]
    · have hp : ¬ ([0].isPrefixOf (b :: l) = true) := by simp [List.isPrefixOf]; exact fun h => hb h.symm
      have he : esc (b :: l) = b :: esc l := by simp [esc, hb]
      rcases index_zero l with ⟨h1, h2⟩ | ⟨i, h1, h2, h3⟩
      · refine Or.inl ⟨?_, by rw [he, h2]⟩
        unfold Go.Lib.index; rw [if_neg hp, h1]; rfl
      · refine Or.inr ⟨i + 1, ?_, by simp; omega, ?_⟩
        · unfold Go.Lib.index
          rw [if_neg hp, h1, if_neg (by simp; try omega)]
          try omega
        · rw [he, h3]; simp
theorem replaceK_esc (n : Nat) : ∀ s : List UInt8, s.length ≤ n → Go.Lib.replaceK [0] [0, 255] (Go.Lib.count s [0]) s = esc s := by
  induction n with
  | zero => intro s h; obtain rfl := List.length_eq_zero_iff.1 (Nat.le_zero.1 h); rfl
  | succ n ih =>
    intro s h
    rcases index_zero s with ⟨h1, h2⟩ | ⟨i, h1, h2, h3⟩
    · rw [Go.Lib.count_miss h1, h2]; rfl
    · rw [Go.Lib.count_hit (by simp) h1, Nat.add_comm, Go.Lib.replaceK_hit _ _ _ _ _ h1, h3]
      congr 1
      exact ih _ (by simp; omega)
theorem replaceAll_esc (s : List UInt8) : Go.Lib.replaceAll s [0] [0, 255] = esc s := by
  unfold Go.Lib.replaceAll Go.Lib.replace Go.Lib.replaceNum
  rw [if_neg (by decide), if_pos (Or.inl (by decide))]
  exact replaceK_esc _ s (Nat.le_refl _)
end Go.Proofs.Ytdgbafpnfkedeaa.Code
/-
  What is put is read back; what is cut ends too early; what is read is put; the order: plain mathematics. No model's run in this text. No condition.
-/
namespace Go.Proofs.Ytdgbafpnfkedeaa.Code
theorem rdOrd_be (U : Nat) (hU : U < 2 ^ 64) (t : List UInt8) : rdOrd (be 8 U ++ t) = ((U : Int) - 9223372036854775808, 0) := by
  unfold rdOrd
  have h8 := be_length 8 U
  rw [if_neg (by rw [List.length_append]; omega), List.take_append_of_le_length (by omega), List.take_of_length_le (by omega), unbe_be, Nat.mod_eq_of_lt hU]
theorem untxt_txt : ∀ (t b : List UInt8), untxt (txt t ++ b) = (t, (txt t).length, 0)
  | [], b => by simp [txt, esc, untxt]
  | c :: t, b => by
    have ih := untxt_txt t b
    have h0 := liftT_zero (txt (c :: t) ++ b)
    by_cases hc : c = 0
    · subst hc
      have e : txt (0 :: t) ++ b = 0 :: 255 :: (txt t ++ b) := by simp [txt, esc]
      rw [e, ← liftT_zero, liftT_zero_byte, ih]
      simp [liftT, txt, esc]
    · have e : txt (c :: t) ++ b = c :: (txt t ++ b) := by simp [txt, esc, hc]
      rw [e, ← liftT_zero, liftT_byte _ _ _ hc, ih]
      simp [liftT, txt, esc, hc]
theorem rdField_fld (t b : List UInt8) (ht : t.length < 2 ^ 64) (x : Int) (hx : (t.length : Int) ≤ x) : rdField (uvar t.length ++ t ++ b) x = (t, (uvar t.length ++ t).length, 0) := by
  have h := rd_uvar t.length 0 (t ++ b) (by omega) (by omega) (by simpa using ht)
  unfold rdField
  rw [List.append_assoc, h]
  rw [if_neg (by simp), if_neg (by show ¬ x < (t.length : Int); omega), if_neg (by simp [List.length_append])]
  simp [List.length_append]
theorem untxt_cut : ∀ (t : List UInt8) (k : Nat), k < (txt t).length → untxt ((txt t).take k) = ([], 0, 6)
  | [], k, h => by
    have : k < 2 := by simpa [txt, esc] using h
    rcases (show k = 0 ∨ k = 1 by omega) with rfl | rfl <;> rfl
  | c :: t, k, h => by
    by_cases hc : c = 0
    · subst hc
      have e : txt (0 :: t) = 0 :: 255 :: txt t := by simp [txt, esc]
      rw [e] at h ⊢
      match k, h with
      | 0, _ => rfl
      | 1, _ => rfl
      | k + 2, h =>
        rw [List.take_succ_cons, List.take_succ_cons, ← liftT_zero, liftT_zero_byte, untxt_cut t k (by simpa using h)]
        rfl
    · have e : txt (c :: t) = c :: txt t := by simp [txt, esc, hc]
      rw [e] at h ⊢
      match k, h with
      | 0, _ => rfl
      | k + 1, h =>
        rw [List.take_succ_cons, ← liftT_zero, liftT_byte _ _ _ hc, untxt_cut t k (by simpa using h)]
        rfl
theorem rdField_cut (t : List UInt8) (ht : t.length < 2 ^ 64) (x : Int) (hx : (t.length : Int) ≤ x) (k : Nat) (hk : k < (uvar t.length ++ t).length) : rdField ((uvar t.length ++ t).take k) x = ([], 0, 6) := by
  unfold rdField
  by_cases h : k < (uvar t.length).length
  · rw [List.take_append_of_le_length (by omega), rd_cut t.length 0 k (by have := uvar_ten ht; omega) h]
    rw [if_pos (by simp)]
  · have e : (uvar t.length ++ t).take k = uvar t.length ++ t.take (k - (uvar t.length).length) := by rw [List.take_append, List.take_of_length_le (by omega)]
    have h1 := rd_uvar t.length 0 (t.take (k - (uvar t.length).length)) (by omega) (by omega) (by simpa using ht)
    rw [List.length_append] at hk
    rw [e, h1, if_neg (by simp), if_neg (by show ¬ x < (t.length : Int); omega), if_pos (by simp only [List.length_append, List.length_take]; omega)]
/-! ### What is read is put -/
theorem put_uint (l : List UInt8) (h : (rd 0 l).2.2 = 0) : uvar (rd 0 l).1 = l.take (rd 0 l).2.1 := (uvar_rd l 0 (by omega) h).2.2.1.symm
theorem txt_untxt : ∀ l : List UInt8, (untxt l).2.2 = 0 → 2 ≤ (untxt l).2.1 ∧ (untxt l).2.1 ≤ l.length ∧ txt (untxt l).1 = l.take (untxt l).2.1
  | [], h => by simp [untxt] at h
  | [_], h => by simp [untxt] at h
  | b :: c :: l, h => by
    rw [untxt] at h ⊢
    by_cases hb : b ≠ 0
    · rw [if_pos hb] at h ⊢
      by_cases h0 : (untxt (c :: l)).2.2 = 0
      · rw [if_pos h0]
        obtain ⟨g1, g2, g3⟩ := txt_untxt (c :: l) h0
        refine ⟨by show 2 ≤ (untxt (c :: l)).2.1 + 1; omega, by show (untxt (c :: l)).2.1 + 1 ≤ _; simp at g2 ⊢; omega, ?_⟩
        show txt (b :: (untxt (c :: l)).1) = (b :: c :: l).take ((untxt (c :: l)).2.1 + 1)
        rw [List.take_succ_cons, ← g3]
        simp [txt, esc, hb]
      · rw [if_neg h0] at h; exact absurd h h0
    · have hb0 : b = 0 := by simpa using hb
      subst hb0
      rw [if_neg hb] at h ⊢
      by_cases h1 : c = 1
      · subst h1
        rw [if_pos rfl]
        exact ⟨by simp, by simp, by simp [txt, esc]⟩
      · rw [if_neg h1] at h ⊢
        by_cases h2 : c = 255
        · subst h2
          rw [if_pos rfl] at h ⊢
          by_cases h0 : (untxt l).2.2 = 0
          · rw [if_pos h0]
            obtain ⟨g1, g2, g3⟩ := txt_untxt l h0
            refine ⟨by show 2 ≤ (untxt l).2.1 + 2; omega, by show (untxt l).2.1 + 2 ≤ _; simp; omega, ?_⟩
            show txt (0 :: (untxt l).1) = (0 :: 255 :: l).take ((untxt l).2.1 + 2)
            rw [List.take_succ_cons, List.take_succ_cons, ← g3]
            simp [txt, esc]
          · rw [if_neg h0] at h; exact absurd h h0
        · rw [if_neg h2] at h; simp at h
theorem put_field (l : List UInt8) (x : Int) (h : (rdField l x).2.2 = 0) : 1 ≤ (rdField l x).2.1 ∧ (rdField l x).2.1 ≤ l.length ∧ uvar (rdField l x).1.length ++ (rdField l x).1 = l.take (rdField l x).2.1 := by
  unfold rdField at h ⊢
  by_cases h1 : (rd 0 l).2.2 ≠ 0
  · rw [if_pos h1] at h; exact absurd h h1
  · rw [if_neg h1] at h ⊢
    have h0 : (rd 0 l).2.2 = 0 := by simpa using h1
    obtain ⟨g1, g2, g3, _, _⟩ := uvar_rd l 0 (by omega) h0
    by_cases h2 : x < (rd 0 l).1
    · rw [if_pos h2] at h; simp at h
    · rw [if_neg h2] at h ⊢
      by_cases h3 : l.length - (rd 0 l).2.1 < (rd 0 l).1
      · rw [if_pos h3] at h; simp at h
      · rw [if_neg h3]
        refine ⟨by show 1 ≤ (rd 0 l).2.1 + _; omega, by show (rd 0 l).2.1 + (rd 0 l).1 ≤ _; omega, ?_⟩
        show uvar ((l.drop (rd 0 l).2.1).take (rd 0 l).1).length ++ (l.drop (rd 0 l).2.1).take (rd 0 l).1 = l.take ((rd 0 l).2.1 + (rd 0 l).1)
        have e : ((l.drop (rd 0 l).2.1).take (rd 0 l).1).length = (rd 0 l).1 := by rw [List.length_take, List.length_drop]; omega
        rw [e, ← g3, List.take_add]
theorem rdField_err (l : List UInt8) (x : Int) : (rdField l x).2.2 = 0 ∨ ((rdField l x).2.2 = 3 ∨ (rdField l x).2.2 = 6 ∨ (rdField l x).2.2 = 7) ∧ (rdField l x).1 = [] ∧ (rdField l x).2.1 = 0 := by
  unfold rdField
  by_cases h1 : (rd 0 l).2.2 ≠ 0
  · rw [if_pos h1]
    rcases rd_err 0 l with h | ⟨h, _⟩
    · exact absurd h h1
    · exact Or.inr ⟨Or.inr h, rfl, rfl⟩
  · rw [if_neg h1]
    by_cases h2 : x < (rd 0 l).1
    · rw [if_pos h2]; exact Or.inr ⟨Or.inl rfl, rfl, rfl⟩
    · rw [if_neg h2]
      by_cases h3 : l.length - (rd 0 l).2.1 < (rd 0 l).1
      · rw [if_pos h3]; exact Or.inr ⟨Or.inr (Or.inl rfl), rfl, rfl⟩
      · rw [if_neg h3]; exact Or.inl rfl
end Go.Proofs.Ytdgbafpnfkedeaa.Code
/-
  Batches as plain data: which are valid, how they are written and read. No condition.
-/
namespace Go.Proofs.Ytdgbafpnfkedeaa
set_option maxRecDepth 100000
/-- A write. -/
structure Wr where
  kind : Int
  key : ByteArray
  val : ByteArray
def Wr.bad (x : Wr) : Bool := (x.kind != 1 && x.kind != 2) || (x.key.size == 0 || (x.kind == 2 && x.val.size != 0))
def Wr.long (x : Wr) : Bool := decide (520 < x.key.size) || decide (2048 < x.val.size)
def Wr.chk (x : Wr) : Int := if x.bad = true then 2 else if x.long = true then 3 else 0
def chkB (seq : Nat) (l : List Wr) : Int :=
  if l.length = 0 ∨ seq < 1 ∨ 72057594037927872 < seq then 2 else if l.any Wr.bad = true then 2 else if 64 < l.length ∨ l.any Wr.long = true then 3 else 0
/-- What a walk over the writes has found so far. -/
def sofar (long : Bool) (l : List Wr) : Int := if long = true ∨ l.any Wr.long = true then 3 else 0
theorem sofar_nil (b : Bool) : sofar b [] = if b = true then 3 else 0 := by simp [sofar]
theorem sofar_snoc {b : Bool} {l : List Wr} {x : Wr} (hb : x.bad = false) : sofar b (l ++ [x]) = if x.chk = 3 then 3 else sofar b l := by
  unfold sofar Wr.chk
  rw [hb]
  simp only [Bool.false_eq_true, if_false, List.any_append, List.any_cons, List.any_nil, Bool.or_false, Bool.or_eq_true]
  cases h : x.long
  · simp
  · simp
theorem chk_zero (x : Wr) : x.bad = false → (x.chk = 3 ∨ x.chk = 0) := by
  intro h
  unfold Wr.chk
  rw [h]
  simp only [Bool.false_eq_true, if_false]
  split
  · exact .inl rfl
  · exact .inr rfl
theorem chk_bad {x : Wr} : x.chk = 2 ↔ x.bad = true := by
  unfold Wr.chk
  split
  · rename_i h; exact ⟨fun _ => h, fun _ => rfl⟩
  · rename_i h
    refine ⟨fun e => ?_, fun e => absurd e h⟩
    split at e <;> cases e
theorem chkB_end {seq : Nat} {l : List Wr} (h : ¬ (l.length = 0 ∨ seq < 1 ∨ 72057594037927872 < seq)) (hb : l.any Wr.bad = false) : chkB seq l = sofar (decide (64 < l.length)) l := by
  unfold chkB sofar
  rw [if_neg h, hb]
  simp
theorem chkB_arg {seq : Nat} {l : List Wr} (h : l.length = 0 ∨ seq < 1 ∨ 72057594037927872 < seq) : chkB seq l = 2 := by
  unfold chkB; rw [if_pos h]
theorem chkB_bad {seq : Nat} {l : List Wr} (h : l.any Wr.bad = true) : chkB seq l = 2 := by
  unfold chkB
  rw [if_pos h]
  split <;> rfl
theorem chkB_ok {seq : Nat} {l : List Wr} (h : chkB seq l = 0) : l.length ≠ 0 ∧ 1 ≤ seq ∧ seq ≤ 72057594037927872 ∧ l.length ≤ 64 ∧ ∀ x ∈ l, x.bad = false ∧ x.long = false := by
  unfold chkB at h
  split at h
  · cases h
  · rename_i h1
    split at h
    · cases h
    · rename_i h2
      split at h
      · cases h
      · rename_i h3
        refine ⟨by omega, by omega, by omega, by omega, fun x hx => ⟨?_, ?_⟩⟩
        · cases e : x.bad with
          | false => rfl
          | true => exact absurd (List.any_eq_true.2 ⟨x, hx, e⟩) h2
        · cases e : x.long with
          | false => rfl
          | true => exact absurd (.inr (List.any_eq_true.2 ⟨x, hx, e⟩)) h3
theorem chkB_made {seq : Nat} {l : List Wr} (h0 : l.length ≠ 0) (h1 : 1 ≤ seq) (h2 : seq ≤ 72057594037927872) (h3 : l.length ≤ 64) (h : ∀ x ∈ l, x.bad = false ∧ x.long = false) : chkB seq l = 0 := by
  unfold chkB
  rw [if_neg (by omega), if_neg (by simp only [List.any_eq_true, not_exists, not_and]; intro x hx; simp [(h x hx).1]), if_neg]
  simp only [List.any_eq_true, not_or, not_exists, not_and]
  exact ⟨by omega, fun x hx => by simp [(h x hx).2]⟩
end Go.Proofs.Ytdgbafpnfkedeaa
/-
  How a batch's writes lie in memory. No condition.
-/
namespace Go.Proofs.Ytdgbafpnfkedeaa
set_option maxRecDepth 100000
open Go.RowKit
/-- The writes lie one behind the other from ⟨b, o⟩ on. -/
def WrsAt (b o : Nat) (l : List Wr) (w : World) : Prop :=
  ∀ (j : Nat) x, l[j]? = some x → w.cell? ⟨b, o + j * 3, none⟩ = some (.int .i64 x.kind) ∧ w.cell? ⟨b, o + j * 3 + 1, none⟩ = some (.string x.key) ∧ w.cell? ⟨b, o + j * 3 + 2, none⟩ = some (.string x.val)
/-- A slice of writes. -/
structure Ws (a : Option Addr) (n c b o : Nat) (l : List Wr) (w : World) : Prop where
  len : l.length = n
  cap : n ≤ c
  most : c ≤ 9223372036854775807
  addr : 0 < n → a = some ⟨b, o, none⟩ ∧ b < w.heap.size
  at' : WrsAt b o l w
  fit : ∀ x ∈ l, x.key.size ≤ reachBytes ∧ x.val.size ≤ reachBytes
theorem WrsAt.keep {b o : Nat} {l : List Wr} {w w' : World} (h : WrsAt b o l w) (hk : w'.heap[b]? = w.heap[b]?) : WrsAt b o l w' := fun j x hx => by
  have e : ∀ a, w'.cell? ⟨b, a, none⟩ = w.cell? ⟨b, a, none⟩ := fun a => World.cell?_of_block (a := ⟨b, a, none⟩) hk
  rw [e, e, e]; exact h j x hx
theorem WrsAt.nil (b o : Nat) (w : World) : WrsAt b o [] w := fun j x h => by cases h
theorem Ws.keep {a : Option Addr} {n c b o : Nat} {l : List Wr} {w w' : World} (h : Ws a n c b o l w) (hk : 0 < n → w'.heap[b]? = w.heap[b]?) (hs : w.heap.size ≤ w'.heap.size) : Ws a n c b o l w' := by
  refine ⟨h.len, h.cap, h.most, fun h0 => ⟨(h.addr h0).1, Nat.lt_of_lt_of_le (h.addr h0).2 hs⟩, ?_, h.fit⟩
  by_cases h0 : 0 < n
  · exact h.at'.keep (hk h0)
  · have : l = [] := List.length_eq_zero_iff.1 (by rw [h.len]; omega)
    subst this
    exact WrsAt.nil _ _ _
theorem Ws.below {B : Nat} {a : Option Addr} {n c b o : Nat} {l : List Wr} {w w' : World} (h : Ws a n c b o l w) (hb : Below B w w') (hB : w.heap.size ≤ B) : Ws a n c b o l w' := h.keep (fun h0 => hb.block b (Nat.lt_of_lt_of_le (h.addr h0).2 hB)) hb.size
/-- A batch as a value. -/
abbrev batchV (seq : Nat) (a : Option Addr) (n c : Nat) : Value := .agg #[.int .u64 (seq : Int), .slice a n c]
theorem box_batch (w : World) (seq : Nat) (v : Value) : (w.alloc (.cells #[.int .u64 (seq : Int), v] 31)).cell? ⟨w.heap.size, 0, none⟩ = some (.int .u64 (seq : Int)) ∧ (w.alloc (.cells #[.int .u64 (seq : Int), v] 31)).cell? ⟨w.heap.size, 1, none⟩ = some v := by
  constructor <;> (rw [World.cell?_alloc_new]; rfl)
end Go.Proofs.Ytdgbafpnfkedeaa
/-
  A batch that came in as an argument, as a walk wants it. No condition.
-/
namespace Go.Proofs.Ytdgbafpnfkedeaa
set_option maxRecDepth 100000
open Go Go.RowKit Go.ChangeShapes Go.WideShapes Go.Deep
theorem wr_read {H : Type} {enc : TypeId × Value → H} {w : World} {fuel : Nat} {cs : List Value} {y : DataW H × List MemPlace} (h : DataW.trod enc Try.prog w 0 (fun _ => true) true fuel 41 cs = some y) :
    ∃ x : Wr, cs = [.int .i64 x.kind, .string x.key, .string x.val] ∧ y.1 = .agg [.lit (.int .i64 x.kind), .lit (.string x.key.data.toList), .lit (.string x.val.data.toList)] := by
  have oc : Try.prog.cellsOf 41 = 3 := by kernel_rfl
  have i1 : Try.prog.cellsOf 3 = 1 := by kernel_rfl
  have s1 : Try.prog.cellsOf 9 = 1 := by kernel_rfl
  obtain ⟨xs, n, _, hx, hsz, hn, hg⟩ := DataW.trod_struct Try.underlying41 h
  have g0 := hg 0 _ rfl
  have g1 := hg 1 _ rfl
  have g2 := hg 2 _ rfl
  clear hg h
  rw [oc] at hsz
  have hm : xs.length = 3 := hn
  match cs, hsz with
  | [c0, c1, c2], _ =>
    match xs, hm with
    | [y0, y1, y2], _ =>
      obtain ⟨a0, e0, f0, w0⟩ := DataW.trod_int Try.underlying3 g0
      obtain ⟨a1, e1, f1, w1⟩ := DataW.trod_string Try.underlying9 g1
      obtain ⟨a2, e2, f2, w2⟩ := DataW.trod_string Try.underlying9 g2
      simp [i1, s1] at e0 e1 e2
      subst e0 e1 e2 f0 f1 f2
      exact ⟨⟨a0, a1, a2⟩, rfl, by rw [hx]; rfl⟩
theorem weights_all {H : Type} {P : Program} {e : TypeId} : ∀ {l : List (DataW H)} {d : DataW H} {n : Nat}, d ∈ l → n ∈ d.weights P e → n ∈ DataW.weightsAll P e l
  | [], _, _, h, _ => by cases h
  | x :: r, d, n, h, hn => by
    rw [DataW.weightsAll]
    rcases List.mem_cons.1 h with rfl | h
    · exact List.mem_append_left _ hn
    · exact List.mem_append_right _ (weights_all h hn)
theorem open_ws {H : Type} {enc : TypeId × Value → H} {W : World} {a0 : Option Addr} {len cap fuel : Nat} {x : DataW H × List MemPlace}
    (hf : DataW.trod enc Try.prog W 0 (fun _ => true) true fuel 29 [.slice a0 len cap] = some x) (hsz : ∀ n ∈ x.1.weights Try.prog 29, n ≤ reachBytes) :
    ∃ b o l, Ws a0 len cap b o l W := by
  have oc : Try.prog.cellsOf 41 = 3 := by kernel_rfl
  rcases DataW.trod_slice Try.underlying29 hf with ⟨hcs, _⟩ | ⟨a, len', cap', elems, rest, n, _, hcs, hx, _, hl, hm, hlen, hel, _, _⟩
  · simp at hcs
    obtain ⟨rfl, rfl, rfl⟩ := hcs
    exact ⟨0, 0, [], rfl, Nat.le_refl _, by omega, fun h => absurd h (by omega), fun j x hx => by simp at hx, fun x hx => by cases hx⟩
  · simp at hcs
    obtain ⟨rfl, rfl, rfl⟩ := hcs
    obtain ⟨b, off, spot⟩ := a
    have el : ∀ i, i < len → ∃ v : Wr, (∀ m u, ([.int .i64 v.kind, .string v.key, .string v.val] : List Value)[m]? = some u → W.cell? ((⟨b, off, spot⟩ : Addr).add (i * 3 + m)) = some u) ∧ ∃ y, elems[i]? = some y ∧ y.1 = .agg [.lit (.int .i64 v.kind), .lit (.string v.key.data.toList), .lit (.string v.val.data.toList)] := by
      intro i hi
      have h1 := hel i hi
      rw [oc] at h1
      have hys : elems[i]? = some (elems[i]'(by omega)) := List.getElem?_eq_getElem (by omega)
      rw [hys] at h1
      obtain ⟨cs, hc, ht'⟩ := Option.bind_eq_some_iff.1 h1
      obtain ⟨v, rfl, hy⟩ := wr_read ht'
      obtain ⟨_, hcl, hat⟩ := World.cells?_some hc
      refine ⟨v, fun m u hu => ?_, _, hys, hy⟩
      have hm5 : m < 3 := by have := (List.getElem?_eq_some_iff.1 hu).1; simpa using this
      rw [← Go.Deep.add_add, hat m hm5, hu]
    obtain ⟨vf, hvf⟩ : ∃ vf : Nat → Wr, ∀ i, i < len → (∀ m u, ([.int .i64 (vf i).kind, .string (vf i).key, .string (vf i).val] : List Value)[m]? = some u → W.cell? ((⟨b, off, spot⟩ : Addr).add (i * 3 + m)) = some u) ∧ ∃ y, elems[i]? = some y ∧ y.1 = .agg [.lit (.int .i64 (vf i).kind), .lit (.string (vf i).key.data.toList), .lit (.string (vf i).val.data.toList)] := by
      refine ⟨fun i => if h : i < len then (el i h).choose else ⟨0, .empty, .empty⟩, fun i hi => ?_⟩
      simp only [dif_pos hi]
      exact (el i hi).choose_spec
    have hwt : ∀ i, i < len → ∀ n, n ∈ [(vf i).key.data.toList.length, (vf i).val.data.toList.length] → n ≤ reachBytes := by
      intro i hi n hn
      obtain ⟨_, y, hy, he⟩ := hvf i hi
      refine hsz n ?_
      rw [hx, DataW.weights, Try.underlying29]
      refine List.mem_cons_of_mem _ (List.mem_append_left _ (weights_all (List.mem_map.2 ⟨y, List.mem_of_getElem? hy, rfl⟩) ?_))
      rw [he]
      simp only [DataW.weights, Try.underlying41, DataW.weightsEach, List.map_cons, List.map_nil]
      simp only [List.mem_cons, List.not_mem_nil, or_false] at hn
      rcases hn with rfl | rfl
      · simp
      · simp
    have hspot : 0 < len → spot = none := fun h0 => by
      obtain ⟨hcell, _⟩ := hvf 0 h0
      have := hcell 0 _ rfl
      simpa [Addr.add] using World.cell?_spot this
    unfold maxLen at hm
    refine ⟨b, off, (List.range len).map vf, by simp, hl, by omega, fun h0 => ?_, fun j v hj => ?_, fun v hv => ?_⟩
    · have hs := hspot h0
      subst hs
      obtain ⟨hcell, _⟩ := hvf 0 h0
      exact ⟨rfl, World.block_lt_of_cell? _ _ (hcell 0 _ rfl)⟩
    · have hjl : j < len := by have := (List.getElem?_eq_some_iff.1 hj).1; simpa using this
      have hvj : v = vf j := by simpa [hjl] using hj.symm
      subst hvj
      have hs := hspot (by omega)
      subst hs
      obtain ⟨hcell, _⟩ := hvf j hjl
      have cc : ∀ m u, ([.int .i64 (vf j).kind, .string (vf j).key, .string (vf j).val] : List Value)[m]? = some u → W.cell? ⟨b, off + j * 3 + m, none⟩ = some u := fun m u hu => by
        have := hcell m u hu
        have e1 : (⟨b, off, none⟩ : Addr).add (j * 3 + m) = ⟨b, off + j * 3 + m, none⟩ := by
          unfold Addr.add
          split
          · rename_i h0
            have : j * 3 = 0 ∧ m = 0 := by omega
            rw [this.1, this.2]; simp
          · simp only [Addr.mk.injEq, true_and, and_true]; omega
        rw [e1] at this
        exact this
      exact ⟨cc 0 _ rfl, cc 1 _ rfl, cc 2 _ rfl⟩
    · obtain ⟨i, hi, rfl⟩ := List.mem_map.1 hv
      have hil : i < len := List.mem_range.1 hi
      have e : ∀ s : ByteArray, s.data.toList.length = s.size := fun s => by rw [Array.length_toList]; rfl
      have w1 := hwt i hil _ (List.mem_cons_self ..)
      have w2 := hwt i hil ((vf i).val.data.toList.length) (by simp)
      rw [e] at w1 w2
      exact ⟨w1, w2⟩
/-- A batch that came in. -/
theorem open_batch {H : Type} {enc : TypeId × Value → H} {W : World} {b0 : Nat} {r : Reach} {v : Value} {d : DataW H} {ps : List MemPlace} {ts : List TypeId} {ds : List (DataW H)}
    (hv : Value.okWide Try.prog W r b0 31 v) (h : DataW.Trod enc Try.prog W 0 (fun _ => true) true 31 v d ps)
    (hsz : (DataW.weightsEach Try.prog ts ds).all (· ≤ reachBytes) = true) {j : Nat} (ht : ts[j]? = some 31) (hd : ds[j]? = some d) :
    ∃ seq a n c b o l, v = batchV seq a n c ∧ seq < 2 ^ 64 ∧ Ws a n c b o l W := by
  obtain ⟨cs, rfl, hsz2⟩ := okWide_struct Try.underlying31 hv
  obtain ⟨fuel, hf⟩ := h
  obtain ⟨xs, n, _, hx, _, hn, hg⟩ := DataW.trod_struct Try.underlying31 hf
  have oc : Try.prog.cellsOf 31 = 2 := by kernel_rfl
  have i1 : Try.prog.cellsOf 28 = 1 := by kernel_rfl
  have s1 : Try.prog.cellsOf 29 = 1 := by kernel_rfl
  have g0 := hg 0 _ rfl
  have g1 := hg 1 _ rfl
  clear hg hf
  rw [oc] at hsz2
  obtain ⟨l⟩ := cs
  have hl : l.length = 2 := hsz2
  match l, hl with
  | [c0, c1], _ =>
    have hm : xs.length = 2 := hn
    match xs, hm with
    | [y0, y1], _ =>
      simp only [Value.cells] at g0 g1
      obtain ⟨a0, e0, f0, w0⟩ := DataW.trod_int Try.underlying28 g0
      simp [i1] at e0
      subst e0
      have g1' : DataW.trod enc Try.prog W 0 (fun _ => true) true n 29 [c1] = some y1 := by simpa [i1, s1] using g1
      have e4 : ∃ sa sn sc, c1 = .slice sa sn sc := by
        rcases DataW.trod_slice Try.underlying29 g1' with ⟨hc, _⟩ | ⟨a, len, cap, _, _, _, _, hc, _⟩
        · exact ⟨none, 0, 0, by simpa using hc⟩
        · exact ⟨some a, len, cap, by simpa using hc⟩
      obtain ⟨sa, sn, sc, rfl⟩ := e4
      have hr : 0 ≤ a0 ∧ a0 ≤ 18446744073709551615 := by simpa [Lit.wf, IntKind.min, IntKind.max, IntKind.signed, IntKind.bits] using w0
      obtain ⟨b, o, l, hw⟩ := open_ws g1' (fun m hm => by
        have hm2 : m ∈ d.weights Try.prog 31 := by
          have hd2 : d = .agg [y0.1, y1.1] := by have := congrArg Prod.fst hx; simpa using this
          rw [hd2]
          simp only [DataW.weights, Try.underlying31, DataW.weightsEach, List.map_cons, List.map_nil]
          simp [hm]
        have := List.all_eq_true.1 hsz _ (DataW.weights_mem_each ht hd m hm2)
        simpa using this)
      refine ⟨a0.toNat, sa, sn, sc, b, o, l, ?_, by omega, hw⟩
      have : ((a0.toNat : Nat) : Int) = a0 := by omega
      show Value.agg #[_, _] = _
      unfold batchV
      rw [this]
end Go.Proofs.Ytdgbafpnfkedeaa
/-
  Arguments of the types []api.Batch and [][]api.Write: opened. No condition.
-/
namespace Go.Proofs.Ytdgbafpnfkedeaa
open Go Go.RowKit Go.ChangeShapes Go.WideShapes Go.Deep
set_option maxRecDepth 100000
/-- A batch, and where its writes lie. -/
structure Bt where
  seq : Nat
  a : Option Addr
  n : Nat
  c : Nat
  b : Nat
  o : Nat
  ws : List Wr
  deriving Inhabited
def cellsBt (v : Bt) : List Value := [.int .u64 (v.seq : Int), .slice v.a v.n v.c]
def BtAt (v : Bt) (W : World) : Prop := v.seq ≤ 18446744073709551615 ∧ Ws v.a v.n v.c v.b v.o v.ws W
theorem bt_read {H : Type} {enc : TypeId × Value → H} {W : World} {fuel : Nat} {cs : List Value} {y : DataW H × List MemPlace} (h : DataW.trod enc Try.prog W 0 (fun _ => true) true fuel 31 cs = some y)
    (hsz : ∀ n ∈ y.1.weights Try.prog 31, n ≤ reachBytes) : ∃ v : Bt, cs = cellsBt v ∧ BtAt v W := by
  obtain ⟨xs, n, _, hx, hsz2, hn, hg⟩ := DataW.trod_struct Try.underlying31 h
  have oc : Try.prog.cellsOf 31 = 2 := by kernel_rfl
  have i1 : Try.prog.cellsOf 28 = 1 := by kernel_rfl
  have s1 : Try.prog.cellsOf 29 = 1 := by kernel_rfl
  have g0 := hg 0 _ rfl
  have g1 := hg 1 _ rfl
  clear hg h
  rw [oc] at hsz2
  have hm : xs.length = 2 := hn
  match cs, hsz2 with
  | [c0, c1], _ =>
    match xs, hm with
    | [y0, y1], _ =>
      obtain ⟨a0, e0, f0, w0⟩ := DataW.trod_int Try.underlying28 g0
      simp [i1] at e0
      subst e0
      have g1' : DataW.trod enc Try.prog W 0 (fun _ => true) true n 29 [c1] = some y1 := by simpa [i1, s1] using g1
      have e4 : ∃ sa sn sc, c1 = .slice sa sn sc := by
        rcases DataW.trod_slice Try.underlying29 g1' with ⟨hc, _⟩ | ⟨a, len, cap, _, _, _, _, hc, _⟩
        · exact ⟨none, 0, 0, by simpa using hc⟩
        · exact ⟨some a, len, cap, by simpa using hc⟩
      obtain ⟨sa, sn, sc, rfl⟩ := e4
      have hr : 0 ≤ a0 ∧ a0 ≤ 18446744073709551615 := by simpa [Lit.wf, IntKind.min, IntKind.max, IntKind.signed, IntKind.bits] using w0
      obtain ⟨b, o, l, hw⟩ := open_ws g1' (fun m hm => hsz m (by
        have hy : y.1 = .agg [y0.1, y1.1] := by rw [hx]; rfl
        rw [hy]
        simp only [DataW.weights, Try.underlying31, DataW.weightsEach, List.map_cons, List.map_nil]
        simp [hm]))
      have e5 : ((a0.toNat : Nat) : Int) = a0 := by omega
      exact ⟨⟨a0.toNat, sa, sn, sc, b, o, l⟩, by simp only [cellsBt, e5], by show a0.toNat ≤ _; omega, hw⟩
/-- Batches that came in. -/
theorem open_bts {H : Type} {enc : TypeId × Value → H} {W : World} {a0 : Option Addr} {len cap fuel : Nat} {x : DataW H × List MemPlace} {ts : List TypeId} {ds : List (DataW H)}
    (hf : DataW.trod enc Try.prog W 0 (fun _ => true) true fuel 57 [.slice a0 len cap] = some x) (hsz : (DataW.weightsEach Try.prog ts ds).all (· ≤ reachBytes) = true) {j : Nat} (ht : ts[j]? = some 57) (hd : ds[j]? = some x.1) :
    ∃ b o l, SlOf 2 cellsBt a0 len cap b o l W ∧ ∀ v ∈ l, BtAt v W := by
  have oc : Try.prog.cellsOf 31 = 2 := by kernel_rfl
  exact open_slice_in (α := Bt) 2 Try.underlying57 oc (by omega) cellsBt (fun _ => rfl) (fun v => BtAt v W) bt_read hf
    (fun m hm => by have := List.all_eq_true.1 hsz _ (DataW.weights_mem_each ht hd m hm); simpa using this)
/-- Lists of writes that came in. -/
def cellsWl (v : Bt) : List Value := [.slice v.a v.n v.c]
theorem wl_read {H : Type} {enc : TypeId × Value → H} {W : World} {fuel : Nat} {cs : List Value} {y : DataW H × List MemPlace} (h : DataW.trod enc Try.prog W 0 (fun _ => true) true fuel 29 cs = some y)
    (hsz : ∀ n ∈ y.1.weights Try.prog 29, n ≤ reachBytes) : ∃ v : Bt, cs = cellsWl v ∧ BtAt v W := by
  have e4 : ∃ sa sn sc, cs = [.slice sa sn sc] := by
    rcases DataW.trod_slice Try.underlying29 h with ⟨hc, _⟩ | ⟨a, len, cap, _, _, _, _, hc, _⟩
    · exact ⟨none, 0, 0, hc⟩
    · exact ⟨some a, len, cap, hc⟩
  obtain ⟨sa, sn, sc, rfl⟩ := e4
  obtain ⟨b, o, l, hw⟩ := open_ws h hsz
  exact ⟨⟨0, sa, sn, sc, b, o, l⟩, rfl, Nat.zero_le _, hw⟩
theorem open_wls {H : Type} {enc : TypeId × Value → H} {W : World} {a0 : Option Addr} {len cap fuel : Nat} {x : DataW H × List MemPlace} {ts : List TypeId} {ds : List (DataW H)}
    (hf : DataW.trod enc Try.prog W 0 (fun _ => true) true fuel 56 [.slice a0 len cap] = some x) (hsz : (DataW.weightsEach Try.prog ts ds).all (· ≤ reachBytes) = true) {j : Nat} (ht : ts[j]? = some 56) (hd : ds[j]? = some x.1) :
    ∃ b o l, SlOf 1 cellsWl a0 len cap b o l W ∧ ∀ v ∈ l, BtAt v W := by
  have oc : Try.prog.cellsOf 29 = 1 := by kernel_rfl
  exact open_slice_in (α := Bt) 1 Try.underlying56 oc (by omega) cellsWl (fun _ => rfl) (fun v => BtAt v W) wl_read hf
    (fun m hm => by have := List.all_eq_true.1 hsz _ (DataW.weights_mem_each ht hd m hm); simpa using this)
end Go.Proofs.Ytdgbafpnfkedeaa
/-
  A skip list as plain data: rows in order, each with a height; where a search comes to; what inserting makes of it. No condition.
-/
namespace Go.Proofs.Ytdgbafpnfkedeaa
set_option maxRecDepth 100000
open Go.RowKit
theorem less_before : ∀ a b : List UInt8, Op.bytesLess a b = bytesBefore a b := by
  intro a
  induction a with
  | nil => intro b; cases b <;> simp [Op.bytesLess, bytesBefore]
  | cons x r ih => intro b; cases b <;> simp [Op.bytesLess, bytesBefore, ih]
/-- The row x stands ahead of the place of k and q. -/
def ahd (x : Rw) (k : ByteArray) (q : Nat) : Bool := if x.key.toList = k.toList then decide (q < x.seq) else bytesBefore x.key.toList k.toList
def sameP (x : Rw) (k : ByteArray) (q : Nat) : Prop := x.key.toList = k.toList ∧ x.seq = q
theorem ahd_irrefl {x : Rw} {k : ByteArray} {q : Nat} (h : sameP x k q) : ahd x k q = false := by
  unfold ahd; rw [if_pos h.1, h.2]; simp
theorem ahd_trans {x y : Rw} {k : ByteArray} {q : Nat} (h1 : ahd x y.key y.seq = true) (h2 : ahd y k q = true) : ahd x k q = true := by
  unfold ahd at *
  by_cases e1 : x.key.toList = y.key.toList
  · rw [if_pos e1] at h1
    by_cases e2 : y.key.toList = k.toList
    · rw [if_pos e2] at h2
      rw [if_pos (e1.trans e2)]
      simp only [decide_eq_true_eq] at *
      omega
    · rw [if_neg e2] at h2
      rw [if_neg (by rw [e1]; exact e2), e1]; exact h2
  · rw [if_neg e1] at h1
    by_cases e2 : y.key.toList = k.toList
    · rw [if_neg (by rw [← e2]; exact e1), ← e2]; exact h1
    · rw [if_neg e2] at h2
      have h3 := WideShapes.bytes_trans _ _ _ h1 h2
      rw [if_neg (fun e => by rw [e, WideAt.bytes_irrefl] at h3; cases h3)]; exact h3
theorem ahd_total {x y : Rw} (h : ¬ sameP x y.key y.seq) : ahd x y.key y.seq = true ∨ ahd y x.key x.seq = true := by
  unfold ahd
  by_cases e : x.key.toList = y.key.toList
  · rw [if_pos e, if_pos e.symm]
    have : x.seq ≠ y.seq := fun e2 => h ⟨e, e2⟩
    simp only [decide_eq_true_eq]
    omega
  · rw [if_neg e, if_neg (fun e2 => e e2.symm)]
    exact WideAt.bytes_total _ _ e
/-- The place of a row counts alone. -/
theorem ahd_same {x y : Rw} {k : ByteArray} {q : Nat} (h : sameP y k q) : ahd x y.key y.seq = ahd x k q := by
  unfold ahd; rw [h.1, h.2]
theorem ahd_left {x y : Rw} {k : ByteArray} {q : Nat} (h : sameP x y.key y.seq) : ahd x k q = ahd y k q := by
  unfold ahd; rw [h.1, h.2]
def SortedR (l : List Rw) : Prop := l.Pairwise fun x y => ahd x y.key y.seq = true
/-- How many rows stand ahead of a place. -/
def plc (l : List Rw) (k : ByteArray) (q : Nat) : Nat := (l.takeWhile fun x => ahd x k q).length
theorem plc_le (l : List Rw) (k : ByteArray) (q : Nat) : plc l k q ≤ l.length := (List.takeWhile_prefix _).length_le
theorem plc_iff : ∀ {l : List Rw}, SortedR l → ∀ {k : ByteArray} {q j : Nat} {x : Rw}, l[j]? = some x → (ahd x k q = true ↔ j < plc l k q)
  | [], _, _, _, _, _, h => by cases h
  | y :: r, hs, k, q, j, x, hx => by
    have hs' := List.pairwise_cons.1 hs
    unfold plc
    rw [List.takeWhile_cons]
    by_cases hy : ahd y k q = true
    · rw [if_pos hy]
      cases j with
      | zero =>
        obtain rfl : y = x := by simpa using hx
        simp [hy]
      | succ j =>
        have := plc_iff hs'.2 (k := k) (q := q) (j := j) (x := x) (by simpa using hx)
        rw [this]; unfold plc; simp
    · rw [if_neg hy]
      have : ahd x k q = false := by
        cases j with
        | zero =>
          obtain rfl : y = x := by simpa using hx
          simpa using hy
        | succ j =>
          have hm : x ∈ r := List.mem_of_getElem? (i := j) (by simpa using hx)
          cases e : ahd x k q with
          | false => rfl
          | true => exact absurd (ahd_trans (hs'.1 x hm) e) hy
      simp [this]
theorem plc_front {l : List Rw} {k : ByteArray} {q : Nat} {x : Rw} (hx : x ∈ l.take (plc l k q)) : ahd x k q = true := by
  have e : l.take (plc l k q) = l.takeWhile fun x => ahd x k q := by
    have := List.prefix_iff_eq_take.1 (List.takeWhile_prefix (l := l) fun x => ahd x k q)
    exact this.symm
  rw [e] at hx
  have : ∀ (l : List Rw), ∀ y ∈ l.takeWhile (fun x => ahd x k q), ahd y k q = true := by
    intro l
    induction l with
    | nil => intro y hy; cases hy
    | cons z r ih =>
      intro y hy
      rw [List.takeWhile_cons] at hy
      split at hy
      · rcases List.mem_cons.1 hy with rfl | h
        · assumption
        · exact ih y h
      · cases hy
  exact this l x hx
theorem plc_back {l : List Rw} (hs : SortedR l) {k : ByteArray} {q : Nat} {x : Rw} (hx : x ∈ l.drop (plc l k q)) : ahd x k q = false := by
  obtain ⟨j, hj⟩ := List.mem_iff_getElem?.1 hx
  rw [List.getElem?_drop] at hj
  have := plc_iff hs (k := k) (q := q) hj
  cases e : ahd x k q with
  | false => rfl
  | true => exact absurd (this.1 e) (by omega)
/-- There is a row of that place. -/
def thr (l : List Rw) (k : ByteArray) (q : Nat) : Bool := match l[plc l k q]? with | some x => decide (x.key.toList = k.toList) && decide (x.seq = q) | none => false
theorem thr_iff {l : List Rw} (hs : SortedR l) {k : ByteArray} {q : Nat} : thr l k q = true ↔ ∃ x ∈ l, sameP x k q := by
  unfold thr
  constructor
  · intro h
    split at h
    · rename_i x hx
      rw [Bool.and_eq_true, decide_eq_true_eq, decide_eq_true_eq] at h
      exact ⟨x, List.mem_of_getElem? hx, h⟩
    · cases h
  · rintro ⟨x, hm, hx⟩
    obtain ⟨j, hj⟩ := List.mem_iff_getElem?.1 hm
    have h1 := plc_iff hs (k := k) (q := q) hj
    rw [ahd_irrefl hx] at h1
    have h2 : plc l k q ≤ j := by
      rcases Nat.lt_or_ge j (plc l k q) with h | h
      · exact absurd (h1.2 h) (by simp)
      · exact h
    have hjl : j < l.length := (List.getElem?_eq_some_iff.1 hj).1
    obtain ⟨y, hy⟩ : ∃ y, l[plc l k q]? = some y := ⟨_, List.getElem?_eq_getElem (by omega)⟩
    rw [hy]
    rcases Nat.eq_or_lt_of_le h2 with e | hlt
    · rw [e, hj] at hy
      cases hy
      simp only [Bool.and_eq_true, decide_eq_true_eq]
      exact hx
    · have h3 : ahd y x.key x.seq = true := by
        have := List.pairwise_iff_getElem.1 hs _ _ (by omega) hjl hlt
        rw [(List.getElem?_eq_some_iff.1 hy).2, (List.getElem?_eq_some_iff.1 hj).2] at this
        exact this
      rw [ahd_same hx] at h3
      exact absurd ((plc_iff hs hy).1 h3) (by omega)
/-- A row put in. -/
def insR (l : List Rw) (x : Rw) : List Rw := l.take (plc l x.key x.seq) ++ x :: l.drop (plc l x.key x.seq)
theorem insR_sorted {l : List Rw} (hs : SortedR l) {x : Rw} (ht : thr l x.key x.seq = false) : SortedR (insR l x) := by
  unfold insR SortedR
  have hsp : SortedR (l.take (plc l x.key x.seq) ++ l.drop (plc l x.key x.seq)) := by rw [List.take_append_drop]; exact hs
  rw [SortedR, List.pairwise_append] at hsp
  rw [List.pairwise_append, List.pairwise_cons]
  refine ⟨hsp.1, ⟨fun y hy => ?_, hsp.2.1⟩, fun a ha b hb => ?_⟩
  · have h1 := plc_back hs hy
    have h2 : ¬ sameP y x.key x.seq := fun e => by
      have := (thr_iff hs (k := x.key) (q := x.seq)).2 ⟨y, List.mem_of_mem_drop hy, e⟩
      rw [ht] at this; cases this
    rcases ahd_total h2 with h | h
    · rw [h1] at h; cases h
    · exact h
  · rcases List.mem_cons.1 hb with rfl | h
    · exact plc_front ha
    · exact hsp.2.2 a ha b h
theorem insR_perm (l : List Rw) (x : Rw) : (insR l x).Perm (x :: l) := by
  unfold insR
  have h : (l.take (plc l x.key x.seq) ++ x :: l.drop (plc l x.key x.seq)).Perm (x :: (l.take (plc l x.key x.seq) ++ l.drop (plc l x.key x.seq))) := List.perm_middle
  rwa [List.take_append_drop] at h
theorem insR_len (l : List Rw) (x : Rw) : (insR l x).length = l.length + 1 := (insR_perm l x).length_eq
/-- Heights: how far one goes at level h, and in how many steps. -/
def hopI (h : Nat) : List Nat → Nat
  | [] => 0
  | x :: r => if hopI h r = 0 then (if h < x then 1 else 0) else hopI h r + 1
theorem hopI_cons (h x : Nat) (r : List Nat) : hopI h (x :: r) = if hopI h r = 0 then (if h < x then 1 else 0) else hopI h r + 1 := rfl
def hopC (h : Nat) (l : List Nat) : Nat := l.countP fun x => decide (h < x)
theorem hop_le (h : Nat) : ∀ l : List Nat, hopC h l ≤ hopI h l ∧ hopI h l ≤ l.length
  | [] => by simp [hopC, hopI]
  | x :: r => by
    obtain ⟨h1, h2⟩ := hop_le h r
    unfold hopC at *
    rw [List.countP_cons]
    rw [hopI_cons]
    simp only [List.length_cons, decide_eq_true_eq]
    by_cases hx : h < x
    · by_cases h0 : hopI h r = 0
      · simp only [hx, h0, if_true]; omega
      · simp only [hx, h0, if_true, if_false]; omega
    · by_cases h0 : hopI h r = 0
      · simp only [hx, h0, if_true, if_false]; omega
      · simp only [hx, h0, if_false]; omega
theorem hop_low (h : Nat) : ∀ l : List Nat, (∀ x ∈ l, x ≤ h) → hopI h l = 0 ∧ hopC h l = 0
  | [], _ => by simp [hopC, hopI]
  | x :: r, hl => by
    obtain ⟨h1, h2⟩ := hop_low h r fun y hy => hl y (List.mem_cons_of_mem _ hy)
    have hx : ¬ h < x := by have := hl x (by simp); omega
    unfold hopC at *
    rw [List.countP_cons]
    rw [hopI_cons]
    simp [h1, h2, hx]
theorem hop_hit (h x : Nat) (r : List Nat) (hx : h < x) : ∀ a : List Nat, (∀ y ∈ a, y ≤ h) → hopI h (a ++ x :: r) = a.length + 1 + hopI h r ∧ hopC h (a ++ x :: r) = 1 + hopC h r
  | [], _ => by
    unfold hopC
    rw [List.nil_append, List.countP_cons]
    rw [hopI_cons]
    simp only [hx, decide_true, if_true, List.length_nil]
    constructor
    · split <;> omega
    · omega
  | y :: a, ha => by
    obtain ⟨h1, h2⟩ := hop_hit h x r hx a fun z hz => ha z (List.mem_cons_of_mem _ hz)
    have hy : ¬ h < y := by have := ha y (by simp); omega
    unfold hopC at *
    rw [List.cons_append, List.countP_cons]
    rw [hopI_cons, h1, h2]
    simp only [hy, decide_false, List.length_cons]
    constructor
    · rw [if_neg (by omega)]; omega
    · simp
theorem hop_snoc (h x : Nat) : ∀ l : List Nat, hopI h (l ++ [x]) = (if h < x then l.length + 1 else hopI h l) ∧ hopC h (l ++ [x]) = hopC h l + (if h < x then 1 else 0)
  | [] => by
    unfold hopC
    by_cases hx : h < x <;> simp [hopI, hx]
  | y :: r => by
    obtain ⟨h1, h2⟩ := hop_snoc h x r
    unfold hopC at *
    rw [List.cons_append, List.countP_cons, List.countP_cons, h2]
    rw [hopI_cons, hopI_cons, h1]
    constructor
    · by_cases hx : h < x
      · simp only [hx, if_true, List.length_cons]; rw [if_neg (by omega)]
      · simp only [hx, if_false]
    · omega
theorem hop_rest (h : Nat) : ∀ l : List Nat, ∀ x ∈ l.drop (hopI h l), x ≤ h
  | [], x, hx => by simp at hx
  | y :: r, x, hx => by
    rw [hopI_cons] at hx
    by_cases h0 : hopI h r = 0
    · have hr := hop_rest h r
      rw [h0, List.drop_zero] at hr
      rw [if_pos h0] at hx
      by_cases hy : h < y
      · rw [if_pos hy, List.drop_succ_cons, List.drop_zero] at hx
        exact hr x hx
      · rw [if_neg hy, List.drop_zero] at hx
        rcases List.mem_cons.1 hx with rfl | hx
        · omega
        · exact hr x hx
    · rw [if_neg h0, List.drop_succ_cons] at hx
      exact hop_rest h r x hx
theorem hop_last (h : Nat) : ∀ l : List Nat, hopI h l ≠ 0 → ∃ x, l[hopI h l - 1]? = some x ∧ h < x
  | [], h0 => absurd rfl h0
  | y :: r, h0 => by
    rw [hopI_cons] at h0 ⊢
    by_cases h1 : hopI h r = 0
    · rw [if_pos h1] at h0 ⊢
      by_cases hy : h < y
      · rw [if_pos hy]; exact ⟨y, by simp, hy⟩
      · rw [if_neg hy] at h0; exact absurd rfl h0
    · rw [if_neg h1]
      obtain ⟨x, hx, hlt⟩ := hop_last h r h1
      refine ⟨x, ?_, hlt⟩
      have : hopI h r + 1 - 1 = (hopI h r - 1) + 1 := by omega
      rw [this, List.getElem?_cons_succ]; exact hx
/-- Behind k levels, from the highest one down: how far, and in how many steps. -/
def dn (hs : List Nat) : Nat → Nat × Nat
  | 0 => (0, 0)
  | k + 1 => ((dn hs k).1 + hopI (11 - k) (hs.drop (dn hs k).1), (dn hs k).2 + hopC (11 - k) (hs.drop (dn hs k).1))
theorem dn_le (hs : List Nat) : ∀ k, (dn hs k).1 ≤ hs.length ∧ (dn hs k).2 ≤ (dn hs k).1
  | 0 => ⟨Nat.zero_le _, Nat.le_refl _⟩
  | k + 1 => by
    obtain ⟨h1, h2⟩ := dn_le hs k
    obtain ⟨h3, h4⟩ := hop_le (11 - k) (hs.drop (dn hs k).1)
    rw [List.length_drop] at h4
    simp only [dn]
    omega
theorem dn_last {hs : List Nat} (hh : ∀ x ∈ hs, x ≤ 12) : ∀ k, k ≤ 12 → ((dn hs k).1 = 0 ∨ ∃ x, hs[(dn hs k).1 - 1]? = some x ∧ 12 - k < x) ∧ ∀ x ∈ hs.drop (dn hs k).1, x ≤ 12 - k
  | 0, _ => ⟨.inl rfl, fun x hx => by have := hh x (List.mem_of_mem_drop hx); omega⟩
  | k + 1, hk => by
    obtain ⟨h1, h2⟩ := dn_last hh k (by omega)
    have e : 12 - (k + 1) = 11 - k := by omega
    rw [e]
    simp only [dn]
    have h3 := hop_rest (11 - k) (hs.drop (dn hs k).1)
    rw [List.drop_drop] at h3
    refine ⟨?_, h3⟩
    by_cases h0 : hopI (11 - k) (hs.drop (dn hs k).1) = 0
    · rw [h0, Nat.add_zero]
      rcases h1 with h | ⟨x, hx, hlt⟩
      · exact .inl h
      · exact .inr ⟨x, hx, by omega⟩
    · obtain ⟨x, hx, hlt⟩ := hop_last _ _ h0
      rw [List.getElem?_drop] at hx
      refine .inr ⟨x, ?_, hlt⟩
      rw [show (dn hs k).1 + hopI (11 - k) (hs.drop (dn hs k).1) - 1 = (dn hs k).1 + (hopI (11 - k) (hs.drop (dn hs k).1) - 1) by omega]
      exact hx
def stp (hs : List Nat) : Nat := (dn hs 12).2
theorem stp_le (hs : List Nat) : stp hs ≤ hs.length := Nat.le_trans (dn_le hs 12).2 (dn_le hs 12).1
theorem stp_one {hs : List Nat} (h : ∀ x ∈ hs, x = 1) : stp hs = hs.length := by
  have low : ∀ k, k ≤ 11 → dn hs k = (0, 0) := by
    intro k
    induction k with
    | zero => intro _; rfl
    | succ k ih =>
      intro hk
      have e := hop_low (11 - k) hs fun x hx => by have := h x hx; omega
      simp [dn, ih (by omega), e.1, e.2]
  have : hopC 0 hs = hs.length := by
    unfold hopC
    rw [List.countP_eq_length]
    intro x hx
    rw [h x hx]; simp
  unfold stp
  show (dn hs 11).2 + hopC (11 - 11) (hs.drop (dn hs 11).1) = _
  rw [low 11 (by omega)]
  simp [this]
/-- A height as it counts. -/
def hgtOf (h : Int) : Nat := if h < 1 then 1 else if 12 < h then 12 else h.toNat
theorem hgtOf_range (h : Int) : 1 ≤ hgtOf h ∧ hgtOf h ≤ 12 := by unfold hgtOf; split <;> (try split) <;> omega
/-- The greatest of heights. -/
def topH (hs : List Nat) : Nat := hs.foldl max 0
theorem foldl_max : ∀ (hs : List Nat) (a : Nat), hs.foldl max a = max a (topH hs)
  | [], a => by simp [topH]
  | x :: r, a => by unfold topH; rw [List.foldl_cons, List.foldl_cons, foldl_max r, foldl_max r (max 0 x)]; omega
theorem topH_cons (x : Nat) (r : List Nat) : topH (x :: r) = max x (topH r) := by
  show (x :: r).foldl max 0 = _
  rw [List.foldl_cons, foldl_max]; omega
theorem topH_app (a b : List Nat) : topH (a ++ b) = max (topH a) (topH b) := by
  show (a ++ b).foldl max 0 = _
  rw [List.foldl_append, foldl_max]; rfl
theorem topH_le {hs : List Nat} (h : ∀ x ∈ hs, x ≤ 12) : topH hs ≤ 12 := by
  induction hs with
  | nil => simp [topH]
  | cons x r ih =>
    rw [topH_cons]
    have := h x (by simp)
    have := ih fun y hy => h y (List.mem_cons_of_mem _ hy)
    omega
/-- A list: rows in order, each with its height. -/
abbrev SL := List (Rw × Nat)
def rowsL (l : SL) : List Rw := l.map (·.1)
def hgtsL (l : SL) : List Nat := l.map (·.2)
def plL (l : SL) (k : ByteArray) (q : Nat) : Nat := plc (rowsL l) k q
def insL (l : SL) (x : Rw) (h : Nat) : SL := l.take (plL l x.key x.seq) ++ (x, h) :: l.drop (plL l x.key x.seq)
def thrL (l : SL) (k : ByteArray) (q : Nat) : Bool := thr (rowsL l) k q
def putL (l : SL) (x : Rw) (h : Nat) : SL := if thrL l x.key x.seq = true then l else insL l x h
def stepsL (l : SL) (k : ByteArray) (q : Nat) : Nat := stp ((hgtsL l).take (plL l k q))
theorem rows_insL (l : SL) (x : Rw) (h : Nat) : rowsL (insL l x h) = insR (rowsL l) x := by
  unfold insL insR plL rowsL
  rw [List.map_append, List.map_cons, List.map_take, List.map_drop]
theorem hgts_insL (l : SL) (x : Rw) (h : Nat) : hgtsL (insL l x h) = (hgtsL l).take (plL l x.key x.seq) ++ h :: (hgtsL l).drop (plL l x.key x.seq) := by
  unfold insL hgtsL
  rw [List.map_append, List.map_cons, List.map_take, List.map_drop]
theorem top_insL (l : SL) (x : Rw) (h : Nat) : topH (hgtsL (insL l x h)) = max (topH (hgtsL l)) h := by
  rw [hgts_insL, topH_app, topH_cons]
  have e : topH (hgtsL l) = max (topH ((hgtsL l).take (plL l x.key x.seq))) (topH ((hgtsL l).drop (plL l x.key x.seq))) := by
    rw [← topH_app, List.take_append_drop]
  rw [e]; omega
theorem rows_len (l : SL) : (rowsL l).length = l.length := by unfold rowsL; simp
theorem hgts_len (l : SL) : (hgtsL l).length = l.length := by unfold hgtsL; simp
end Go.Proofs.Ytdgbafpnfkedeaa
/-
  How a skip list lies in memory: its start, its nodes, the links of each level. No condition.
-/
namespace Go.Proofs.Ytdgbafpnfkedeaa
set_option maxRecDepth 100000
open Go.RowKit
/-- A node: its row, its height, the block it lies in. -/
structure Nd where
  row : Rw
  hgt : Nat
  blk : Nat
/-- The first of some nodes that is higher than h. -/
def nxt (h : Nat) : List Nd → Option Addr
  | [] => none
  | x :: r => if h < x.hgt then some ⟨x.blk, 0, none⟩ else nxt h r
theorem nxt_hit {h : Nat} {x : Nd} (hx : h < x.hgt) (r : List Nd) : nxt h (x :: r) = some ⟨x.blk, 0, none⟩ := by unfold nxt; rw [if_pos hx]
theorem nxt_low {h : Nat} : ∀ {a : List Nd}, (∀ x ∈ a, x.hgt ≤ h) → ∀ r, nxt h (a ++ r) = nxt h r
  | [], _, _ => rfl
  | x :: a, ha, r => by
    show (if h < x.hgt then some ⟨x.blk, 0, none⟩ else nxt h (a ++ r)) = _
    rw [if_neg (by have := ha x (by simp); omega)]
    exact nxt_low (fun y hy => ha y (List.mem_cons_of_mem _ hy)) r
theorem nxt_none {h : Nat} {a : List Nd} (ha : ∀ x ∈ a, x.hgt ≤ h) : nxt h a = none := by
  have := nxt_low ha []
  rwa [List.append_nil] at this
theorem nd_split (h : Nat) : ∀ l : List Nd, (∀ x ∈ l, x.hgt ≤ h) ∨ ∃ a x r, l = a ++ x :: r ∧ (∀ y ∈ a, y.hgt ≤ h) ∧ h < x.hgt
  | [] => .inl (by simp)
  | x :: r => by
    by_cases hx : h < x.hgt
    · exact .inr ⟨[], x, r, rfl, by simp, hx⟩
    · rcases nd_split h r with h1 | ⟨a, y, r', rfl, h2, h3⟩
      · exact .inl fun y hy => by
          rcases List.mem_cons.1 hy with rfl | hy
          · omega
          · exact h1 y hy
      · refine .inr ⟨x :: a, y, r', rfl, fun z hz => ?_, h3⟩
        rcases List.mem_cons.1 hz with rfl | hz
        · omega
        · exact h2 z hz
/-- Where the link of level h lies behind some nodes. -/
def lnk (p : Nat) (pre : List Nd) (h : Nat) : Addr := match pre.getLast? with | none => ⟨p, h, none⟩ | some x => ⟨x.blk, 4 + h, none⟩
theorem lnk_nil (p h : Nat) : lnk p [] h = ⟨p, h, none⟩ := rfl
theorem lnk_snoc (p h : Nat) (a : List Nd) (x : Nd) : lnk p (a ++ [x]) h = ⟨x.blk, 4 + h, none⟩ := by unfold lnk; simp
theorem lnk_form (p : Nat) (pre : List Nd) : ∃ b o, (∀ h, lnk p pre h = ⟨b, o + h, none⟩) ∧ lnk p pre 0 = ⟨b, o, none⟩ := by
  unfold lnk
  cases pre.getLast? with
  | none => exact ⟨p, 0, fun h => by simp, rfl⟩
  | some x => exact ⟨x.blk, 4, fun h => rfl, rfl⟩
/-- The last of them is higher than h, or there is none. -/
def High (h : Nat) (pre : List Nd) : Prop := pre = [] ∨ ∃ a x, pre = a ++ [x] ∧ h < x.hgt
def rowsN (ns : List Nd) : List Rw := ns.map (·.row)
def hgtsN (ns : List Nd) : List Nat := ns.map (·.hgt)
/-- A block of cells of that type. -/
def Typed (w : World) (b : Nat) (T : TypeId) : Prop := ∃ cs, w.heap[b]? = some (.cells cs T (0, 0))
theorem Typed.keep {w w' : World} {b : Nat} {T : TypeId} (h : Typed w b T) (e : w'.heap[b]? = w.heap[b]?) : Typed w' b T := by
  obtain ⟨cs, hc⟩ := h
  exact ⟨cs, e.trans hc⟩
theorem Typed.set {w : World} {b : Nat} {T : TypeId} (h : Typed w b T) (g i : Nat) (v : Value) : Typed (w.setCell ⟨g, i, none⟩ v) b T := by
  obtain ⟨cs, hc⟩ := h
  by_cases e : b = g
  · subst e; exact ⟨_, heap_setCell_same _ _ _ _ _ _ hc⟩
  · exact ⟨cs, (heap_setCell_other _ _ _ _ e).trans hc⟩
/-- The list in block p is these nodes. -/
structure SkA (p : Nat) (ns : List Nd) (w : World) : Prop where
  sort : SortedR (rowsN ns)
  hgt : ∀ x ∈ ns, 1 ≤ x.hgt ∧ x.hgt ≤ 12
  small : ∀ x ∈ ns, x.row.key.size ≤ 281474976710656 ∧ x.row.val.size ≤ 281474976710656 ∧ x.row.seq ≤ 18446744073709551615
  nodup : (ns.map (·.blk)).Nodup
  apart : ∀ x ∈ ns, x.blk ≠ p
  first : ∀ h, h < 12 → w.cell? ⟨p, h, none⟩ = some (.pointer (nxt h ns))
  many : w.cell? ⟨p, 12, none⟩ = some (.int .i64 (ns.length : Int))
  top : w.cell? ⟨p, 13, none⟩ = some (.int .i64 (topH (hgtsN ns) : Int))
  frz : ∀ o, w.frozen? ⟨p, o, none⟩ = false
  node : ∀ x ∈ ns, w.cell? ⟨x.blk, 0, none⟩ = some (.string x.row.key) ∧ w.cell? ⟨x.blk, 1, none⟩ = some (.int .u64 (x.row.seq : Int)) ∧ w.cell? ⟨x.blk, 2, none⟩ = some (.int .i64 x.row.kind) ∧ w.cell? ⟨x.blk, 3, none⟩ = some (.string x.row.val)
  link : ∀ a x r, ns = a ++ x :: r → ∀ h, h < x.hgt → w.cell? ⟨x.blk, 4 + h, none⟩ = some (.pointer (nxt h r))
  nfrz : ∀ x ∈ ns, ∀ o, w.frozen? ⟨x.blk, o, none⟩ = false
  typ : Typed w p 71
  ntyp : ∀ x ∈ ns, Typed w x.blk 97
theorem SkA.lt {p : Nat} {ns : List Nd} {w : World} (h : SkA p ns w) : p < w.heap.size := World.block_lt_of_cell? _ _ h.many
theorem SkA.nlt {p : Nat} {ns : List Nd} {w : World} (h : SkA p ns w) {x : Nd} (hx : x ∈ ns) : x.blk < w.heap.size := World.block_lt_of_cell? _ _ (h.node x hx).1
theorem cell_keep {w w' : World} {b : Nat} (h : w'.heap[b]? = w.heap[b]?) (o : Nat) : w'.cell? ⟨b, o, none⟩ = w.cell? ⟨b, o, none⟩ := by unfold World.cell?; rw [h]
theorem frozen_keep {w w' : World} {b : Nat} (h : w'.heap[b]? = w.heap[b]?) (o : Nat) : w'.frozen? ⟨b, o, none⟩ = w.frozen? ⟨b, o, none⟩ := by unfold World.frozen?; rw [h]
theorem SkA.keep {p : Nat} {ns : List Nd} {w w' : World} (h : SkA p ns w) (hp : w'.heap[p]? = w.heap[p]?) (hn : ∀ x ∈ ns, w'.heap[x.blk]? = w.heap[x.blk]?) : SkA p ns w' where
  sort := h.sort
  hgt := h.hgt
  small := h.small
  nodup := h.nodup
  apart := h.apart
  first := fun l hl => (cell_keep hp l).trans (h.first l hl)
  many := (cell_keep hp 12).trans h.many
  top := (cell_keep hp 13).trans h.top
  frz := fun o => (frozen_keep hp o).trans (h.frz o)
  node := fun x hx => by
    have e := cell_keep (hn x hx)
    rw [e, e, e, e]; exact h.node x hx
  link := fun a x r e l hl => (cell_keep (hn x (by rw [e]; simp)) _).trans (h.link a x r e l hl)
  nfrz := fun x hx o => (frozen_keep (hn x hx) o).trans (h.nfrz x hx o)
  typ := h.typ.keep hp
  ntyp := fun x hx => (h.ntyp x hx).keep (hn x hx)
theorem SkA.below {p B : Nat} {ns : List Nd} {w w' : World} (h : SkA p ns w) (hb : Below B w w') (hB : ∀ b, (b = p ∨ ∃ x ∈ ns, b = x.blk) → b < B) : SkA p ns w' :=
  h.keep (hb.block p (hB p (.inl rfl))) fun x hx => hb.block _ (hB _ (.inr ⟨x, hx, rfl⟩))
theorem SkA.grow {p : Nat} {ns : List Nd} {w w' : World} (h : SkA p ns w) (hb : Below w.heap.size w w') : SkA p ns w' :=
  h.below hb fun b hb' => by rcases hb' with rfl | ⟨x, hx, rfl⟩; exact h.lt; exact h.nlt hx
/-- The link behind some first nodes. -/
theorem SkA.at {p : Nat} {ns pre rest : List Nd} {w : World} (h : SkA p ns w) (e : ns = pre ++ rest) {l : Nat} (hl : l < 12) (hh : High l pre) : w.cell? (lnk p pre l) = some (.pointer (nxt l rest)) := by
  rcases hh with rfl | ⟨a, x, rfl, hx⟩
  · rw [lnk_nil]
    rw [List.nil_append] at e
    rw [← e]; exact h.first l hl
  · rw [lnk_snoc]
    exact h.link a x rest (by rw [e]; simp) l hx
/-- The nodes ahead of a place, and the others. -/
def plN (ns : List Nd) (k : ByteArray) (q : Nat) : Nat := plc (rowsN ns) k q
theorem front_ahd {ns : List Nd} {k : ByteArray} {q : Nat} {x : Nd} (hx : x ∈ ns.take (plN ns k q)) : ahd x.row k q = true := by
  refine plc_front (l := rowsN ns) ?_
  unfold rowsN
  rw [← List.map_take]
  exact List.mem_map.2 ⟨x, hx, rfl⟩
theorem back_ahd {ns : List Nd} (hs : SortedR (rowsN ns)) {k : ByteArray} {q : Nat} {x : Nd} (hx : x ∈ ns.drop (plN ns k q)) : ahd x.row k q = false := by
  refine plc_back (l := rowsN ns) hs ?_
  unfold rowsN
  rw [← List.map_drop]
  exact List.mem_map.2 ⟨x, hx, rfl⟩
theorem plN_le (ns : List Nd) (k : ByteArray) (q : Nat) : plN ns k q ≤ ns.length := by
  have := plc_le (rowsN ns) k q
  unfold rowsN at this
  rwa [List.length_map] at this
theorem eq_node (q : Option Addr) (w : World) : (binOp .eql 67 (.pointer q) (.pointer none)).run Try.prog w = .ok (.bool q.isNone) w := run_eql_pointer_nil _ _ _ (by kernel_rfl)
theorem ne_node (q : Option Addr) (w : World) : (binOp .neq 67 (.pointer q) (.pointer none)).run Try.prog w = .ok (.bool (!q.isNone)) w := run_neq_pointer_nil _ _ _ (by kernel_rfl)
theorem eq_list (q : Option Addr) (w : World) : (binOp .eql 52 (.pointer q) (.pointer none)).run Try.prog w = .ok (.bool q.isNone) w := run_eql_pointer_nil _ _ _ (by kernel_rfl)
end Go.Proofs.Ytdgbafpnfkedeaa
