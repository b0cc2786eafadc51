/-
  The contracts of the document's Same, SameRows and Next. No condition.
-/
import Derived.Test.YtdgbafpnfkedeaaPack4
import Derived.Handy
import Derived.Laws.EntriesVeiled
import Derived.Deep.QuietTactic
import Derived.BigQuiet
import Derived.Deep.Cut
import Derived.Deep.DeepCutAuto
import Derived.Deep.AppendLies
import Derived.Laws.OwnMore
import Derived.Deep.Upon
import Derived.Laws.Slices
import Derived.StillTailTactics
import Derived.Deep.DrawnRows
import Derived.Deep.RegionHeldLaw
namespace Go.Proofs.Ytdgbafpnfkedeaa
set_option maxRecDepth 100000
open Go.RowKit
/-- Two boxed arguments. -/
theorem box_two (w : World) (s1 s2 : Nat) (v1 v2 : Value) :
    Below w.heap.size w ((w.alloc (.cells #[.int .u64 (s1 : Int), v1] 31)).alloc (.cells #[.int .u64 (s2 : Int), v2] 31)) ∧
    ((w.alloc (.cells #[.int .u64 (s1 : Int), v1] 31)).alloc (.cells #[.int .u64 (s2 : Int), v2] 31)).heap[w.heap.size]? = some (.cells #[.int .u64 (s1 : Int), v1] 31 (0, 0)) ∧
    ((w.alloc (.cells #[.int .u64 (s1 : Int), v1] 31)).alloc (.cells #[.int .u64 (s2 : Int), v2] 31)).heap[w.heap.size + 1]? = some (.cells #[.int .u64 (s2 : Int), v2] 31 (0, 0)) := by
  refine ⟨(below_alloc _ _).alloc (by simp) _, (Lib.alloc_old _ _ _ (by simp)).trans (heap_alloc_new _ _), ?_⟩
  have := heap_alloc_new (w.alloc (.cells #[.int .u64 (s1 : Int), v1] 31)) (.cells #[.int .u64 (s2 : Int), v2] 31)
  simpa using this
theorem pair_cells {v : World} {N : Nat} {x0 x1 : Value} {T : TypeId} (h : v.heap[N]? = some (.cells #[x0, x1] T (0, 0))) : v.cell? ⟨N, 0, none⟩ = some x0 ∧ v.cell? ⟨N, 1, none⟩ = some x1 :=
  ⟨by simp [World.cell?, h], by simp [World.cell?, h]⟩
open Classical in
set_option maxRecDepth 100000 in
set_option maxHeartbeats 4000000 in
theorem refsame_any {s1 s2 : Nat} {p1 p2 : Option Addr} {n1 c1 b1 o1 n2 c2 b2 o2 : Nat} {l1 l2 : List Wr} {w : World} (h1 : Ws p1 n1 c1 b1 o1 l1 w) (h2 : Ws p2 n2 c2 b2 o2 l2 w) :
    Calls Try.prog 13 #[batchV s1 p1 n1 c1, batchV s2 p2 n2 c2] w fun e w' => e = .returned (.bool (decide (s1 = s2 ∧ l1 = l2))) ∧ Below w.heap.size w w' := by
  obtain ⟨K, E0, E1⟩ := box_two w s1 s2 (.slice p1 n1 c1) (.slice p2 n2 c2)
  have m1 := h1.most
  have m2 := h2.most
  have q1 := h1.cap
  have q2 := h2.cap
  obtain ⟨x0, x1⟩ := pair_cells E0
  obtain ⟨y0, y1⟩ := pair_cells E1
  have K := Lib.hid K
  by_cases hs : s1 = s2
  · subst hs
    have g1 : (((s1 : Nat) : Int) != ((s1 : Nat) : Int)) = false := by rw [bne_eq_false_iff_eq]
    have hd : decide (s1 = s1 ∧ l1 = l2) = decide (l1 = l2) := by congr 1; simp
    rw [hd]
    by_cases hn : n1 = n2
    · subst hn
      have g2 : (((n1 : Nat) : Int) != ((n1 : Nat) : Int)) = false := by rw [bne_eq_false_iff_eq]
      obtain ⟨R, hR⟩ := named (decide (l1 = l2))
      rw [← hR.out]
      have e1 := Lib.hid h1.len
      have e2 := Lib.hid h2.len
      have h1 := Lib.hid h1
      have h2 := Lib.hid h2
      have E0 := Lib.hid E0
      have E1 := Lib.hid E1
      go_enter Try.func13, Try.ntmps13
      go_wp2_with fail
      generalize (w.alloc (.cells #[.int .u64 (s1 : Int), .slice p1 n1 c1] 31)).alloc (.cells #[.int .u64 (s1 : Int), .slice p2 n1 c2] 31) = V0 at *
      clear x0 x1 y0 y1
      go_loopw [5] (fun i wr => ∃ j : Nat, j ≤ n1 ∧ i = .int .i64 (j : Int) ∧ l1.take j = l2.take j ∧ Below w.heap.size w wr ∧ wr.heap[w.heap.size]? = some (.cells #[.int .u64 (s1 : Int), .slice p1 n1 c1] 31 (0, 0)) ∧ wr.heap[w.heap.size + 1]? = some (.cells #[.int .u64 (s1 : Int), .slice p2 n1 c2] 31 (0, 0))) (fun i _ => n1 - (intOf i).toNat)
      case atStart => exact ⟨0, Nat.zero_le _, rfl, rfl, K.out, E0.out, E1.out⟩
      case round =>
        clear K E0 E1
        obtain ⟨j, hj, rfl, ht, hb, E0, E1⟩ := hrel
        obtain ⟨x0, x1⟩ := pair_cells E0
        obtain ⟨y0, y1⟩ := pair_cells E1
        have E0 := Lib.hid E0
        have E1 := Lib.hid E1
        by_cases hlt : j < n1
        · obtain ⟨x, hx, rfl, a0, a1, a2⟩ := (h1.out.below hb (Nat.le_refl _)).at3 hlt
          obtain ⟨y, hy, rfl, d0, d1, d2⟩ := (h2.out.below hb (Nat.le_refl _)).at3 hlt
          obtain ⟨xk, xs, xv⟩ := x
          obtain ⟨yk, ys, yv⟩ := y
          simp only at a0 a1 a2 d0 d1 d2
          have hx := Lib.hid hx
          have hy := Lib.hid hy
          have ht := Lib.hid ht
          have hb := Lib.hid hb
          by_cases hxy : (⟨xk, xs, xv⟩ : Wr) = ⟨yk, ys, yv⟩
          · have NEQ : ∀ u : World, (binOp .neq 41 (.agg #[.int .i64 xk, .string xs, .string xv]) (.agg #[.int .i64 yk, .string ys, .string yv])).run Try.prog u = .ok (.bool false) u := fun u => neq_wr _ _ _ _ _ _ _ (by simp [hxy]) u
            have ht2 : Hid (l1.take (j + 1) = l2.take (j + 1)) := Lib.hid (by rw [List.take_add_one, List.take_add_one, ht.out, hx.out, hy.out, hxy])
            clear hxy ht
            go_upto_region 6 with fail
            go_quiet (fail)
            go_wp2_with fail
            go_roundw
            case rel => exact ⟨j + 1, by omega, by go_num, ht2.out, below_drewN hb.out, E0.out, E1.out⟩
            case measure => simp [intOf]; omega
          · have NEQ : ∀ u : World, (binOp .neq 41 (.agg #[.int .i64 xk, .string xs, .string xv]) (.agg #[.int .i64 yk, .string ys, .string yv])).run Try.prog u = .ok (.bool true) u := fun u => neq_wr _ _ _ _ _ _ _ (by simpa using hxy) u
            have hR0 : R = false := by
              rw [hR.out, decide_eq_false_iff_not]
              intro e
              have h1 := hx.out
              rw [e, hy.out] at h1
              exact hxy (Option.some.inj h1).symm
            subst hR0
            clear hxy ht
            go_upto_region 6 with fail
            go_quiet (fail)
            go_wp2_with fail
            go_returns
            exact ⟨rfl, below_drewN hb.out⟩
        · have hjn : j = n1 := by omega
          subst hjn
          have hR1 : R = true := by
            rw [hR.out, decide_eq_true_eq]
            rw [← e1.out, List.take_length] at ht
            rw [ht, e1.out, ← e2.out, List.take_length]
          subst hR1
          go_wp2_with fail
          go_returns
          exact ⟨rfl, hb⟩
    · have hR : decide (l1 = l2) = false := by
        rw [decide_eq_false_iff_not]
        intro e
        rw [e] at h1
        exact hn (h1.len.symm.trans h2.len)
      rw [hR]
      have g2 : (((n1 : Nat) : Int) != ((n2 : Nat) : Int)) = true := by rw [bne_iff_ne]; omega
      clear h1 h2 E0 E1 hR hd
      go_enter Try.func13, Try.ntmps13
      go_wp2_with fail
      go_returns
      exact ⟨rfl, K.out⟩
  · have hd : decide (s1 = s2 ∧ l1 = l2) = false := by rw [decide_eq_false_iff_not]; exact fun h => hs h.1
    rw [hd]
    have g1 : (((s1 : Nat) : Int) != ((s2 : Nat) : Int)) = true := by rw [bne_iff_ne]; omega
    clear h1 h2 hd E0 E1
    go_enter Try.func13, Try.ntmps13
    go_wp2_with fail
    go_returns
    exact ⟨rfl, K.out⟩
set_option maxRecDepth 100000 in
set_option maxHeartbeats 2000000 in
theorem refnext_any {seq : Nat} {a : Option Addr} {n c b o : Nat} {l : List Wr} {w : World} (h : Ws a n c b o l w) :
    Calls Try.prog 22 #[batchV seq a n c] w fun e w' => e = .returned (.int .u64 (nextB seq l : Int)) ∧ Below w.heap.size w w' := by
  obtain ⟨c0, c1⟩ := box_batch w seq (.slice a n c)
  have K := Lib.hid (below_alloc w (.cells #[.int .u64 (seq : Int), .slice a n c] 31))
  have C := Lib.hid (refcheck_any (seq := seq) (h.below K.out (Nat.le_refl _)))
  have hlen := h.len
  obtain ⟨R, hR⟩ := named (chkB seq l)
  by_cases q : R = 0
  · have hc : chkB seq l = 0 := by rw [← hR.out]; exact q
    obtain ⟨_, k1, k2, k3, _⟩ := chkB_ok hc
    have hn : nextB seq l = seq + n := by unfold nextB; rw [if_pos hc, hlen]
    rw [hc] at C
    rw [hn]
    have w1' : IntKind.u64.wrap (n : Int) = (n : Int) := wrap_u64_nat (by omega)
    have w2' : IntKind.u64.wrap ((seq : Int) + (n : Int)) = ((seq + n : Nat) : Int) := by have := wrap_u64_nat (n := seq + n) (by omega); rw [← this]; congr 1
    have hW : (w.alloc (.cells #[.int .u64 (seq : Int), .slice a n c] 31)).heap.size = w.heap.size + 1 := by simp
    clear h hlen hR hc hn q
    go_enter Try.func22, Try.ntmps22
    go_wp2_with fail
    refine C.out.mono ?_
    rintro e w1 ⟨rfl, hb1⟩
    have y0 := (hb1.cell (p := ⟨w.heap.size, 0, none⟩) (by simp)).trans c0
    have y1 := (hb1.cell (p := ⟨w.heap.size, 1, none⟩) (by simp)).trans c1
    have hb := Lib.hid (K.out.trans (hb1.mono K.out.size))
    clear C hb1 K c0 c1 hW
    go_wp2_with fail
    go_returns
    exact ⟨rfl, hb.out⟩
  · have hn : nextB seq l = 0 := by unfold nextB; rw [if_neg (by rw [← hR.out]; exact q)]
    rw [← hR.out] at C
    rw [hn]
    have hcb : (R != 0) = true := by simpa using q
    clear h hlen hR hn q
    go_enter Try.func22, Try.ntmps22
    go_wp2_with fail
    refine C.out.mono ?_
    rintro e w1 ⟨rfl, hb1⟩
    have hb := Lib.hid (K.out.trans (hb1.mono K.out.size))
    clear C hb1 K
    go_wp2_with fail
    go_returns
    exact ⟨rfl, hb.out⟩
end Go.Proofs.Ytdgbafpnfkedeaa
/-
  What Decode calls: decodeHead, kindOf, decodePut, decodeDelete, decodeNone. Condition: a text within reach.
-/
namespace Go.Proofs.Ytdgbafpnfkedeaa
set_option maxRecDepth 100000
open Go.RowKit
theorem drop_list (s : ByteArray) (k : Nat) : (s.extract k s.size).data.toList = s.data.toList.drop k := by
  rw [ByteArray.data_extract, Array.toList_extract, List.extract_eq_take_drop, List.take_of_length_le (by rw [List.length_drop, size_list]; omega)]
theorem drop_size (s : ByteArray) (k : Nat) : (s.extract k s.size).size = s.size - k := by
  rw [← size_list, drop_list, List.length_drop, size_list]
/-- What the head tells: a number, how many writes, the rest. -/
def headBad (l : List UInt8) : Prop := (Code.rd 0 l).2.2 ≠ 0 ∨ (Code.rd 0 (l.drop (Code.rd 0 l).2.1)).2.2 ≠ 0 ∨ 64 < (Code.rd 0 (l.drop (Code.rd 0 l).2.1)).1
/-- What decoding a write of the kind k gives. -/
def Decoded (k : UInt8) (s : ByteArray) (w : World) (e : Ending) (w' : World) : Prop :=
  ((decW (k :: s.data.toList) = none ∧ ∃ x : Int, x ≠ 0 ∧ e = .returned (.tuple #[.agg #[.int .i64 0, .string ⟨#[]⟩, .string ⟨#[]⟩], .int .i64 0, .int .i64 x])) ∨
    ∃ y n, decW (k :: s.data.toList) = some (y, 1 + n) ∧ n ≤ s.size ∧ e = .returned (.tuple #[.agg #[.int .i64 y.kind, .string y.key, .string y.val], .int .i64 (n : Int), .int .i64 0])) ∧ Below w.heap.size w w'
theorem field_size (l : List UInt8) (x : Int) : (Code.rdField l x).2.1 ≤ l.length := by
  rcases Code.rdField_err l x with h | ⟨_, _, h⟩
  · exact (Code.put_field l x h).2.1
  · omega
/-- A result of three cells that was stored. -/
theorem res3 {v : World} {N : Nat} {y0 y1 y2 : Value} {T : TypeId} (h : v.heap[N]? = some (.cells #[y0, y1, y2] T (0, 0))) (x0 x1 x2 : Value) :
    (((v.setCell ⟨N, 0, none⟩ x0).setCell ⟨N, 1, none⟩ x1).setCell ⟨N, 2, none⟩ x2).heap[N]? = some (.cells #[x0, x1, x2] T (0, 0)) :=
  (heap_setCell_same _ _ _ _ _ _ ((heap_setCell_same _ _ _ _ _ _ ((heap_setCell_same _ _ _ _ _ _ h).trans rfl)).trans rfl)).trans rfl
theorem below3c {w v : World} {N : Nat} (h : Below w.heap.size w v) (hN : w.heap.size ≤ N) (x0 x1 x2 : Value) : Below w.heap.size w (((v.setCell ⟨N, 0, none⟩ x0).setCell ⟨N, 1, none⟩ x1).setCell ⟨N, 2, none⟩ x2) :=
  ((h.setCell (p := ⟨N, 0, none⟩) hN _).setCell (p := ⟨N, 1, none⟩) hN _).setCell (p := ⟨N, 2, none⟩) hN _
theorem cell3 {v : World} {N : Nat} {x0 x1 x2 : Value} {T : TypeId} (h : v.heap[N]? = some (.cells #[x0, x1, x2] T (0, 0))) : v.cell? ⟨N, 0, none⟩ = some x0 ∧ v.cell? ⟨N, 1, none⟩ = some x1 ∧ v.cell? ⟨N, 2, none⟩ = some x2 ∧ ∀ j, v.frozen? ⟨N, j, none⟩ = false := by
  refine ⟨by simp [World.cell?, h], by simp [World.cell?, h], by simp [World.cell?, h], fun j => by simp [World.frozen?, h]⟩
abbrev wrV (k : Int) (a b : ByteArray) : Value := .agg #[.int .i64 k, .string a, .string b]
end Go.Proofs.Ytdgbafpnfkedeaa
/-
  The contract of Decode. Condition: a text within reach.
-/
namespace Go.Proofs.Ytdgbafpnfkedeaa
set_option maxRecDepth 100000
open Go.RowKit
/-- Writes as cells. -/
def rowW (l : List Wr) : List Value := l.flatMap fun x => [.int .i64 x.kind, .string x.key, .string x.val]
theorem rowW_len (l : List Wr) : (rowW l).length = l.length * 3 := by
  induction l with
  | nil => rfl
  | cons x r ih => show ([_, _, _] ++ rowW r).length = _; rw [List.length_append, ih]; simp; omega
theorem rowW_snoc (l : List Wr) (x : Wr) : rowW (l ++ [x]) = rowW l ++ [.int .i64 x.kind, .string x.key, .string x.val] := by simp [rowW]
theorem rowW_at : ∀ (l : List Wr) (j : Nat) {x : Wr}, l[j]? = some x → (rowW l)[j * 3]? = some (.int .i64 x.kind) ∧ (rowW l)[j * 3 + 1]? = some (.string x.key) ∧ (rowW l)[j * 3 + 2]? = some (.string x.val)
  | [], _, _, h => by cases h
  | y :: r, 0, x, h => by
    obtain rfl : y = x := by simpa using h
    exact ⟨rfl, rfl, rfl⟩
  | y :: r, j + 1, x, h => by
    obtain ⟨h1, h2, h3⟩ := rowW_at r j (x := x) (by simpa using h)
    refine ⟨?_, ?_, ?_⟩
    · show (_ :: _ :: _ :: rowW r)[(j + 1) * 3]? = _
      rw [show (j + 1) * 3 = j * 3 + 1 + 1 + 1 by omega]; simpa using h1
    · show (_ :: _ :: _ :: rowW r)[(j + 1) * 3 + 1]? = _
      rw [show (j + 1) * 3 + 1 = j * 3 + 1 + 1 + 1 + 1 by omega]; simpa using h2
    · show (_ :: _ :: _ :: rowW r)[(j + 1) * 3 + 2]? = _
      rw [show (j + 1) * 3 + 2 = j * 3 + 2 + 1 + 1 + 1 by omega]; simpa using h3
/-- An own row of writes is a slice of writes. -/
theorem ws_of_row {w : World} {B : Nat} {v : Value} {l : List Wr} (h : w.ownsRow B 41 3 v l.length (rowW l)) (hf : ∀ x ∈ l, x.key.size ≤ reachBytes ∧ x.val.size ≤ reachBytes) : ∃ a c b, v = .slice a l.length c ∧ Ws a l.length c b 0 l w ∧ (0 < l.length → B ≤ b) := by
  rcases h.2 with ⟨rfl, hz⟩ | ⟨g, cap, cur, rfl, hg, hb, hn, hm, hs, ht⟩
  · have : l = [] := List.length_eq_zero_iff.1 hz
    subst this
    exact ⟨none, 0, 0, rfl, ⟨rfl, Nat.le_refl _, by omega, fun h => absurd h (by simp), WrsAt.nil _ _ _, hf⟩, fun h => absurd h (by simp)⟩
  · refine ⟨_, _, g, rfl, ⟨rfl, hn, hm, fun _ => ⟨rfl, (Array.getElem?_eq_some_iff.1 hb).1⟩, fun j x hx => ?_, hf⟩, fun _ => hg⟩
    have hj : j < l.length := (List.getElem?_eq_some_iff.1 hx).1
    obtain ⟨e0, e1, e2⟩ := rowW_at l j hx
    rw [Nat.zero_add]
    exact ⟨(World.ownsRow.cellAt h _ (by omega)).trans e0, (World.ownsRow.cellAt h _ (by omega)).trans e1, (World.ownsRow.cellAt h _ (by omega)).trans e2⟩
theorem index_byte (s : ByteArray) (n : Nat) (c : UInt8) (h : s.data.toList[n]? = some c) (u : World) :
    (Instr.index 9 (.string s) (.int .i64 (n : Int))).run Try.prog u = .ok (.int .u8 (c.toNat : Int)) u := by
  have hl : n < s.data.toList.length := (List.getElem?_eq_some_iff.1 h).1
  rw [size_list] at hl
  rw [run_index_string u 9 s .i64 _ Try.underlying9, dif_pos ⟨by omega, by omega⟩]
  have e : ∀ h', s[(n : Int).toNat]'h' = c := fun h' => by
    have h3 : s.data.toList[n]? = some s[n] := Lib.data_getElem? s n (by omega)
    exact Option.some.inj (h3.symm.trans h)
  rw [e]
theorem res2 {v : World} {N : Nat} {y0 y1 : Value} {T : TypeId} (h : v.heap[N]? = some (.cells #[y0, y1] T (0, 0))) (x0 x1 : Value) :
    ((v.setCell ⟨N, 0, none⟩ x0).setCell ⟨N, 1, none⟩ x1).heap[N]? = some (.cells #[x0, x1] T (0, 0)) :=
  (heap_setCell_same _ _ _ _ _ _ ((heap_setCell_same _ _ _ _ _ _ h).trans rfl)).trans rfl
theorem below2c {w v : World} {N : Nat} (h : Below w.heap.size w v) (hN : w.heap.size ≤ N) (x0 x1 : Value) : Below w.heap.size w ((v.setCell ⟨N, 0, none⟩ x0).setCell ⟨N, 1, none⟩ x1) :=
  (h.setCell (p := ⟨N, 0, none⟩) hN _).setCell (p := ⟨N, 1, none⟩) hN _
theorem cell2 {v : World} {N : Nat} {x0 x1 : Value} {T : TypeId} (h : v.heap[N]? = some (.cells #[x0, x1] T (0, 0))) : v.cell? ⟨N, 0, none⟩ = some x0 ∧ v.cell? ⟨N, 1, none⟩ = some x1 ∧ v.frozen? ⟨N, 0, none⟩ = false ∧ v.frozen? ⟨N, 1, none⟩ = false := by
  refine ⟨by simp [World.cell?, h], by simp [World.cell?, h], by simp [World.frozen?, h], by simp [World.frozen?, h]⟩
theorem other2 {v : World} {N k : Nat} (hk : k ≠ N) (x0 x1 : Value) : ((v.setCell ⟨N, 0, none⟩ x0).setCell ⟨N, 1, none⟩ x1).heap[k]? = v.heap[k]? :=
  (heap_setCell_other _ _ _ _ hk).trans (heap_setCell_other _ _ _ _ hk)
/-- The blocks of Decode under way: the result, the batch so far. -/
structure DecSt (N0 N1 seq : Nat) (xs : List Wr) (sv : Value) (w wr : World) : Prop where
  res : wr.heap[N0]? = some (.cells #[.int .u64 0, .slice none 0 0] 31 (0, 0))
  bat : wr.heap[N1]? = some (.cells #[.int .u64 (seq : Int), sv] 31 (0, 0))
  row : wr.ownsRow (N1 + 1) 41 3 sv xs.length (rowW xs)
  bel : Below N0 w wr
  ord : w.heap.size ≤ N0 ∧ N0 < N1
theorem DecSt.below {N0 N1 seq : Nat} {xs : List Wr} {sv : Value} {w wr w' : World} (h : DecSt N0 N1 seq xs sv w wr) (hb : Below wr.heap.size wr w') : DecSt N0 N1 seq xs sv w w' := by
  have l0 := (Array.getElem?_eq_some_iff.1 h.res).1
  have l1 := (Array.getElem?_eq_some_iff.1 h.bat).1
  refine ⟨(hb.block N0 l0).trans h.res, (hb.block N1 l1).trans h.bat, ⟨h.row.1, ?_⟩, h.bel.trans (hb.mono (by omega)), h.ord⟩
  rcases h.row.2 with e | ⟨g, cap, cur, e, a, b, c⟩
  · exact .inl e
  · exact .inr ⟨g, cap, cur, e, a, (hb.block g (Array.getElem?_eq_some_iff.1 b).1).trans b, c⟩
theorem DecSt.grow {N0 N1 seq : Nat} {xs : List Wr} {sv v' : Value} {y : Wr} {w wc w2 : World} {o : Obj} (h : DecSt N0 N1 seq xs sv w wc) (hr : w2.ownsRow (N1 + 1) 41 3 v' (xs.length + 1) (rowW xs ++ [.int .i64 y.kind, .string y.key, .string y.val])) (hg : (wc.alloc o).grownBy w2 sv.ownBlock) :
    DecSt N0 N1 seq (xs ++ [y]) v' w (w2.setCell ⟨N1, 1, none⟩ v') ∧ w2.heap[N1]? = some (.cells #[.int .u64 (seq : Int), sv] 31 (0, 0)) := by
  have l0 := (Array.getElem?_eq_some_iff.1 h.res).1
  have l1 := (Array.getElem?_eq_some_iff.1 h.bat).1
  have hlo : ∀ g, sv.ownBlock = some g → N1 + 1 ≤ g := fun g e => (World.ownsRow.lt h.row g e).1
  have o1 := h.ord
  have b0 : w2.heap[N0]? = wc.heap[N0]? := (hg.block N0 (by simp; omega) (fun e => by have := hlo _ e.symm; omega)).trans (Lib.alloc_old wc _ _ l0)
  have b1 : w2.heap[N1]? = wc.heap[N1]? := (hg.block N1 (by simp; omega) (fun e => by have := hlo _ e.symm; omega)).trans (Lib.alloc_old wc _ _ l1)
  have hb : Below N0 w w2 := by
    have hz := h.bel.size
    exact (h.bel.alloc (by omega) o).trans ⟨hg.os, hg.tape, hg.output, hg.size, fun k hk => hg.block k (by simp; omega) (fun e => by have := hlo _ e.symm; omega)⟩
  refine ⟨⟨(heap_setCell_other _ _ _ _ (by simp only; omega)).trans (b0.trans h.res), (heap_setCell_same _ _ _ _ _ _ (b1.trans h.bat)).trans rfl, ⟨rowW_len _, ?_⟩, hb.setCell (p := ⟨N1, 1, none⟩) (by simp only; omega) _, h.ord⟩, b1.trans h.bat⟩
  rw [rowW_snoc, List.length_append]
  rcases hr.2 with e | ⟨g, cap, cur, e, a, b, c⟩
  · exact .inl e
  · exact .inr ⟨g, cap, cur, e, a, (heap_setCell_other _ _ _ _ (by simp only; omega)).trans b, c⟩
theorem below3c' {B N : Nat} {w v : World} (h : Below B w v) (hN : B ≤ N) (x0 x1 x2 : Value) : Below B w (((v.setCell ⟨N, 0, none⟩ x0).setCell ⟨N, 1, none⟩ x1).setCell ⟨N, 2, none⟩ x2) :=
  ((h.setCell (p := ⟨N, 0, none⟩) hN _).setCell (p := ⟨N, 1, none⟩) hN _).setCell (p := ⟨N, 2, none⟩) hN _
theorem decoded_some (u0 : World) {D : Option (Wr × Nat)} {yk : Int} {ys yv : ByteArray} {m0 n : Nat} {F : FuncId} {T1 : ByteArray} (hd : D = some (⟨yk, ys, yv⟩, m0)) (hn : 0 < n)
    (DD : ∀ u, Calls Try.prog F #[.string T1] u fun e w' => ((D = none ∧ ∃ x : Int, x ≠ 0 ∧ e = .returned (.tuple #[.agg #[.int .i64 0, .string ⟨#[]⟩, .string ⟨#[]⟩], .int .i64 0, .int .i64 x])) ∨ ∃ y k, D = some (y, 1 + k) ∧ k ≤ n - 1 ∧ e = .returned (.tuple #[.agg #[.int .i64 y.kind, .string y.key, .string y.val], .int .i64 (k : Int), .int .i64 0])) ∧ Below u.heap.size u w') :
    ∃ m, m0 = 1 + m ∧ m + 1 ≤ n ∧ ∀ u, Calls Try.prog F #[.string T1] u fun e w' => e = .returned (.tuple #[.agg #[.int .i64 yk, .string ys, .string yv], .int .i64 (m : Int), .int .i64 0]) ∧ Below u.heap.size u w' := by
  have one : ∃ m, m0 = 1 + m ∧ m + 1 ≤ n := by
    obtain ⟨e, w', fr, hP, _⟩ := DD u0 []
    rcases hP with ⟨⟨h, _⟩ | ⟨y, k, hy, hk, _⟩, _⟩
    · rw [hd] at h; cases h
    · rw [hd] at hy
      simp only [Option.some.injEq, Prod.mk.injEq] at hy
      exact ⟨k, hy.2, by omega⟩
  obtain ⟨m, rfl, hm⟩ := one
  refine ⟨m, rfl, hm, fun u => (DD u).mono fun e w' hP => ?_⟩
  rcases hP with ⟨⟨h, _⟩ | ⟨y, k, hy, hk, he⟩, hb⟩
  · rw [hd] at h; cases h
  · rw [hd] at hy
    simp only [Option.some.injEq, Prod.mk.injEq] at hy
    obtain ⟨rfl, hk2⟩ := hy
    obtain rfl : m = k := by omega
    exact ⟨he, hb⟩
/-- What Decode returns. -/
def DecodedB (l : List UInt8) (w : World) (e : Ending) (w' : World) : Prop :=
  ∃ a c b, e = .returned (.tuple #[batchV (decB l).1 a (decB l).2.1.length c, .int .i64 (decB l).2.2]) ∧ Ws a (decB l).2.1.length c b 0 (decB l).2.1 w' ∧ ((decB l).2.1 = [] → a = none ∧ c = 0) ∧ Below w.heap.size w w'
end Go.Proofs.Ytdgbafpnfkedeaa
/-
  Parts of a slice of writes; the copy with a mark, and whether it stands (own, kept). No condition.
-/
namespace Go.Proofs.Ytdgbafpnfkedeaa
set_option maxRecDepth 100000
open Go.RowKit
theorem Ws.take {a : Option Addr} {n c b o k : Nat} {l : List Wr} {w : World} (h : Ws a n c b o l w) (hk : k ≤ n) : Ws a k c b o (l.take k) w := by
  have hl := h.len
  have hc := h.cap
  refine ⟨by rw [List.length_take]; omega, by omega, h.most, fun h0 => h.addr (by omega), fun j x hx => ?_, fun x hx => h.fit x (List.mem_of_mem_take hx)⟩
  rw [List.getElem?_take] at hx
  split at hx
  · exact h.at' j x hx
  · cases hx
theorem Ws.drop {a : Option Addr} {n c b o k : Nat} {l : List Wr} {w : World} (h : Ws a n c b o l w) (hk : k < n) : Ws (some ⟨b, o + k * 3, none⟩) (n - k) (c - k) b (o + k * 3) (l.drop k) w := by
  have hl := h.len
  have hc := h.cap
  have hm := h.most
  refine ⟨by rw [List.length_drop]; omega, by omega, by omega, fun _ => ⟨rfl, (h.addr (by omega)).2⟩, fun j x hx => ?_, fun x hx => h.fit x (List.mem_of_mem_drop hx)⟩
  rw [List.getElem?_drop] at hx
  have := h.at' (k + j) x hx
  rw [show o + (k + j) * 3 = o + k * 3 + j * 3 by omega] at this
  exact this
theorem size_write (w : World) : (Go.sizeOf (Try.prog.elem 29)).run Try.prog w = .ok 3 w := by
  obtain ⟨i0, hi, hz0, hz1, hz2⟩ := info_parts (show (Try.prog.info? (Try.prog.elem 29)).map (fun i => (i.zero, i.size, i.bytes)) = some (some (.agg #[.int .i64 0, .string .empty, .string .empty]), 3, 40) by kernel_rfl)
  simp [Go.sizeOf, typeInfo, hi, hz1]
theorem slice_upto (b o n c k : Nat) (hk : k ≤ c) (u : World) : (Instr.slice 29 (.slice (some ⟨b, o, none⟩) n c) none (some (.int .i64 (k : Int))) none).run Try.prog u = .ok (.slice (some ⟨b, o, none⟩) k c) u := by
  rw [run_slice_h u 29 (some ⟨b, o, none⟩) n c (by kernel_rfl) .i64 (k : Int) (by omega) (by omega), size_write]
  simp [Result.andThen, sliced, Addr.add]
theorem slice_from (b o n c k : Nat) (hk : k < n) (hn : n ≤ c) (u : World) : (Instr.slice 29 (.slice (some ⟨b, o, none⟩) n c) (some (.int .i64 (k : Int))) none none).run Try.prog u = .ok (.slice (some ⟨b, o + k * 3, none⟩) (n - k) (c - k)) u := by
  rw [run_slice_l u 29 (some ⟨b, o, none⟩) n c (by kernel_rfl) .i64 (k : Int) (by omega) (by omega), size_write]
  have e : ¬ c = k := by omega
  simp only [Result.andThen, sliced, Int.toNat_natCast, e, if_false, Option.map_some, addr_at]
/-- The mark. -/
def markW : Wr := ⟨77, ⟨#[]⟩, ⟨#[]⟩⟩
theorem marked_take (l : List Wr) : (l ++ [markW]).take l.length = l := by simp
theorem row_of_ws {a : Option Addr} {n c b o : Nat} {l : List Wr} {w : World} (h : Ws a n c b o l w) : ∀ j u, (rowW l)[j]? = some u → w.cell? ((⟨b, o, none⟩ : Addr).add j) = some u := by
  intro j u hj
  rw [addr_at]
  have hlt : j < l.length * 3 := by have := (List.getElem?_eq_some_iff.1 hj).1; rwa [rowW_len] at this
  obtain ⟨q, r, hq, hr⟩ : ∃ q r, j = q * 3 + r ∧ r < 3 := ⟨j / 3, j % 3, by omega, Nat.mod_lt _ (by omega)⟩
  subst hq
  have hql : q < l.length := by omega
  obtain ⟨e0, e1, e2⟩ := rowW_at l q (List.getElem?_eq_getElem hql)
  obtain ⟨c0, c1, c2⟩ := h.at' q _ (List.getElem?_eq_getElem hql)
  match r, hr with
  | 0, _ => rw [← hj]; exact c0.trans e0.symm
  | 1, _ => rw [← hj]; exact c1.trans e1.symm
  | 2, _ => rw [← hj]; exact c2.trans e2.symm
theorem rowW_one (l : List Wr) : ∀ u ∈ rowW l, u.oneCell' = true := by
  intro u hu
  unfold rowW at hu
  obtain ⟨x, _, hx⟩ := List.mem_flatMap.1 hu
  simp only [List.mem_cons, List.not_mem_nil, or_false] at hx
  rcases hx with rfl | rfl | rfl <;> rfl
theorem info_write : (Try.prog.info? 41).map (fun i => (i.zero, i.size, i.bytes)) = some (some (.agg #[.int .i64 0, .string .empty, .string .empty]), 3, 40) := by kernel_rfl
/-- 'append(a, b...)' of writes, a the call's own, b a slice of writes, nil or not. -/
theorem wpList_append_ws {ops : Array Oper} {rest : List Oper} {o : Oper} {a : Act} {Q : Exit → Act → World → Prop} {w : World} (hgd : o.guard = none) (s x : Operand)
    (ho : o.op = .call { callee := .builtin .append, args := #[s, x], argTypes := #[29, 29] })
    (base : Nat) (v : Value) (p : Option Addr) (n c b off : Nat) (l : List Wr) (hs : a.eval s = v) (hx : a.eval x = .slice p n c) (hown : w.ownsRow base 41 3 v 0 []) (hsrc : Ws p n c b off l w) (hn : n ≤ 1000000) (hbase : base ≤ w.heap.size)
    (h : ∀ v' w', w'.ownsRow base 41 3 v' n (rowW l) → w.grownBy w' v.ownBlock → (v' = .slice none 0 0 ↔ v = .slice none 0 0 ∧ n = 0) → wpList Try.prog ops Q rest (a.put o.dst v') w') : wpList Try.prog ops Q (o :: rest) a w := by
  obtain ⟨i0, hi, hz0, hz1, hz2⟩ := info_parts info_write
  have hl := hsrc.len
  cases p with
  | none =>
    have h0 : n = 0 := by
      rcases Nat.eq_zero_or_pos n with e | e
      · exact e
      · have := (hsrc.addr e).1; cases this
    subst h0
    obtain rfl : l = [] := List.length_eq_zero_iff.1 hl
    have hrun : (Builtin.append_ #[29, 29] o.type #[v, .slice none 0 c]).run Try.prog w = .ok v w := by
      rcases hown.2 with ⟨rfl, _⟩ | ⟨g, cap, cur, rfl, _, _, hle, _⟩
      · exact run_append_nothing w _ _ _ 41 i0 Try.underlying29 hi none 0 0 (Nat.le_refl _) _ (Src.ofNil w Try.underlying29 c)
      · exact run_append_nothing w _ _ _ 41 i0 Try.underlying29 hi _ 0 cap (Nat.zero_le _) _ (Src.ofNil w Try.underlying29 c)
    refine wpList_plain hgd fun K hK => ?_
    unfold Oper.wp
    simp [execOp, ho, resolve, invoke, builtin, hs, hx, hrun, Result.andThen]
    exact hK _ _ (h v w hown ⟨rfl, rfl, rfl, Nat.le_refl _, fun _ _ _ => rfl⟩ (by simp))
  | some ad =>
    refine wpList_append_own w hgd s x 29 ho base 41 i0 _ 3 40 Try.underlying29 hi hz0 hz1 hz2 rfl (by decide) v 0 [] hs hown ad n c (rowW l) hx (by rw [rowW_len, hl]) ?_ (rowW_one l) (by unfold maxLen; omega) (by omega) hbase ?_
    · intro j u hj
      have hlt : j < l.length * 3 := by have := (List.getElem?_eq_some_iff.1 hj).1; rwa [rowW_len] at this
      have := (hsrc.addr (by omega)).1
      simp only [Option.some.injEq] at this
      subst this
      exact row_of_ws hsrc j u hj
    · intro v' w' h1 h2 h3
      rw [Nat.zero_add, List.nil_append] at h1
      exact h v' w' h1 h2 h3
/-- The copy with a mark behind its writes. -/
def OwnB (seq n : Nat) (l : List Wr) (w : World) (e : Ending) (w' : World) : Prop :=
  ∃ g c, e = .returned (batchV seq (some ⟨g, 0, none⟩) n c) ∧ w.heap.size ≤ g ∧ Ws (some ⟨g, 0, none⟩) (n + 1) c g 0 (l ++ [markW]) w' ∧ Below w.heap.size w w'
theorem below_grown {B : Nat} {w w1 w2 : World} {r : Option Nat} (h : Below B w w1) (hB : B ≤ w1.heap.size) (hg : w1.grownBy w2 r) (hr : ∀ g, r = some g → B ≤ g) : Below B w w2 :=
  h.trans ⟨hg.os, hg.tape, hg.output, hg.size, fun k hk => hg.block k (by omega) (fun e => by have := hr _ e.symm; omega)⟩
theorem marked_at (l : List Wr) : (l ++ [markW])[l.length]? = some markW := by simp
end Go.Proofs.Ytdgbafpnfkedeaa
/-
  An argument of type []Op of the laws of mem: opened; a copy of writes; what stores into such copies leave. No condition.
-/
namespace Go.Proofs.Ytdgbafpnfkedeaa
open Go Go.RowKit Go.ChangeShapes Go.WideShapes Go.Deep
set_option maxRecDepth 100000
structure MOp where
  act : Int
  bt : Bt
  ha : Option Addr
  hn : Nat
  hc : Nat
  hb : Nat
  ho : Nat
  hs : List Int
  fr : ByteArray
  tt : ByteArray
  at' : Nat
  deriving Inhabited
def cellsM (v : MOp) : List Value := [.int .i64 v.act, .int .u64 (v.bt.seq : Int), .slice v.bt.a v.bt.n v.bt.c, .slice v.ha v.hn v.hc, .string v.fr, .string v.tt, .int .u64 (v.at' : Int)]
def MOpAt (v : MOp) (W : World) : Prop := BtAt v.bt W ∧ SlOf 1 cellsI v.ha v.hn v.hc v.hb v.ho v.hs W ∧ v.fr.size ≤ 281474976710656 ∧ (v.bt.a = none → v.bt.n = 0 ∧ v.bt.c = 0)
theorem bt_nil {H : Type} {enc : TypeId × Value → H} {W : World} {fuel : Nat} {s : Value} {q : Option Addr} {n c : Nat} {y : DataW H × List MemPlace} (h : DataW.trod enc Try.prog W 0 (fun _ => true) true fuel 31 [s, .slice q n c] = some y) : q = none → n = 0 ∧ c = 0 := by
  obtain ⟨xs, m, _, hx, hsz2, hn, hg⟩ := DataW.trod_struct Try.underlying31 h
  have i1 : Try.prog.cellsOf 28 = 1 := by kernel_rfl
  have s1 : Try.prog.cellsOf 29 = 1 := by kernel_rfl
  have g1 := hg 1 _ rfl
  have hm : xs.length = 2 := hn
  match xs, hm with
  | [y0, y1], _ =>
    have g1' : DataW.trod enc Try.prog W 0 (fun _ => true) true m 29 [.slice q n c] = some y1 := by simpa [i1, s1] using g1
    rcases DataW.trod_slice Try.underlying29 g1' with ⟨hc, _⟩ | ⟨a, len, cap, _, _, _, _, hc, _⟩
    · simp at hc
      exact fun _ => hc.2
    · simp at hc
      intro e
      rw [e] at hc
      exact absurd hc.1 (by simp)
theorem nums_in {H : Type} {enc : TypeId × Value → H} {W : World} {a0 : Option Addr} {len cap fuel : Nat} {x : DataW H × List MemPlace}
    (hf : DataW.trod enc Try.prog W 0 (fun _ => true) true fuel 32 [.slice a0 len cap] = some x) (hsz : ∀ n ∈ x.1.weights Try.prog 32, n ≤ reachBytes) : ∃ b o l, SlOf 1 cellsI a0 len cap b o l W := by
  have i1 : Try.prog.cellsOf 3 = 1 := by kernel_rfl
  obtain ⟨b, o, l, hs, _⟩ := open_slice_in (α := Int) 1 Try.underlying32 i1 (by omega) cellsI (fun _ => rfl) (fun _ => True) (fun {fuel cs y} h _ => by
      obtain ⟨a0, e0, f0, w0⟩ := DataW.trod_int Try.underlying3 h
      exact ⟨a0, e0, trivial⟩) hf hsz
  exact ⟨b, o, l, hs⟩
theorem mop_read {H : Type} {enc : TypeId × Value → H} {W : World} {fuel : Nat} {cs : List Value} {y : DataW H × List MemPlace} (h : DataW.trod enc Try.prog W 0 (fun _ => true) true fuel 34 cs = some y)
    (hsz : ∀ n ∈ y.1.weights Try.prog 34, n ≤ reachBytes) : ∃ v : MOp, cs = cellsM v ∧ MOpAt v W := by
  have oc : Try.prog.cellsOf 34 = 7 := by kernel_rfl
  have bc : Try.prog.cellsOf 31 = 2 := by kernel_rfl
  have i1 : Try.prog.cellsOf 3 = 1 := by kernel_rfl
  have u1 : Try.prog.cellsOf 28 = 1 := by kernel_rfl
  have s1 : Try.prog.cellsOf 9 = 1 := by kernel_rfl
  have n1 : Try.prog.cellsOf 32 = 1 := by kernel_rfl
  obtain ⟨xs, n, _, hx, hsz2, hn, hg⟩ := DataW.trod_struct Try.underlying34 h
  have g0 := hg 0 _ rfl
  have g1 := hg 1 _ rfl
  have g2 := hg 2 _ rfl
  have g3 := hg 3 _ rfl
  have g4 := hg 4 _ rfl
  have g5 := hg 5 _ rfl
  clear hg h
  rw [oc] at hsz2
  have hm : xs.length = 6 := hn
  match cs, hsz2 with
  | [c0, c1, c2, c3, c4, c5, c6], _ =>
    match xs, hm with
    | [y0, y1, y2, y3, y4, y5], _ =>
      have hy : y.1 = .agg [y0.1, y1.1, y2.1, y3.1, y4.1, y5.1] := by rw [hx]; rfl
      rw [hy] at hsz
      simp only [DataW.weights, Try.underlying34, DataW.weightsEach, List.map_cons, List.map_nil] at hsz
      obtain ⟨a0, e0, f0, w0⟩ := DataW.trod_int Try.underlying3 g0
      have g1' : DataW.trod enc Try.prog W 0 (fun _ => true) true n 31 [c1, c2] = some y1 := by simpa [i1, bc] using g1
      obtain ⟨v, e1, hv⟩ := bt_read g1' (fun m hm => hsz m (by simp [hm]))
      have g2' : DataW.trod enc Try.prog W 0 (fun _ => true) true n 32 [c3] = some y2 := by simpa [i1, bc, n1] using g2
      have e4 : ∃ sa sn sc, c3 = .slice sa sn sc := by
        rcases DataW.trod_slice Try.underlying32 g2' with ⟨hc, _⟩ | ⟨a, len, cap, _, _, _, _, hc, _⟩
        · exact ⟨none, 0, 0, by simpa using hc⟩
        · exact ⟨some a, len, cap, by simpa using hc⟩
      obtain ⟨sa, sn, sc, rfl⟩ := e4
      obtain ⟨hb, ho, hs, hh⟩ := nums_in g2' (fun m hm => hsz m (by simp [hm]))
      obtain ⟨a3, e3, f3, w3⟩ := DataW.trod_string Try.underlying9 g3
      obtain ⟨a4, e4, f4, w4⟩ := DataW.trod_string Try.underlying9 g4
      obtain ⟨a5, e5, f5, w5⟩ := DataW.trod_int Try.underlying28 g5
      simp [i1, bc, n1, s1, u1] at e0 e3 e4 e5
      subst e0 e3 e4 e5
      have hnl : ∀ q n c, c2 = .slice q n c → q = none → n = 0 ∧ c = 0 := fun q n c e => by subst e; exact bt_nil g1'
      unfold cellsBt at e1
      simp only [List.cons.injEq, and_true] at e1
      obtain ⟨rfl, rfl⟩ := e1
      have hr : 0 ≤ a5 ∧ a5 ≤ 18446744073709551615 := by simpa [Lit.wf, IntKind.min, IntKind.max, IntKind.signed, IntKind.bits] using w5
      have e6 : ((a5.toNat : Nat) : Int) = a5 := by omega
      refine ⟨⟨a0, v, sa, sn, sc, hb, ho, hs, a3, a4, a5.toNat⟩, by simp only [cellsM, e6], hv, hh, ?_, hnl _ _ _ rfl⟩
      have : a3.size ≤ reachBytes := by
        refine hsz _ ?_
        have e : a3.data.toList.length = a3.size := by rw [Array.length_toList]; rfl
        rw [f3, ← e]
        simp [DataW.weights]
      unfold reachBytes at this
      show a3.size ≤ _
      omega
theorem open_memops {H : Type} {enc : TypeId × Value → H} {W : World} {a0 : Option Addr} {len cap fuel : Nat} {x : DataW H × List MemPlace} {ts : List TypeId} {ds : List (DataW H)}
    (hf : DataW.trod enc Try.prog W 0 (fun _ => true) true fuel 22 [.slice a0 len cap] = some x) (hsz : (DataW.weightsEach Try.prog ts ds).all (· ≤ reachBytes) = true) {j : Nat} (ht : ts[j]? = some 22) (hd : ds[j]? = some x.1) :
    ∃ b o l, SlOf 7 cellsM a0 len cap b o l W ∧ ∀ v ∈ l, MOpAt v W := by
  have oc : Try.prog.cellsOf 34 = 7 := by kernel_rfl
  exact open_slice_in (α := MOp) 7 Try.underlying22 oc (by omega) cellsM (fun _ => rfl) (fun v => MOpAt v W) mop_read hf
    (fun m hm => by have := List.all_eq_true.1 hsz _ (DataW.weights_mem_each ht hd m hm); simpa using this)
/-- A store into a block that is no list, no node and no table. -/
theorem Tb.but {base : Nat} {ts : List (Nat × List Rw)} {w w' : World} (h : Tb base ts w) {g : Nat} {cs : Array Value} {T : TypeId} (hg : w.heap[g]? = some (.cells cs T (0, 0))) (h1 : T ≠ 71) (h2 : T ≠ 97) (h3 : T ≠ 54) (hb : But g w w') : Tb base ts w' := by
  obtain ⟨zs, k1, k2, k3, k4⟩ := h
  refine ⟨zs, k1.but hg h1 h2 hb, k2, fun i p R e => ?_, k4⟩
  obtain ⟨L, l, m1, m2, m3, m4⟩ := k3 i p R e
  have hne : p ≠ g := fun e => by
    unfold TabAt at m3
    rw [e, hg] at m3
    simp only [Option.some.injEq, Obj.cells.injEq] at m3
    exact h3 m3.2.1
  exact ⟨L, l, m1, m2, (hb.block p (Array.getElem?_eq_some_iff.1 m3).1 hne).trans m3, m4⟩
theorem Rt.but {a : Option Addr} {n c b o : Nat} {l : List Rw} {w w' : World} (h : Rt a n c b o l w) {g : Nat} (hne : 0 < n → b ≠ g) (hb : But g w w') : Rt a n c b o l w' := by
  refine ⟨h.rs.keep (fun h0 => hb.block b (h.rs.addr h0).2 (hne h0)) hb.size, h.nil, fun h0 => ?_⟩
  obtain ⟨cs, hc⟩ := h.typ h0
  exact ⟨cs, (hb.block b (Array.getElem?_eq_some_iff.1 hc).1 (hne h0)).trans hc⟩
theorem Rt.else4 {a : Option Addr} {n c b o : Nat} {l : List Rw} {w w' : World} (h : Rt a n c b o l w) (he : Else4 w w') (hs : w.heap.size ≤ w'.heap.size) : Rt a n c b o l w' := by
  refine ⟨h.rs.keep (fun h0 => ?_) hs, h.nil, fun h0 => ?_⟩
  · obtain ⟨cs, hc⟩ := h.typ h0
    exact typed_else4 he hc (by decide) (by decide) (by decide)
  · obtain ⟨cs, hc⟩ := h.typ h0
    exact ⟨cs, (typed_else4 he hc (by decide) (by decide) (by decide)).trans hc⟩
theorem mop_at {a : Option Addr} {n c b o : Nat} {l : List MOp} {w : World} (h : SlOf 7 cellsM a n c b o l w) {j : Nat} {x : MOp} (hx : l[j]? = some x) : w.cell? ⟨b, o + j * 7, none⟩ = some (.int .i64 x.act) ∧ w.cell? ⟨b, o + j * 7 + 1, none⟩ = some (.int .u64 (x.bt.seq : Int)) ∧ w.cell? ⟨b, o + j * 7 + 2, none⟩ = some (.slice x.bt.a x.bt.n x.bt.c) ∧ w.cell? ⟨b, o + j * 7 + 3, none⟩ = some (.slice x.ha x.hn x.hc) ∧ w.cell? ⟨b, o + j * 7 + 4, none⟩ = some (.string x.fr) ∧ w.cell? ⟨b, o + j * 7 + 5, none⟩ = some (.string x.tt) ∧ w.cell? ⟨b, o + j * 7 + 6, none⟩ = some (.int .u64 (x.at' : Int)) :=
  ⟨h.at' j x hx 0 _ rfl, h.at' j x hx 1 _ rfl, h.at' j x hx 2 _ rfl, h.at' j x hx 3 _ rfl, h.at' j x hx 4 _ rfl, h.at' j x hx 5 _ rfl, h.at' j x hx 6 _ rfl⟩
/-- What long tells. -/
def LongD (n : Nat) (l : List MOp) (w : World) (e : Ending) (w' : World) : Prop := ∃ B, e = .returned (.bool B) ∧ (B = false → n ≤ 60 ∧ ∀ v ∈ l, v.bt.n ≤ 70) ∧ w' = w
set_option maxHeartbeats 4000000 in
/-- Are there too many calls, or too many writes? -/
theorem long_any {a : Option Addr} {n c b o : Nat} {l : List MOp} {w : World} (h : SlOf 7 cellsM a n c b o l w) (hv : ∀ v ∈ l, MOpAt v w) :
    Calls Try.prog 8 #[.slice a n c] w (LongD n l w) := by
  have hlen := h.len
  have hcap := h.cap
  have hmost := h.most
  have hr : ∀ v ∈ l, v.hn ≤ v.hc ∧ v.hc ≤ 9223372036854775807 ∧ v.bt.n ≤ v.bt.c ∧ v.bt.c ≤ 9223372036854775807 := fun v hm => ⟨(hv v hm).2.1.cap, (hv v hm).2.1.most, (hv v hm).1.2.cap, (hv v hm).1.2.most⟩
  have hr := Lib.hid hr
  have h := Lib.hid h
  clear hv
  by_cases hbig : 60 < n
  · have d0 : decide ((60 : Int) < (n : Int)) = true := by rw [decide_eq_true_eq]; omega
    go_enter Try.func8, Try.ntmps8
    go_wp2_with fail
    go_returns
    exact ⟨true, rfl, (fun h => by cases h), rfl⟩
  · have d0 : decide ((60 : Int) < (n : Int)) = false := by rw [decide_eq_false_iff_not]; omega
    go_enter Try.func8, Try.ntmps8
    go_wp2_with fail
    go_loopw [3] (fun v wr => ∃ j : Nat, j ≤ n ∧ v = .int .i64 (j : Int) ∧ (∀ (m : Nat) (x : MOp), m < j → l[m]? = some x → x.bt.n ≤ 70) ∧ wr = w) (fun v _ => n - (intOf v).toNat)
    case atStart => exact ⟨0, Nat.zero_le _, rfl, fun m x hm => absurd hm (Nat.not_lt_zero _), rfl⟩
    case round =>
      obtain ⟨j, hj, rfl, hfr, rfl⟩ := hrel
      have hfr := Lib.hid hfr
      by_cases hlt : j < n
      · obtain ⟨x, hx⟩ : ∃ x, l[j]? = some x := ⟨_, List.getElem?_eq_getElem (by rw [hlen]; exact hlt)⟩
        have ha := (h.out.addr (by omega)).1
        obtain ⟨_, _, x2, x3, _⟩ := mop_at h.out hx
        obtain ⟨r1, r2, r3, r4⟩ := hr.out x (List.mem_of_getElem? hx)
        subst ha
        have i1 : (j : Int) < (n : Int) := by omega
        have hx := Lib.hid hx
        obtain ⟨xact, ⟨xq, xa, xn, xc, xb, xo, xw⟩, ya, yn, yc, yb, yo, yl, xf, xt, xat⟩ := x
        simp only at x2 x3 r1 r2 r3 r4
        by_cases hg : 70 < xn
        · have d1 : decide ((70 : Int) < (xn : Int)) = true := by rw [decide_eq_true_eq]; omega
          go_wp2_with fail
          go_returns
          exact ⟨true, rfl, (fun h => by cases h), rfl⟩
        · have d1 : decide ((70 : Int) < (xn : Int)) = false := by rw [decide_eq_false_iff_not]; omega
          by_cases hg2 : 200 < yn
          · have d2 : decide ((200 : Int) < (yn : Int)) = true := by rw [decide_eq_true_eq]; omega
            go_wp2_with fail
            go_returns
            exact ⟨true, rfl, (fun h => by cases h), rfl⟩
          · have d2 : decide ((200 : Int) < (yn : Int)) = false := by rw [decide_eq_false_iff_not]; omega
            go_wp2_with fail
            go_roundw
            case rel => exact ⟨j + 1, by omega, by go_num, fun m y hm hy => by
              by_cases hmj : m < j
              · exact hfr.out m y hmj hy
              · obtain rfl : m = j := by omega
                rw [hx.out] at hy
                cases hy
                show xn ≤ 70; omega, trivial⟩
            case measure => simp [intOf]; omega
      · have hjN : j = n := by omega
        subst hjN
        have i1 : ¬ ((j : Int) < (j : Int)) := by omega
        go_wp2_with fail
        go_returns
        exact ⟨false, rfl, fun _ => ⟨by omega, fun v hv => by
          obtain ⟨m, hm⟩ := List.getElem?_of_mem hv
          exact hfr.out m v (by have := (List.getElem?_eq_some_iff.1 hm).1; omega) hm⟩, rfl⟩
end Go.Proofs.Ytdgbafpnfkedeaa
/-
  The document's own With: rows, and one more at its place. Condition: at most 1000000 rows.
-/
namespace Go.Proofs.Ytdgbafpnfkedeaa
set_option maxRecDepth 100000
open Go.RowKit
set_option maxRecDepth 100000 in
set_option maxHeartbeats 4000000 in
theorem with_ref {a : Option Addr} {n c b o : Nat} {l : List Rw} {w : World} (h : Rt a n c b o l w) (hn : n ≤ 1000000) (x : Rw) :
    Calls Try.prog 30 #[.slice a n c, rowV x] w (GaveR (insR l x) w) := by
  obtain ⟨P, hP⟩ := named (plc l x.key x.seq)
  have hPn : P ≤ n := by rw [hP.out, ← h.rs.len]; unfold plc; exact (List.takeWhile_prefix _).length_le
  have hIn : insR l x = l.take P ++ x :: l.drop P := by unfold insR; rw [hP.out]
  rw [hIn]
  obtain ⟨xk, xs, xi, xv⟩ := x
  have W0 := Lib.hid (below_alloc w (.cells #[.string xk, .int .u64 (xs : Int), .int .i64 xi, .string xv] 43))
  have R0 := Lib.hid (RowAt.new ⟨xk, xs, xi, xv⟩ w)
  have PL : Hid (Calls Try.prog 42 #[.slice a n c, .string xk, .int .u64 (xs : Int)] (w.alloc (.cells #[.string xk, .int .u64 (xs : Int), .int .i64 xi, .string xv] 43)) fun e w' => e = .returned (.int .i64 (P : Int)) ∧ Below (w.alloc (.cells #[.string xk, .int .u64 (xs : Int), .int .i64 xi, .string xv] 43)).heap.size (w.alloc (.cells #[.string xk, .int .u64 (xs : Int), .int .i64 xi, .string xv] 43)) w') := Lib.hid (by
    have := place_ref (h.below W0.out).rs (by omega) xk xs
    rwa [show plc l xk xs = P from hP.out.symm] at this)
  obtain ⟨TK, RT⟩ := rt_take h hPn
  obtain ⟨p2, DK, RD, hp2⟩ := rt_drop h hPn
  have hnil : a = none → P = 0 ∧ c = 0 := fun e => by have := h.nil e; have := h.rs.cap; omega
  have hcap := h.rs.cap
  have hmost := h.rs.most
  have hlt : (l.take P).length = P := by rw [List.length_take, h.rs.len]; omega
  have hld : (l.drop P).length = n - P := by rw [List.length_drop, h.rs.len]
  obtain ⟨X, hX⟩ := named (l.take P)
  obtain ⟨Y, hY⟩ := named (l.drop P)
  rw [← hX.out] at RT hlt ⊢
  rw [← hY.out] at RD hld ⊢
  obtain ⟨m, hm⟩ := named (n - P)
  rw [← hm.out] at RD hld hp2 DK
  have hm1 : m ≤ 1000000 := by rw [hm.out]; omega
  have hP1 : P ≤ 1000000 := by omega
  have RT := Lib.hid RT
  have RD := Lib.hid RD
  have hnil := Lib.hid hnil
  have hp2 := Lib.hid hp2
  have hlt := Lib.hid hlt
  have hld := Lib.hid hld
  have hm1 := Lib.hid hm1
  have hP1 := Lib.hid hP1
  obtain ⟨⟨y0, y1, y2, y3⟩, _⟩ := R0.out.cells
  clear h hIn hX hY hm hP
  go_enter Try.func30, Try.ntmps30
  go_upto_region 2 with (go_at_call 42; ((with_reducible refine PL.out.mono ?_); rintro e w2 ⟨rfl, B2⟩; have R2 := Lib.hid (R0.out.below B2); have B2 := Lib.hid (below_of W0.out B2); clear PL y0 y1 y2 y3))
  have hs2 := Lib.hid B2.out.size
  have hg2 : Hid (w.heap.size < w2.heap.size) := Lib.hid (Array.getElem?_eq_some_iff.1 R2.out).1
  have H0 := Lib.hid (row_zero (w := w2.alloc (.cells #[] 43)) (g := w2.heap.size) (B := w.heap.size) (size := 4) (e := 43) (heap_alloc_new _ _) hs2.out)
  have B3 := Lib.hid (below_of B2.out (below_alloc w2 (.cells #[] 43)))
  have R3 := Lib.hid (R2.out.below (below_alloc w2 (.cells #[] 43)))
  have s3 : Hid ((w2.alloc (.cells #[] 43)).heap.size = w2.heap.size + 1) := Lib.hid (World.size_alloc _ _)
  go_upto_region 3 with (at_builtin; refine wpList_append_src rfl (.tmp 13) (.tmp 16) 27 rfl w.heap.size 43 4 48 (.agg #[.string .empty, .int .u64 0, .int .i64 0, .string .empty]) Try.underlying27 info_row rfl (by decide) (by decide) _ 0 [] a P c (rowR X) H0.out hnil.out (by rw [rowR_len, hlt.out]) (rs_src (RT.out.below B3.out (Nat.le_refl _))) rfl rfl (one_cells X) (by omega) (by have := hP1.out; omega) B3.out.size ?_; intro v4 w4 own4 grow4 sh4; obtain ⟨va4, vc4, rfl⟩ := sh4; have B4 := Lib.hid (B3.out.grown grow4 B3.out.size (fun k hk => by cases hk; exact hs2.out)); have R4 := Lib.hid (show RowAt w.heap.size ⟨xk, xs, xi, xv⟩ w4 from (grow4.block _ (Array.getElem?_eq_some_iff.1 R3.out).1 (fun e => by have e2 := hg2.out; have e3 : some w.heap.size = some w2.heap.size := e; simp only [Option.some.injEq] at e3; omega)).trans R3.out); rw [Nat.zero_add, List.nil_append] at own4; have P4 := Lib.hid own4; rw [Nat.zero_add]; clear own4 grow4)
  have H4 := Lib.hid (row_single (w := w4.alloc (.cells #[.string xk, .int .u64 (xs : Int), .int .i64 xi, .string xv] 43)) (g := w4.heap.size) (B := w4.heap.size) (size := 4) (e := 43) (heap_alloc_new _ _) rfl (Nat.le_refl _))
  have B5 := Lib.hid (below_of B4.out (below_alloc w4 (.cells #[.string xk, .int .u64 (xs : Int), .int .i64 xi, .string xv] 43)))
  have P5 := Lib.hid (own_below P4.out (below_alloc w4 (.cells #[.string xk, .int .u64 (xs : Int), .int .i64 xi, .string xv] 43)))
  obtain ⟨⟨y0, y1, y2, y3⟩, _⟩ := R4.out.cells
  go_upto_region 4 with (at_builtin; refine wpList_append_two rfl (.tmp 18) (.tmp 20) 27 rfl w.heap.size _ 43 4 48 (.agg #[.string .empty, .int .u64 0, .int .i64 0, .string .empty]) Try.underlying27 info_row rfl (by decide) (by decide) _ P (rowR X) _ 1 _ P5.out H4.out rfl rfl (row_one ⟨xk, xs, xi, xv⟩) (by have := hP1.out; omega) (by omega) B5.out.size ?_; intro v6 w6 own6 grow6 sh6; obtain ⟨va6, vc6, rfl⟩ := sh6; have B6 := Lib.hid (B5.out.grown grow6 B5.out.size (fun k hk => (World.ownsRow.lt P5.out k hk).1)); have P6 := Lib.hid (show w6.ownsRow w.heap.size 43 4 (.slice va6 (P + 1) vc6) (P + 1) (rowR (X ++ [⟨xk, xs, xi, xv⟩])) by rw [rowR_snoc]; exact own6); clear own6 grow6 y0 y1 y2 y3)
  go_wp2_with (at_builtin; refine wpList_append_src rfl (.tmp 22) (.tmp 25) 27 rfl w.heap.size 43 4 48 (.agg #[.string .empty, .int .u64 0, .int .i64 0, .string .empty]) Try.underlying27 info_row rfl (by decide) (by decide) _ (P + 1) (rowR (X ++ [⟨xk, xs, xi, xv⟩])) p2 m (c - P) (rowR Y) P6.out hp2.out (by rw [rowR_len, hld.out]) (rs_src (RD.out.below B6.out (Nat.le_refl _))) rfl rfl (one_cells Y) (by have := hP1.out; omega) (by have := hm1.out; omega) B6.out.size ?_; intro v8 w8 own8 grow8 sh8; obtain ⟨va8, vc8, rfl⟩ := sh8; have B8 := Lib.hid (B6.out.grown grow8 B6.out.size (fun k hk => (World.ownsRow.lt P6.out k hk).1)); rw [← rowR_app] at own8; have P8 := Lib.hid own8; clear own8 grow8)
  go_returns
  refine ⟨_, rfl, ?_, B8.out⟩
  have e1 : (X ++ ⟨xk, xs, xi, xv⟩ :: Y) = (X ++ [⟨xk, xs, xi, xv⟩]) ++ Y := by simp
  rw [e1, show ((X ++ [(⟨xk, xs, xi, xv⟩ : Rw)]) ++ Y).length = P + 1 + m by rw [List.length_append, List.length_append, hlt.out, hld.out]; rfl]
  exact P8.out
end Go.Proofs.Ytdgbafpnfkedeaa
/-
  The contract of the document's Rows. No condition.
-/
namespace Go.Proofs.Ytdgbafpnfkedeaa
set_option maxRecDepth 100000
open Go.RowKit
attribute [local go_sem ↓] Go.wp_at_zero Go.wp_at_succ
theorem step_append_row {ops : Array Oper} {o : Oper} {a : Act} {w : World} {K : Act → World → Prop} {Q : Exit → Act → World → Prop} {E : Prop} (hgd : o.guard = none) (s x : Operand)
    (ho : o.op = .call { callee := .builtin .append, args := #[s, x], argTypes := #[27, 27] }) (v : Value) (n : Nat) (xs : List Value) (hs : a.eval s = v) (B : Nat) (hown : w.ownsRow B 43 4 v n xs) (hn : n ≤ 1048576) (hB : B ≤ w.heap.size)
    (G c : Nat) (x0 x1 x2 x3 : Value) (hx : a.eval x = .slice (some ⟨G, 0, none⟩) 1 c) (hb : w.heap[G]? = some (.cells #[x0, x1, x2, x3] 43 (0, 0))) (h1 : ∀ u ∈ [x0, x1, x2, x3], u.oneCell' = true)
    (h : ∀ g cap w', w'.ownsRow B 43 4 (.slice (some ⟨g, 0, none⟩) (n + 1) cap) (n + 1) (xs ++ [x0, x1, x2, x3]) → w.grownBy w' v.ownBlock → K (a.put o.dst (.slice (some ⟨g, 0, none⟩) (n + 1) cap)) w') :
    if Region.wanted o (yielded ops a.tmps) = true then Oper.wp Try.prog o a w K Q else E := by
  obtain ⟨i0, hi, hz0, hz1, hz2⟩ := info_parts (show (Try.prog.info? 43).map (fun i => (i.zero, i.size, i.bytes)) = some (some (.agg #[.string .empty, .int .u64 0, .int .i64 0, .string .empty]), 4, 48) by kernel_rfl)
  exact step_append_lies w hgd s x _ ho B 43 i0 _ 4 48 Try.underlying27 hi hz0 hz1 hz2 rfl (by decide) v n xs hs hown _ 1 c [x0, x1, x2, x3] hx rfl (World.news_of_block hb) h1 (by decide) (by unfold maxLen; omega) (by omega) hB _ rfl fun g cap w' a1 a2 _ _ => h g cap w' a1 a2
/-- Rows under way: the batch's box, the rows so far. -/
structure RSt (seq : Nat) (a : Option Addr) (n c : Nat) (xs : List Rw) (v : Value) (w wr : World) : Prop where
  box : wr.heap[w.heap.size]? = some (.cells #[.int .u64 (seq : Int), .slice a n c] 31 (0, 0))
  row : wr.ownsRow (w.heap.size + 1) 43 4 v xs.length (rowR xs)
  bel : Below w.heap.size w wr
theorem RSt.grow {seq : Nat} {a : Option Addr} {n c : Nat} {xs : List Rw} {v : Value} {w wr w2 : World} {o : Obj} {g cap : Nat} {y : Rw} (h : RSt seq a n c xs v w wr)
    (hr : w2.ownsRow (w.heap.size + 1) 43 4 (.slice (some ⟨g, 0, none⟩) (xs.length + 1) cap) (xs.length + 1) (rowR xs ++ [.string y.key, .int .u64 (y.seq : Int), .int .i64 y.kind, .string y.val])) (hg : (wr.alloc o).drew.grownBy w2 v.ownBlock) :
    RSt seq a n c (xs ++ [y]) (.slice (some ⟨g, 0, none⟩) (xs.length + 1) cap) w w2 := by
  have l0 := (Array.getElem?_eq_some_iff.1 h.box).1
  have hlo : ∀ g, v.ownBlock = some g → w.heap.size + 1 ≤ g := fun g e => (World.ownsRow.lt h.row g e).1
  have b0 : w2.heap[w.heap.size]? = wr.heap[w.heap.size]? := (hg.block w.heap.size (by show _ < (wr.alloc o).heap.size; simp; omega) (fun e => by have := hlo _ e.symm; omega)).trans (Lib.alloc_old wr _ _ l0)
  refine ⟨b0.trans h.box, ?_, ?_⟩
  · rw [rowR_snoc, List.length_append]; exact hr
  · have hz := h.bel.size
    exact (h.bel.alloc (by omega) o).trans ⟨hg.os, hg.tape, hg.output, hg.size, fun k hk => hg.block k (by show _ < (wr.alloc o).heap.size; simp; omega) (fun e => by have := hlo _ e.symm; omega)⟩
set_option maxRecDepth 100000 in
set_option maxHeartbeats 4000000 in
theorem refrows_good {seq : Nat} {a : Option Addr} {n c b o : Nat} {l : List Wr} {w : World} (h : Ws a n c b o l w) (hc : chkB seq l = 0) :
    Calls Try.prog 28 #[batchV seq a n c] w fun e w' => (∃ v, e = .returned v ∧ w'.ownsRow (w.heap.size + 1) 43 4 v n (rowR (rowsFrom seq l))) ∧ Below w.heap.size w w' := by
  obtain ⟨k0, k1, k2, k3, k4⟩ := chkB_ok hc
  rw [h.len] at k0 k3
  obtain ⟨c0, c1⟩ := box_batch w seq (.slice a n c)
  have K := Lib.hid (below_alloc w (.cells #[.int .u64 (seq : Int), .slice a n c] 31))
  have C := Lib.hid (refcheck_any (seq := seq) (h.below K.out (Nat.le_refl _)))
  rw [hc] at C
  have E0 := Lib.hid (heap_alloc_new w (.cells #[.int .u64 (seq : Int), .slice a n c] 31))
  have hcap := h.cap
  have hmost := h.most
  have hlen := Lib.hid h.len
  have h := Lib.hid h
  clear k4 hc
  go_enter Try.func28, Try.ntmps28
  go_wp2_with fail
  refine C.out.mono ?_
  rintro e w1 ⟨rfl, hb1⟩
  have S0 : Hid (RSt seq a n c [] (.slice none 0 0) w w1) := Lib.hid ⟨(hb1.block w.heap.size (Array.getElem?_eq_some_iff.1 E0.out).1).trans E0.out, World.ownsRow_nil _ _ _ _, K.out.trans (hb1.mono K.out.size)⟩
  clear C c0 c1 hb1 K E0
  go_wp2_with fail
  go_loopw [4, 3] (fun i v wr => ∃ (j : Nat) (sv : Value), j ≤ n ∧ i = .int .i64 (j : Int) ∧ v = sv ∧ RSt seq a n c ((rowsFrom seq l).take j) sv w wr) (fun i _ _ => n - (intOf i).toNat)
  case atStart => exact ⟨0, _, Nat.zero_le _, rfl, rfl, S0.out⟩
  case round =>
    clear S0
    obtain ⟨j, sv, hj, rfl, hv, hS⟩ := hrel
    have hl : (rowsFrom seq l).length = n := (rowsFrom_len _ _).trans hlen.out
    have htl : ((rowsFrom seq l).take j).length = j := by rw [List.length_take]; omega
    obtain ⟨x0, x1⟩ := pair_cells hS.box
    have hsh : ∃ p q, sv = .slice p j q := by
      rcases hS.row.2 with ⟨rfl, e⟩ | ⟨g, cap, cur, rfl, _⟩
      · exact ⟨none, 0, by rw [htl] at e; subst e; rfl⟩
      · exact ⟨_, _, by rw [htl]⟩
    by_cases hlt : j < n
    · obtain ⟨y, hy, rfl, a0, a1, a2⟩ := (h.out.below hS.bel (Nat.le_refl _)).at3 hlt
      obtain ⟨xk, xs, xv⟩ := y
      simp only at a0 a1 a2
      have htk : Hid ((rowsFrom seq l).take (j + 1) = (rowsFrom seq l).take j ++ [⟨xs, seq + j, xk, xv⟩]) := Lib.hid (by rw [List.take_add_one, rowsFrom_at, hy]; rfl)
      have hB0 : w.heap.size + 1 ≤ wr.heap.size := (Array.getElem?_eq_some_iff.1 hS.box).1
      have hrow := hS.row
      rw [htl] at hrow
      obtain ⟨p, q, rfl⟩ := hsh
      subst hv
      have sw : IntKind.u64.wrap ((seq : Int) + (j : Int)) = ((seq + j : Nat) : Int) := by have := wrap_u64_nat (n := seq + j) (by omega); rw [← this]; congr 1
      have jw : IntKind.u64.wrap (j : Int) = (j : Int) := wrap_u64_nat (by omega)
      have hS := Lib.hid hS
      have hy := Lib.hid hy
      have htl := Lib.hid htl
      have hl := Lib.hid hl
      have hjm := Lib.hid (show j ≤ 1048576 by omega)
      have hrow := Lib.hid hrow
      have hone := Lib.hid (show ∀ u ∈ [Value.string xs, .int .u64 ((seq + j : Nat) : Int), .int .i64 xk, .string xv], u.oneCell' = true by simp [Value.oneCell'])
      go_upto_region 7 with fail
      have s0 : Hid (wr.drew.cell? ⟨w.heap.size, 0, none⟩ = some (.int .u64 (seq : Int)) ∧ wr.drew.cell? ⟨w.heap.size, 1, none⟩ = some (.slice (some ⟨b, o, none⟩) n c) ∧ wr.drew.cell? ⟨b, o + j * 3, none⟩ = some (.int .i64 xk) ∧ wr.drew.cell? ⟨b, o + j * 3 + 1, none⟩ = some (.string xs) ∧ wr.drew.cell? ⟨b, o + j * 3 + 2, none⟩ = some (.string xv)) := Lib.hid ⟨x0, x1, a0, a1, a2⟩
      have l0 : Hid (w.heap.size < wr.heap.size ∧ b < wr.heap.size) := Lib.hid ⟨World.block_lt_of_cell? _ _ x0, World.block_lt_of_cell? _ _ a0⟩
      have s1 : Hid ((wr.alloc (.cells #[.string xs, .int .u64 ((seq + j : Nat) : Int), .int .i64 xk, .string xv] 43)).drew.cell? ⟨w.heap.size, 0, none⟩ = some (.int .u64 (seq : Int)) ∧ (wr.alloc (.cells #[.string xs, .int .u64 ((seq + j : Nat) : Int), .int .i64 xk, .string xv] 43)).drew.cell? ⟨w.heap.size, 1, none⟩ = some (.slice (some ⟨b, o, none⟩) n c) ∧ (wr.alloc (.cells #[.string xs, .int .u64 ((seq + j : Nat) : Int), .int .i64 xk, .string xv] 43)).drew.cell? ⟨b, o + j * 3, none⟩ = some (.int .i64 xk) ∧ (wr.alloc (.cells #[.string xs, .int .u64 ((seq + j : Nat) : Int), .int .i64 xk, .string xv] 43)).drew.cell? ⟨b, o + j * 3 + 1, none⟩ = some (.string xs) ∧ (wr.alloc (.cells #[.string xs, .int .u64 ((seq + j : Nat) : Int), .int .i64 xk, .string xv] 43)).drew.cell? ⟨b, o + j * 3 + 2, none⟩ = some (.string xv)) := Lib.hid ⟨(World.cell?_alloc_lt _ _ _ l0.out.1).trans x0, (World.cell?_alloc_lt _ _ _ l0.out.1).trans x1, (World.cell?_alloc_lt _ _ _ l0.out.2).trans a0, (World.cell?_alloc_lt _ _ _ l0.out.2).trans a1, (World.cell?_alloc_lt _ _ _ l0.out.2).trans a2⟩
      have hrow3 : Hid ((wr.alloc (.cells #[.string xs, .int .u64 ((seq + j : Nat) : Int), .int .i64 xk, .string xv] 43)).drew.ownsRow (w.heap.size + 1) 43 4 (.slice p j q) j (rowR ((rowsFrom seq l).take j))) := Lib.hid (hrow.out.alloc _)
      have hnew : Hid ((wr.alloc (.cells #[.string xs, .int .u64 ((seq + j : Nat) : Int), .int .i64 xk, .string xv] 43)).drew.heap[wr.heap.size]? = some (.cells #[.string xs, .int .u64 ((seq + j : Nat) : Int), .int .i64 xk, .string xv] 43 (0, 0))) := Lib.hid (heap_alloc_new wr _)
      have hbase2 : Hid (w.heap.size + 1 ≤ (wr.alloc (.cells #[.string xs, .int .u64 ((seq + j : Nat) : Int), .int .i64 xk, .string xv] 43)).drew.heap.size) := Lib.hid (by show _ ≤ (wr.alloc _).heap.size; simp; omega)
      have hbo : Hid (∀ g, (Value.slice p j q).ownBlock = some g → g ≠ w.heap.size ∧ g ≠ b) := Lib.hid fun g hg => by
        have h1 := (World.ownsRow.lt hrow.out g hg).1
        have h2 := (h.out.addr (by omega)).2
        omega
      go_region_held_law (fun v => v.cell? ⟨w.heap.size, 0, none⟩ = some (.int .u64 (seq : Int)) ∧ v.cell? ⟨w.heap.size, 1, none⟩ = some (.slice (some ⟨b, o, none⟩) n c) ∧ v.cell? ⟨b, o + j * 3, none⟩ = some (.int .i64 xk) ∧ v.cell? ⟨b, o + j * 3 + 1, none⟩ = some (.string xs) ∧ v.cell? ⟨b, o + j * 3 + 2, none⟩ = some (.string xv))
        (first
          | exact s0.out
          | exact s1.out
          | exact s2.out)
        ((refine step_append_row (by rfl) (.tmp 16) (.tmp 41) (by rfl) (.slice p j q) j _ (by rfl) (w.heap.size + 1) hrow3.out hjm.out hbase2.out wr.heap.size 1 (.string xs) (.int .u64 ((seq + j : Nat) : Int)) (.int .i64 xk) (.string xv) (by rfl) hnew.out hone.out ?_; intro g cap w2 hrow2 hgrow2; have s2 : Hid (w2.cell? ⟨w.heap.size, 0, none⟩ = some (.int .u64 (seq : Int)) ∧ w2.cell? ⟨w.heap.size, 1, none⟩ = some (.slice (some ⟨b, o, none⟩) n c) ∧ w2.cell? ⟨b, o + j * 3, none⟩ = some (.int .i64 xk) ∧ w2.cell? ⟨b, o + j * 3 + 1, none⟩ = some (.string xs) ∧ w2.cell? ⟨b, o + j * 3 + 2, none⟩ = some (.string xv)) := Lib.hid ⟨hgrow2.cell s1.out.1 (fun e => (hbo.out _ e.symm).1 rfl), hgrow2.cell s1.out.2.1 (fun e => (hbo.out _ e.symm).1 rfl), hgrow2.cell s1.out.2.2.1 (fun e => (hbo.out _ e.symm).2 rfl), hgrow2.cell s1.out.2.2.2.1 (fun e => (hbo.out _ e.symm).2 rfl), hgrow2.cell s1.out.2.2.2.2 (fun e => (hbo.out _ e.symm).2 rfl)⟩))
      all_goals (
        have G : Hid (RSt seq (some ⟨b, o, none⟩) n c ((rowsFrom seq l).take (j + 1)) (.slice (some ⟨g, 0, none⟩) (j + 1) cap) w w2) := Lib.hid (by
          have := hS.out.grow (y := ⟨xs, seq + j, xk, xv⟩) (by rw [htl.out]; exact hrow2) hgrow2
          rw [htl.out] at this
          rw [htk.out]; exact this)
        clear hrow2 hgrow2 hrow3 hnew hbase2 hS s0 s1 s2 l0 hbo hrow x0 x1 a0 a1 a2
        go_wp2_with fail
        go_roundw
        case rel => exact ⟨j + 1, _, by omega, by go_num, rfl, G.out⟩
        case measure => simp [intOf]; omega)
    · have hjn : j = n := by omega
      subst hjn
      obtain ⟨p, q, rfl⟩ := hsh
      subst hv
      have hS := Lib.hid hS
      go_wp2_with fail
      go_returns
      refine ⟨⟨_, rfl, ?_⟩, hS.out.bel⟩
      have := hS.out.row
      rwa [htl, show (rowsFrom seq l).take j = rowsFrom seq l from List.take_of_length_le (by omega)] at this
set_option maxRecDepth 100000 in
set_option maxHeartbeats 1000000 in
theorem refrows_bad {seq : Nat} {a : Option Addr} {n c b o : Nat} {l : List Wr} {w : World} (h : Ws a n c b o l w) (hc : chkB seq l ≠ 0) :
    Calls Try.prog 28 #[batchV seq a n c] w fun e w' => e = .returned (.slice none 0 0) ∧ Below w.heap.size w w' := by
  obtain ⟨c0, c1⟩ := box_batch w seq (.slice a n c)
  have K := Lib.hid (below_alloc w (.cells #[.int .u64 (seq : Int), .slice a n c] 31))
  have C := Lib.hid (refcheck_any (seq := seq) (h.below K.out (Nat.le_refl _)))
  obtain ⟨R, hR⟩ := named (chkB seq l)
  rw [← hR.out] at C hc
  have hcb : (R != 0) = true := by simpa using hc
  clear h hR
  go_enter Try.func28, Try.ntmps28
  go_wp2_with fail
  refine C.out.mono ?_
  rintro e w1 ⟨rfl, hb1⟩
  have hb := Lib.hid (K.out.trans (hb1.mono K.out.size))
  clear C hb1 K
  go_wp2_with fail
  go_returns
  exact ⟨rfl, hb.out⟩
theorem refrows_any {seq : Nat} {a : Option Addr} {n c b o : Nat} {l : List Wr} {w : World} (h : Ws a n c b o l w) :
    Calls Try.prog 28 #[batchV seq a n c] w fun e w' => ∃ a' n' c' b', e = .returned (.slice a' n' c') ∧ Rs a' n' c' b' 0 (rowsB seq l) w' ∧ Below w.heap.size w w' := by
  unfold rowsB
  by_cases hc : chkB seq l = 0
  · refine (refrows_good h hc).mono fun e w' ⟨⟨v, he, hr⟩, hb⟩ => ?_
    rw [if_pos hc]
    have hn : (rowsFrom seq l).length = n := (rowsFrom_len _ _).trans h.len
    rw [← hn] at hr
    obtain ⟨a', c', b', hv, hR, _⟩ := rs_of_row hr
    exact ⟨a', _, c', b', by rw [he, hv], hR, hb⟩
  · refine (refrows_bad h hc).mono fun e w' ⟨he, hb⟩ => ?_
    rw [if_neg hc]
    exact ⟨none, 0, 0, 0, he, ⟨rfl, Nat.le_refl _, by omega, fun h => absurd h (by omega), RwsAt.nil _ _ _⟩, hb⟩
end Go.Proofs.Ytdgbafpnfkedeaa
/-
  The contract of the table's Add. Condition: at most 900000 rows.
-/
namespace Go.Proofs.Ytdgbafpnfkedeaa
set_option maxRecDepth 100000
open Go.RowKit
attribute [local go_sem] eq_node ne_node eq_list eq_table
theorem set_same {α : Type} {l : List α} {i : Nat} {x : α} (h : l[i]? = some x) : l.set i x = l := by
  apply List.ext_getElem?
  intro j
  by_cases hj : j = i
  · subst hj
    rw [List.getElem?_set_self (List.getElem?_eq_some_iff.1 h).1, h]
  · rw [List.getElem?_set_ne (Ne.symm hj)]
theorem thr_get (R : List Rw) (k : ByteArray) (q : Nat) : thr R k q = match getR R k q with | some y => decide (y.seq = q) | none => false := by
  unfold thr getR
  cases hd : R.drop (plc R k q) with
  | nil =>
    have : R[plc R k q]? = none := by rw [List.getElem?_eq_none_iff]; exact List.drop_eq_nil_iff.1 hd
    rw [this]
  | cons y r =>
    have : R[plc R k q]? = some y := by
      have := congrArg (fun t => t[0]?) hd
      simpa using this
    rw [this]
    dsimp only
    by_cases e : y.key.toList = k.toList
    · rw [if_pos e]; simp [e]
    · rw [if_neg e]; simp [e]
theorem take_next {xs : List Rw} {j : Nat} {x : Rw} (h : xs[j]? = some x) (R : List Rw) : insR (insAll R (xs.take j)) x = insAll R (xs.take (j + 1)) := by
  rw [List.take_add_one, h]
  exact (insAll_snoc _ _ _).symm
theorem below_then {base : Nat} {w w1 w2 w3 : World} (h1 : Below base w w1) (h2 : Below w1.heap.size w1 w2) (hb : base ≤ w.heap.size) (h3 : Below base w2 w3) : Below base w w3 := (h1.trans (h2.mono (Nat.le_trans hb h1.size))).trans h3
theorem row_set4 {b g : Nat} {x : Rw} {W : World} (h : RowAt b x W) (hne : b ≠ g) (y : Rw) : RowAt b x ((((W.setCell ⟨g, 0, none⟩ (.string y.key)).setCell ⟨g, 1, none⟩ (.int .u64 (y.seq : Int))).setCell ⟨g, 2, none⟩ (.int .i64 y.kind)).setCell ⟨g, 3, none⟩ (.string y.val)) := by
  have e : ∀ (V : World) (o : Nat) (v : Value), RowAt b x V → RowAt b x (V.setCell ⟨g, o, none⟩ v) := fun V o v hV => (Below.heap_setCell V ⟨g, o, none⟩ v b hne).trans hV
  exact e _ _ _ (e _ _ _ (e _ _ _ (e _ _ _ h)))
theorem rs_else4 {a : Option Addr} {n c b o : Nat} {l : List Rw} {w w' : World} (h : Rs a n c b o l w) (hc : 0 < n → Typed w b 43) (he : Else4 w w') (hs : w.heap.size ≤ w'.heap.size) : Rs a n c b o l w' :=
  h.keep (fun h0 => typed_else4 he (hc h0).choose_spec (by decide) (by decide) (by decide)) hs
/-- What stands while places are looked up. -/
structure AdI (w0 : World) (p L : Nat) (R : List Rw) (rb : Nat) (x : Rw) (v : World) : Prop where
  tab : TabAt p (some ⟨L, 0, none⟩) R v
  row : RowAt rb x v
  bel : Below w0.heap.size w0 v
theorem AdI.grow {w0 : World} {p L : Nat} {R : List Rw} {rb : Nat} {x : Rw} {v v' : World} (h : AdI w0 p L R rb x v) (hb : Below v.heap.size v v') : AdI w0 p L R rb x v' := ⟨h.tab.grow hb, h.row.below hb, below_of h.bel hb⟩
theorem AdI.set4 {w0 : World} {p L : Nat} {R : List Rw} {rb g : Nat} {x z : Rw} {v : World} (h : AdI w0 p L R rb x v) (hg : RowAt g z v) (hw : w0.heap.size ≤ g) (hne : rb ≠ g) (y : Rw) : AdI w0 p L R rb x ((((v.setCell ⟨g, 0, none⟩ (.string y.key)).setCell ⟨g, 1, none⟩ (.int .u64 (y.seq : Int))).setCell ⟨g, 2, none⟩ (.int .i64 y.kind)).setCell ⟨g, 3, none⟩ (.string y.val)) := by
  have hp : p ≠ g := fun e => by
    have h1 := h.tab
    unfold TabAt at h1
    unfold RowAt at hg
    rw [e, hg] at h1
    simp only [Option.some.injEq, Obj.cells.injEq] at h1
    exact absurd h1.2.1 (by decide)
  have e : ∀ (V : World) (o : Nat) (u : Value), TabAt p (some ⟨L, 0, none⟩) R V → TabAt p (some ⟨L, 0, none⟩) R (V.setCell ⟨g, o, none⟩ u) := fun V o u hV => (Below.heap_setCell V ⟨g, o, none⟩ u p hp).trans hV
  exact ⟨e _ _ _ (e _ _ _ (e _ _ _ (e _ _ _ h.tab))), row_set4 h.row hne y, below_set4 h.bel hw y⟩
theorem AdI.s {w0 : World} {p L : Nat} {R : List Rw} {rb : Nat} {x : Rw} {v : World} (h : AdI w0 p L R rb x v) : (v.cell? ⟨p, 0, none⟩ = some (.pointer (some ⟨L, 0, none⟩)) ∧ v.cell? ⟨rb, 0, none⟩ = some (.string x.key) ∧ v.cell? ⟨rb, 1, none⟩ = some (.int .u64 (x.seq : Int))) ∧ Hid (AdI w0 p L R rb x v) := ⟨⟨h.tab.cells.1, h.row.cells.1.1, h.row.cells.1.2.1⟩, Lib.hid h⟩
set_option maxHeartbeats 8000000 in
theorem add_bad {base : Nat} {ts : List (Nat × List Rw)} {w : World} (h : Tb base ts w) {i p : Nat} {R : List Rw} (hi : ts[i]? = some (p, R)) {seq : Nat} {a : Option Addr} {n c b o : Nat} {ws : List Wr} (hw : Ws a n c b o ws w) (hv : Value) (hc : chkB seq ws ≠ 0) :
    Calls Try.prog 12 #[.pointer (some ⟨p, 0, none⟩), batchV seq a n c, hv] w fun e w' => e = .returned (.int .i64 (addR R seq ws).2) ∧ Tb base (ts.set i (p, (addR R seq ws).1)) w' ∧ Below w.heap.size w w' := by
  rw [addR_bad hc, set_same hi]
  have W0 := Lib.hid (below_alloc w (.cells #[.int .u64 (seq : Int), .slice a n c] 31))
  obtain ⟨b0, b1⟩ := box_batch w seq (.slice a n c)
  have CK := check_any (seq := seq) (hw.below W0.out (Nat.le_refl _))
  obtain ⟨L, l, hT, _, _⟩ := (h.grow W0.out).at hi
  obtain ⟨c0, _, _, _⟩ := hT.cells
  obtain ⟨C, hC⟩ := named (chkB seq ws)
  rw [← hC.out] at CK hc ⊢
  have q1 : (C != 0) = true := by simpa using hc
  have CK := Lib.hid CK
  have h := Lib.hid h
  clear hT hw hC hi
  go_enter Try.func12, Try.ntmps12
  go_wp2_with (go_at_call 31; ((with_reducible refine CK.out.mono ?_); rintro e w2 ⟨rfl, hb2⟩; have B2 := Lib.hid (below_of W0.out hb2); clear hb2 CK))
  go_returns
  exact ⟨rfl, h.out.grow B2.out, B2.out⟩
set_option maxHeartbeats 8000000 in
theorem add_good {base : Nat} {ts : List (Nat × List Rw)} {w : World} (h : Tb base ts w) (hb : base ≤ w.heap.size) {i p : Nat} {R : List Rw} (hi : ts[i]? = some (p, R)) (hn : R.length ≤ 900000) {seq : Nat} {a : Option Addr} {n c b o : Nat} {ws : List Wr} (hw : Ws a n c b o ws w) {a1 : Option Addr} {n1 c1 b1 o1 : Nat} {hs : List Int}
    (hk : ∀ w', Below base w w' → Else4 w w' → SlOf 1 cellsI a1 n1 c1 b1 o1 hs w') (hc : chkB seq ws = 0) :
    Calls Try.prog 12 #[.pointer (some ⟨p, 0, none⟩), batchV seq a n c, .slice a1 n1 c1] w fun e w' => e = .returned (.int .i64 (addR R seq ws).2) ∧ Tb base (ts.set i (p, (addR R seq ws).1)) w' ∧ Below base w w' ∧ Else4 w w' := by
  have W0 := Lib.hid (below_alloc w (.cells #[.int .u64 (seq : Int), .slice a n c] 31))
  obtain ⟨b0, b1'⟩ := box_batch w seq (.slice a n c)
  have CK := check_any (seq := seq) (hw.below W0.out (Nat.le_refl _))
  rw [hc] at CK
  have CK := Lib.hid CK
  have RO : Hid (∀ u, Below (w.alloc (.cells #[.int .u64 (seq : Int), .slice a n c] 31)).heap.size (w.alloc (.cells #[.int .u64 (seq : Int), .slice a n c] 31)) u → Calls Try.prog 32 #[batchV seq a n c] u (RowsB seq ws u) ∧ u.cell? ⟨w.heap.size, 0, none⟩ = some (.int .u64 (seq : Int)) ∧ u.cell? ⟨w.heap.size, 1, none⟩ = some (.slice a n c)) := Lib.hid fun u hu =>
    ⟨rows_any ((hw.below W0.out (Nat.le_refl _)).below hu (Nat.le_refl _)), (hu.cell (p := ⟨w.heap.size, 0, none⟩) (by rw [World.size_alloc]; exact Nat.lt_succ_self _)).trans b0, (hu.cell (p := ⟨w.heap.size, 1, none⟩) (by rw [World.size_alloc]; exact Nat.lt_succ_self _)).trans b1'⟩
  obtain ⟨L, l, hTp, hLs, hRl⟩ := h.at hi
  obtain ⟨c0, _, _, _⟩ := (hTp.grow W0.out).cells
  have hTp := Lib.hid hTp
  have hLs := Lib.hid hLs
  have hRl := Lib.hid hRl
  have h1k : 1 ≤ n1 ∨ n1 = 0 := by omega
  have sl0 := hk w (Below.refl _ _) (Else4.refl _)
  have mh := sl0.most
  have ch := sl0.cap
  have h := Lib.hid h
  replace hk := Lib.hid hk
  have hsort := Lib.hid (h.out.sort hi)
  have hshort := Lib.hid (rowsFrom_short hc)
  clear sl0
  go_enter Try.func12, Try.ntmps12
  go_upto_region 6 with (go_at_call 31; ((with_reducible refine CK.out.mono ?_); rintro e w2 ⟨rfl, hb2⟩; have B2 := Lib.hid (below_of W0.out hb2); obtain ⟨ro, r0, r1⟩ := RO.out _ hb2; have RO2 := Lib.hid ro; clear hb2 CK ro))
  go_wp2_with (go_at_call 32; ((with_reducible refine RO2.out.mono ?_); rintro e w3 hd; obtain ⟨ra, N, rc, rb, rfl, hR, hT, hb3⟩ := rs_of_rows hd; have B3 := Lib.hid (below_of B2.out hb3); have HR := Lib.hid hR; have HT := Lib.hid hT; have rm := hR.most; have rcp := hR.cap; clear hb3 hd hR hT RO2 r0 r1 RO))
  have eX : rowsB seq ws = rowsFrom seq ws := by unfold rowsB; rw [if_pos hc]
  rw [eX] at HR
  have hX64 : (rowsFrom seq ws).length ≤ 64 := by rw [rowsFrom_len]; exact (chkB_ok hc).2.2.2.1
  obtain ⟨X, hX⟩ := named (rowsFrom seq ws)
  rw [← hX.out] at HR hshort hX64
  have hNX : N = X.length := HR.out.len.symm
  have hN64 : N ≤ 64 := by omega
  have hpw : p < w.heap.size := (Array.getElem?_eq_some_iff.1 hTp.out).1
  have VE : Hid (∀ (k : ByteArray) (q : Nat) u, Below w.heap.size w u → Calls Try.prog 33 #[.func (.func 34) #[.pointer (some ⟨L, 0, none⟩)] #[], .string k, .int .u64 (q : Int)] u fun e w' => e = .returned (verV (getR R k q)) ∧ Below u.heap.size u w') := Lib.hid fun k q u hu => version_any (hLs.out.grow hu) hRl.out (by omega) k q
  replace hc := Lib.hid hc
  replace hi := Lib.hid hi
  replace hb := Lib.hid hb
  replace hNX := Lib.hid hNX
  replace hX64 := Lib.hid hX64
  clear eX
  go_loopw [34] (fun v wr => ∃ j : Nat, j ≤ N ∧ v = .int .i64 (j : Int) ∧ (∀ (m : Nat) (x : Rw), m < j → X[m]? = some x → thr R x.key x.seq = false) ∧ Below w3.heap.size w3 wr) (fun v _ => N - (intOf v).toNat)
  case atStart => exact ⟨0, Nat.zero_le _, rfl, fun m x hm => absurd hm (Nat.not_lt_zero _), Below.refl _ _⟩
  case round =>
    obtain ⟨j, hj, rfl, hfr, hB⟩ := hrel
    have hfr := Lib.hid hfr
    by_cases hlt : j < N
    · obtain ⟨x, hx, rfl, x0, x1, x2, x3⟩ := (HR.out.below hB (Nat.le_refl _)).at4 hlt
      rw [Nat.zero_add] at x0 x1 x2 x3
      obtain ⟨xk, xs, xi, xv⟩ := x
      simp only at x0 x1 x2 x3
      have hx := Lib.hid hx
      have DV := Lib.hid (below_of (below_of B3.out hB) (below_alloc wr (.cells #[.string xk, .int .u64 (xs : Int), .int .i64 xi, .string xv] 43)))
      have D3 := Lib.hid (below_of hB (below_alloc wr (.cells #[.string xk, .int .u64 (xs : Int), .int .i64 xi, .string xv] 43)))
      have RV := Lib.hid (RowAt.new ⟨xk, xs, xi, xv⟩ wr)
      have VE := Lib.hid (VE.out xk xs)
      have i1 : (j : Int) < (N : Int) := by omega
      have hsz : wr.heap.size ≥ w3.heap.size := hB.size
      have hpr : p < wr.heap.size := by have := (below_of B3.out hB).size; omega
      have hVs := World.size_alloc wr (.cells #[.string xk, .int .u64 (xs : Int), .int .i64 xi, .string xv] 43)
      go_upto_region 10 with fail
      have cV := (hTp.out.grow DV.out).cells.1
      generalize wr.alloc (.cells #[.string xk, .int .u64 (xs : Int), .int .i64 xi, .string xv] 43) = V at DV D3 RV hVs cV ⊢
      have gn1 : ¬ p = V.heap.size := by omega
      have gn2 : ¬ wr.heap.size = V.heap.size := by omega
      have gn3 : Hid (wr.heap.size ≠ V.heap.size) := Lib.hid (by omega)
      have gl1 : p < V.heap.size := by omega
      have gl2 : wr.heap.size < V.heap.size := by omega
      have gm1 : ¬ V.heap.size = p := by omega
      have gm2 : ¬ V.heap.size = wr.heap.size := by omega
      have hsz3 : w3.heap.size ≤ V.heap.size := by omega
      replace hVs := Lib.hid hVs
      obtain ⟨⟨z0, z1, z2, z3⟩, _⟩ := RV.out.cells
      have I0 : Hid (AdI w3 p L R wr.heap.size ⟨xk, xs, xi, xv⟩ V.drew) := Lib.hid ⟨(hTp.out.grow DV.out).grow (Below.refl _ V).drew, RV.out.below (Below.refl _ V).drew, D3.out.drew⟩
      clear x0 x1 x2 x3 c0
      cases hg : getR R xk xs with
      | none =>
        replace hg := Lib.hid hg
        have VC : Hid (∀ u, Below w3.heap.size w3 u → Calls Try.prog 33 #[.func (.func 34) #[.pointer (some ⟨L, 0, none⟩)] #[], .string xk, .int .u64 (xs : Int)] u fun e w' => e = .returned (.tuple #[.agg #[.string ⟨#[]⟩, .int .u64 0, .int .i64 0, .string ⟨#[]⟩], .bool false]) ∧ Below u.heap.size u w') := Lib.hid fun u hu => (VE.out u (below_of B3.out hu)).mono fun e w' hp => ⟨by rw [hp.1, hg.out]; rfl, hp.2⟩
        go_cut [11, 12] from 38 to 50 (fun r ok wc => ok = .bool false ∧ ∃ g, r = .pointer (some ⟨g, 0, none⟩) ∧ RowAt g zeroR wc ∧ RowAt wr.heap.size ⟨xk, xs, xi, xv⟩ wc ∧ Below w3.heap.size w3 wc)
        case first =>
          refine wp_region_held_drew (S := (fun v => (v.cell? ⟨p, 0, none⟩ = some (.pointer (some ⟨L, 0, none⟩)) ∧ v.cell? ⟨wr.heap.size, 0, none⟩ = some (.string xk) ∧ v.cell? ⟨wr.heap.size, 1, none⟩ = some (.int .u64 (xs : Int))) ∧ Hid (AdI w3 p L R wr.heap.size ⟨xk, xs, xi, xv⟩ v))) (by kernel_rfl) (I0.out.s) (fun hHeld => ?_)
          refine held_take (i := 0) (v := ?_) rfl (by kernel_rfl) (by kernel_rfl) (by kernel_rfl) (fun _ _ _ h => h) (by rfl) (fun w hSw => ?_) (by assumption) ?_; rotate_left 1; focus (((try dsimp only at hSw); first | (go_simp; done) | (go_simp; with_reducible rfl)))
          try simp only [Act.put, List.setIfInBounds_toArray, List.set_cons_zero, List.set_cons_succ]
          refine held_take (i := 1) (v := ?_) rfl (by kernel_rfl) (by kernel_rfl) (by kernel_rfl) (fun _ _ _ h => h) (by rfl) (fun w hSw => ?_) (by assumption) ?_; rotate_left 1; focus (((try dsimp only at hSw); first | (go_simp; done) | (go_simp; with_reducible rfl)))
          try simp only [Act.put, List.setIfInBounds_toArray, List.set_cons_zero, List.set_cons_succ]
          refine held_take (i := 2) (v := ?_) rfl (by kernel_rfl) (by kernel_rfl) (by kernel_rfl) (fun _ _ _ h => h) (by rfl) (fun w hSw => ?_) (by assumption) ?_; rotate_left 1; focus (((try dsimp only at hSw); first | (go_simp; done) | (go_simp; with_reducible rfl)))
          try simp only [Act.put, List.setIfInBounds_toArray, List.set_cons_zero, List.set_cons_succ]
          refine held_take (i := 3) (v := ?_) rfl (by kernel_rfl) (by kernel_rfl) (by kernel_rfl) (fun _ _ _ h => h) (by rfl) (fun w hSw => ?_) (by assumption) ?_; rotate_left 1; focus (((try dsimp only at hSw); first | (go_simp; done) | (go_simp; with_reducible rfl)))
          try simp only [Act.put, List.setIfInBounds_toArray, List.set_cons_zero, List.set_cons_succ]
          refine held_take (i := 4) (v := ?_) rfl (by kernel_rfl) (by kernel_rfl) (by kernel_rfl) (fun _ _ _ h => h) (by rfl) (fun w hSw => ?_) (by assumption) ?_; rotate_left 1; focus (((try dsimp only at hSw); first | (go_simp; done) | (go_simp; with_reducible rfl)))
          try simp only [Act.put, List.setIfInBounds_toArray, List.set_cons_zero, List.set_cons_succ]
          refine held_take (i := 5) (v := ?_) rfl (by kernel_rfl) (by kernel_rfl) (by kernel_rfl) (fun _ _ _ h => h) (by rfl) (fun w hSw => ?_) (by assumption) ?_; rotate_left 1; focus (((try dsimp only at hSw); first | (go_simp; done) | (go_simp; with_reducible rfl)))
          try simp only [Act.put, List.setIfInBounds_toArray, List.set_cons_zero, List.set_cons_succ]
          refine held_take (i := 6) (v := ?_) rfl (by kernel_rfl) (by kernel_rfl) (by kernel_rfl) (fun _ _ _ h => h) (by rfl) (fun w hSw => ?_) (by assumption) ?_; rotate_left 1; focus (((try dsimp only at hSw); first | (go_simp; done) | (go_simp; with_reducible rfl)))
          try simp only [Act.put, List.setIfInBounds_toArray, List.set_cons_zero, List.set_cons_succ]
          refine held_take (i := 7) (v := ?_) rfl (by kernel_rfl) (by kernel_rfl) (by kernel_rfl) (fun _ _ _ h => h) (by rfl) (fun w hSw => ?_) (by assumption) ?_; rotate_left 1; focus (((try dsimp only at hSw); first | (go_simp; done) | (go_simp; with_reducible rfl)))
          try simp only [Act.put, List.setIfInBounds_toArray, List.set_cons_zero, List.set_cons_succ]
          refine held_take (i := 8) (v := ?_) rfl (by kernel_rfl) (by kernel_rfl) (by kernel_rfl) (fun _ _ _ h => h) (by rfl) (fun w hSw => ?_) (by assumption) ?_; rotate_left 1; focus (((try dsimp only at hSw); first | (go_simp; done) | (go_simp; with_reducible rfl)))
          try simp only [Act.put, List.setIfInBounds_toArray, List.set_cons_zero, List.set_cons_succ]
          refine held_two (i := 9) (j := 13) (by kernel_rfl) rfl rfl (by rfl) (by rfl) (fun K hK => ?_) (fun K hK => ?_)
          · go_simp
            (go_at_call 33; ((with_reducible refine (VC.out _ hHeld.2.out.bel).mono ?_); rintro e w5 ⟨rfl, hb5⟩))
            have I5 := Lib.hid (hHeld.2.out.grow hb5)
            clear hHeld hb5
            refine hK.out _ _ (I5.out.s) (fun hHeld => ?_)
            try simp only [Act.put, List.setIfInBounds_toArray, List.set_cons_zero, List.set_cons_succ]
            refine held_take (i := 10) (v := ?_) rfl (by kernel_rfl) (by kernel_rfl) (by kernel_rfl) (fun _ _ _ h => h) (by rfl) (fun w hSw => ?_) (by assumption) ?_; rotate_left 1; focus (((try dsimp only at hSw); first | (go_simp; done) | (go_simp; with_reducible rfl)))
            try simp only [Act.put, List.setIfInBounds_toArray, List.set_cons_zero, List.set_cons_succ]
            refine held_take (i := 11) (v := ?_) rfl (by kernel_rfl) (by kernel_rfl) (by kernel_rfl) (fun _ _ _ h => h) (by rfl) (fun w hSw => ?_) (by assumption) ?_; rotate_left 1; focus (((try dsimp only at hSw); first | (go_simp; done) | (go_simp; with_reducible rfl)))
            try simp only [Act.put, List.setIfInBounds_toArray, List.set_cons_zero, List.set_cons_succ]
            refine held_take (i := 12) (v := ?_) rfl (by kernel_rfl) (by kernel_rfl) (by kernel_rfl) (fun _ _ _ h => h) (by rfl) (fun w hSw => ?_) (by assumption) ?_; rotate_left 1; focus (((try dsimp only at hSw); first | (go_simp; done) | (go_simp; with_reducible rfl)))
            try simp only [Act.put, List.setIfInBounds_toArray, List.set_cons_zero, List.set_cons_succ]
            refine held_call (i := 13) (by kernel_rfl) rfl (by rfl) (fun K hK => ?_)
            go_simp
            have I6 := Lib.hid (I5.out.grow (below_alloc w5 (.cells #[.string ⟨#[]⟩, .int .u64 0, .int .i64 0, .string ⟨#[]⟩] 43)))
            refine hK.out _ _ (I6.out.s) (fun hHeld => ?_)
            try simp only [Act.put, List.setIfInBounds_toArray, List.set_cons_zero, List.set_cons_succ]
            refine held_call (i := 14) (by kernel_rfl) rfl (by rfl) (fun K hK => ?_)
            go_simp
            refine hK.out _ _ ((I5.out.grow (below_alloc w5 _)).s) (fun hHeld => ?_)
            try simp only [Act.put, List.setIfInBounds_toArray, List.set_cons_zero, List.set_cons_succ]
            refine held_take (i := 15) (v := ?_) rfl (by kernel_rfl) (by kernel_rfl) (by kernel_rfl) (fun _ _ _ h => h) (by rfl) (fun w hSw => ?_) (by assumption) ?_; rotate_left 1; focus (((try dsimp only at hSw); first | (go_simp; done) | (go_simp; with_reducible rfl)))
            try simp only [Act.put, List.setIfInBounds_toArray, List.set_cons_zero, List.set_cons_succ]
            refine wpAnyH_done (by kernel_rfl) ?_ _
            go_wp2_with fail
            go_meet
            exact ⟨rfl, _, rfl, RowAt.new zeroR w5, hHeld.2.out.row, hHeld.2.out.bel⟩
          · go_simp
            have I5 := Lib.hid (hHeld.2.out.grow (below_alloc _ (.cells #[.string ⟨#[]⟩, .int .u64 0, .int .i64 0, .string ⟨#[]⟩] 43)))
            have Z5 := Lib.hid (show RowAt V.heap.size zeroR (V.drew.alloc (.cells #[.string ⟨#[]⟩, .int .u64 0, .int .i64 0, .string ⟨#[]⟩] 43)) from RowAt.new zeroR V.drew)
            refine hK.out _ _ (I5.out.s) (fun hHeld => ?_)
            try simp only [Act.put, List.setIfInBounds_toArray, List.set_cons_zero, List.set_cons_succ]
            refine held_call (i := 9) (by kernel_rfl) rfl (by rfl) (fun K hK => ?_)
            go_simp
            (go_at_call 33; ((with_reducible refine (VC.out _ hHeld.2.out.bel).mono ?_); rintro e w5 ⟨rfl, hb5⟩))
            have I6 := Lib.hid (hHeld.2.out.grow hb5)
            have Z6 := Lib.hid (Z5.out.below hb5)
            clear hHeld hb5 I5 Z5
            obtain ⟨⟨v0, v1, v2, v3⟩, v4⟩ := Z6.out.cells
            refine hK.out _ _ (I6.out.s) (fun hHeld => ?_)
            try simp only [Act.put, List.setIfInBounds_toArray, List.set_cons_zero, List.set_cons_succ]
            refine held_take (i := 10) (v := ?_) rfl (by kernel_rfl) (by kernel_rfl) (by kernel_rfl) (fun _ _ _ h => h) (by rfl) (fun w hSw => ?_) (by assumption) ?_; rotate_left 1; focus (((try dsimp only at hSw); first | (go_simp; done) | (go_simp; with_reducible rfl)))
            try simp only [Act.put, List.setIfInBounds_toArray, List.set_cons_zero, List.set_cons_succ]
            refine held_take (i := 11) (v := ?_) rfl (by kernel_rfl) (by kernel_rfl) (by kernel_rfl) (fun _ _ _ h => h) (by rfl) (fun w hSw => ?_) (by assumption) ?_; rotate_left 1; focus (((try dsimp only at hSw); first | (go_simp; done) | (go_simp; with_reducible rfl)))
            try simp only [Act.put, List.setIfInBounds_toArray, List.set_cons_zero, List.set_cons_succ]
            refine held_take (i := 12) (v := ?_) rfl (by kernel_rfl) (by kernel_rfl) (by kernel_rfl) (fun _ _ _ h => h) (by rfl) (fun w hSw => ?_) (by assumption) ?_; rotate_left 1; focus (((try dsimp only at hSw); first | (go_simp; done) | (go_simp; with_reducible rfl)))
            try simp only [Act.put, List.setIfInBounds_toArray, List.set_cons_zero, List.set_cons_succ]
            refine held_call (i := 14) (by kernel_rfl) rfl (by rfl) (fun K hK => ?_)
            go_simp
            refine hK.out _ _ ((I6.out.set4 Z6.out hsz3 gn3.out zeroR).s) (fun hHeld => ?_)
            try simp only [Act.put, List.setIfInBounds_toArray, List.set_cons_zero, List.set_cons_succ]
            refine held_take (i := 15) (v := ?_) rfl (by kernel_rfl) (by kernel_rfl) (by kernel_rfl) (fun _ _ _ h => h) (by rfl) (fun w hSw => ?_) (by assumption) ?_; rotate_left 1; focus (((try dsimp only at hSw); first | (go_simp; done) | (go_simp; with_reducible rfl)))
            try simp only [Act.put, List.setIfInBounds_toArray, List.set_cons_zero, List.set_cons_succ]
            refine wpAnyH_done (by kernel_rfl) ?_ _
            go_wp2_with fail
            go_meet
            exact ⟨rfl, _, rfl, RowAt.set4 Z6.out zeroR, hHeld.2.out.row, hHeld.2.out.bel⟩
        case rest =>
          obtain ⟨rfl, g, rfl, rg, X5, B5⟩ := hcut
          obtain ⟨⟨y0, y1, y2, y3⟩, _⟩ := rg.cells
          obtain ⟨⟨u0, u1, u2, u3⟩, _⟩ := X5.cells
          have B5 := Lib.hid B5
          clear VC rg X5
          have tj : Hid (thr R xk xs = false) := Lib.hid (by rw [thr_get, hg.out])
          go_wp2_with fail
          go_roundw
          case rel => exact ⟨j + 1, by omega, by go_num, fun m y hm hy => by
            by_cases hmj : m < j
            · exact hfr.out m y hmj hy
            · obtain rfl : m = j := by omega
              rw [hx.out] at hy
              cases hy
              exact tj.out, B5.out⟩
          case measure => simp [intOf]; omega
      | some y =>
        obtain ⟨yk, ys, yi, yv⟩ := y
        replace hg := Lib.hid hg
        have VC : Hid (∀ u, Below w3.heap.size w3 u → Calls Try.prog 33 #[.func (.func 34) #[.pointer (some ⟨L, 0, none⟩)] #[], .string xk, .int .u64 (xs : Int)] u fun e w' => e = .returned (.tuple #[.agg #[.string yk, .int .u64 (ys : Int), .int .i64 yi, .string yv], .bool true]) ∧ Below u.heap.size u w') := Lib.hid fun u hu => (VE.out u (below_of B3.out hu)).mono fun e w' hp => ⟨by rw [hp.1, hg.out]; rfl, hp.2⟩
        go_cut [11, 12] from 38 to 50 (fun r ok wc => ok = .bool true ∧ ∃ g, r = .pointer (some ⟨g, 0, none⟩) ∧ RowAt g ⟨yk, ys, yi, yv⟩ wc ∧ RowAt wr.heap.size ⟨xk, xs, xi, xv⟩ wc ∧ Below w3.heap.size w3 wc)
        case first =>
          refine wp_region_held_drew (S := (fun v => (v.cell? ⟨p, 0, none⟩ = some (.pointer (some ⟨L, 0, none⟩)) ∧ v.cell? ⟨wr.heap.size, 0, none⟩ = some (.string xk) ∧ v.cell? ⟨wr.heap.size, 1, none⟩ = some (.int .u64 (xs : Int))) ∧ Hid (AdI w3 p L R wr.heap.size ⟨xk, xs, xi, xv⟩ v))) (by kernel_rfl) (I0.out.s) (fun hHeld => ?_)
          refine held_take (i := 0) (v := ?_) rfl (by kernel_rfl) (by kernel_rfl) (by kernel_rfl) (fun _ _ _ h => h) (by rfl) (fun w hSw => ?_) (by assumption) ?_; rotate_left 1; focus (((try dsimp only at hSw); first | (go_simp; done) | (go_simp; with_reducible rfl)))
          try simp only [Act.put, List.setIfInBounds_toArray, List.set_cons_zero, List.set_cons_succ]
          refine held_take (i := 1) (v := ?_) rfl (by kernel_rfl) (by kernel_rfl) (by kernel_rfl) (fun _ _ _ h => h) (by rfl) (fun w hSw => ?_) (by assumption) ?_; rotate_left 1; focus (((try dsimp only at hSw); first | (go_simp; done) | (go_simp; with_reducible rfl)))
          try simp only [Act.put, List.setIfInBounds_toArray, List.set_cons_zero, List.set_cons_succ]
          refine held_take (i := 2) (v := ?_) rfl (by kernel_rfl) (by kernel_rfl) (by kernel_rfl) (fun _ _ _ h => h) (by rfl) (fun w hSw => ?_) (by assumption) ?_; rotate_left 1; focus (((try dsimp only at hSw); first | (go_simp; done) | (go_simp; with_reducible rfl)))
          try simp only [Act.put, List.setIfInBounds_toArray, List.set_cons_zero, List.set_cons_succ]
          refine held_take (i := 3) (v := ?_) rfl (by kernel_rfl) (by kernel_rfl) (by kernel_rfl) (fun _ _ _ h => h) (by rfl) (fun w hSw => ?_) (by assumption) ?_; rotate_left 1; focus (((try dsimp only at hSw); first | (go_simp; done) | (go_simp; with_reducible rfl)))
          try simp only [Act.put, List.setIfInBounds_toArray, List.set_cons_zero, List.set_cons_succ]
          refine held_take (i := 4) (v := ?_) rfl (by kernel_rfl) (by kernel_rfl) (by kernel_rfl) (fun _ _ _ h => h) (by rfl) (fun w hSw => ?_) (by assumption) ?_; rotate_left 1; focus (((try dsimp only at hSw); first | (go_simp; done) | (go_simp; with_reducible rfl)))
          try simp only [Act.put, List.setIfInBounds_toArray, List.set_cons_zero, List.set_cons_succ]
          refine held_take (i := 5) (v := ?_) rfl (by kernel_rfl) (by kernel_rfl) (by kernel_rfl) (fun _ _ _ h => h) (by rfl) (fun w hSw => ?_) (by assumption) ?_; rotate_left 1; focus (((try dsimp only at hSw); first | (go_simp; done) | (go_simp; with_reducible rfl)))
          try simp only [Act.put, List.setIfInBounds_toArray, List.set_cons_zero, List.set_cons_succ]
          refine held_take (i := 6) (v := ?_) rfl (by kernel_rfl) (by kernel_rfl) (by kernel_rfl) (fun _ _ _ h => h) (by rfl) (fun w hSw => ?_) (by assumption) ?_; rotate_left 1; focus (((try dsimp only at hSw); first | (go_simp; done) | (go_simp; with_reducible rfl)))
          try simp only [Act.put, List.setIfInBounds_toArray, List.set_cons_zero, List.set_cons_succ]
          refine held_take (i := 7) (v := ?_) rfl (by kernel_rfl) (by kernel_rfl) (by kernel_rfl) (fun _ _ _ h => h) (by rfl) (fun w hSw => ?_) (by assumption) ?_; rotate_left 1; focus (((try dsimp only at hSw); first | (go_simp; done) | (go_simp; with_reducible rfl)))
          try simp only [Act.put, List.setIfInBounds_toArray, List.set_cons_zero, List.set_cons_succ]
          refine held_take (i := 8) (v := ?_) rfl (by kernel_rfl) (by kernel_rfl) (by kernel_rfl) (fun _ _ _ h => h) (by rfl) (fun w hSw => ?_) (by assumption) ?_; rotate_left 1; focus (((try dsimp only at hSw); first | (go_simp; done) | (go_simp; with_reducible rfl)))
          try simp only [Act.put, List.setIfInBounds_toArray, List.set_cons_zero, List.set_cons_succ]
          refine held_two (i := 9) (j := 13) (by kernel_rfl) rfl rfl (by rfl) (by rfl) (fun K hK => ?_) (fun K hK => ?_)
          · go_simp
            (go_at_call 33; ((with_reducible refine (VC.out _ hHeld.2.out.bel).mono ?_); rintro e w5 ⟨rfl, hb5⟩))
            have I5 := Lib.hid (hHeld.2.out.grow hb5)
            clear hHeld hb5
            refine hK.out _ _ (I5.out.s) (fun hHeld => ?_)
            try simp only [Act.put, List.setIfInBounds_toArray, List.set_cons_zero, List.set_cons_succ]
            refine held_take (i := 10) (v := ?_) rfl (by kernel_rfl) (by kernel_rfl) (by kernel_rfl) (fun _ _ _ h => h) (by rfl) (fun w hSw => ?_) (by assumption) ?_; rotate_left 1; focus (((try dsimp only at hSw); first | (go_simp; done) | (go_simp; with_reducible rfl)))
            try simp only [Act.put, List.setIfInBounds_toArray, List.set_cons_zero, List.set_cons_succ]
            refine held_take (i := 11) (v := ?_) rfl (by kernel_rfl) (by kernel_rfl) (by kernel_rfl) (fun _ _ _ h => h) (by rfl) (fun w hSw => ?_) (by assumption) ?_; rotate_left 1; focus (((try dsimp only at hSw); first | (go_simp; done) | (go_simp; with_reducible rfl)))
            try simp only [Act.put, List.setIfInBounds_toArray, List.set_cons_zero, List.set_cons_succ]
            refine held_take (i := 12) (v := ?_) rfl (by kernel_rfl) (by kernel_rfl) (by kernel_rfl) (fun _ _ _ h => h) (by rfl) (fun w hSw => ?_) (by assumption) ?_; rotate_left 1; focus (((try dsimp only at hSw); first | (go_simp; done) | (go_simp; with_reducible rfl)))
            try simp only [Act.put, List.setIfInBounds_toArray, List.set_cons_zero, List.set_cons_succ]
            refine held_call (i := 13) (by kernel_rfl) rfl (by rfl) (fun K hK => ?_)
            go_simp
            have I6 := Lib.hid (I5.out.grow (below_alloc w5 (.cells #[.string ⟨#[]⟩, .int .u64 0, .int .i64 0, .string ⟨#[]⟩] 43)))
            refine hK.out _ _ (I6.out.s) (fun hHeld => ?_)
            try simp only [Act.put, List.setIfInBounds_toArray, List.set_cons_zero, List.set_cons_succ]
            refine held_call (i := 14) (by kernel_rfl) rfl (by rfl) (fun K hK => ?_)
            go_simp
            refine hK.out _ _ ((I5.out.grow (below_alloc w5 _)).s) (fun hHeld => ?_)
            try simp only [Act.put, List.setIfInBounds_toArray, List.set_cons_zero, List.set_cons_succ]
            refine held_take (i := 15) (v := ?_) rfl (by kernel_rfl) (by kernel_rfl) (by kernel_rfl) (fun _ _ _ h => h) (by rfl) (fun w hSw => ?_) (by assumption) ?_; rotate_left 1; focus (((try dsimp only at hSw); first | (go_simp; done) | (go_simp; with_reducible rfl)))
            try simp only [Act.put, List.setIfInBounds_toArray, List.set_cons_zero, List.set_cons_succ]
            refine wpAnyH_done (by kernel_rfl) ?_ _
            go_wp2_with fail
            go_meet
            exact ⟨rfl, _, rfl, RowAt.new ⟨yk, ys, yi, yv⟩ w5, hHeld.2.out.row, hHeld.2.out.bel⟩
          · go_simp
            have I5 := Lib.hid (hHeld.2.out.grow (below_alloc _ (.cells #[.string ⟨#[]⟩, .int .u64 0, .int .i64 0, .string ⟨#[]⟩] 43)))
            have Z5 := Lib.hid (show RowAt V.heap.size zeroR (V.drew.alloc (.cells #[.string ⟨#[]⟩, .int .u64 0, .int .i64 0, .string ⟨#[]⟩] 43)) from RowAt.new zeroR V.drew)
            refine hK.out _ _ (I5.out.s) (fun hHeld => ?_)
            try simp only [Act.put, List.setIfInBounds_toArray, List.set_cons_zero, List.set_cons_succ]
            refine held_call (i := 9) (by kernel_rfl) rfl (by rfl) (fun K hK => ?_)
            go_simp
            (go_at_call 33; ((with_reducible refine (VC.out _ hHeld.2.out.bel).mono ?_); rintro e w5 ⟨rfl, hb5⟩))
            have I6 := Lib.hid (hHeld.2.out.grow hb5)
            have Z6 := Lib.hid (Z5.out.below hb5)
            clear hHeld hb5 I5 Z5
            obtain ⟨⟨v0, v1, v2, v3⟩, v4⟩ := Z6.out.cells
            refine hK.out _ _ (I6.out.s) (fun hHeld => ?_)
            try simp only [Act.put, List.setIfInBounds_toArray, List.set_cons_zero, List.set_cons_succ]
            refine held_take (i := 10) (v := ?_) rfl (by kernel_rfl) (by kernel_rfl) (by kernel_rfl) (fun _ _ _ h => h) (by rfl) (fun w hSw => ?_) (by assumption) ?_; rotate_left 1; focus (((try dsimp only at hSw); first | (go_simp; done) | (go_simp; with_reducible rfl)))
            try simp only [Act.put, List.setIfInBounds_toArray, List.set_cons_zero, List.set_cons_succ]
            refine held_take (i := 11) (v := ?_) rfl (by kernel_rfl) (by kernel_rfl) (by kernel_rfl) (fun _ _ _ h => h) (by rfl) (fun w hSw => ?_) (by assumption) ?_; rotate_left 1; focus (((try dsimp only at hSw); first | (go_simp; done) | (go_simp; with_reducible rfl)))
            try simp only [Act.put, List.setIfInBounds_toArray, List.set_cons_zero, List.set_cons_succ]
            refine held_take (i := 12) (v := ?_) rfl (by kernel_rfl) (by kernel_rfl) (by kernel_rfl) (fun _ _ _ h => h) (by rfl) (fun w hSw => ?_) (by assumption) ?_; rotate_left 1; focus (((try dsimp only at hSw); first | (go_simp; done) | (go_simp; with_reducible rfl)))
            try simp only [Act.put, List.setIfInBounds_toArray, List.set_cons_zero, List.set_cons_succ]
            refine held_call (i := 14) (by kernel_rfl) rfl (by rfl) (fun K hK => ?_)
            go_simp
            refine hK.out _ _ ((I6.out.set4 Z6.out hsz3 gn3.out ⟨yk, ys, yi, yv⟩).s) (fun hHeld => ?_)
            try simp only [Act.put, List.setIfInBounds_toArray, List.set_cons_zero, List.set_cons_succ]
            refine held_take (i := 15) (v := ?_) rfl (by kernel_rfl) (by kernel_rfl) (by kernel_rfl) (fun _ _ _ h => h) (by rfl) (fun w hSw => ?_) (by assumption) ?_; rotate_left 1; focus (((try dsimp only at hSw); first | (go_simp; done) | (go_simp; with_reducible rfl)))
            try simp only [Act.put, List.setIfInBounds_toArray, List.set_cons_zero, List.set_cons_succ]
            refine wpAnyH_done (by kernel_rfl) ?_ _
            go_wp2_with fail
            go_meet
            exact ⟨rfl, _, rfl, RowAt.set4 Z6.out ⟨yk, ys, yi, yv⟩, hHeld.2.out.row, hHeld.2.out.bel⟩
        case rest =>
          obtain ⟨rfl, g, rfl, rg, X5, B5⟩ := hcut
          obtain ⟨⟨y0, y1, y2, y3⟩, _⟩ := rg.cells
          obtain ⟨⟨u0, u1, u2, u3⟩, _⟩ := X5.cells
          have B5 := Lib.hid B5
          clear VC rg X5
          by_cases hq : ys = xs
          · have tj := Lib.hid (show thr R xk xs = true by rw [thr_get, hg.out]; simp [hq])
            have q1 : ((ys : Int) == (xs : Int)) = true := by rw [beq_iff_eq]; omega
            have q2 : (ys : Int) = (xs : Int) := by omega
            subst hq
            go_wp2_with fail
            go_returns
            rw [addR_taken hc.out (x := ⟨xk, ys, xi, xv⟩) (by rw [← hX.out]; exact List.mem_of_getElem? hx.out) tj.out, set_same hi.out]
            have B6 := below_of B3.out B5.out
            exact ⟨rfl, h.out.grow B6, ⟨B6.os, B6.tape, B6.output, B6.size, fun k hk' => B6.block k (Nat.lt_of_lt_of_le hk' hb.out)⟩, Else4.of_below B6 (Nat.le_refl _)⟩
          · have tj := Lib.hid (show thr R xk xs = false by rw [thr_get, hg.out]; simp [hq])
            have q1 : ((ys : Int) == (xs : Int)) = false := by rw [beq_eq_false_iff_ne]; omega
            have q2 : ¬ (ys : Int) = (xs : Int) := by omega
            go_wp2_with fail
            go_roundw
            case rel => exact ⟨j + 1, by omega, by go_num, fun m y hm hy => by
              by_cases hmj : m < j
              · exact hfr.out m y hmj hy
              · obtain rfl : m = j := by omega
                rw [hx.out] at hy
                cases hy
                exact tj.out, B5.out⟩
            case measure => simp [intOf]; omega
    · have hjN : j = N := by omega
      subst hjN
      have i1 : ¬ ((j : Int) < (j : Int)) := by omega
      have hfa : Hid (∀ x ∈ X, thr R x.key x.seq = false) := Lib.hid fun x hx => by
        obtain ⟨m, hm⟩ := List.getElem?_of_mem hx
        exact hfr.out m x (by have := (List.getElem?_eq_some_iff.1 hm).1; rw [hNX.out]; exact this) hm
      have hap : Hid (Apart (X ++ R)) := Lib.hid (by rw [hX.out]; exact free_apart hsort.out (by rw [← hX.out]; exact hfa.out))
      have hgood : Hid (addR R seq ws = (insAll R X, 0)) := Lib.hid (by rw [hX.out]; exact addR_good hc.out (by rw [← hX.out]; exact hfa.out))
      have Tw : Tb base (ts.set i (p, insAll R (X.take 0))) wr := by
        rw [List.take_zero, show insAll R [] = R from rfl, set_same hi.out]
        exact h.out.grow (below_of B3.out hB)
      have Bw : Below base w wr := (below_of B3.out hB).mono hb.out
      have Ew : Else4 w3 wr := Else4.of_below hB (Nat.le_refl _)
      have Sw : w3.heap.size ≤ wr.heap.size := hB.size
      have E3 : Hid (Else4 w w3) := Lib.hid (Else4.of_below B3.out (Nat.le_refl _))
      have Tw := Lib.hid Tw
      have Bw := Lib.hid Bw
      have Ew := Lib.hid Ew
      have Sw := Lib.hid Sw
      obtain ⟨N, hjN⟩ := named j
      rw [← hjN.out] at HR HT rcp hN64 hNX ⊢
      clear hB hj hlt i1 hfr hjN
      go_wp2_with fail
      go_loopw [62] (fun v wq => ∃ j : Nat, j ≤ N ∧ v = .int .i64 (j : Int) ∧ Tb base (ts.set i (p, insAll R (X.take j))) wq ∧ Below base w wq ∧ Else4 w3 wq ∧ w3.heap.size ≤ wq.heap.size) (fun v _ => N - (intOf v).toNat)
      case atStart => exact ⟨0, Nat.zero_le _, rfl, Tw.out, Bw.out, Ew.out, Sw.out⟩
      case round =>
        clear Tw Bw Ew Sw
        obtain ⟨j, hj, rfl, T0, B0, E0, S0⟩ := hrel
        by_cases hlt : j < N
        · obtain ⟨x, hx, rfl, x0, x1, x2, x3⟩ := (rs_else4 HR.out (fun h0 => ⟨_, (HT.out h0).2.choose_spec.1⟩) E0 S0).at4 hlt
          rw [Nat.zero_add] at x0 x1 x2 x3
          have hfree := insAll_free hsort.out hap.out hx
          have hlen : (insAll R (X.take j)).length ≤ 1000000 := by rw [insAll_len, List.length_take]; have := hX64.out; omega
          have hil := (List.getElem?_eq_some_iff.1 hi.out).1
          have IN := Lib.hid fun (H : Int) => tb_insert (T0.grow (below_alloc wr (.cells #[.string x.key, .int .u64 (x.seq : Int), .int .i64 x.kind, .string x.val] 43))) (by rw [World.size_alloc]; have := B0.size; have := hb.out; omega) (List.getElem?_set_self hil) hlen x (hshort.out x (List.mem_of_getElem? hx)) hfree.2 H
          obtain ⟨xk, xs, xi, xv⟩ := x
          simp only at x0 x1 x2 x3
          have hx := Lib.hid hx
          have T0 := Lib.hid T0
          have B0' := B0
          have E0' := E0
          have B0 := Lib.hid B0
          have E0 := Lib.hid E0
          have S0 := Lib.hid S0
          have i1 : (j : Int) < (N : Int) := by omega
          clear hfree hlen hil
          by_cases hh : j < n1
          · have i2 : (j : Int) < (n1 : Int) := by omega
            have sl := hk.out wr B0.out (Else4.trans E3.out E0.out B3.out.size)
            have hbl := (sl.addr (by omega)).2
            obtain ⟨H, hH, rfl, y0⟩ := num_at sl hh
            have y1 : (wr.alloc (.cells #[.string xk, .int .u64 (xs : Int), .int .i64 xi, .string xv] 43)).cell? ⟨b1, o1 + j, none⟩ = some (.int .i64 H) := ((below_alloc wr (.cells #[.string xk, .int .u64 (xs : Int), .int .i64 xi, .string xv] 43)).cell (p := ⟨b1, o1 + j, none⟩) hbl).trans y0
            have e1 : ¬ b1 = wr.heap.size := by omega
            clear sl
            clear B0' E0'
            go_wp2_with (go_at_call 35; ((with_reducible refine (IN.out _).mono ?_); rintro e w5 ⟨rfl, T5, B5, E5⟩; have T5 := Lib.hid T5; have B5 := Lib.hid B5; have E5 := Lib.hid E5; clear IN))
            go_roundw
            case rel => exact ⟨j + 1, by omega, by go_num, by have := T5.out; rw [List.set_set, take_next hx.out] at this; exact this, below_then B0.out (below_alloc _ _) hb.out B5.out, Else4.trans (Else4.trans E0.out (Else4.of_below (below_alloc _ _) (Nat.le_refl _)) S0.out) E5.out (by rw [World.size_alloc]; have := S0.out; omega), by have := B5.out.size; rw [World.size_alloc] at this; have := S0.out; omega⟩
            case measure => simp [intOf]; omega
          · have i2 : ¬ ((j : Int) < (n1 : Int)) := by omega
            clear B0' E0'
            go_wp2_with (go_at_call 35; ((with_reducible refine (IN.out _).mono ?_); rintro e w5 ⟨rfl, T5, B5, E5⟩; have T5 := Lib.hid T5; have B5 := Lib.hid B5; have E5 := Lib.hid E5; clear IN))
            go_roundw
            case rel => exact ⟨j + 1, by omega, by go_num, by have := T5.out; rw [List.set_set, take_next hx.out] at this; exact this, below_then B0.out (below_alloc _ _) hb.out B5.out, Else4.trans (Else4.trans E0.out (Else4.of_below (below_alloc _ _) (Nat.le_refl _)) S0.out) E5.out (by rw [World.size_alloc]; have := S0.out; omega), by have := B5.out.size; rw [World.size_alloc] at this; have := S0.out; omega⟩
            case measure => simp [intOf]; omega
        · have hjN : j = N := by omega
          have i1 : ¬ ((j : Int) < (N : Int)) := by omega
          have T0 := Lib.hid T0
          have B0 := Lib.hid B0
          have E0 := Lib.hid E0
          have S0 := Lib.hid S0
          have fin : Hid (X.take j = X) := Lib.hid (List.take_of_length_le (by have := hNX.out; omega))
          go_wp2_with fail
          go_returns
          rw [hgood.out]
          have := T0.out
          rw [fin.out] at this
          exact ⟨rfl, this, B0.out, Else4.trans E3.out E0.out B3.out.size⟩
theorem add_any {base : Nat} {ts : List (Nat × List Rw)} {w : World} (h : Tb base ts w) (hb : base ≤ w.heap.size) {i p : Nat} {R : List Rw} (hi : ts[i]? = some (p, R)) (hn : R.length ≤ 900000) {seq : Nat} {a : Option Addr} {n c b o : Nat} {ws : List Wr} (hw : Ws a n c b o ws w) {a1 : Option Addr} {n1 c1 b1 o1 : Nat} {hs : List Int}
    (hk : ∀ w', Below base w w' → Else4 w w' → SlOf 1 cellsI a1 n1 c1 b1 o1 hs w') :
    Calls Try.prog 12 #[.pointer (some ⟨p, 0, none⟩), batchV seq a n c, .slice a1 n1 c1] w fun e w' => e = .returned (.int .i64 (addR R seq ws).2) ∧ Tb base (ts.set i (p, (addR R seq ws).1)) w' ∧ Below base w w' ∧ Else4 w w' := by
  by_cases hc : chkB seq ws = 0
  · exact add_good h hb hi hn hw hk hc
  · exact (add_bad h hi hw _ hc).mono fun e w' hd => ⟨hd.1, hd.2.1, hd.2.2.mono hb, Else4.of_below hd.2.2 (Nat.le_refl _)⟩
end Go.Proofs.Ytdgbafpnfkedeaa
