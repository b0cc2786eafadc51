/-
  The contract of Decode. Condition: a text within reach.
-/
import Derived.Test.YtaanclnppfpocaaBatchDecode1
import Derived.Test.YtaanclnppfpocaaBatchCheck
import Derived.Deep.AppendLies
import Derived.Laws.OwnMore
namespace Go.Proofs.Ytaanclnppfpocaa
open Go.RowKit
/-- Writes as cells. -/
def rowW (l : List Wr) : List Value := l.flatMap fun x => [.int .i64 x.kind, .string x.key, .string x.val]
theorem rowW_len (l : List Wr) : (rowW l).length = l.length * 3 := by
  induction l with
  | nil => rfl
  | cons x r ih => show ([_, _, _] ++ rowW r).length = _; rw [List.length_append, ih]; simp; omega
theorem rowW_snoc (l : List Wr) (x : Wr) : rowW (l ++ [x]) = rowW l ++ [.int .i64 x.kind, .string x.key, .string x.val] := by simp [rowW]
theorem rowW_at : ∀ (l : List Wr) (j : Nat) {x : Wr}, l[j]? = some x → (rowW l)[j * 3]? = some (.int .i64 x.kind) ∧ (rowW l)[j * 3 + 1]? = some (.string x.key) ∧ (rowW l)[j * 3 + 2]? = some (.string x.val)
  | [], _, _, h => by cases h
  | y :: r, 0, x, h => by
    obtain rfl : y = x := by simpa using h
    exact ⟨rfl, rfl, rfl⟩
  | y :: r, j + 1, x, h => by
    obtain ⟨h1, h2, h3⟩ := rowW_at r j (x := x) (by simpa using h)
    refine ⟨?_, ?_, ?_⟩
    · show (_ :: _ :: _ :: rowW r)[(j + 1) * 3]? = _
      rw [show (j + 1) * 3 = j * 3 + 1 + 1 + 1 by omega]; simpa using h1
    · show (_ :: _ :: _ :: rowW r)[(j + 1) * 3 + 1]? = _
      rw [show (j + 1) * 3 + 1 = j * 3 + 1 + 1 + 1 + 1 by omega]; simpa using h2
    · show (_ :: _ :: _ :: rowW r)[(j + 1) * 3 + 2]? = _
      rw [show (j + 1) * 3 + 2 = j * 3 + 2 + 1 + 1 + 1 by omega]; simpa using h3
/-- An own row of writes is a slice of writes. -/
theorem ws_of_row {w : World} {B : Nat} {v : Value} {l : List Wr} (h : w.ownsRow B 44 3 v l.length (rowW l)) (hf : ∀ x ∈ l, x.key.size ≤ reachBytes ∧ x.val.size ≤ reachBytes) : ∃ a c b, v = .slice a l.length c ∧ Ws a l.length c b 0 l w ∧ (0 < l.length → B ≤ b) := by
  rcases h.2 with ⟨rfl, hz⟩ | ⟨g, cap, cur, rfl, hg, hb, hn, hm, hs, ht⟩
  · have : l = [] := List.length_eq_zero_iff.1 hz
    subst this
    exact ⟨none, 0, 0, rfl, ⟨rfl, Nat.le_refl _, by omega, fun h => absurd h (by simp), WrsAt.nil _ _ _, hf⟩, fun h => absurd h (by simp)⟩
  · refine ⟨_, _, g, rfl, ⟨rfl, hn, hm, fun _ => ⟨rfl, (Array.getElem?_eq_some_iff.1 hb).1⟩, fun j x hx => ?_, hf⟩, fun _ => hg⟩
    have hj : j < l.length := (List.getElem?_eq_some_iff.1 hx).1
    obtain ⟨e0, e1, e2⟩ := rowW_at l j hx
    rw [Nat.zero_add]
    exact ⟨(World.ownsRow.cellAt h _ (by omega)).trans e0, (World.ownsRow.cellAt h _ (by omega)).trans e1, (World.ownsRow.cellAt h _ (by omega)).trans e2⟩
theorem index_byte (s : ByteArray) (n : Nat) (c : UInt8) (h : s.data.toList[n]? = some c) (u : World) :
    (Instr.index 9 (.string s) (.int .i64 (n : Int))).run Try.prog u = .ok (.int .u8 (c.toNat : Int)) u := by
  have hl : n < s.data.toList.length := (List.getElem?_eq_some_iff.1 h).1
  rw [size_list] at hl
  rw [run_index_string u 9 s .i64 _ Try.underlying9, dif_pos ⟨by omega, by omega⟩]
  have e : ∀ h', s[(n : Int).toNat]'h' = c := fun h' => by
    have h3 : s.data.toList[n]? = some s[n] := Lib.data_getElem? s n (by omega)
    exact Option.some.inj (h3.symm.trans h)
  rw [e]
theorem res2 {v : World} {N : Nat} {y0 y1 : Value} {T : TypeId} (h : v.heap[N]? = some (.cells #[y0, y1] T (0, 0))) (x0 x1 : Value) :
    ((v.setCell ⟨N, 0, none⟩ x0).setCell ⟨N, 1, none⟩ x1).heap[N]? = some (.cells #[x0, x1] T (0, 0)) :=
  (heap_setCell_same _ _ _ _ _ _ ((heap_setCell_same _ _ _ _ _ _ h).trans rfl)).trans rfl
theorem below2c {w v : World} {N : Nat} (h : Below w.heap.size w v) (hN : w.heap.size ≤ N) (x0 x1 : Value) : Below w.heap.size w ((v.setCell ⟨N, 0, none⟩ x0).setCell ⟨N, 1, none⟩ x1) :=
  (h.setCell (p := ⟨N, 0, none⟩) hN _).setCell (p := ⟨N, 1, none⟩) hN _
theorem cell2 {v : World} {N : Nat} {x0 x1 : Value} {T : TypeId} (h : v.heap[N]? = some (.cells #[x0, x1] T (0, 0))) : v.cell? ⟨N, 0, none⟩ = some x0 ∧ v.cell? ⟨N, 1, none⟩ = some x1 ∧ v.frozen? ⟨N, 0, none⟩ = false ∧ v.frozen? ⟨N, 1, none⟩ = false := by
  refine ⟨by simp [World.cell?, h], by simp [World.cell?, h], by simp [World.frozen?, h], by simp [World.frozen?, h]⟩
theorem other2 {v : World} {N k : Nat} (hk : k ≠ N) (x0 x1 : Value) : ((v.setCell ⟨N, 0, none⟩ x0).setCell ⟨N, 1, none⟩ x1).heap[k]? = v.heap[k]? :=
  (heap_setCell_other _ _ _ _ hk).trans (heap_setCell_other _ _ _ _ hk)
/-- The blocks of Decode under way: the result, the batch so far. -/
structure DecSt (N0 N1 seq : Nat) (xs : List Wr) (sv : Value) (w wr : World) : Prop where
  res : wr.heap[N0]? = some (.cells #[.int .u64 0, .slice none 0 0] 25 (0, 0))
  bat : wr.heap[N1]? = some (.cells #[.int .u64 (seq : Int), sv] 25 (0, 0))
  row : wr.ownsRow (N1 + 1) 44 3 sv xs.length (rowW xs)
  bel : Below N0 w wr
  ord : w.heap.size ≤ N0 ∧ N0 < N1
theorem DecSt.below {N0 N1 seq : Nat} {xs : List Wr} {sv : Value} {w wr w' : World} (h : DecSt N0 N1 seq xs sv w wr) (hb : Below wr.heap.size wr w') : DecSt N0 N1 seq xs sv w w' := by
  have l0 := (Array.getElem?_eq_some_iff.1 h.res).1
  have l1 := (Array.getElem?_eq_some_iff.1 h.bat).1
  refine ⟨(hb.block N0 l0).trans h.res, (hb.block N1 l1).trans h.bat, ⟨h.row.1, ?_⟩, h.bel.trans (hb.mono (by omega)), h.ord⟩
  rcases h.row.2 with e | ⟨g, cap, cur, e, a, b, c⟩
  · exact .inl e
  · exact .inr ⟨g, cap, cur, e, a, (hb.block g (Array.getElem?_eq_some_iff.1 b).1).trans b, c⟩
theorem DecSt.grow {N0 N1 seq : Nat} {xs : List Wr} {sv v' : Value} {y : Wr} {w wc w2 : World} {o : Obj} (h : DecSt N0 N1 seq xs sv w wc) (hr : w2.ownsRow (N1 + 1) 44 3 v' (xs.length + 1) (rowW xs ++ [.int .i64 y.kind, .string y.key, .string y.val])) (hg : (wc.alloc o).grownBy w2 sv.ownBlock) :
    DecSt N0 N1 seq (xs ++ [y]) v' w (w2.setCell ⟨N1, 1, none⟩ v') ∧ w2.heap[N1]? = some (.cells #[.int .u64 (seq : Int), sv] 25 (0, 0)) := by
  have l0 := (Array.getElem?_eq_some_iff.1 h.res).1
  have l1 := (Array.getElem?_eq_some_iff.1 h.bat).1
  have hlo : ∀ g, sv.ownBlock = some g → N1 + 1 ≤ g := fun g e => (World.ownsRow.lt h.row g e).1
  have o1 := h.ord
  have b0 : w2.heap[N0]? = wc.heap[N0]? := (hg.block N0 (by simp; omega) (fun e => by have := hlo _ e.symm; omega)).trans (Lib.alloc_old wc _ _ l0)
  have b1 : w2.heap[N1]? = wc.heap[N1]? := (hg.block N1 (by simp; omega) (fun e => by have := hlo _ e.symm; omega)).trans (Lib.alloc_old wc _ _ l1)
  have hb : Below N0 w w2 := by
    have hz := h.bel.size
    exact (h.bel.alloc (by omega) o).trans ⟨hg.os, hg.tape, hg.output, hg.size, fun k hk => hg.block k (by simp; omega) (fun e => by have := hlo _ e.symm; omega)⟩
  refine ⟨⟨(heap_setCell_other _ _ _ _ (by simp only; omega)).trans (b0.trans h.res), (heap_setCell_same _ _ _ _ _ _ (b1.trans h.bat)).trans rfl, ⟨rowW_len _, ?_⟩, hb.setCell (p := ⟨N1, 1, none⟩) (by simp only; omega) _, h.ord⟩, b1.trans h.bat⟩
  rw [rowW_snoc, List.length_append]
  rcases hr.2 with e | ⟨g, cap, cur, e, a, b, c⟩
  · exact .inl e
  · exact .inr ⟨g, cap, cur, e, a, (heap_setCell_other _ _ _ _ (by simp only; omega)).trans b, c⟩
theorem below3c' {B N : Nat} {w v : World} (h : Below B w v) (hN : B ≤ N) (x0 x1 x2 : Value) : Below B w (((v.setCell ⟨N, 0, none⟩ x0).setCell ⟨N, 1, none⟩ x1).setCell ⟨N, 2, none⟩ x2) :=
  ((h.setCell (p := ⟨N, 0, none⟩) hN _).setCell (p := ⟨N, 1, none⟩) hN _).setCell (p := ⟨N, 2, none⟩) hN _
theorem decoded_some (u0 : World) {D : Option (Wr × Nat)} {yk : Int} {ys yv : ByteArray} {m0 n : Nat} {F : FuncId} {T1 : ByteArray} (hd : D = some (⟨yk, ys, yv⟩, m0)) (hn : 0 < n)
    (DD : ∀ u, Calls Try.prog F #[.string T1] u fun e w' => ((D = none ∧ ∃ x : Int, x ≠ 0 ∧ e = .returned (.tuple #[.agg #[.int .i64 0, .string ⟨#[]⟩, .string ⟨#[]⟩], .int .i64 0, .int .i64 x])) ∨ ∃ y k, D = some (y, 1 + k) ∧ k ≤ n - 1 ∧ e = .returned (.tuple #[.agg #[.int .i64 y.kind, .string y.key, .string y.val], .int .i64 (k : Int), .int .i64 0])) ∧ Below u.heap.size u w') :
    ∃ m, m0 = 1 + m ∧ m + 1 ≤ n ∧ ∀ u, Calls Try.prog F #[.string T1] u fun e w' => e = .returned (.tuple #[.agg #[.int .i64 yk, .string ys, .string yv], .int .i64 (m : Int), .int .i64 0]) ∧ Below u.heap.size u w' := by
  have one : ∃ m, m0 = 1 + m ∧ m + 1 ≤ n := by
    obtain ⟨e, w', fr, hP, _⟩ := DD u0 []
    rcases hP with ⟨⟨h, _⟩ | ⟨y, k, hy, hk, _⟩, _⟩
    · rw [hd] at h; cases h
    · rw [hd] at hy
      simp only [Option.some.injEq, Prod.mk.injEq] at hy
      exact ⟨k, hy.2, by omega⟩
  obtain ⟨m, rfl, hm⟩ := one
  refine ⟨m, rfl, hm, fun u => (DD u).mono fun e w' hP => ?_⟩
  rcases hP with ⟨⟨h, _⟩ | ⟨y, k, hy, hk, he⟩, hb⟩
  · rw [hd] at h; cases h
  · rw [hd] at hy
    simp only [Option.some.injEq, Prod.mk.injEq] at hy
    obtain ⟨rfl, hk2⟩ := hy
    obtain rfl : m = k := by omega
    exact ⟨he, hb⟩
/-- What Decode returns. -/
def DecodedB (l : List UInt8) (w : World) (e : Ending) (w' : World) : Prop :=
  ∃ a c b, e = .returned (.tuple #[batchV (decB l).1 a (decB l).2.1.length c, .int .i64 (decB l).2.2]) ∧ Ws a (decB l).2.1.length c b 0 (decB l).2.1 w' ∧ ((decB l).2.1 = [] → a = none ∧ c = 0) ∧ Below w.heap.size w w'
set_option maxRecDepth 100000 in
set_option maxHeartbeats 40000000 in
theorem decode_main (s : ByteArray) (hs : s.size ≤ reachBytes) (w : World) : Calls Try.prog 15 #[.string s] w (DecodedB s.data.toList w) := by
  have H := Lib.hid fun u => head_any s (by unfold reachBytes at hs; unfold maxLen; omega) u
  go_enter Try.func15, Try.ntmps15
  go_wp2_with fail
  go_step3
  go_wp2_with fail
  refine (H.out _).mono ?_
  rintro e w1 ⟨hh, b1⟩
  have g0 : w1.heap[w.heap.size]? = some (.cells #[.int .u64 0, .slice none 0 0] 25 (0, 0)) := (b1.block w.heap.size (by simp)).trans (heap_alloc_new _ _)
  obtain ⟨c0, c1, f0, f1⟩ := cell2 g0
  have hN : w.heap.size < w1.heap.size := by have := b1.size; simp at this; omega
  have b1 := Lib.hid ((below_alloc w (.cells #[.int .u64 0, .slice none 0 0] 25)).trans (b1.mono (by simp)))
  have K := Lib.hid fun x0 x1 => And.intro (res2 g0 x0 x1) (below2c b1.out (Nat.le_refl _) x0 x1)
  rcases hh with ⟨hbad, x, hx, rfl⟩ | ⟨hgood, t, ht, htz, rfl⟩
  · have hx' : (x != 0) = true := by simpa using hx
    have hE : Hid (decB s.data.toList = (0, [], 7)) := Lib.hid (if_pos hbad)
    clear g0
    go_wp2_with fail
    rw [Exit.noGoto_ret]
    obtain ⟨kk, kb⟩ := K.out (.int .u64 0) (.slice none 0 0)
    generalize (w1.setCell ⟨w.heap.size, 0, none⟩ (.int .u64 0)).setCell ⟨w.heap.size, 1, none⟩ (.slice none 0 0) = V at *
    obtain ⟨a0, a1, _, _⟩ := cell2 kk
    refine bodyPost_ret (v := .tuple #[batchV 0 none 0 0, .int .i64 7]) (by simp [results, Try.results15, go_sem, a0, a1]) rfl ?_
    unfold DecodedB
    rw [hE.out]
    exact ⟨none, 0, 0, rfl, ⟨rfl, Nat.le_refl _, by omega, fun h => absurd h (by simp), WrsAt.nil _ _ _, fun x hx => by cases hx⟩, fun _ => ⟨rfl, rfl⟩, kb⟩
  · have hM : (Code.rd 0 (s.data.toList.drop (Code.rd 0 s.data.toList).2.1)).1 ≤ 64 := by unfold headBad at hgood; omega
    have hA : (Code.rd 0 s.data.toList).1 < 2 ^ 64 := Code.rd_fits _
    have hE : Hid (decB s.data.toList = match decL (Code.rd 0 (s.data.toList.drop (Code.rd 0 s.data.toList).2.1)).1 t.data.toList with
      | none => (0, [], 7)
      | some (xs, r) => if r = [] ∧ chkB (Code.rd 0 s.data.toList).1 xs = 0 then ((Code.rd 0 s.data.toList).1, xs, 0) else (0, [], 7)) := Lib.hid (by rw [ht]; exact if_neg hgood)
    obtain ⟨A, eA⟩ := named (Code.rd 0 s.data.toList).1
    obtain ⟨M, eM⟩ := named (Code.rd 0 (s.data.toList.drop (Code.rd 0 s.data.toList).2.1)).1
    rw [← eA.out, ← eM.out] at hE
    rw [← eM.out] at hM ⊢
    rw [← eA.out] at hA ⊢
    clear eA eM K ht hgood H
    go_wp2_with fail
    have start : Hid (∀ V, V = w1.alloc (.cells #[.int .u64 (A : Int), .slice none 0 0] 25) → DecSt w.heap.size w1.heap.size A [] (.slice none 0 0) w V) := Lib.hid fun V hV => by
      subst hV
      exact ⟨(Lib.alloc_old w1 _ _ hN).trans g0, heap_alloc_new _ _, World.ownsRow_nil _ _ _ _, b1.out.trans ((below_alloc _ _).mono b1.out.size), Nat.le_refl _, hN⟩
    have start := Lib.hid (start.out _ rfl)
    generalize w1.alloc (.cells #[.int .u64 (A : Int), .slice none 0 0] 25) = V0 at *
    generalize w1.heap.size = N1 at *
    clear g0 c0 c1 f0 f1 b1
    go_step3
    go_wp2_with fail
    go_loopw [25, 6] (fun i v wr => ∃ (j : Nat) (xs : List Wr) (T : ByteArray) (sv : Value), j ≤ M ∧ i = .int .u64 (j : Int) ∧ v = .string T ∧ decL j t.data.toList = some (xs, T.data.toList) ∧ T.size ≤ s.size ∧ DecSt w.heap.size N1 A xs sv w wr) (fun i _ _ => M - (intOf i).toNat)
    case atStart => exact ⟨0, [], t, .slice none 0 0, Nat.zero_le _, rfl, rfl, rfl, htz, start.out⟩
    case round =>
      clear start
      obtain ⟨j, xs, T, sv, hj, rfl, rfl, hdec, hTz, hst⟩ := hrel
      have hlen := decL_len _ _ hdec
      subst hlen
      obtain ⟨pa, pc, pb, rfl, hws, hpb⟩ := ws_of_row hst.row (fun x hx => by have := decL_fit _ _ hdec x hx; unfold reachBytes; omega)
      obtain ⟨y0, y1, yf0, yf1⟩ := cell2 hst.bat
      obtain ⟨r0, r1, rf0, rf1⟩ := cell2 hst.res
      have wn : IntKind.u64.wrap ((xs.length : Nat) : Int) = ((xs.length : Nat) : Int) := wrap_u64_nat (by omega)
      have hTl : T.data.toList.length = T.size := size_list T
      by_cases hlt : xs.length < M
      · by_cases hT0 : T.size = 0
        · have hTe : T.toList.isEmpty = true := by rw [isEmpty_size, hT0]; rfl
          have hE7 : Hid (decB s.data.toList = (0, [], 7)) := Lib.hid (by rw [hE.out, decL_none _ _ _ hdec (by rw [List.length_eq_zero_iff.1 (hTl.trans hT0)]; rfl) hlt])
          have hne : (((xs.length : Nat) : Int) != ((M : Nat) : Int)) = true := by rw [bne_iff_ne]; omega
          have KB := Lib.hid (And.intro (res2 hst.res (.int .u64 0) (.slice none 0 0)) (below2c hst.bel (Nat.le_refl _) (.int .u64 0) (.slice none 0 0)))
          have hdec := Lib.hid hdec
          have hst := Lib.hid hst
          have hws := Lib.hid hws
          go_wp2_with fail
          rw [Exit.noGoto_ret]
          obtain ⟨kk, kb⟩ := KB.out
          generalize (wr.setCell ⟨w.heap.size, 0, none⟩ (.int .u64 0)).setCell ⟨w.heap.size, 1, none⟩ (.slice none 0 0) = V at *
          obtain ⟨a0, a1, _, _⟩ := cell2 kk
          refine bodyPost_ret (v := .tuple #[batchV 0 none 0 0, .int .i64 7]) (by simp [results, Try.results15, go_sem, a0, a1]) rfl ?_
          unfold DecodedB
          rw [hE7.out]
          exact ⟨none, 0, 0, rfl, ⟨rfl, Nat.le_refl _, by omega, fun h => absurd h (by simp), WrsAt.nil _ _ _, fun x hx => by cases hx⟩, fun _ => ⟨rfl, rfl⟩, kb⟩
        · have hTe : T.toList.isEmpty = false := by rw [isEmpty_size]; simpa using hT0
          have hTn : ¬ T.toList = [] := by rw [toList_size]; exact hT0
          have hdec := Lib.hid hdec
          have hst := Lib.hid hst
          have hws := Lib.hid hws
          obtain ⟨k, rT, hTk⟩ : ∃ k r, T.data.toList = k :: r := by
            cases e : T.data.toList with
            | nil => rw [e] at hTl; exact absurd hTl.symm hT0
            | cons k r => exact ⟨k, r, rfl⟩
          have I0 : ∀ u, (Instr.index 9 (.string T) (.int .i64 0)).run Try.prog u = .ok (.int .u8 (k.toNat : Int)) u := index_byte T 0 k (by rw [hTk]; rfl)
          have hT1 : (T.extract 1 T.size).data.toList = rT := by rw [drop_list, hTk]; rfl
          have z1 : (T.extract 1 T.size).size = T.size - 1 := drop_size T 1
          have hTm : T.size ≤ 9223372036854775807 := by unfold reachBytes at hs; omega
          have DD := Lib.hid fun u => decoder_any k (T.extract 1 T.size) (by rw [z1]; omega) u
          unfold Decoded at DD
          rw [hT1, ← hTk, z1] at DD
          have KA := Lib.hid fun u => kind_any k u
          obtain ⟨T1, hT1e⟩ := named (T.extract 1 T.size)
          have d1 : decide ((T.size : Int) < 1) = false := decide_eq_false (by omega)
          have S1 : ∀ u, (Instr.slice 9 (.string T) (some (.int .i64 1)) none none).run Try.prog u = .ok (.string T1) u := fun u => by
            rw [hT1e.out]
            exact run_slice_string_l u 9 T Try.underlying9 .i64 1 (by omega) (by omega)
          rw [← hT1e.out] at DD
          clear hTk hT1 z1
          go_upto_region 8 with fail
          go_cut [9, 10, 11] from 29 to 39 (fun p v x wc => DecSt w.heap.size N1 A xs (.slice pa xs.length pc) w wc ∧ wr.heap.size ≤ wc.heap.size ∧ ((decW T.data.toList = none ∧ ∃ z : Int, z ≠ 0 ∧ x = .int .i64 z) ∨ ∃ y m q, decW T.data.toList = some (y, 1 + m) ∧ m + 1 ≤ T.size ∧ v = .int .i64 (m : Int) ∧ x = .int .i64 0 ∧ p = .pointer (some ⟨q, 0, none⟩) ∧ wc.heap[q]? = some (.cells #[.int .i64 y.kind, .string y.key, .string y.val] 44 (0, 0)) ∧ wr.heap.size ≤ q))
          case first =>
            have hF : kindF k = 41 ∨ kindF k = 42 ∨ kindF k = 40 := by unfold kindF; split; exact .inl rfl; split; exact .inr (.inl rfl); exact .inr (.inr rfl)
            cases hd : decW T.data.toList with
            | none =>
              have DN : Hid (∀ u, Calls Try.prog (kindF k) #[.string T1] u fun e w' => (∃ z : Int, z ≠ 0 ∧ e = .returned (.tuple #[.agg #[.int .i64 0, .string ⟨#[]⟩, .string ⟨#[]⟩], .int .i64 0, .int .i64 z])) ∧ Below u.heap.size u w') := Lib.hid fun u => (DD.out u).mono fun e w' h => by
                rcases h with ⟨⟨_, z, hz, he⟩ | ⟨y, n, hy, _⟩, hb⟩
                · exact ⟨⟨z, hz, he⟩, hb⟩
                · rw [hd] at hy; cases hy
              clear DD
              rcases hF with hF | hF | hF
              · rw [hF] at KA DN
                have FL : ∀ u : World, (Instr.field 64 (.agg #[.func (.func 41) #[] #[]]) 0).run Try.prog u = .ok (.func (.func 41) #[] #[]) u := fun _ => by kernel_rfl
                go_region_with (first
                  | (go_at_call 33
                     refine (KA.out _).mono ?_
                     rintro e u1 ⟨rfl, q1⟩
                     have hA1 : Hid (Below wr.heap.size wr u1) := Lib.hid (by first | exact ⟨q1.os, q1.tape, q1.output, q1.size, q1.block⟩ | exact (below_alloc wr (.cells #[.int .i64 0, .string .empty, .string .empty] 44)).trans ((⟨q1.os, q1.tape, q1.output, q1.size, q1.block⟩ : Below (wr.alloc (.cells #[.int .i64 0, .string .empty, .string .empty] 44)).heap.size (wr.alloc (.cells #[.int .i64 0, .string .empty, .string .empty] 44)) u1).mono (by simp)))
                     try have hk1 : Hid (u1.heap[wr.heap.size]? = some (.cells #[.int .i64 0, .string .empty, .string .empty] 44 (0, 0))) := Lib.hid ((q1.block wr.heap.size (by show _ < (wr.alloc (.cells #[.int .i64 0, .string .empty, .string .empty] 44)).heap.size; simp)).trans (heap_alloc_new wr (.cells #[.int .i64 0, .string .empty, .string .empty] 44)))
                     have q1 := Lib.hid q1)
                  | (go_at_call 41
                     refine (DN.out _).mono ?_
                     rintro e u2 ⟨⟨z, hz, rfl⟩, q2⟩
                     have hA2 : Hid (Below wr.heap.size wr u2) := Lib.hid (by first | exact hA1.out.trans ((⟨q2.os, q2.tape, q2.output, q2.size, q2.block⟩ : Below u1.heap.size u1 u2).mono hA1.out.size) | exact (hA1.out.alloc hA1.out.size (.cells #[.int .i64 0, .string .empty, .string .empty] 44)).trans ((⟨q2.os, q2.tape, q2.output, q2.size, q2.block⟩ : Below (u1.alloc (.cells #[.int .i64 0, .string .empty, .string .empty] 44)).heap.size (u1.alloc (.cells #[.int .i64 0, .string .empty, .string .empty] 44)) u2).mono (by have := hA1.out.size; simp; omega)))
                     try have hk2 : u2.heap[wr.heap.size]? = some (.cells #[.int .i64 0, .string .empty, .string .empty] 44 (0, 0)) := (q2.block wr.heap.size (Array.getElem?_eq_some_iff.1 hk1.out).1).trans hk1.out
                     try have hk3 : u2.heap[u1.heap.size]? = some (.cells #[.int .i64 0, .string .empty, .string .empty] 44 (0, 0)) := (q2.block u1.heap.size (by show _ < (u1.alloc (.cells #[.int .i64 0, .string .empty, .string .empty] 44)).heap.size; simp)).trans (heap_alloc_new u1 (.cells #[.int .i64 0, .string .empty, .string .empty] 44))
                     first
                       | (obtain ⟨x0, x1, x2, xf⟩ := cell3 hk2
                          have xf0 := xf 0
                          have xf1 := xf 1
                          have xf2 := xf 2
                          have hk2 := Lib.hid hk2
                          clear xf)
                       | (obtain ⟨x0, x1, x2, xf⟩ := cell3 hk3
                          have xf0 := xf 0
                          have xf1 := xf 1
                          have xf2 := xf 2
                          have hk3 := Lib.hid hk3
                          clear xf)
                       | skip
                     have q2 := Lib.hid q2))
                all_goals (
                  go_wp2_with fail
                  go_meet
                  have R : Hid (∀ (V : World) (q : Nat), Below wr.heap.size wr V → V.heap[q]? = some (.cells #[.int .i64 0, .string ⟨#[]⟩, .string ⟨#[]⟩] 44 (0, 0)) → wr.heap.size ≤ q → DecSt w.heap.size N1 A xs (.slice pa xs.length pc) w V ∧ wr.heap.size ≤ V.heap.size ∧ ((decW T.data.toList = none ∧ ∃ z' : Int, z' ≠ 0 ∧ Value.int .i64 z = .int .i64 z') ∨ ∃ y m q', decW T.data.toList = some (y, 1 + m) ∧ m + 1 ≤ T.size ∧ Value.int .i64 0 = .int .i64 (m : Int) ∧ Value.int .i64 z = .int .i64 0 ∧ Value.pointer (some ⟨q, 0, none⟩) = .pointer (some ⟨q', 0, none⟩) ∧ V.heap[q']? = some (.cells #[.int .i64 y.kind, .string y.key, .string y.val] 44 (0, 0)) ∧ wr.heap.size ≤ q')) := Lib.hid fun V q hb hv hq => ⟨hst.out.below hb, hb.size, .inl ⟨hd, z, hz, rfl⟩⟩
                  first
                    | exact R.out _ _ (below3c' hA2.out (Nat.le_refl _) _ _ _) (res3 hk2.out _ _ _) (Nat.le_refl _)
                    | exact R.out _ _ (below3c' hA2.out hA1.out.size _ _ _) (res3 hk3.out _ _ _) hA1.out.size
                    | exact R.out _ _ (hA2.out.alloc hA2.out.size _) (heap_alloc_new _ _) hA2.out.size)
              · rw [hF] at KA DN
                have FL : ∀ u : World, (Instr.field 64 (.agg #[.func (.func 42) #[] #[]]) 0).run Try.prog u = .ok (.func (.func 42) #[] #[]) u := fun _ => by kernel_rfl
                go_region_with (first
                  | (go_at_call 33
                     refine (KA.out _).mono ?_
                     rintro e u1 ⟨rfl, q1⟩
                     have hA1 : Hid (Below wr.heap.size wr u1) := Lib.hid (by first | exact ⟨q1.os, q1.tape, q1.output, q1.size, q1.block⟩ | exact (below_alloc wr (.cells #[.int .i64 0, .string .empty, .string .empty] 44)).trans ((⟨q1.os, q1.tape, q1.output, q1.size, q1.block⟩ : Below (wr.alloc (.cells #[.int .i64 0, .string .empty, .string .empty] 44)).heap.size (wr.alloc (.cells #[.int .i64 0, .string .empty, .string .empty] 44)) u1).mono (by simp)))
                     try have hk1 : Hid (u1.heap[wr.heap.size]? = some (.cells #[.int .i64 0, .string .empty, .string .empty] 44 (0, 0))) := Lib.hid ((q1.block wr.heap.size (by show _ < (wr.alloc (.cells #[.int .i64 0, .string .empty, .string .empty] 44)).heap.size; simp)).trans (heap_alloc_new wr (.cells #[.int .i64 0, .string .empty, .string .empty] 44)))
                     have q1 := Lib.hid q1)
                  | (go_at_call 42
                     refine (DN.out _).mono ?_
                     rintro e u2 ⟨⟨z, hz, rfl⟩, q2⟩
                     have hA2 : Hid (Below wr.heap.size wr u2) := Lib.hid (by first | exact hA1.out.trans ((⟨q2.os, q2.tape, q2.output, q2.size, q2.block⟩ : Below u1.heap.size u1 u2).mono hA1.out.size) | exact (hA1.out.alloc hA1.out.size (.cells #[.int .i64 0, .string .empty, .string .empty] 44)).trans ((⟨q2.os, q2.tape, q2.output, q2.size, q2.block⟩ : Below (u1.alloc (.cells #[.int .i64 0, .string .empty, .string .empty] 44)).heap.size (u1.alloc (.cells #[.int .i64 0, .string .empty, .string .empty] 44)) u2).mono (by have := hA1.out.size; simp; omega)))
                     try have hk2 : u2.heap[wr.heap.size]? = some (.cells #[.int .i64 0, .string .empty, .string .empty] 44 (0, 0)) := (q2.block wr.heap.size (Array.getElem?_eq_some_iff.1 hk1.out).1).trans hk1.out
                     try have hk3 : u2.heap[u1.heap.size]? = some (.cells #[.int .i64 0, .string .empty, .string .empty] 44 (0, 0)) := (q2.block u1.heap.size (by show _ < (u1.alloc (.cells #[.int .i64 0, .string .empty, .string .empty] 44)).heap.size; simp)).trans (heap_alloc_new u1 (.cells #[.int .i64 0, .string .empty, .string .empty] 44))
                     first
                       | (obtain ⟨x0, x1, x2, xf⟩ := cell3 hk2
                          have xf0 := xf 0
                          have xf1 := xf 1
                          have xf2 := xf 2
                          have hk2 := Lib.hid hk2
                          clear xf)
                       | (obtain ⟨x0, x1, x2, xf⟩ := cell3 hk3
                          have xf0 := xf 0
                          have xf1 := xf 1
                          have xf2 := xf 2
                          have hk3 := Lib.hid hk3
                          clear xf)
                       | skip
                     have q2 := Lib.hid q2))
                all_goals (
                  go_wp2_with fail
                  go_meet
                  have R : Hid (∀ (V : World) (q : Nat), Below wr.heap.size wr V → V.heap[q]? = some (.cells #[.int .i64 0, .string ⟨#[]⟩, .string ⟨#[]⟩] 44 (0, 0)) → wr.heap.size ≤ q → DecSt w.heap.size N1 A xs (.slice pa xs.length pc) w V ∧ wr.heap.size ≤ V.heap.size ∧ ((decW T.data.toList = none ∧ ∃ z' : Int, z' ≠ 0 ∧ Value.int .i64 z = .int .i64 z') ∨ ∃ y m q', decW T.data.toList = some (y, 1 + m) ∧ m + 1 ≤ T.size ∧ Value.int .i64 0 = .int .i64 (m : Int) ∧ Value.int .i64 z = .int .i64 0 ∧ Value.pointer (some ⟨q, 0, none⟩) = .pointer (some ⟨q', 0, none⟩) ∧ V.heap[q']? = some (.cells #[.int .i64 y.kind, .string y.key, .string y.val] 44 (0, 0)) ∧ wr.heap.size ≤ q')) := Lib.hid fun V q hb hv hq => ⟨hst.out.below hb, hb.size, .inl ⟨hd, z, hz, rfl⟩⟩
                  first
                    | exact R.out _ _ (below3c' hA2.out (Nat.le_refl _) _ _ _) (res3 hk2.out _ _ _) (Nat.le_refl _)
                    | exact R.out _ _ (below3c' hA2.out hA1.out.size _ _ _) (res3 hk3.out _ _ _) hA1.out.size
                    | exact R.out _ _ (hA2.out.alloc hA2.out.size _) (heap_alloc_new _ _) hA2.out.size)
              · rw [hF] at KA DN
                have FL : ∀ u : World, (Instr.field 64 (.agg #[.func (.func 40) #[] #[]]) 0).run Try.prog u = .ok (.func (.func 40) #[] #[]) u := fun _ => by kernel_rfl
                go_region_with (first
                  | (go_at_call 33
                     refine (KA.out _).mono ?_
                     rintro e u1 ⟨rfl, q1⟩
                     have hA1 : Hid (Below wr.heap.size wr u1) := Lib.hid (by first | exact ⟨q1.os, q1.tape, q1.output, q1.size, q1.block⟩ | exact (below_alloc wr (.cells #[.int .i64 0, .string .empty, .string .empty] 44)).trans ((⟨q1.os, q1.tape, q1.output, q1.size, q1.block⟩ : Below (wr.alloc (.cells #[.int .i64 0, .string .empty, .string .empty] 44)).heap.size (wr.alloc (.cells #[.int .i64 0, .string .empty, .string .empty] 44)) u1).mono (by simp)))
                     try have hk1 : Hid (u1.heap[wr.heap.size]? = some (.cells #[.int .i64 0, .string .empty, .string .empty] 44 (0, 0))) := Lib.hid ((q1.block wr.heap.size (by show _ < (wr.alloc (.cells #[.int .i64 0, .string .empty, .string .empty] 44)).heap.size; simp)).trans (heap_alloc_new wr (.cells #[.int .i64 0, .string .empty, .string .empty] 44)))
                     have q1 := Lib.hid q1)
                  | (go_at_call 40
                     refine (DN.out _).mono ?_
                     rintro e u2 ⟨⟨z, hz, rfl⟩, q2⟩
                     have hA2 : Hid (Below wr.heap.size wr u2) := Lib.hid (by first | exact hA1.out.trans ((⟨q2.os, q2.tape, q2.output, q2.size, q2.block⟩ : Below u1.heap.size u1 u2).mono hA1.out.size) | exact (hA1.out.alloc hA1.out.size (.cells #[.int .i64 0, .string .empty, .string .empty] 44)).trans ((⟨q2.os, q2.tape, q2.output, q2.size, q2.block⟩ : Below (u1.alloc (.cells #[.int .i64 0, .string .empty, .string .empty] 44)).heap.size (u1.alloc (.cells #[.int .i64 0, .string .empty, .string .empty] 44)) u2).mono (by have := hA1.out.size; simp; omega)))
                     try have hk2 : u2.heap[wr.heap.size]? = some (.cells #[.int .i64 0, .string .empty, .string .empty] 44 (0, 0)) := (q2.block wr.heap.size (Array.getElem?_eq_some_iff.1 hk1.out).1).trans hk1.out
                     try have hk3 : u2.heap[u1.heap.size]? = some (.cells #[.int .i64 0, .string .empty, .string .empty] 44 (0, 0)) := (q2.block u1.heap.size (by show _ < (u1.alloc (.cells #[.int .i64 0, .string .empty, .string .empty] 44)).heap.size; simp)).trans (heap_alloc_new u1 (.cells #[.int .i64 0, .string .empty, .string .empty] 44))
                     first
                       | (obtain ⟨x0, x1, x2, xf⟩ := cell3 hk2
                          have xf0 := xf 0
                          have xf1 := xf 1
                          have xf2 := xf 2
                          have hk2 := Lib.hid hk2
                          clear xf)
                       | (obtain ⟨x0, x1, x2, xf⟩ := cell3 hk3
                          have xf0 := xf 0
                          have xf1 := xf 1
                          have xf2 := xf 2
                          have hk3 := Lib.hid hk3
                          clear xf)
                       | skip
                     have q2 := Lib.hid q2))
                all_goals (
                  go_wp2_with fail
                  go_meet
                  have R : Hid (∀ (V : World) (q : Nat), Below wr.heap.size wr V → V.heap[q]? = some (.cells #[.int .i64 0, .string ⟨#[]⟩, .string ⟨#[]⟩] 44 (0, 0)) → wr.heap.size ≤ q → DecSt w.heap.size N1 A xs (.slice pa xs.length pc) w V ∧ wr.heap.size ≤ V.heap.size ∧ ((decW T.data.toList = none ∧ ∃ z' : Int, z' ≠ 0 ∧ Value.int .i64 z = .int .i64 z') ∨ ∃ y m q', decW T.data.toList = some (y, 1 + m) ∧ m + 1 ≤ T.size ∧ Value.int .i64 0 = .int .i64 (m : Int) ∧ Value.int .i64 z = .int .i64 0 ∧ Value.pointer (some ⟨q, 0, none⟩) = .pointer (some ⟨q', 0, none⟩) ∧ V.heap[q']? = some (.cells #[.int .i64 y.kind, .string y.key, .string y.val] 44 (0, 0)) ∧ wr.heap.size ≤ q')) := Lib.hid fun V q hb hv hq => ⟨hst.out.below hb, hb.size, .inl ⟨hd, z, hz, rfl⟩⟩
                  first
                    | exact R.out _ _ (below3c' hA2.out (Nat.le_refl _) _ _ _) (res3 hk2.out _ _ _) (Nat.le_refl _)
                    | exact R.out _ _ (below3c' hA2.out hA1.out.size _ _ _) (res3 hk3.out _ _ _) hA1.out.size
                    | exact R.out _ _ (hA2.out.alloc hA2.out.size _) (heap_alloc_new _ _) hA2.out.size)
            | some ym =>
              obtain ⟨⟨yk, ys, yv⟩, m0⟩ := ym
              have DS : Hid (∃ m, m0 = 1 + m ∧ m + 1 ≤ T.size ∧ ∀ u, Calls Try.prog (kindF k) #[.string T1] u fun e w' => e = .returned (.tuple #[.agg #[.int .i64 yk, .string ys, .string yv], .int .i64 (m : Int), .int .i64 0]) ∧ Below u.heap.size u w') := Lib.hid (decoded_some wr hd (by omega) DD.out)
              clear DD
              obtain ⟨m, rfl, hm, DS⟩ := DS.out
              have DS := Lib.hid DS
              rcases hF with hF | hF | hF
              · rw [hF] at KA DS
                have FL : ∀ u : World, (Instr.field 64 (.agg #[.func (.func 41) #[] #[]]) 0).run Try.prog u = .ok (.func (.func 41) #[] #[]) u := fun _ => by kernel_rfl
                go_region_with (first
                  | (go_at_call 33
                     refine (KA.out _).mono ?_
                     rintro e u1 ⟨rfl, q1⟩
                     have hA1 : Hid (Below wr.heap.size wr u1) := Lib.hid (by first | exact ⟨q1.os, q1.tape, q1.output, q1.size, q1.block⟩ | exact (below_alloc wr (.cells #[.int .i64 0, .string .empty, .string .empty] 44)).trans ((⟨q1.os, q1.tape, q1.output, q1.size, q1.block⟩ : Below (wr.alloc (.cells #[.int .i64 0, .string .empty, .string .empty] 44)).heap.size (wr.alloc (.cells #[.int .i64 0, .string .empty, .string .empty] 44)) u1).mono (by simp)))
                     try have hk1 : Hid (u1.heap[wr.heap.size]? = some (.cells #[.int .i64 0, .string .empty, .string .empty] 44 (0, 0))) := Lib.hid ((q1.block wr.heap.size (by show _ < (wr.alloc (.cells #[.int .i64 0, .string .empty, .string .empty] 44)).heap.size; simp)).trans (heap_alloc_new wr (.cells #[.int .i64 0, .string .empty, .string .empty] 44)))
                     have q1 := Lib.hid q1)
                  | (go_at_call 41
                     refine (DS.out _).mono ?_
                     rintro e u2 ⟨rfl, q2⟩
                     have hA2 : Hid (Below wr.heap.size wr u2) := Lib.hid (by first | exact hA1.out.trans ((⟨q2.os, q2.tape, q2.output, q2.size, q2.block⟩ : Below u1.heap.size u1 u2).mono hA1.out.size) | exact (hA1.out.alloc hA1.out.size (.cells #[.int .i64 0, .string .empty, .string .empty] 44)).trans ((⟨q2.os, q2.tape, q2.output, q2.size, q2.block⟩ : Below (u1.alloc (.cells #[.int .i64 0, .string .empty, .string .empty] 44)).heap.size (u1.alloc (.cells #[.int .i64 0, .string .empty, .string .empty] 44)) u2).mono (by have := hA1.out.size; simp; omega)))
                     try have hk2 : u2.heap[wr.heap.size]? = some (.cells #[.int .i64 0, .string .empty, .string .empty] 44 (0, 0)) := (q2.block wr.heap.size (Array.getElem?_eq_some_iff.1 hk1.out).1).trans hk1.out
                     try have hk3 : u2.heap[u1.heap.size]? = some (.cells #[.int .i64 0, .string .empty, .string .empty] 44 (0, 0)) := (q2.block u1.heap.size (by show _ < (u1.alloc (.cells #[.int .i64 0, .string .empty, .string .empty] 44)).heap.size; simp)).trans (heap_alloc_new u1 (.cells #[.int .i64 0, .string .empty, .string .empty] 44))
                     first
                       | (obtain ⟨x0, x1, x2, xf⟩ := cell3 hk2
                          have xf0 := xf 0
                          have xf1 := xf 1
                          have xf2 := xf 2
                          have hk2 := Lib.hid hk2
                          clear xf)
                       | (obtain ⟨x0, x1, x2, xf⟩ := cell3 hk3
                          have xf0 := xf 0
                          have xf1 := xf 1
                          have xf2 := xf 2
                          have hk3 := Lib.hid hk3
                          clear xf)
                       | skip
                     have q2 := Lib.hid q2))
                all_goals (
                  go_wp2_with fail
                  go_meet
                  have R : Hid (∀ (V : World) (q : Nat), Below wr.heap.size wr V → V.heap[q]? = some (.cells #[.int .i64 yk, .string ys, .string yv] 44 (0, 0)) → wr.heap.size ≤ q → DecSt w.heap.size N1 A xs (.slice pa xs.length pc) w V ∧ wr.heap.size ≤ V.heap.size ∧ ((decW T.data.toList = none ∧ ∃ z' : Int, z' ≠ 0 ∧ Value.int .i64 0 = .int .i64 z') ∨ ∃ y m' q', decW T.data.toList = some (y, 1 + m') ∧ m' + 1 ≤ T.size ∧ Value.int .i64 (m : Int) = .int .i64 (m' : Int) ∧ Value.int .i64 0 = .int .i64 0 ∧ Value.pointer (some ⟨q, 0, none⟩) = .pointer (some ⟨q', 0, none⟩) ∧ V.heap[q']? = some (.cells #[.int .i64 y.kind, .string y.key, .string y.val] 44 (0, 0)) ∧ wr.heap.size ≤ q')) := Lib.hid fun V q hb hv hq => ⟨hst.out.below hb, hb.size, .inr ⟨⟨yk, ys, yv⟩, m, q, hd, hm, rfl, rfl, rfl, hv, hq⟩⟩
                  first
                    | exact R.out _ _ (below3c' hA2.out (Nat.le_refl _) _ _ _) (res3 hk2.out _ _ _) (Nat.le_refl _)
                    | exact R.out _ _ (below3c' hA2.out hA1.out.size _ _ _) (res3 hk3.out _ _ _) hA1.out.size
                    | exact R.out _ _ (hA2.out.alloc hA2.out.size _) (heap_alloc_new _ _) hA2.out.size)
              · rw [hF] at KA DS
                have FL : ∀ u : World, (Instr.field 64 (.agg #[.func (.func 42) #[] #[]]) 0).run Try.prog u = .ok (.func (.func 42) #[] #[]) u := fun _ => by kernel_rfl
                go_region_with (first
                  | (go_at_call 33
                     refine (KA.out _).mono ?_
                     rintro e u1 ⟨rfl, q1⟩
                     have hA1 : Hid (Below wr.heap.size wr u1) := Lib.hid (by first | exact ⟨q1.os, q1.tape, q1.output, q1.size, q1.block⟩ | exact (below_alloc wr (.cells #[.int .i64 0, .string .empty, .string .empty] 44)).trans ((⟨q1.os, q1.tape, q1.output, q1.size, q1.block⟩ : Below (wr.alloc (.cells #[.int .i64 0, .string .empty, .string .empty] 44)).heap.size (wr.alloc (.cells #[.int .i64 0, .string .empty, .string .empty] 44)) u1).mono (by simp)))
                     try have hk1 : Hid (u1.heap[wr.heap.size]? = some (.cells #[.int .i64 0, .string .empty, .string .empty] 44 (0, 0))) := Lib.hid ((q1.block wr.heap.size (by show _ < (wr.alloc (.cells #[.int .i64 0, .string .empty, .string .empty] 44)).heap.size; simp)).trans (heap_alloc_new wr (.cells #[.int .i64 0, .string .empty, .string .empty] 44)))
                     have q1 := Lib.hid q1)
                  | (go_at_call 42
                     refine (DS.out _).mono ?_
                     rintro e u2 ⟨rfl, q2⟩
                     have hA2 : Hid (Below wr.heap.size wr u2) := Lib.hid (by first | exact hA1.out.trans ((⟨q2.os, q2.tape, q2.output, q2.size, q2.block⟩ : Below u1.heap.size u1 u2).mono hA1.out.size) | exact (hA1.out.alloc hA1.out.size (.cells #[.int .i64 0, .string .empty, .string .empty] 44)).trans ((⟨q2.os, q2.tape, q2.output, q2.size, q2.block⟩ : Below (u1.alloc (.cells #[.int .i64 0, .string .empty, .string .empty] 44)).heap.size (u1.alloc (.cells #[.int .i64 0, .string .empty, .string .empty] 44)) u2).mono (by have := hA1.out.size; simp; omega)))
                     try have hk2 : u2.heap[wr.heap.size]? = some (.cells #[.int .i64 0, .string .empty, .string .empty] 44 (0, 0)) := (q2.block wr.heap.size (Array.getElem?_eq_some_iff.1 hk1.out).1).trans hk1.out
                     try have hk3 : u2.heap[u1.heap.size]? = some (.cells #[.int .i64 0, .string .empty, .string .empty] 44 (0, 0)) := (q2.block u1.heap.size (by show _ < (u1.alloc (.cells #[.int .i64 0, .string .empty, .string .empty] 44)).heap.size; simp)).trans (heap_alloc_new u1 (.cells #[.int .i64 0, .string .empty, .string .empty] 44))
                     first
                       | (obtain ⟨x0, x1, x2, xf⟩ := cell3 hk2
                          have xf0 := xf 0
                          have xf1 := xf 1
                          have xf2 := xf 2
                          have hk2 := Lib.hid hk2
                          clear xf)
                       | (obtain ⟨x0, x1, x2, xf⟩ := cell3 hk3
                          have xf0 := xf 0
                          have xf1 := xf 1
                          have xf2 := xf 2
                          have hk3 := Lib.hid hk3
                          clear xf)
                       | skip
                     have q2 := Lib.hid q2))
                all_goals (
                  go_wp2_with fail
                  go_meet
                  have R : Hid (∀ (V : World) (q : Nat), Below wr.heap.size wr V → V.heap[q]? = some (.cells #[.int .i64 yk, .string ys, .string yv] 44 (0, 0)) → wr.heap.size ≤ q → DecSt w.heap.size N1 A xs (.slice pa xs.length pc) w V ∧ wr.heap.size ≤ V.heap.size ∧ ((decW T.data.toList = none ∧ ∃ z' : Int, z' ≠ 0 ∧ Value.int .i64 0 = .int .i64 z') ∨ ∃ y m' q', decW T.data.toList = some (y, 1 + m') ∧ m' + 1 ≤ T.size ∧ Value.int .i64 (m : Int) = .int .i64 (m' : Int) ∧ Value.int .i64 0 = .int .i64 0 ∧ Value.pointer (some ⟨q, 0, none⟩) = .pointer (some ⟨q', 0, none⟩) ∧ V.heap[q']? = some (.cells #[.int .i64 y.kind, .string y.key, .string y.val] 44 (0, 0)) ∧ wr.heap.size ≤ q')) := Lib.hid fun V q hb hv hq => ⟨hst.out.below hb, hb.size, .inr ⟨⟨yk, ys, yv⟩, m, q, hd, hm, rfl, rfl, rfl, hv, hq⟩⟩
                  first
                    | exact R.out _ _ (below3c' hA2.out (Nat.le_refl _) _ _ _) (res3 hk2.out _ _ _) (Nat.le_refl _)
                    | exact R.out _ _ (below3c' hA2.out hA1.out.size _ _ _) (res3 hk3.out _ _ _) hA1.out.size
                    | exact R.out _ _ (hA2.out.alloc hA2.out.size _) (heap_alloc_new _ _) hA2.out.size)
              · rw [hF] at KA DS
                have FL : ∀ u : World, (Instr.field 64 (.agg #[.func (.func 40) #[] #[]]) 0).run Try.prog u = .ok (.func (.func 40) #[] #[]) u := fun _ => by kernel_rfl
                go_region_with (first
                  | (go_at_call 33
                     refine (KA.out _).mono ?_
                     rintro e u1 ⟨rfl, q1⟩
                     have hA1 : Hid (Below wr.heap.size wr u1) := Lib.hid (by first | exact ⟨q1.os, q1.tape, q1.output, q1.size, q1.block⟩ | exact (below_alloc wr (.cells #[.int .i64 0, .string .empty, .string .empty] 44)).trans ((⟨q1.os, q1.tape, q1.output, q1.size, q1.block⟩ : Below (wr.alloc (.cells #[.int .i64 0, .string .empty, .string .empty] 44)).heap.size (wr.alloc (.cells #[.int .i64 0, .string .empty, .string .empty] 44)) u1).mono (by simp)))
                     try have hk1 : Hid (u1.heap[wr.heap.size]? = some (.cells #[.int .i64 0, .string .empty, .string .empty] 44 (0, 0))) := Lib.hid ((q1.block wr.heap.size (by show _ < (wr.alloc (.cells #[.int .i64 0, .string .empty, .string .empty] 44)).heap.size; simp)).trans (heap_alloc_new wr (.cells #[.int .i64 0, .string .empty, .string .empty] 44)))
                     have q1 := Lib.hid q1)
                  | (go_at_call 40
                     refine (DS.out _).mono ?_
                     rintro e u2 ⟨rfl, q2⟩
                     have hA2 : Hid (Below wr.heap.size wr u2) := Lib.hid (by first | exact hA1.out.trans ((⟨q2.os, q2.tape, q2.output, q2.size, q2.block⟩ : Below u1.heap.size u1 u2).mono hA1.out.size) | exact (hA1.out.alloc hA1.out.size (.cells #[.int .i64 0, .string .empty, .string .empty] 44)).trans ((⟨q2.os, q2.tape, q2.output, q2.size, q2.block⟩ : Below (u1.alloc (.cells #[.int .i64 0, .string .empty, .string .empty] 44)).heap.size (u1.alloc (.cells #[.int .i64 0, .string .empty, .string .empty] 44)) u2).mono (by have := hA1.out.size; simp; omega)))
                     try have hk2 : u2.heap[wr.heap.size]? = some (.cells #[.int .i64 0, .string .empty, .string .empty] 44 (0, 0)) := (q2.block wr.heap.size (Array.getElem?_eq_some_iff.1 hk1.out).1).trans hk1.out
                     try have hk3 : u2.heap[u1.heap.size]? = some (.cells #[.int .i64 0, .string .empty, .string .empty] 44 (0, 0)) := (q2.block u1.heap.size (by show _ < (u1.alloc (.cells #[.int .i64 0, .string .empty, .string .empty] 44)).heap.size; simp)).trans (heap_alloc_new u1 (.cells #[.int .i64 0, .string .empty, .string .empty] 44))
                     first
                       | (obtain ⟨x0, x1, x2, xf⟩ := cell3 hk2
                          have xf0 := xf 0
                          have xf1 := xf 1
                          have xf2 := xf 2
                          have hk2 := Lib.hid hk2
                          clear xf)
                       | (obtain ⟨x0, x1, x2, xf⟩ := cell3 hk3
                          have xf0 := xf 0
                          have xf1 := xf 1
                          have xf2 := xf 2
                          have hk3 := Lib.hid hk3
                          clear xf)
                       | skip
                     have q2 := Lib.hid q2))
                all_goals (
                  go_wp2_with fail
                  go_meet
                  have R : Hid (∀ (V : World) (q : Nat), Below wr.heap.size wr V → V.heap[q]? = some (.cells #[.int .i64 yk, .string ys, .string yv] 44 (0, 0)) → wr.heap.size ≤ q → DecSt w.heap.size N1 A xs (.slice pa xs.length pc) w V ∧ wr.heap.size ≤ V.heap.size ∧ ((decW T.data.toList = none ∧ ∃ z' : Int, z' ≠ 0 ∧ Value.int .i64 0 = .int .i64 z') ∨ ∃ y m' q', decW T.data.toList = some (y, 1 + m') ∧ m' + 1 ≤ T.size ∧ Value.int .i64 (m : Int) = .int .i64 (m' : Int) ∧ Value.int .i64 0 = .int .i64 0 ∧ Value.pointer (some ⟨q, 0, none⟩) = .pointer (some ⟨q', 0, none⟩) ∧ V.heap[q']? = some (.cells #[.int .i64 y.kind, .string y.key, .string y.val] 44 (0, 0)) ∧ wr.heap.size ≤ q')) := Lib.hid fun V q hb hv hq => ⟨hst.out.below hb, hb.size, .inr ⟨⟨yk, ys, yv⟩, m, q, hd, hm, rfl, rfl, rfl, hv, hq⟩⟩
                  first
                    | exact R.out _ _ (below3c' hA2.out (Nat.le_refl _) _ _ _) (res3 hk2.out _ _ _) (Nat.le_refl _)
                    | exact R.out _ _ (below3c' hA2.out hA1.out.size _ _ _) (res3 hk3.out _ _ _) hA1.out.size
                    | exact R.out _ _ (hA2.out.alloc hA2.out.size _) (heap_alloc_new _ _) hA2.out.size)
          case rest =>
            obtain ⟨hst2, hgr, hcase⟩ := hcut
            clear I0 S1 KA DD d1 y0 y1 yf0 yf1 r0 r1 rf0 rf1
            obtain ⟨y0, y1, yf0, yf1⟩ := cell2 hst2.bat
            obtain ⟨r0, r1, rf0, rf1⟩ := cell2 hst2.res
            rcases hcase with ⟨hn, z, hz0, rfl⟩ | ⟨⟨yk, ys, yv⟩, m, q, hd, hm, rfl, rfl, rfl, hq, hql⟩
            · have hz0' : (z == 0) = false := by simpa using hz0
              have hE7 : Hid (decB s.data.toList = (0, [], 7)) := Lib.hid (by rw [hE.out, decL_none _ _ _ hdec.out hn hlt])
              have hne : (((xs.length : Nat) : Int) != ((M : Nat) : Int)) = true := by rw [bne_iff_ne]; omega
              have KB := Lib.hid (And.intro (res2 hst2.res (.int .u64 0) (.slice none 0 0)) (below2c hst2.bel (Nat.le_refl _) (.int .u64 0) (.slice none 0 0)))
              have hst2 := Lib.hid hst2
              go_wp2_with fail
              rw [Exit.noGoto_ret]
              obtain ⟨kk, kb⟩ := KB.out
              generalize (wc.setCell ⟨w.heap.size, 0, none⟩ (.int .u64 0)).setCell ⟨w.heap.size, 1, none⟩ (.slice none 0 0) = V at *
              obtain ⟨a0, a1, _, _⟩ := cell2 kk
              refine bodyPost_ret (v := .tuple #[batchV 0 none 0 0, .int .i64 7]) (by simp [results, Try.results15, go_sem, a0, a1]) rfl ?_
              unfold DecodedB
              rw [hE7.out]
              exact ⟨none, 0, 0, rfl, ⟨rfl, Nat.le_refl _, by omega, fun h => absurd h (by simp), WrsAt.nil _ _ _, fun x hx => by cases hx⟩, fun _ => ⟨rfl, rfl⟩, kb⟩
            · obtain ⟨x0, x1, x2, _⟩ := cell3 hq
              obtain ⟨i0, hi, hz0, hz1, hz2⟩ := info_parts (show (Try.prog.info? 44).map (fun i => (i.zero, i.size, i.bytes)) = some (some (.agg #[.int .i64 0, .string .empty, .string .empty]), 3, 40) by kernel_rfl)
              have hdec2 : Hid (decL (xs.length + 1) t.data.toList = some (xs ++ [⟨yk, ys, yv⟩], T.data.toList.drop (1 + m))) := Lib.hid (by rw [decL_snoc _ _ hdec.out, hd]; rfl)
              have hbase : N1 + 1 ≤ wc.heap.size := (Array.getElem?_eq_some_iff.1 hst2.bat).1
              have hst2' := Lib.hid hst2
              have hrow := hst2.row
              clear hst2 hdec hd hws hst
              go_wp2_with (at_builtin; refine wpList_append_own _ rfl _ _ 23 rfl (N1 + 1) 44 i0 (.agg #[.int .i64 0, .string .empty, .string .empty]) 3 40 Try.underlying23 hi hz0 hz1 hz2 rfl (by decide) (.slice pa xs.length pc) _ _ (by rfl) (hrow.alloc _) ⟨wc.heap.size, 0, none⟩ 1 1 [.int .i64 yk, .string ys, .string yv] rfl (by rfl) ?c1 ?c2 ?c3 ?c4 ?c5 ?_)
              case c2 => exact ⟨rfl, rfl, rfl⟩
              case c3 => unfold maxLen; omega
              case c4 => omega
              case c5 => omega
              intro v' w2 hown' hgrow hnn
              have G : Hid (DecSt w.heap.size N1 A (xs ++ [⟨yk, ys, yv⟩]) v' w (w2.setCell ⟨N1, 1, none⟩ v') ∧ w2.heap[N1]? = some (.cells #[.int .u64 (A : Int), .slice pa xs.length pc] 25 (0, 0))) := Lib.hid (hst2'.out.grow hown' hgrow)
              obtain ⟨y0, y1, yf0, yf1⟩ := cell2 G.out.2
              obtain ⟨va, vn, vc, rfl⟩ : ∃ va vn vc, v' = .slice va vn vc := by
                rcases hown'.2 with ⟨e, _⟩ | ⟨g, cap, cur, e, _⟩
                · exact ⟨_, _, _, e⟩
                · exact ⟨_, _, _, e⟩
              have hT2 : (T.extract (1 + m) T.size).data.toList = T.data.toList.drop (1 + m) := drop_list T (1 + m)
              have z2 : (T.extract (1 + m) T.size).size ≤ s.size := by rw [drop_size]; omega
              obtain ⟨P, hP⟩ := named ((1 + m : Nat) : Int)
              obtain ⟨T2, hT2e⟩ := named (T.extract (1 + m) T.size)
              have wa : wrap64 (1 + (m : Int)) = P := by rw [hP.out]; unfold wrap64; omega
              have S2 : ∀ u, (Instr.slice 9 (.string T) (some (.int .i64 P)) none none).run Try.prog u = .ok (.string T2) u := fun u => by
                rw [hT2e.out, hP.out]
                exact run_slice_string_l u 9 T Try.underlying9 .i64 ((1 + m : Nat) : Int) (by omega) (by omega)
              rw [← hT2, ← hT2e.out] at hdec2
              rw [← hT2e.out] at z2
              clear hT2 hown' hgrow hnn hst2' hrow x0 x1 x2 hq r0 r1 rf0 rf1 hi hz1 hz2
              have z2 := Lib.hid z2
              go_wp2_with fail
              go_roundw
              case rel => exact ⟨xs.length + 1, _, _, _, by omega, by go_num, rfl, (by rw [← hT2e.out]; exact hdec2.out), (by rw [← hT2e.out]; exact z2.out), G.out.1⟩
              case measure => simp [intOf]; omega
      · have hjM : xs.length = M := by omega
        subst hjM
        have hdec' := hdec
        have hE2 : Hid (decB s.data.toList = if T.size = 0 ∧ chkB A xs = 0 then (A, xs, 0) else (0, [], 7)) := Lib.hid (by
          rw [hE.out, hdec']
          show (if T.data.toList = [] ∧ chkB A xs = 0 then (A, xs, (0 : Int)) else (0, [], 7)) = _
          have e : (T.data.toList = []) = (T.size = 0) := propext (by rw [← List.length_eq_zero_iff, hTl])
          simp only [e])
        have heq : (((xs.length : Nat) : Int) != ((xs.length : Nat) : Int)) = false := by rw [bne_eq_false_iff_eq]
        have KB := Lib.hid (And.intro (res2 hst.res (.int .u64 0) (.slice none 0 0)) (below2c hst.bel (Nat.le_refl _) (.int .u64 0) (.slice none 0 0)))
        by_cases hT0 : T.size = 0
        · have hTe : T.toList.isEmpty = true := by rw [isEmpty_size, hT0]; rfl
          have hTn : T.toList = [] := by rw [toList_size]; exact hT0
          have CK := Lib.hid (check_any (seq := A) hws)
          have hst := Lib.hid hst
          have hws := Lib.hid hws
          clear hdec hdec'
          obtain ⟨R, hR⟩ := named (chkB A xs)
          rw [← hR.out] at CK hE2
          by_cases q : R = 0
          · subst q
            have hE0 : Hid (decB s.data.toList = (A, xs, 0)) := Lib.hid (by rw [hE2.out, if_pos ⟨hT0, rfl⟩])
            clear KB
            go_wp2_with fail
            with_reducible refine CK.out.mono ?_
            rintro e w2 ⟨rfl, b2⟩
            have st2 := hst.out.below b2
            obtain ⟨y0, y1, yf0, yf1⟩ := cell2 st2.bat
            obtain ⟨r0, r1, rf0, rf1⟩ := cell2 st2.res
            have KG := Lib.hid (And.intro (res2 st2.res (.int .u64 (A : Int)) (.slice pa xs.length pc)) (below2c st2.bel (Nat.le_refl _) (.int .u64 (A : Int)) (.slice pa xs.length pc)))
            have hws2 : Hid (Ws pa xs.length pc pb 0 xs ((w2.setCell ⟨w.heap.size, 0, none⟩ (.int .u64 (A : Int))).setCell ⟨w.heap.size, 1, none⟩ (.slice pa xs.length pc))) := Lib.hid ((hws.out.below b2 (Nat.le_refl _)).keep (fun h0 => other2 (by have := hpb h0; omega) _ _) (by simp [World.setCell]))
            have hne : Hid (xs ≠ []) := Lib.hid (fun e => (chkB_ok hR.out.symm).1 (by rw [e]; rfl))
            have st2 := Lib.hid st2
            clear b2 CK
            go_wp2_with fail
            rw [Exit.noGoto_ret]
            obtain ⟨kk, kb⟩ := KG.out
            have hws2 := hws2.out
            generalize (w2.setCell ⟨w.heap.size, 0, none⟩ (.int .u64 (A : Int))).setCell ⟨w.heap.size, 1, none⟩ (.slice pa xs.length pc) = V at *
            obtain ⟨a0, a1, _, _⟩ := cell2 kk
            refine bodyPost_ret (v := .tuple #[batchV A pa xs.length pc, .int .i64 0]) (by simp [results, Try.results15, go_sem, a0, a1]) rfl ?_
            unfold DecodedB
            rw [hE0.out]
            exact ⟨pa, pc, pb, rfl, hws2, fun e => absurd e hne.out, kb⟩
          · have hR0 : (R != 0) = true := by simpa using q
            have hE7 : Hid (decB s.data.toList = (0, [], 7)) := Lib.hid (by rw [hE2.out, if_neg (fun h => q h.2)])
            clear KB
            go_wp2_with fail
            with_reducible refine CK.out.mono ?_
            rintro e w2 ⟨rfl, b2⟩
            have st2 := hst.out.below b2
            obtain ⟨r0, r1, rf0, rf1⟩ := cell2 st2.res
            have KB := Lib.hid (And.intro (res2 st2.res (.int .u64 0) (.slice none 0 0)) (below2c st2.bel (Nat.le_refl _) (.int .u64 0) (.slice none 0 0)))
            have st2 := Lib.hid st2
            clear b2 CK
            go_wp2_with fail
            rw [Exit.noGoto_ret]
            obtain ⟨kk, kb⟩ := KB.out
            generalize (w2.setCell ⟨w.heap.size, 0, none⟩ (.int .u64 0)).setCell ⟨w.heap.size, 1, none⟩ (.slice none 0 0) = V at *
            obtain ⟨a0, a1, _, _⟩ := cell2 kk
            refine bodyPost_ret (v := .tuple #[batchV 0 none 0 0, .int .i64 7]) (by simp [results, Try.results15, go_sem, a0, a1]) rfl ?_
            unfold DecodedB
            rw [hE7.out]
            exact ⟨none, 0, 0, rfl, ⟨rfl, Nat.le_refl _, by omega, fun h => absurd h (by simp), WrsAt.nil _ _ _, fun x hx => by cases hx⟩, fun _ => ⟨rfl, rfl⟩, kb⟩
        · have hTe : T.toList.isEmpty = false := by rw [isEmpty_size]; simpa using hT0
          have hTn : ¬ T.toList = [] := by rw [toList_size]; exact hT0
          have hE7 : Hid (decB s.data.toList = (0, [], 7)) := Lib.hid (by rw [hE2.out, if_neg (fun h => hT0 h.1)])
          have hst := Lib.hid hst
          have hws := Lib.hid hws
          clear hdec hdec'
          go_wp2_with fail
          rw [Exit.noGoto_ret]
          obtain ⟨kk, kb⟩ := KB.out
          generalize (wr.setCell ⟨w.heap.size, 0, none⟩ (.int .u64 0)).setCell ⟨w.heap.size, 1, none⟩ (.slice none 0 0) = V at *
          obtain ⟨a0, a1, _, _⟩ := cell2 kk
          refine bodyPost_ret (v := .tuple #[batchV 0 none 0 0, .int .i64 7]) (by simp [results, Try.results15, go_sem, a0, a1]) rfl ?_
          unfold DecodedB
          rw [hE7.out]
          exact ⟨none, 0, 0, rfl, ⟨rfl, Nat.le_refl _, by omega, fun h => absurd h (by simp), WrsAt.nil _ _ _, fun x hx => by cases hx⟩, fun _ => ⟨rfl, rfl⟩, kb⟩
end Go.Proofs.Ytaanclnppfpocaa
