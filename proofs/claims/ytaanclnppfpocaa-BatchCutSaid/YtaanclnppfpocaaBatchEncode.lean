/-
  The contract of Encode. No condition.
-/
import Derived.Test.YtaanclnppfpocaaBatchCheck
import Derived.Test.YtaanclnppfpocaaBatchMath2
import Derived.Test.YtaanclnppfpocaaBuilder
import Derived.Test.YtaanclnppfpocaaCodeUint
import Derived.Test.YtaanclnppfpocaaCodePutText
namespace Go.Proofs.Ytaanclnppfpocaa
open Go.RowKit
/-- A builder that holds T, and a write in a block of its own. -/
structure Enc (N wb : Nat) (T : List UInt8) (row : Array Value) (w1 V : World) : Prop where
  bld : Bld N N T V
  bel : Below N w1 V
  blk : V.heap[wb]? = some (.cells row 44 (0, 0))
  ne : wb ≠ N
  lo : N ≤ w1.heap.size
theorem Enc.put {N wb : Nat} {T : List UInt8} {row : Array Value} {w1 V V' : World} (h : Enc N wb T row w1 V) (hb : Below V.heap.size V V') : Enc N wb T row w1 V' :=
  ⟨h.bld.below hb, h.bel.trans (hb.mono (Nat.le_trans h.lo h.bel.size)), (hb.block wb (Array.getElem?_eq_some_iff.1 h.blk).1).trans h.blk, h.ne, h.lo⟩
theorem Enc.wrote {N wb : Nat} {T T' : List UInt8} {row : Array Value} {w1 V V' : World} (h : Enc N wb T row w1 V) (b : Bld N N T' V') (hb : Below N V V') (hs : Spares N V V') : Enc N wb T' row w1 V' :=
  ⟨b, h.bel.trans hb, (hs.2 wb (Array.getElem?_eq_some_iff.1 h.blk).1 h.ne (fun cs m e => by
    rw [h.blk] at e
    simp only [Option.some.injEq, Obj.cells.injEq] at e
    exact absurd e.2.1 (by decide))).trans h.blk, h.ne, h.lo⟩
theorem Enc.cell {N wb : Nat} {T : List UInt8} {row : Array Value} {w1 V : World} (h : Enc N wb T row w1 V) (j : Nat) : V.cell? ⟨wb, j, none⟩ = row[j]? := by
  simp [World.cell?, h.blk]
theorem Enc.size {N wb : Nat} {T : List UInt8} {row : Array Value} {w1 V : World} (h : Enc N wb T row w1 V) : N ≤ V.heap.size := Nat.le_trans h.lo h.bel.size
theorem bld_lt {B b : Nat} {l : List UInt8} {w : World} (h : Bld B b l w) : b < w.heap.size := by
  rcases h with h | h <;> exact h.lt
set_option maxRecDepth 100000 in
set_option maxHeartbeats 2000000 in
theorem encode_bad {seq : Nat} {a : Option Addr} {n c b o : Nat} {l : List Wr} {w : World} (h : Ws a n c b o l w) (hc : chkB seq l ≠ 0) :
    Calls Try.prog 10 #[batchV seq a n c] w fun e w' => e = .returned (.tuple #[.string ⟨#[]⟩, .int .i64 (chkB seq l)]) ∧ Below w.heap.size w w' := by
  obtain ⟨c0, c1⟩ := box_batch w seq (.slice a n c)
  have K := Lib.hid (below_alloc w (.cells #[.int .u64 (seq : Int), .slice a n c] 25))
  have C := Lib.hid (check_any (seq := seq) (h.below K.out (Nat.le_refl _)))
  obtain ⟨R, hR⟩ := named (chkB seq l)
  rw [← hR.out] at C hc ⊢
  have hcb : (R != 0) = true := by simpa using hc
  clear h hR
  go_enter Try.func10, Try.ntmps10
  go_wp2_with fail
  refine C.out.mono ?_
  rintro e w1 ⟨rfl, hb1⟩
  have hb := Lib.hid (K.out.trans (hb1.mono K.out.size))
  clear C hb1 K
  go_wp2_with fail
  go_returns
  exact ⟨rfl, hb.out⟩
set_option maxRecDepth 100000 in
set_option maxHeartbeats 4000000 in
theorem encode_good {seq : Nat} {a : Option Addr} {n c b o : Nat} {l : List Wr} {w : World} (h : Ws a n c b o l w) (hc : chkB seq l = 0) :
    Calls Try.prog 10 #[batchV seq a n c] w fun e w' => e = .returned (.tuple #[.string ⟨(encB seq l).toArray⟩, .int .i64 0]) ∧ Below w.heap.size w w' := by
  obtain ⟨k0, k1, k2, k3, k4⟩ := chkB_ok hc
  rw [h.len] at k0 k3
  obtain ⟨c0, c1⟩ := box_batch w seq (.slice a n c)
  have K := Lib.hid (below_alloc w (.cells #[.int .u64 (seq : Int), .slice a n c] 25))
  have C := Lib.hid (check_any (seq := seq) (h.below K.out (Nat.le_refl _)))
  rw [hc] at C
  have PU := Lib.hid fun N hN u => putuint_any N hN u
  have k4 := Lib.hid k4
  have hlen := Lib.hid h.len
  have h := Lib.hid h
  have hW : (w.alloc (.cells #[.int .u64 (seq : Int), .slice a n c] 25)).heap.size = w.heap.size + 1 := by simp
  go_enter Try.func10, Try.ntmps10
  go_wp2_with fail
  refine C.out.mono ?_
  rintro e w1 ⟨rfl, hb1⟩
  generalize w.alloc (.cells #[.int .u64 (seq : Int), .slice a n c] 25) = W at *
  have hw1 : w.heap.size < w1.heap.size := by have := hb1.size; omega
  have hb2 := Lib.hid (K.out.trans (hb1.mono K.out.size))
  have cs : Hid (∀ V, Below w1.heap.size w1 V → V.cell? ⟨w.heap.size, 0, none⟩ = some (.int .u64 (seq : Int)) ∧ V.cell? ⟨w.heap.size, 1, none⟩ = some (.slice a n c) ∧ Ws a n c b o l V ∧ w1.heap.size ≤ V.heap.size) := Lib.hid fun V hV =>
    ⟨(hV.cell (p := ⟨w.heap.size, 0, none⟩) hw1).trans ((hb1.cell (p := ⟨w.heap.size, 0, none⟩) (by simp only; omega)).trans c0), (hV.cell (p := ⟨w.heap.size, 1, none⟩) hw1).trans ((hb1.cell (p := ⟨w.heap.size, 1, none⟩) (by simp only; omega)).trans c1), (h.out.below hb2.out (Nat.le_refl _)).below hV (Nat.le_refl _), hV.size⟩
  clear C c0 c1 hb1 K hW
  obtain ⟨y0, y1, _, _⟩ := cs.out _ (Below.refl _ w1)
  have hs64 : seq < 2 ^ 64 := by omega
  go_wp2_with fail
  have BN := Lib.hid (bld_new w1)
  have V0 : Hid (Below w1.heap.size w1 (w1.alloc (.cells #[.pointer none, .slice none 0 0] 49))) := Lib.hid (below_alloc _ _)
  clear y0 y1
  generalize w1.alloc (.cells #[.pointer none, .slice none 0 0] 49) = U0 at *
  refine (PU.out seq hs64 U0).mono ?_
  rintro e U1 ⟨rfl, b1⟩
  have V1 := Lib.hid (V0.out.trans (b1.mono V0.out.size))
  have B1 := Lib.hid (BN.out.below b1)
  have S1 := Lib.hid (bld_string B1.out V1.out.size ⟨(Code.uvar seq).toArray⟩ (by have := uvar_short (n := seq) (by omega); show 0 + (Code.uvar seq).toArray.size ≤ _; rw [List.size_toArray]; omega))
  clear V0 BN b1
  go_wp2_with fail
  refine S1.out.mono ?_
  rintro e U2 ⟨rfl, B2, b2, _⟩
  have V2 := Lib.hid (V1.out.trans b2)
  have B2 : Hid (Bld w1.heap.size w1.heap.size (Code.uvar seq) U2) := Lib.hid (by simpa using B2)
  obtain ⟨y0, y1, _, _⟩ := cs.out _ V2.out
  clear V1 B1 S1 b2
  have hn64 : n < 2 ^ 64 := by omega
  have wn : IntKind.u64.wrap (n : Int) = (n : Int) := wrap_u64_nat hn64
  go_wp2_with fail
  refine (PU.out n hn64 U2).mono ?_
  rintro e U3 ⟨rfl, b3⟩
  have V3 := Lib.hid (V2.out.trans (b3.mono V2.out.size))
  have B3 := Lib.hid (B2.out.below b3)
  have S3 := Lib.hid (bld_string B3.out V3.out.size ⟨(Code.uvar n).toArray⟩ (by have := uvar_short (n := seq) (by omega); have := uvar_short (n := n) (by omega); show (Code.uvar seq).length + (Code.uvar n).toArray.size ≤ _; rw [List.size_toArray]; omega))
  clear V2 B2 b3 y0 y1
  go_wp2_with fail
  refine S3.out.mono ?_
  rintro e U4 ⟨rfl, B4, b4, _⟩
  have V4 := Lib.hid (V3.out.trans b4)
  have B4 : Hid (Bld w1.heap.size w1.heap.size (Code.uvar seq ++ Code.uvar n) U4) := Lib.hid (by simpa using B4)
  obtain ⟨y0, y1, _, _⟩ := cs.out _ V4.out
  clear V3 B3 S3 b4
  go_wp2_with fail
  go_loopw [26] (fun i wr => ∃ j : Nat, j ≤ n ∧ i = .int .i64 (j : Int) ∧ Bld w1.heap.size w1.heap.size (Code.uvar seq ++ Code.uvar n ++ encL (l.take j)) wr ∧ Below w1.heap.size w1 wr) (fun i _ => n - (intOf i).toNat)
  case atStart => exact ⟨0, Nat.zero_le _, rfl, by simpa [encL] using B4.out, V4.out⟩
  case round =>
    clear V4 B4 y0 y1
    obtain ⟨j, hj, rfl, hB, hb⟩ := hrel
    have hlb : Hid ((Code.uvar seq ++ Code.uvar n ++ encL (l.take j)).length ≤ 200000) := Lib.hid (by
      have q1 := uvar_short (n := seq) (by omega)
      have q2 := uvar_short (n := n) (by omega)
      have q3 := encL_len (l := l.take j) fun x hx => (k4.out x (List.mem_of_mem_take hx)).2
      have q4 : (l.take j).length ≤ 64 := by rw [List.length_take]; omega
      simp only [List.length_append]
      omega)
    have hB := Lib.hid hB
    have hb := Lib.hid hb
    by_cases hlt : j < n
    · obtain ⟨_, _, hws, _⟩ := cs.out _ hb.out
      obtain ⟨x, hx, rfl, e0, e1, e2⟩ := hws.at3 hlt
      obtain ⟨xk, xs, xv⟩ := x
      have hxb := k4.out _ (List.mem_of_getElem? hx)
      have take1 : Hid (encL (l.take (j + 1)) = encL (l.take j) ++ encW ⟨xk, xs, xv⟩) := Lib.hid (by rw [List.take_add_one, hx]; exact encL_snoc _ _)
      simp only at e0 e1 e2
      obtain ⟨T, hT⟩ := named (Code.uvar seq ++ Code.uvar n ++ encL (l.take j))
      rw [← hT.out] at hB hlb
      clear hws
      obtain ⟨h520, h2048⟩ := Wr.long_false hxb.2
      have hk12 : xk = 1 ∨ xk = 2 := by
        have := hxb.1
        unfold Wr.bad at this
        simp only [Bool.or_eq_false_iff, Bool.and_eq_false_iff, bne_eq_false_iff_eq] at this
        exact this.1
      have hkeyr : xs.size ≤ reachBytes := by unfold reachBytes; simp only at h520; omega
      have hvalr : xv.size ≤ reachBytes := by unfold reachBytes; simp only at h2048; omega
      have PF := Lib.hid fun t ht u => putfield_any t ht u
      have lk := fldB_len h520 (by omega)
      have lv := fldB_len h2048 (by omega)
      simp only at lk lv
      have lk := Lib.hid lk
      have lv := Lib.hid lv
      clear hxb
      rcases hk12 with rfl | rfl
      · have E0 : Hid (Enc w1.heap.size wr.heap.size T #[.int .i64 1, .string xs, .string xv] w1 (wr.alloc (.cells #[.int .i64 1, .string xs, .string xv] 44))) := Lib.hid ⟨hB.out.below (below_alloc _ _), hb.out.trans ((below_alloc _ _).mono hb.out.size), heap_alloc_new _ _, by have := bld_lt hB.out; omega, Nat.le_refl _⟩
        have SB := Lib.hid (bld_byte E0.out.bld E0.out.size 1 1 rfl (by have := hlb.out; omega))
        go_wp2_with fail
        generalize wr.alloc (.cells #[.int .i64 1, .string xs, .string xv] 44) = V0 at *
        generalize wr.heap.size = wb at *
        refine SB.out.mono ?_
        rintro e V1 ⟨rfl, B1, b1, s1⟩
        have E1 := Lib.hid (E0.out.wrote B1 b1 s1)
        clear E0 SB B1 b1 s1
        have f0 : V1.cell? ⟨wb, 0, none⟩ = some (.int .i64 1) := E1.out.cell 0
        have f1 : V1.cell? ⟨wb, 1, none⟩ = some (.string xs) := E1.out.cell 1
        go_wp2_with fail
        refine (PF.out xs hkeyr V1).mono ?_
        rintro e V2 ⟨rfl, b2⟩
        have E2 := Lib.hid (E1.out.put b2)
        have hl2 : Hid ((T ++ [1]).length + (⟨(Code.uvar xs.size ++ xs.data.toList).toArray⟩ : ByteArray).size ≤ 140737488355328) := Lib.hid (by have := hlb.out; have := lk.out; show (T ++ [1]).length + (fldB xs).toArray.size ≤ _; rw [List.size_toArray, List.length_append]; simp only [List.length_cons, List.length_nil]; omega)
        have SK := Lib.hid (bld_string E2.out.bld E2.out.size ⟨(Code.uvar xs.size ++ xs.data.toList).toArray⟩ hl2.out)
        clear E1 b2 f0 f1
        go_wp2_with fail
        refine SK.out.mono ?_
        rintro e V3 ⟨rfl, B3, b3, s3⟩
        have E3 := Lib.hid (E2.out.wrote B3 b3 s3)
        clear E2 SK B3 b3 s3 hl2
        have f0 : V3.cell? ⟨wb, 0, none⟩ = some (.int .i64 1) := E3.out.cell 0
        have f2 : V3.cell? ⟨wb, 2, none⟩ = some (.string xv) := E3.out.cell 2
        go_wp2_with fail
        refine (PF.out xv hvalr V3).mono ?_
        rintro e V4 ⟨rfl, b4⟩
        have E4 := Lib.hid (E3.out.put b4)
        have hl4 : Hid ((T ++ [1] ++ (Code.uvar xs.size ++ xs.data.toList)).length + (⟨(Code.uvar xv.size ++ xv.data.toList).toArray⟩ : ByteArray).size ≤ 140737488355328) := Lib.hid (by have := hlb.out; have := lk.out; have := lv.out; show (T ++ [1] ++ fldB xs).length + (fldB xv).toArray.size ≤ _; rw [List.size_toArray, List.length_append, List.length_append]; simp only [List.length_cons, List.length_nil]; omega)
        have SV := Lib.hid (bld_string E4.out.bld E4.out.size ⟨(Code.uvar xv.size ++ xv.data.toList).toArray⟩ hl4.out)
        clear E3 b4 f0 f2
        go_wp2_with fail
        refine SV.out.mono ?_
        rintro e V5 ⟨rfl, B5, b5, s5⟩
        have E5 := Lib.hid (E4.out.wrote B5 b5 s5)
        clear E4 SV B5 b5 s5 hl4
        go_wp2_with fail
        go_roundw
        case rel => exact ⟨j + 1, by omega, by go_num, by rw [take1.out]; have := E5.out.bld; rw [hT.out] at this; simpa [encW, fldB] using this, E5.out.bel⟩
        case measure => simp [intOf]; omega
      · have E0 : Hid (Enc w1.heap.size wr.heap.size T #[.int .i64 2, .string xs, .string xv] w1 (wr.alloc (.cells #[.int .i64 2, .string xs, .string xv] 44))) := Lib.hid ⟨hB.out.below (below_alloc _ _), hb.out.trans ((below_alloc _ _).mono hb.out.size), heap_alloc_new _ _, by have := bld_lt hB.out; omega, Nat.le_refl _⟩
        have SB := Lib.hid (bld_byte E0.out.bld E0.out.size 2 2 rfl (by have := hlb.out; omega))
        go_wp2_with fail
        generalize wr.alloc (.cells #[.int .i64 2, .string xs, .string xv] 44) = V0 at *
        generalize wr.heap.size = wb at *
        refine SB.out.mono ?_
        rintro e V1 ⟨rfl, B1, b1, s1⟩
        have E1 := Lib.hid (E0.out.wrote B1 b1 s1)
        clear E0 SB B1 b1 s1
        have f0 : V1.cell? ⟨wb, 0, none⟩ = some (.int .i64 2) := E1.out.cell 0
        have f1 : V1.cell? ⟨wb, 1, none⟩ = some (.string xs) := E1.out.cell 1
        go_wp2_with fail
        refine (PF.out xs hkeyr V1).mono ?_
        rintro e V2 ⟨rfl, b2⟩
        have E2 := Lib.hid (E1.out.put b2)
        have hl2 : Hid ((T ++ [2]).length + (⟨(Code.uvar xs.size ++ xs.data.toList).toArray⟩ : ByteArray).size ≤ 140737488355328) := Lib.hid (by have := hlb.out; have := lk.out; show (T ++ [2]).length + (fldB xs).toArray.size ≤ _; rw [List.size_toArray, List.length_append]; simp only [List.length_cons, List.length_nil]; omega)
        have SK := Lib.hid (bld_string E2.out.bld E2.out.size ⟨(Code.uvar xs.size ++ xs.data.toList).toArray⟩ hl2.out)
        clear E1 b2 f0 f1
        go_wp2_with fail
        refine SK.out.mono ?_
        rintro e V3 ⟨rfl, B3, b3, s3⟩
        have E3 := Lib.hid (E2.out.wrote B3 b3 s3)
        clear E2 SK B3 b3 s3 hl2
        have f0 : V3.cell? ⟨wb, 0, none⟩ = some (.int .i64 2) := E3.out.cell 0
        have f2 : V3.cell? ⟨wb, 2, none⟩ = some (.string xv) := E3.out.cell 2
        go_wp2_with fail
        go_roundw
        case rel => exact ⟨j + 1, by omega, by go_num, by rw [take1.out]; have := E3.out.bld; rw [hT.out] at this; simpa [encW, fldB] using this, E3.out.bel⟩
        case measure => simp [intOf]; omega
    · have hjn : j = n := by omega
      subst hjn
      have E : Hid (Code.uvar seq ++ Code.uvar j ++ encL (l.take j) = encB seq l) := Lib.hid (by unfold encB; rw [← hlen.out, List.take_length])
      rw [E.out] at hB
      have S := Lib.hid (bld_text hB.out hb.out.size)
      go_wp2_with fail
      refine S.out.mono ?_
      rintro e w' ⟨rfl, b'⟩
      go_wp2_with fail
      go_returns
      exact ⟨rfl, hb2.out.trans ((hb.out.trans b').mono hb2.out.size)⟩
end Go.Proofs.Ytaanclnppfpocaa
