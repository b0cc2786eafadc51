/-
  The contract of the document's Encode. No condition.
-/
import Derived.Test.YtaanclnppfpocaaBatchSameRef
import Derived.Test.YtaanclnppfpocaaBatchMath2
import Derived.Test.YtaanclnppfpocaaCodeFieldRef
import Derived.Deep.RegionHeld
import Derived.BigRegion
import Derived.Deep.DrawnRows
namespace Go.Proofs.Ytaanclnppfpocaa
open Go.RowKit
attribute [local go_sem ↓] Go.wp_at_zero Go.wp_at_succ
theorem one_at (x : Int) (c : UInt8) (hx : x = (c.toNat : Int)) (u : World) (g : Nat) (h0 : u.cell? ⟨g, 0, none⟩ = some (.int .u8 x)) :
    (convert 47 9 (.slice (some ⟨g, 0, none⟩) 1 1)).run Try.prog u = .ok (.string ⟨#[c]⟩) u := by
  subst hx
  refine run_convert_bytes_back u _ _ 5 ⟨g, 0, none⟩ 1 [c] Try.underlying47 Try.underlying5 Try.underlying9 ?_
  intro j hj
  have : j = 0 := by simpa using hj
  subst this
  rw [addr_at]
  exact h0
theorem kept_byte {V u : World} {x : Int} (q : Below (V.alloc (.cells #[.int .u8 x] 5)).drew.heap.size (V.alloc (.cells #[.int .u8 x] 5)).drew u) : u.cell? ⟨V.heap.size, 0, none⟩ = some (.int .u8 x) :=
  (q.cell (p := ⟨V.heap.size, 0, none⟩) (by show _ < (V.alloc _).heap.size; simp)).trans (by rw [World.cell?_drew, World.cell?_alloc_new]; rfl)
/-- A write in a block of its own, behind the check. -/
structure ESt (wb : Nat) (row : Array Value) (w1 V : World) : Prop where
  blk : V.heap[wb]? = some (.cells row 44 (0, 0))
  bel : Below w1.heap.size w1 V
theorem ESt.below {wb : Nat} {row : Array Value} {w1 V V' : World} (h : ESt wb row w1 V) (hb : Below V.heap.size V V') : ESt wb row w1 V' :=
  ⟨(hb.block wb (Array.getElem?_eq_some_iff.1 h.blk).1).trans h.blk, h.bel.trans (hb.mono h.bel.size)⟩
theorem ESt.cells {wb : Nat} {k a v : Value} {w1 V : World} (h : ESt wb #[k, a, v] w1 V) : V.cell? ⟨wb, 0, none⟩ = some k ∧ V.cell? ⟨wb, 1, none⟩ = some a ∧ V.cell? ⟨wb, 2, none⟩ = some v := by
  refine ⟨?_, ?_, ?_⟩ <;> simp [World.cell?, h.blk]
theorem cat_bytes (a b : List UInt8) : (⟨a.toArray⟩ : ByteArray) ++ ⟨b.toArray⟩ = ⟨(a ++ b).toArray⟩ := by
  apply ByteArray.ext; rw [ByteArray.data_append]; apply Array.toList_inj.1; simp
theorem size_bytes (a : List UInt8) : (⟨a.toArray⟩ : ByteArray).size = a.length := List.size_toArray
set_option maxRecDepth 100000 in
set_option maxHeartbeats 2000000 in
theorem refencode_bad {seq : Nat} {a : Option Addr} {n c b o : Nat} {l : List Wr} {w : World} (h : Ws a n c b o l w) (hc : chkB seq l ≠ 0) :
    Calls Try.prog 11 #[batchV seq a n c] w fun e w' => e = .returned (.tuple #[.string ⟨#[]⟩, .int .i64 (chkB seq l)]) ∧ Below w.heap.size w w' := by
  obtain ⟨c0, c1⟩ := box_batch w seq (.slice a n c)
  have K := Lib.hid (below_alloc w (.cells #[.int .u64 (seq : Int), .slice a n c] 25))
  have C := Lib.hid (refcheck_any (seq := seq) (h.below K.out (Nat.le_refl _)))
  obtain ⟨R, hR⟩ := named (chkB seq l)
  rw [← hR.out] at C hc ⊢
  have hcb : (R != 0) = true := by simpa using hc
  clear h hR
  go_enter Try.func11, Try.ntmps11
  go_wp2_with fail
  refine C.out.mono ?_
  rintro e w1 ⟨rfl, hb1⟩
  have hb := Lib.hid (K.out.trans (hb1.mono K.out.size))
  clear C hb1 K
  go_wp2_with fail
  go_returns
  exact ⟨rfl, hb.out⟩
set_option maxRecDepth 100000 in
set_option maxHeartbeats 8000000 in
theorem refencode_good {seq : Nat} {a : Option Addr} {n c b o : Nat} {l : List Wr} {w : World} (h : Ws a n c b o l w) (hc : chkB seq l = 0) :
    Calls Try.prog 11 #[batchV seq a n c] w fun e w' => e = .returned (.tuple #[.string ⟨(encB seq l).toArray⟩, .int .i64 0]) ∧ Below w.heap.size w w' := by
  obtain ⟨k0, k1, k2, k3, k4⟩ := chkB_ok hc
  rw [h.len] at k0 k3
  obtain ⟨c0, c1⟩ := box_batch w seq (.slice a n c)
  have K := Lib.hid (below_alloc w (.cells #[.int .u64 (seq : Int), .slice a n c] 25))
  have C := Lib.hid (refcheck_any (seq := seq) (h.below K.out (Nat.le_refl _)))
  rw [hc] at C
  have PU := Lib.hid fun N hN u => refputuint_any N hN u
  have PF := Lib.hid fun t ht u => refputfield_any t ht u
  have k4 := Lib.hid k4
  have hcap := h.cap
  have hmost := h.most
  have hlen := Lib.hid h.len
  have h := Lib.hid h
  have hW : (w.alloc (.cells #[.int .u64 (seq : Int), .slice a n c] 25)).heap.size = w.heap.size + 1 := by simp
  go_enter Try.func11, Try.ntmps11
  go_wp2_with fail
  refine C.out.mono ?_
  rintro e w1 ⟨rfl, hb1⟩
  generalize w.alloc (.cells #[.int .u64 (seq : Int), .slice a n c] 25) = W at *
  have hw1 : w.heap.size < w1.heap.size := by have := hb1.size; omega
  have hb2 := Lib.hid (K.out.trans (hb1.mono K.out.size))
  have cs : Hid (∀ V, Below w1.heap.size w1 V → V.cell? ⟨w.heap.size, 0, none⟩ = some (.int .u64 (seq : Int)) ∧ V.cell? ⟨w.heap.size, 1, none⟩ = some (.slice a n c) ∧ Ws a n c b o l V ∧ w1.heap.size ≤ V.heap.size) := Lib.hid fun V hV =>
    ⟨(hV.cell (p := ⟨w.heap.size, 0, none⟩) hw1).trans ((hb1.cell (p := ⟨w.heap.size, 0, none⟩) (by simp only; omega)).trans c0), (hV.cell (p := ⟨w.heap.size, 1, none⟩) hw1).trans ((hb1.cell (p := ⟨w.heap.size, 1, none⟩) (by simp only; omega)).trans c1), (h.out.below hb2.out (Nat.le_refl _)).below hV (Nat.le_refl _), hV.size⟩
  clear C c0 c1 hb1 K hW
  obtain ⟨y0, y1, _, _⟩ := cs.out _ (Below.refl _ w1)
  have hs64 : seq < 2 ^ 64 := by omega
  have hn64 : n < 2 ^ 64 := by omega
  have wn : IntKind.u64.wrap (n : Int) = (n : Int) := wrap_u64_nat hn64
  have zs := uvar_short (n := seq) (by omega)
  have zn := uvar_short (n := n) (by omega)
  obtain ⟨US, hUS⟩ := named (⟨(Code.uvar seq).toArray⟩ : ByteArray)
  obtain ⟨UN, hUN⟩ := named (⟨(Code.uvar n).toArray⟩ : ByteArray)
  have P1 := Lib.hid (PU.out seq hs64)
  have P2 := Lib.hid (PU.out n hn64)
  rw [← hUS.out] at P1
  rw [← hUN.out] at P2
  have zs2 : (US.size : Int) ≤ 10 := by rw [hUS.out, size_bytes]; omega
  have zn2 : (UN.size : Int) ≤ 10 := by rw [hUN.out, size_bytes]; omega
  have cat0 : Hid (US ++ UN = ⟨(Code.uvar seq ++ Code.uvar n).toArray⟩) := Lib.hid (by rw [hUS.out, hUN.out, cat_bytes])
  clear zs zn hUS hUN PU
  have s0 : Hid (w1.cell? ⟨w.heap.size, 0, none⟩ = some (.int .u64 (seq : Int)) ∧ w1.cell? ⟨w.heap.size, 1, none⟩ = some (.slice a n c)) := Lib.hid ⟨y0, y1⟩
  go_wp2_with fail
  go_region_held (fun v => v.cell? ⟨w.heap.size, 0, none⟩ = some (.int .u64 (seq : Int)) ∧ v.cell? ⟨w.heap.size, 1, none⟩ = some (.slice a n c))
    (first
      | with_reducible exact s2.out
      | with_reducible exact s1.out
      | exact s0.out)
    (first
      | (go_at_call 29
         ((with_reducible refine (P1.out _).mono ?_); rintro e u1 ⟨rfl, q1⟩)
         have B1 : Hid (Below w1.heap.size w1 u1) := Lib.hid (by first | exact ⟨q1.os, q1.tape, q1.output, q1.size, q1.block⟩ | exact B2.out.trans ((⟨q1.os, q1.tape, q1.output, q1.size, q1.block⟩ : Below u2.heap.size u2 u1).mono B2.out.size))
         have s1 : Hid (u1.cell? ⟨w.heap.size, 0, none⟩ = some (.int .u64 (seq : Int)) ∧ u1.cell? ⟨w.heap.size, 1, none⟩ = some (.slice a n c)) := Lib.hid ⟨(cs.out _ B1.out).1, (cs.out _ B1.out).2.1⟩
         have q1 := Lib.hid q1)
      | (go_at_call 29
         ((with_reducible refine (P2.out _).mono ?_); rintro e u2 ⟨rfl, q2⟩)
         have B2 : Hid (Below w1.heap.size w1 u2) := Lib.hid (by first | exact ⟨q2.os, q2.tape, q2.output, q2.size, q2.block⟩ | exact B1.out.trans ((⟨q2.os, q2.tape, q2.output, q2.size, q2.block⟩ : Below u1.heap.size u1 u2).mono B1.out.size))
         have s2 : Hid (u2.cell? ⟨w.heap.size, 0, none⟩ = some (.int .u64 (seq : Int)) ∧ u2.cell? ⟨w.heap.size, 1, none⟩ = some (.slice a n c)) := Lib.hid ⟨(cs.out _ B2.out).1, (cs.out _ B2.out).2.1⟩
         have q2 := Lib.hid q2))
  go_wp2_with fail
  have cat1 : Hid (US ++ UN = ⟨(Code.uvar seq ++ Code.uvar n ++ encL (l.take 0)).toArray⟩) := Lib.hid (by rw [cat0.out]; simp [encL])
  go_loopw [6, 5] (fun i s wr => ∃ (j : Nat) (T : ByteArray), j ≤ n ∧ i = .int .i64 (j : Int) ∧ s = .string T ∧ T = ⟨(Code.uvar seq ++ Code.uvar n ++ encL (l.take j)).toArray⟩ ∧ Below w1.heap.size w1 wr) (fun i _ _ => n - (intOf i).toNat)
  case atStart => exact ⟨0, _, Nat.zero_le _, rfl, rfl, cat1.out, ⟨B2.out.os, B2.out.tape, B2.out.output, B2.out.size, B2.out.block⟩⟩
  case round =>
    clear s0 s1 s2 B1 B2 y0 y1 q1 q2 P1 P2
    obtain ⟨j, T, hj, rfl, rfl, hT, hb⟩ := hrel
    have zT : (T.size : Int) ≤ 200000 := by
      rw [hT, size_bytes]
      have q1 := uvar_short (n := seq) (by omega)
      have q2 := uvar_short (n := n) (by omega)
      have q3 := encL_len (l := l.take j) fun x hx => (k4.out x (List.mem_of_mem_take hx)).2
      have q4 : (l.take j).length ≤ 64 := by rw [List.length_take]; omega
      simp only [List.length_append]
      omega
    replace hT := Lib.hid hT
    have hb := Lib.hid hb
    obtain ⟨y0, y1, hws, _⟩ := cs.out _ hb.out
    by_cases hlt : j < n
    · obtain ⟨x, hx, rfl, e0, e1, e2⟩ := hws.at3 hlt
      obtain ⟨xk, xs, xv⟩ := x
      have hxb := k4.out _ (List.mem_of_getElem? hx)
      have take1 : Hid (encL (l.take (j + 1)) = encL (l.take j) ++ encW ⟨xk, xs, xv⟩) := Lib.hid (by rw [List.take_add_one, hx]; exact encL_snoc _ _)
      simp only at e0 e1 e2
      clear hws
      obtain ⟨h520, h2048⟩ := Wr.long_false hxb.2
      have hk12 : xk = 1 ∨ xk = 2 := by
        have := hxb.1
        unfold Wr.bad at this
        simp only [Bool.or_eq_false_iff, Bool.and_eq_false_iff, bne_eq_false_iff_eq] at this
        exact this.1
      have hkeyr : xs.size ≤ reachBytes := by unfold reachBytes; simp only at h520; omega
      have hvalr : xv.size ≤ reachBytes := by unfold reachBytes; simp only at h2048; omega
      have lk := fldB_len h520 (by omega)
      have lv := fldB_len h2048 (by omega)
      simp only at lk lv
      have PK := Lib.hid (PF.out xs hkeyr)
      have PV := Lib.hid (PF.out xv hvalr)
      obtain ⟨FK, hFK⟩ := named (⟨(Code.uvar xs.size ++ xs.data.toList).toArray⟩ : ByteArray)
      obtain ⟨FV, hFV⟩ := named (⟨(Code.uvar xv.size ++ xv.data.toList).toArray⟩ : ByteArray)
      have zk : (FK.size : Int) ≤ 600 := by rw [hFK.out, size_bytes]; unfold fldB at lk; omega
      have zv : (FV.size : Int) ≤ 2100 := by rw [hFV.out, size_bytes]; unfold fldB at lv; omega
      rw [← hFK.out] at PK
      rw [← hFV.out] at PV
      clear hxb hkeyr hvalr lk lv h520 h2048
      have hx := Lib.hid hx
      rcases hk12 with rfl | rfl
      · have E0 : Hid (ESt wr.heap.size #[.int .i64 1, .string xs, .string xv] w1 (wr.alloc (.cells #[.int .i64 1, .string xs, .string xv] 44))) := Lib.hid ⟨heap_alloc_new _ _, hb.out.trans ((below_alloc _ _).mono hb.out.size)⟩
        go_upto_region 9 with fail
        generalize wr.alloc (.cells #[.int .i64 1, .string xs, .string xv] 44) = V0 at *
        generalize wr.heap.size = wb at *
        clear e0 e1 e2
        have wk : IntKind.u8.wrap 1 = 1 := by rw [IntKind.wrap_u8]; omega
        have CV : ∀ (u : World) (g : Nat), u.cell? ⟨g, 0, none⟩ = some (.int .u8 1) → (convert 47 9 (.slice (some ⟨g, 0, none⟩) 1 1)).run Try.prog u = .ok (.string ⟨#[1]⟩) u := fun u g hg => one_at 1 1 rfl u g hg
        have s0 : Hid (V0.cell? ⟨wb, 0, none⟩ = some (.int .i64 1) ∧ V0.cell? ⟨wb, 1, none⟩ = some (.string xs)) := Lib.hid ⟨E0.out.cells.1, E0.out.cells.2.1⟩
        have s1 : Hid ((V0.alloc (.cells #[.int .u8 1] 5)).cell? ⟨wb, 0, none⟩ = some (.int .i64 1) ∧ (V0.alloc (.cells #[.int .u8 1] 5)).cell? ⟨wb, 1, none⟩ = some (.string xs)) := Lib.hid ⟨(E0.out.below (below_alloc V0 (.cells #[.int .u8 1] 5))).cells.1, (E0.out.below (below_alloc V0 (.cells #[.int .u8 1] 5))).cells.2.1⟩
        have b0 := Lib.hid (below_alloc V0 (.cells #[.int .u8 1] 5))
        go_region_held (fun v => v.cell? ⟨wb, 0, none⟩ = some (.int .i64 1) ∧ v.cell? ⟨wb, 1, none⟩ = some (.string xs))
          (first
            | exact s0.out
            | exact s1.out
            | exact s2.out
            | exact s3.out)
          (first
            | (go_at_call 30
               ((with_reducible refine (PK.out _).mono ?_); rintro e u1 ⟨rfl, q1⟩)
               have E1 : Hid (ESt wb #[.int .i64 1, .string xs, .string xv] w1 u1) := Lib.hid (by first | exact E0.out.below ⟨q1.os, q1.tape, q1.output, q1.size, q1.block⟩ | exact (E0.out.below b0.out).below ⟨q1.os, q1.tape, q1.output, q1.size, q1.block⟩)
               have s2 : Hid (u1.cell? ⟨wb, 0, none⟩ = some (.int .i64 1) ∧ u1.cell? ⟨wb, 1, none⟩ = some (.string xs)) := Lib.hid ⟨E1.out.cells.1, E1.out.cells.2.1⟩
               have s3 : Hid ((u1.alloc (.cells #[.int .u8 1] 5)).cell? ⟨wb, 0, none⟩ = some (.int .i64 1) ∧ (u1.alloc (.cells #[.int .u8 1] 5)).cell? ⟨wb, 1, none⟩ = some (.string xs)) := Lib.hid ⟨(E1.out.below (below_alloc u1 (.cells #[.int .u8 1] 5))).cells.1, (E1.out.below (below_alloc u1 (.cells #[.int .u8 1] 5))).cells.2.1⟩
               try have z1 : u1.cell? ⟨V0.heap.size, 0, none⟩ = some (.int .u8 1) := kept_byte (V := V0) ⟨q1.os, q1.tape, q1.output, q1.size, q1.block⟩
               have q1 := Lib.hid q1))
        all_goals (
          have Z1 := Lib.hid E1.out.bel
          have Z2 := Lib.hid (E1.out.below (below_alloc u1 (.cells #[.int .u8 1] 5))).bel
          have TX : Hid (T ++ ⟨#[1]⟩ ++ FK ++ FV = ⟨(Code.uvar seq ++ Code.uvar n ++ encL (l.take (j + 1))).toArray⟩) := Lib.hid (by
            rw [hT.out, hFK.out, hFV.out, take1.out, show (⟨#[1]⟩ : ByteArray) = ⟨([1] : List UInt8).toArray⟩ from rfl, cat_bytes, cat_bytes, cat_bytes]
            unfold encW fldB
            simp)
          obtain ⟨f0, f1, f2⟩ := E1.out.cells
          obtain ⟨g0, g1, g2⟩ := (E1.out.below (below_alloc u1 (.cells #[.int .u8 1] 5))).cells
          clear s0 s1 s2 s3 E0 E1 b0 CV q1 PK y0 y1
          go_wp2_with (go_at_call 30; ((with_reducible refine (PV.out _).mono ?_); rintro e u2 ⟨rfl, q2⟩))
          have E2 : Hid (Below w1.heap.size w1 u2) := Lib.hid (by first | exact Z1.out.trans ((⟨q2.os, q2.tape, q2.output, q2.size, q2.block⟩ : Below u1.heap.size u1 u2).mono Z1.out.size) | exact Z2.out.trans ((⟨q2.os, q2.tape, q2.output, q2.size, q2.block⟩ : Below (u1.alloc (.cells #[.int .u8 1] 5)).heap.size (u1.alloc (.cells #[.int .u8 1] 5)) u2).mono Z2.out.size))
          clear f0 f1 f2 g0 g1 g2 q2
          go_roundw
          case rel => exact ⟨j + 1, _, by omega, by go_num, rfl, TX.out, E2.out⟩
          case measure => simp [intOf]; omega)
      · have E0 : Hid (ESt wr.heap.size #[.int .i64 2, .string xs, .string xv] w1 (wr.alloc (.cells #[.int .i64 2, .string xs, .string xv] 44))) := Lib.hid ⟨heap_alloc_new _ _, hb.out.trans ((below_alloc _ _).mono hb.out.size)⟩
        go_upto_region 9 with fail
        generalize wr.alloc (.cells #[.int .i64 2, .string xs, .string xv] 44) = V0 at *
        generalize wr.heap.size = wb at *
        clear e0 e1 e2
        have wk : IntKind.u8.wrap 2 = 2 := by rw [IntKind.wrap_u8]; omega
        have CV : ∀ (u : World) (g : Nat), u.cell? ⟨g, 0, none⟩ = some (.int .u8 2) → (convert 47 9 (.slice (some ⟨g, 0, none⟩) 1 1)).run Try.prog u = .ok (.string ⟨#[2]⟩) u := fun u g hg => one_at 2 2 rfl u g hg
        have s0 : Hid (V0.cell? ⟨wb, 0, none⟩ = some (.int .i64 2) ∧ V0.cell? ⟨wb, 1, none⟩ = some (.string xs)) := Lib.hid ⟨E0.out.cells.1, E0.out.cells.2.1⟩
        have s1 : Hid ((V0.alloc (.cells #[.int .u8 2] 5)).cell? ⟨wb, 0, none⟩ = some (.int .i64 2) ∧ (V0.alloc (.cells #[.int .u8 2] 5)).cell? ⟨wb, 1, none⟩ = some (.string xs)) := Lib.hid ⟨(E0.out.below (below_alloc V0 (.cells #[.int .u8 2] 5))).cells.1, (E0.out.below (below_alloc V0 (.cells #[.int .u8 2] 5))).cells.2.1⟩
        have b0 := Lib.hid (below_alloc V0 (.cells #[.int .u8 2] 5))
        go_region_held (fun v => v.cell? ⟨wb, 0, none⟩ = some (.int .i64 2) ∧ v.cell? ⟨wb, 1, none⟩ = some (.string xs))
          (first
            | exact s0.out
            | exact s1.out
            | exact s2.out
            | exact s3.out)
          (first
            | (go_at_call 30
               ((with_reducible refine (PK.out _).mono ?_); rintro e u1 ⟨rfl, q1⟩)
               have E1 : Hid (ESt wb #[.int .i64 2, .string xs, .string xv] w1 u1) := Lib.hid (by first | exact E0.out.below ⟨q1.os, q1.tape, q1.output, q1.size, q1.block⟩ | exact (E0.out.below b0.out).below ⟨q1.os, q1.tape, q1.output, q1.size, q1.block⟩)
               have s2 : Hid (u1.cell? ⟨wb, 0, none⟩ = some (.int .i64 2) ∧ u1.cell? ⟨wb, 1, none⟩ = some (.string xs)) := Lib.hid ⟨E1.out.cells.1, E1.out.cells.2.1⟩
               have s3 : Hid ((u1.alloc (.cells #[.int .u8 2] 5)).cell? ⟨wb, 0, none⟩ = some (.int .i64 2) ∧ (u1.alloc (.cells #[.int .u8 2] 5)).cell? ⟨wb, 1, none⟩ = some (.string xs)) := Lib.hid ⟨(E1.out.below (below_alloc u1 (.cells #[.int .u8 2] 5))).cells.1, (E1.out.below (below_alloc u1 (.cells #[.int .u8 2] 5))).cells.2.1⟩
               try have z1 : u1.cell? ⟨V0.heap.size, 0, none⟩ = some (.int .u8 2) := kept_byte (V := V0) ⟨q1.os, q1.tape, q1.output, q1.size, q1.block⟩
               have q1 := Lib.hid q1))
        all_goals (
          have Z1 := Lib.hid E1.out.bel
          have Z2 := Lib.hid (E1.out.below (below_alloc u1 (.cells #[.int .u8 2] 5))).bel
          have TX : Hid (T ++ ⟨#[2]⟩ ++ FK = ⟨(Code.uvar seq ++ Code.uvar n ++ encL (l.take (j + 1))).toArray⟩) := Lib.hid (by
            rw [hT.out, hFK.out, take1.out, show (⟨#[2]⟩ : ByteArray) = ⟨([2] : List UInt8).toArray⟩ from rfl, cat_bytes, cat_bytes]
            unfold encW fldB
            simp)
          obtain ⟨f0, f1, f2⟩ := E1.out.cells
          obtain ⟨g0, g1, g2⟩ := (E1.out.below (below_alloc u1 (.cells #[.int .u8 2] 5))).cells
          clear s0 s1 s2 s3 E0 E1 b0 CV q1 PK y0 y1
          go_wp2_with fail
          go_roundw
          case rel => exact ⟨j + 1, _, by omega, by go_num, rfl, TX.out, by first | exact ⟨Z1.out.os, Z1.out.tape, Z1.out.output, Z1.out.size, Z1.out.block⟩ | exact ⟨Z2.out.os, Z2.out.tape, Z2.out.output, Z2.out.size, Z2.out.block⟩⟩
          case measure => simp [intOf]; omega)
    · have hjn : j = n := by omega
      subst hjn
      have TX : Hid (T = ⟨(encB seq l).toArray⟩) := Lib.hid (by
        rw [hT.out, ← hlen.out, List.take_length]; rfl)
      go_wp2_with fail
      go_returns
      exact ⟨by rw [← TX.out]; rfl, hb2.out.trans (hb.out.mono hb2.out.size)⟩
theorem refencode_all {seq : Nat} {a : Option Addr} {n c b o : Nat} {l : List Wr} {w : World} (h : Ws a n c b o l w) :
    Calls Try.prog 11 #[batchV seq a n c] w fun e w' => e = .returned (.tuple #[.string (if chkB seq l = 0 then ⟨(encB seq l).toArray⟩ else ⟨#[]⟩), .int .i64 (chkB seq l)]) ∧ Below w.heap.size w w' := by
  by_cases hc : chkB seq l = 0
  · rw [if_pos hc, hc]; exact refencode_good h hc
  · rw [if_neg hc]; exact refencode_bad h hc
end Go.Proofs.Ytaanclnppfpocaa
