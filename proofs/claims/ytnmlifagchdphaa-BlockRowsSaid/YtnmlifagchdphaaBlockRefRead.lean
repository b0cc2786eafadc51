/-
  The contract of the document's read. Condition: at most 65536 bytes, behind a key of at most 2^20.
-/
import Derived.Test.YtnmlifagchdphaaBlockRefMath
import Derived.Test.YtnmlifagchdphaaBlockRow
import Derived.Test.YtnmlifagchdphaaCodeFieldRef
namespace Go.Proofs.Ytnmlifagchdphaa
set_option maxRecDepth 100000
open Go.RowKit
theorem sl64_upto (P : List UInt8) (n : Nat) (hn : n ≤ P.length) (u : World) : (Instr.slice 9 (.string ⟨P.toArray⟩) none (some (.int .u64 (n : Int))) none).run Try.prog u = .ok (.string ⟨(P.take n).toArray⟩) u := by
  have e := exL_upto P n
  rw [← e]
  exact run_slice_string_h u 9 ⟨P.toArray⟩ Try.underlying9 .u64 (n : Int) (by omega) (by rw [ofList_size]; omega)
def rdV (L : List UInt8) : Option (Rw × List UInt8) → Value
  | none => .tuple #[rowV rwZ, .int .i64 0]
  | some (x, t) => .tuple #[rowV x, .int .i64 ((L.length - t.length : Nat) : Int)]
theorem rdX_eq (s p : List UInt8) : rdX s p =
  if (Code.rd 0 s).2.2 ≠ 0 ∨ p.length < (Code.rd 0 s).1 then none else
  if (Code.rdField (s.drop (Code.rd 0 s).2.1) 520).2.2 ≠ 0 then none else
  if (Code.rd 0 ((s.drop (Code.rd 0 s).2.1).drop (Code.rdField (s.drop (Code.rd 0 s).2.1) 520).2.1)).2.2 ≠ 0 then none else
  match ((s.drop (Code.rd 0 s).2.1).drop (Code.rdField (s.drop (Code.rd 0 s).2.1) 520).2.1).drop (Code.rd 0 ((s.drop (Code.rd 0 s).2.1).drop (Code.rdField (s.drop (Code.rd 0 s).2.1) 520).2.1)).2.1 with
  | [] => none
  | k :: s3 =>
    if k.toNat = 1 then
      if (Code.rdField s3 2048).2.2 ≠ 0 then none else
      some (⟨⟨(p.take (Code.rd 0 s).1 ++ (Code.rdField (s.drop (Code.rd 0 s).2.1) 520).1).toArray⟩, (Code.rd 0 ((s.drop (Code.rd 0 s).2.1).drop (Code.rdField (s.drop (Code.rd 0 s).2.1) 520).2.1)).1, (k.toNat : Int), ⟨(Code.rdField s3 2048).1.toArray⟩⟩, s3.drop (Code.rdField s3 2048).2.1)
    else
      some (⟨⟨(p.take (Code.rd 0 s).1 ++ (Code.rdField (s.drop (Code.rd 0 s).2.1) 520).1).toArray⟩, (Code.rd 0 ((s.drop (Code.rd 0 s).2.1).drop (Code.rdField (s.drop (Code.rd 0 s).2.1) 520).2.1)).1, (k.toNat : Int), ⟨#[]⟩⟩, s3) := rfl
theorem refuint_list (L : List UInt8) (h : L.length ≤ 1048576) (w : World) :
    Calls Try.prog 32 #[.string ⟨L.toArray⟩] w fun e w' => e = .returned (.tuple #[.int .u64 ((Code.rd 0 L).1 : Int), .int .i64 ((Code.rd 0 L).2.1 : Int), .int .i64 ((Code.rd 0 L).2.2 : Int)]) ∧ w' = w :=
  refuint_any ⟨L.toArray⟩ (by rw [ofList_size]; unfold maxLen; omega) w
theorem reffield_list (L : List UInt8) (h : L.length ≤ 1048576) (x : Int) (hx : 0 ≤ x ∧ x ≤ 4096) (w : World) :
    Calls Try.prog 33 #[.string ⟨L.toArray⟩, .int .i64 x] w fun e w' => e = .returned (.tuple #[.string ⟨(Code.rdField L x).1.toArray⟩, .int .i64 ((Code.rdField L x).2.1 : Int), .int .i64 ((Code.rdField L x).2.2 : Int)]) ∧ w' = w :=
  reffield_any ⟨L.toArray⟩ (by rw [ofList_size]; unfold reachBytes; omega) x (by omega) w
set_option maxRecDepth 100000 in
set_option maxHeartbeats 8000000 in
theorem read_ref (L P : List UInt8) (hL : L.length ≤ 65536) (hP : P.length ≤ 1048576) (w : World) :
    Calls Try.prog 15 #[.string ⟨L.toArray⟩, .string ⟨P.toArray⟩] w fun e w' => e = .returned (rdV L (rdX L P)) ∧ Below w.heap.size w w' := by
  have hE := Lib.hid (rdX_eq L P)
  obtain ⟨X, hX⟩ := named (rdX L P)
  rw [← hX.out] at hE ⊢
  have C1 := Lib.hid (fun u => refuint_list L (by omega) u)
  have l1 := Code.rd_fits L
  have s1 := Code.rd_size L
  have SL1 := slL_from L (Code.rd 0 L).2.1 s1 _ rfl
  obtain ⟨⟨n1, k1, e1⟩, hR1⟩ := named (Code.rd 0 L)
  rw [← hR1.out] at hE C1 l1 s1 SL1
  simp only at hE C1 l1 s1 SL1
  obtain ⟨S1, hS1⟩ := named (L.drop k1)
  have hl1 : S1.length = L.length - k1 := by rw [hS1.out, List.length_drop]
  rw [← hS1.out] at hE SL1
  have C2 := Lib.hid (fun u => reffield_list S1 (by omega) 520 (by omega) u)
  have s2 := rdField_size S1 520
  have m2 := Lib.hid (rdField_most S1 520)
  obtain ⟨⟨D, k2, e2⟩, hR2⟩ := named (Code.rdField S1 520)
  rw [← hR2.out] at hE C2 s2 m2
  simp only at hE C2 s2 m2
  have SL2 := slL_from L (k1 + k2) (by omega) ((k1 : Int) + (k2 : Int)) (by omega)
  rw [← List.drop_drop, ← hS1.out] at SL2
  obtain ⟨S2, hS2⟩ := named (S1.drop k2)
  have hl2 : S2.length = S1.length - k2 := by rw [hS2.out, List.length_drop]
  rw [← hS2.out] at hE SL2
  have C3 := Lib.hid (fun u => refuint_list S2 (by omega) u)
  have s3 := Code.rd_size S2
  obtain ⟨⟨n3, k3, e3⟩, hR3⟩ := named (Code.rd 0 S2)
  rw [← hR3.out] at hE C3 s3
  simp only at hE C3 s3
  obtain ⟨S3, hS3⟩ := named (S2.drop k3)
  have hl3 : S3.length = S2.length - k3 := by rw [hS3.out, List.length_drop]
  have hD3 : Hid (L.drop (k1 + k2 + k3) = S3) := Lib.hid (by rw [← List.drop_drop, ← List.drop_drop, ← hS1.out, ← hS2.out, hS3.out])
  rw [← hS3.out] at hE
  clear hX hR1 hS1 hR2 hS2 hR3 hS3
  have R0 := Lib.hid (RowAt.new rwZ w)
  have W0 := Lib.hid (below_alloc w (.cells #[.string ⟨#[]⟩, .int .u64 0, .int .i64 0, .string ⟨#[]⟩] 33))
  have wP : IntKind.u64.wrap (P.length : Int) = (P.length : Int) := wrap_u64_nat (by omega)
  have PL : (⟨P.toArray⟩ : ByteArray).size = P.length := ofList_size P
  simp only [rwZ] at R0
  go_enter Try.func15, Try.ntmps15
  go_upto_region 2 with (go_at_call 32; ((with_reducible refine (C1.out _).mono ?_); rintro e u1 ⟨rfl, rfl⟩))
  generalize w.alloc (.cells #[.string ⟨#[]⟩, .int .u64 0, .int .i64 0, .string ⟨#[]⟩] 33) = v0 at *
  clear C1
  obtain ⟨⟨c0, c1, c2, c3⟩, cf⟩ := R0.out.cells
  simp only at c0 c1 c2 c3
  have f0 := cf 0
  have f1 := cf 1
  have f2 := cf 2
  have f3 := cf 3
  clear cf
  have Z := Lib.hid (And.intro (rowAt_put R0.out rwZ) (below_put4 W0.out (Nat.le_refl _) rwZ))
  simp only [rwZ] at Z
  by_cases q1 : e1 = 0
  case neg =>
    rw [if_pos (.inl q1)] at hE
    have g1 : ((e1 : Int) != 0) = true := by rw [bne_iff_ne]; omega
    go_wp2_with fail
    generalize (((v0.setCell ⟨w.heap.size, 0, none⟩ (.string ⟨#[]⟩)).setCell ⟨w.heap.size, 1, none⟩ (.int .u64 0)).setCell ⟨w.heap.size, 2, none⟩ (.int .i64 0)).setCell ⟨w.heap.size, 3, none⟩ (.string ⟨#[]⟩) = VZ at *
    clear c0 c1 c2 c3 f0 f1 f2 f3
    obtain ⟨⟨a0, a1, a2, a3⟩, _⟩ := Z.out.1.cells
    simp only at a0 a1 a2 a3
    refine bodyPost_ret (v := .tuple #[rowV rwZ, .int .i64 0]) (by simp [results, Try.results15, go_sem, a0, a1, a2, a3, rwZ]) rfl ?_
    exact ⟨by rw [hE.out]; rfl, Z.out.2⟩
  subst q1
  by_cases q2 : P.length < n1
  case pos =>
    rw [if_pos (.inr q2)] at hE
    have g1 : (P.length : Int) < (n1 : Int) := by omega
    go_wp2_with fail
    generalize (((v0.setCell ⟨w.heap.size, 0, none⟩ (.string ⟨#[]⟩)).setCell ⟨w.heap.size, 1, none⟩ (.int .u64 0)).setCell ⟨w.heap.size, 2, none⟩ (.int .i64 0)).setCell ⟨w.heap.size, 3, none⟩ (.string ⟨#[]⟩) = VZ at *
    clear c0 c1 c2 c3 f0 f1 f2 f3
    obtain ⟨⟨a0, a1, a2, a3⟩, _⟩ := Z.out.1.cells
    simp only at a0 a1 a2 a3
    refine bodyPost_ret (v := .tuple #[rowV rwZ, .int .i64 0]) (by simp [results, Try.results15, go_sem, a0, a1, a2, a3, rwZ]) rfl ?_
    exact ⟨by rw [hE.out]; rfl, Z.out.2⟩
  rw [if_neg (by intro e; rcases e with e | e; exact e rfl; exact q2 e)] at hE
  have g2 : ¬ (P.length : Int) < (n1 : Int) := by omega
  have g2b : decide (P.length < n1) = false := by rw [decide_eq_false_iff_not]; exact q2
  have SP := sl64_upto P n1 (by omega)
  obtain ⟨TK, hTK⟩ := named (P.take n1)
  have hTl : TK.length ≤ 1048576 := by rw [hTK.out, List.length_take]; omega
  rw [← hTK.out] at SP hE
  obtain ⟨N2, hN2⟩ := named (k1 + k2)
  have a2 : (k1 : Int) + (k2 : Int) = (N2 : Int) := by rw [hN2.out]; omega
  have hN2l : N2 ≤ L.length := by rw [hN2.out]; omega
  rw [a2] at SL2
  obtain ⟨N3, hN3⟩ := named (N2 + k3)
  have a3 : (N2 : Int) + (k3 : Int) = (N3 : Int) := by rw [hN3.out]; omega
  have hN3l : N3 ≤ L.length := by rw [hN3.out, hN2.out]; omega
  have hD3 : Hid (L.drop N3 = S3) := Lib.hid (by rw [hN3.out, hN2.out]; exact hD3.out)
  have hS3l : S3.length = L.length - N3 := by rw [← hD3.out, List.length_drop]
  have hk1 : k1 ≤ L.length := s1
  clear q2 hTK hl1 hl2 hl3 s2 s3 hN2 hN3
  go_upto_region 5 with (go_at_call 33; ((with_reducible refine (C2.out _).mono ?_); rintro e u2 ⟨rfl, rfl⟩))
  clear C2 SL1
  by_cases q3 : e2 = 0
  case neg =>
    rw [if_pos q3] at hE
    have g3 : ((e2 : Int) != 0) = true := by rw [bne_iff_ne]; omega
    go_wp2_with fail
    generalize (((u2.setCell ⟨w.heap.size, 0, none⟩ (.string ⟨#[]⟩)).setCell ⟨w.heap.size, 1, none⟩ (.int .u64 0)).setCell ⟨w.heap.size, 2, none⟩ (.int .i64 0)).setCell ⟨w.heap.size, 3, none⟩ (.string ⟨#[]⟩) = VZ at *
    clear c0 c1 c2 c3 f0 f1 f2 f3
    obtain ⟨⟨a0, a1, a2, a3⟩, _⟩ := Z.out.1.cells
    simp only at a0 a1 a2 a3
    refine bodyPost_ret (v := .tuple #[rowV rwZ, .int .i64 0]) (by simp [results, Try.results15, go_sem, a0, a1, a2, a3, rwZ]) rfl ?_
    exact ⟨by rw [hE.out]; rfl, Z.out.2⟩
  subst q3
  rw [if_neg (by simp)] at hE
  have hDl : D.length ≤ 520 := by have := m2.out rfl; omega
  go_upto_region 10 with (go_at_call 32; ((with_reducible refine (C3.out _).mono ?_); rintro e u3 ⟨rfl, rfl⟩))
  clear C3 SL2
  by_cases q4 : e3 = 0
  case neg =>
    rw [if_pos q4] at hE
    have g4 : ((e3 : Int) != 0) = true := by rw [bne_iff_ne]; omega
    go_wp2_with fail
    generalize (((u3.setCell ⟨w.heap.size, 0, none⟩ (.string ⟨#[]⟩)).setCell ⟨w.heap.size, 1, none⟩ (.int .u64 0)).setCell ⟨w.heap.size, 2, none⟩ (.int .i64 0)).setCell ⟨w.heap.size, 3, none⟩ (.string ⟨#[]⟩) = VZ at *
    clear c0 c1 c2 c3 f0 f1 f2 f3
    obtain ⟨⟨a0, a1, a2, a3⟩, _⟩ := Z.out.1.cells
    simp only at a0 a1 a2 a3
    refine bodyPost_ret (v := .tuple #[rowV rwZ, .int .i64 0]) (by simp [results, Try.results15, go_sem, a0, a1, a2, a3, rwZ]) rfl ?_
    exact ⟨by rw [hE.out]; rfl, Z.out.2⟩
  subst q4
  rw [if_neg (by simp)] at hE
  by_cases q5 : N3 = L.length
  case pos =>
    have h0 : S3 = [] := List.length_eq_zero_iff.1 (by omega)
    rw [h0] at hE
    simp only at hE
    have g5 : ((N3 : Int) == (L.length : Int)) = true := by rw [beq_iff_eq]; omega
    have g5b : (N3 == L.length) = true := by rw [beq_iff_eq]; exact q5
    clear h0
    go_wp2_with fail
    generalize (((u3.setCell ⟨w.heap.size, 0, none⟩ (.string ⟨#[]⟩)).setCell ⟨w.heap.size, 1, none⟩ (.int .u64 0)).setCell ⟨w.heap.size, 2, none⟩ (.int .i64 0)).setCell ⟨w.heap.size, 3, none⟩ (.string ⟨#[]⟩) = VZ at *
    clear c0 c1 c2 c3 f0 f1 f2 f3
    obtain ⟨⟨a0, a1, a2, a3⟩, _⟩ := Z.out.1.cells
    simp only at a0 a1 a2 a3
    refine bodyPost_ret (v := .tuple #[rowV rwZ, .int .i64 0]) (by simp [results, Try.results15, go_sem, a0, a1, a2, a3, rwZ]) rfl ?_
    exact ⟨by rw [hE.out]; rfl, Z.out.2⟩
  obtain ⟨k, S4, hS4⟩ : ∃ k S4, S3 = k :: S4 := by
    cases S3 with
    | nil => simp at hS3l; omega
    | cons k S4 => exact ⟨k, S4, rfl⟩
  have g5 : ((N3 : Int) == (L.length : Int)) = false := by rw [beq_eq_false_iff_ne]; omega
  have g5b : (N3 == L.length) = false := by rw [beq_eq_false_iff_ne]; exact q5
  have I0 := idxL L N3 k (by
    have := congrArg (·[0]?) hD3.out
    simp only [List.getElem?_drop, hS4] at this
    simpa using this) (N3 : Int) rfl
  rw [hS4] at hE
  simp only at hE
  have hkb := UInt8.toNat_lt k
  obtain ⟨K, hK⟩ := named k.toNat
  rw [← hK.out] at hE hkb I0
  have wK : IntKind.i64.wrap (K : Int) = (K : Int) := by rw [IntKind.wrap_i64]; omega
  have z1 : ¬ 9223372036854775807 < TK.length + D.length := by omega
  obtain ⟨KY, hKY⟩ := named (⟨(TK ++ D).toArray⟩ : ByteArray)
  rw [← hKY.out] at hE
  have CAT : (⟨TK.toArray⟩ : ByteArray) ++ ⟨D.toArray⟩ = KY := by rw [hKY.out, cat_ba]
  obtain ⟨N4, hN4⟩ := named (N3 + 1)
  have a4 : (N3 : Int) + 1 = (N4 : Int) := by rw [hN4.out]; omega
  have hN4l : N4 ≤ L.length := by rw [hN4.out]; omega
  have SL4 := slL_from L N4 hN4l (N4 : Int) rfl
  have e4 : L.drop N4 = S4 := by rw [hN4.out, ← List.drop_drop, hD3.out, hS4]; rfl
  rw [e4] at SL4
  have hS4l : S4.length = L.length - N4 := by rw [← e4, List.length_drop]
  clear hS4 hK hKY hD3 hS3l q5 e4 hN4
  clear Z
  have wK2 : IntKind.i64.wrap (k.toNat : Int) = IntKind.i64.wrap (k.toNat : Int) := rfl
  clear wK2
  go_upto_region 12 with fail
  go_region
  have A9 : Hid (RowAt u3.heap.size ⟨KY, n3, (K : Int), ⟨#[]⟩⟩ (u3.alloc (.cells #[.string KY, .int .u64 (n3 : Int), .int .i64 (K : Int), .string ⟨#[]⟩] 33)).drew) := Lib.hid (RowAt.new ⟨KY, n3, (K : Int), ⟨#[]⟩⟩ u3)
  have R9 : Hid (RowAt w.heap.size ⟨⟨#[]⟩, 0, 0, ⟨#[]⟩⟩ (u3.alloc (.cells #[.string KY, .int .u64 (n3 : Int), .int .i64 (K : Int), .string ⟨#[]⟩] 33)).drew) := Lib.hid (R0.out.below (below_alloc u3 _).drew)
  have W9 : Hid (Below w.heap.size w (u3.alloc (.cells #[.string KY, .int .u64 (n3 : Int), .int .i64 (K : Int), .string ⟨#[]⟩] 33)).drew) := Lib.hid (W0.out.alloc W0.out.size _).drew
  have hB : Hid (w.heap.size < u3.heap.size) := Lib.hid (Array.getElem?_eq_some_iff.1 R0.out).1
  clear c0 c1 c2 c3 f0 f1 f2 f3 R0 W0 I0 SP CAT
  generalize (u3.alloc (.cells #[.string KY, .int .u64 (n3 : Int), .int .i64 (K : Int), .string ⟨#[]⟩] 33)).drew = v9 at *
  obtain ⟨B9, hB9⟩ := named u3.heap.size
  rw [← hB9.out] at A9 hB ⊢
  obtain ⟨⟨c0, c1, c2, c3⟩, cf⟩ := R9.out.cells
  simp only at c0 c1 c2 c3
  have f0 := cf 0
  have f1 := cf 1
  have f2 := cf 2
  have f3 := cf 3
  obtain ⟨⟨d0, d1, d2, d3⟩, df⟩ := A9.out.cells
  simp only at d0 d1 d2 d3
  have e0 := df 3
  clear cf df
  by_cases q7 : K = 1
  case neg =>
    rw [if_neg q7] at hE
    have g7 : ((K : Int) == 1) = false := by rw [beq_eq_false_iff_ne]; omega
    have g7b : (K == 1) = false := by rw [beq_eq_false_iff_ne]; exact q7
    have Y := Lib.hid (And.intro (rowAt_put R9.out ⟨KY, n3, (K : Int), ⟨#[]⟩⟩) (below_put4 W9.out (Nat.le_refl _) ⟨KY, n3, (K : Int), ⟨#[]⟩⟩))
    simp only at Y
    have hN : L.length - S4.length = N4 := by omega
    have hN := Lib.hid hN
    clear q7
    go_wp2_with fail
    generalize (((v9.setCell ⟨w.heap.size, 0, none⟩ (.string KY)).setCell ⟨w.heap.size, 1, none⟩ (.int .u64 (n3 : Int))).setCell ⟨w.heap.size, 2, none⟩ (.int .i64 (K : Int))).setCell ⟨w.heap.size, 3, none⟩ (.string ⟨#[]⟩) = VZ at *
    clear c0 c1 c2 c3 f0 f1 f2 f3
    obtain ⟨⟨a0, a1, a2, a3⟩, _⟩ := Y.out.1.cells
    simp only at a0 a1 a2 a3
    refine bodyPost_ret (v := .tuple #[rowV ⟨KY, n3, (K : Int), ⟨#[]⟩⟩, .int .i64 (N4 : Int)]) (by simp [results, Try.results15, go_sem, a0, a1, a2, a3]) rfl ?_
    exact ⟨by rw [hE.out]; unfold rdV; simp only; rw [hN.out], Y.out.2⟩
  subst q7
  rw [if_pos rfl] at hE
  have C5 := Lib.hid (fun u => reffield_list S4 (by omega) 2048 (by omega) u)
  have s5 := rdField_size S4 2048
  obtain ⟨⟨V, k5, e5⟩, hR5⟩ := named (Code.rdField S4 2048)
  rw [← hR5.out] at hE C5 s5
  simp only at hE C5 s5
  obtain ⟨S5, hS5⟩ := named (S4.drop k5)
  have hS5l : S5.length = S4.length - k5 := by rw [hS5.out, List.length_drop]
  rw [← hS5.out] at hE
  obtain ⟨N5, hN5⟩ := named (N4 + k5)
  have a5 : (N4 : Int) + (k5 : Int) = (N5 : Int) := by rw [hN5.out]; omega
  have hN5l : N5 ≤ L.length := by rw [hN5.out]; omega
  have hN : Hid (L.length - S5.length = N5) := Lib.hid (by rw [hN5.out]; omega)
  clear hR5 hS5 hS5l hN5 s5
  go_upto_region 16 with (go_at_call 33; ((with_reducible refine (C5.out _).mono ?_); rintro e u9 ⟨rfl, rfl⟩))
  clear C5 SL4
  by_cases q8 : e5 = 0
  case neg =>
    rw [if_pos q8] at hE
    have g8 : ((e5 : Int) != 0) = true := by rw [bne_iff_ne]; omega
    have Z := Lib.hid (And.intro (rowAt_put R9.out rwZ) (below_put4 W9.out (Nat.le_refl _) rwZ))
    simp only [rwZ] at Z
    go_wp2_with fail
    generalize (((u9.setCell ⟨w.heap.size, 0, none⟩ (.string ⟨#[]⟩)).setCell ⟨w.heap.size, 1, none⟩ (.int .u64 0)).setCell ⟨w.heap.size, 2, none⟩ (.int .i64 0)).setCell ⟨w.heap.size, 3, none⟩ (.string ⟨#[]⟩) = VZ at *
    clear c0 c1 c2 c3 f0 f1 f2 f3
    obtain ⟨⟨a0, a1, a2, a3⟩, _⟩ := Z.out.1.cells
    simp only at a0 a1 a2 a3
    refine bodyPost_ret (v := .tuple #[rowV rwZ, .int .i64 0]) (by simp [results, Try.results15, go_sem, a0, a1, a2, a3, rwZ]) rfl ?_
    exact ⟨by rw [hE.out]; rfl, Z.out.2⟩
  subst q8
  rw [if_neg (by simp)] at hE
  have A10 := Lib.hid (rowAt_set3 A9.out ⟨V.toArray⟩)
  have R10 : Hid (RowAt w.heap.size ⟨⟨#[]⟩, 0, 0, ⟨#[]⟩⟩ (u9.setCell ⟨B9, 3, none⟩ (.string ⟨V.toArray⟩))) := Lib.hid ((heap_setCell_other _ _ _ _ (by have := hB.out; show w.heap.size ≠ B9; omega)).trans R9.out)
  have W10 := Lib.hid (W9.out.setCell (p := ⟨B9, 3, none⟩) (by have := hB.out; show w.heap.size ≤ B9; omega) (.string ⟨V.toArray⟩))
  go_upto_region 19 with fail
  clear c0 c1 c2 c3 f0 f1 f2 f3 d0 d1 d2 d3 e0 R9 A9 W9
  generalize u9.setCell ⟨B9, 3, none⟩ (.string ⟨V.toArray⟩) = v10 at *
  obtain ⟨⟨c0, c1, c2, c3⟩, cf⟩ := R10.out.cells
  simp only at c0 c1 c2 c3
  have f0 := cf 0
  have f1 := cf 1
  have f2 := cf 2
  have f3 := cf 3
  obtain ⟨⟨d0, d1, d2, d3⟩, df⟩ := A10.out.cells
  simp only at d0 d1 d2 d3
  clear cf df
  have Y := Lib.hid (And.intro (rowAt_put R10.out ⟨KY, n3, (1 : Int), ⟨V.toArray⟩⟩) (below_put4 W10.out (Nat.le_refl _) ⟨KY, n3, (1 : Int), ⟨V.toArray⟩⟩))
  simp only at Y
  go_wp2_with fail
  generalize (((v10.setCell ⟨w.heap.size, 0, none⟩ (.string KY)).setCell ⟨w.heap.size, 1, none⟩ (.int .u64 (n3 : Int))).setCell ⟨w.heap.size, 2, none⟩ (.int .i64 1)).setCell ⟨w.heap.size, 3, none⟩ (.string ⟨V.toArray⟩) = VZ at *
  clear c0 c1 c2 c3 f0 f1 f2 f3 d0 d1 d2 d3
  obtain ⟨⟨a0, a1, a2, a3⟩, _⟩ := Y.out.1.cells
  simp only at a0 a1 a2 a3
  refine bodyPost_ret (v := .tuple #[rowV ⟨KY, n3, (1 : Int), ⟨V.toArray⟩⟩, .int .i64 (N5 : Int)]) (by simp [results, Try.results15, go_sem, a0, a1, a2, a3]) rfl ?_
  exact ⟨by rw [hE.out]; unfold rdV; simp only; rw [hN.out]; rfl, Y.out.2⟩
end Go.Proofs.Ytnmlifagchdphaa
