/-
  The contract of cutRow. Condition: at most 65536 bytes, behind a key of at most 520.
-/
import Derived.Test.YtmjakkemiiigpaaPack4
import Derived.Laws.OwnMore
import Derived.Deep.AppendLies
import Derived.Deep.Upon
import Derived.Maps.AppendAt
import Derived.Laws.EntriesVeiled
import Derived.Test.YtmjakkemiiigpaaRows
import Derived.Laws.AppendOwn
import Derived.Laws.AppendOwnNone
import Derived.OwnWalk
import Derived.Deep.Draws
namespace Go.Proofs.Ytmjakkemiiigpaa
set_option maxRecDepth 100000
open Go.RowKit
def cutV : Option (Rw × List UInt8) → Value
  | none => .tuple #[rowV rwZ, .string ⟨#[]⟩, .bool false]
  | some (x, t) => .tuple #[rowV x, .string ⟨t.toArray⟩, .bool true]
theorem below_put4 {B N : Nat} {w V : World} (h : Below B w V) (hN : B ≤ N) (x : Rw) : Below B w ((((V.setCell ⟨N, 0, none⟩ (.string x.key)).setCell ⟨N, 1, none⟩ (.int .u64 (x.seq : Int))).setCell ⟨N, 2, none⟩ (.int .i64 x.kind)).setCell ⟨N, 3, none⟩ (.string x.val)) :=
  (((h.setCell (p := ⟨N, 0, none⟩) hN _).setCell (p := ⟨N, 1, none⟩) hN _).setCell (p := ⟨N, 2, none⟩) hN _).setCell (p := ⟨N, 3, none⟩) hN _
theorem rowAt_set0 {b s : Nat} {k v : ByteArray} {i : Int} {W : World} (h : RowAt b ⟨k, s, i, v⟩ W) (k' : ByteArray) : RowAt b ⟨k', s, i, v⟩ (W.setCell ⟨b, 0, none⟩ (.string k')) := (heap_setCell_same _ _ _ _ _ _ h).trans rfl
theorem rowAt_set1 {b s : Nat} {k v : ByteArray} {i : Int} {W : World} (h : RowAt b ⟨k, s, i, v⟩ W) (s' : Nat) : RowAt b ⟨k, s', i, v⟩ (W.setCell ⟨b, 1, none⟩ (.int .u64 (s' : Int))) := (heap_setCell_same _ _ _ _ _ _ h).trans rfl
theorem rowAt_set2 {b s : Nat} {k v : ByteArray} {i : Int} {W : World} (h : RowAt b ⟨k, s, i, v⟩ W) (i' : Int) : RowAt b ⟨k, s, i', v⟩ (W.setCell ⟨b, 2, none⟩ (.int .i64 i')) := (heap_setCell_same _ _ _ _ _ _ h).trans rfl
theorem rowAt_set3 {b s : Nat} {k v : ByteArray} {i : Int} {W : World} (h : RowAt b ⟨k, s, i, v⟩ W) (v' : ByteArray) : RowAt b ⟨k, s, i, v'⟩ (W.setCell ⟨b, 3, none⟩ (.string v')) := (heap_setCell_same _ _ _ _ _ _ h).trans rfl
theorem rdField_most (L : List UInt8) (x : Int) (h : (Code.rdField L x).2.2 = 0) : ((Code.rdField L x).1.length : Int) ≤ x := by
  unfold Code.rdField at h ⊢
  by_cases h1 : (Code.rd 0 L).2.2 ≠ 0
  · rw [if_pos h1] at h; exact absurd h h1
  · rw [if_neg h1] at h ⊢
    by_cases h2 : x < (Code.rd 0 L).1
    · rw [if_pos h2] at h; cases h
    · rw [if_neg h2] at h ⊢
      by_cases h3 : L.length - (Code.rd 0 L).2.1 < (Code.rd 0 L).1
      · rw [if_pos h3] at h; cases h
      · rw [if_neg h3]
        show (((L.drop (Code.rd 0 L).2.1).take (Code.rd 0 L).1).length : Int) ≤ x
        rw [List.length_take]
        omega
theorem cutX_eq (s p : List UInt8) : cutX s p =
  if (Code.rd 0 s).2.2 ≠ 0 ∨ p.length < (Code.rd 0 s).1 then none else
  if (Code.rdField (s.drop (Code.rd 0 s).2.1) 520).2.2 ≠ 0 ∨ 0 < com (p.drop (Code.rd 0 s).1) (Code.rdField (s.drop (Code.rd 0 s).2.1) 520).1 then none else
  if (Code.rd 0 ((s.drop (Code.rd 0 s).2.1).drop (Code.rdField (s.drop (Code.rd 0 s).2.1) 520).2.1)).2.2 ≠ 0 then none else
  match ((s.drop (Code.rd 0 s).2.1).drop (Code.rdField (s.drop (Code.rd 0 s).2.1) 520).2.1).drop (Code.rd 0 ((s.drop (Code.rd 0 s).2.1).drop (Code.rdField (s.drop (Code.rd 0 s).2.1) 520).2.1)).2.1 with
  | [] => none
  | k :: s3 =>
    if k.toNat = 1 then
      if (Code.rdField s3 2048).2.2 ≠ 0 then none else
      if chkR ⟨⟨(p.take (Code.rd 0 s).1 ++ (Code.rdField (s.drop (Code.rd 0 s).2.1) 520).1).toArray⟩, (Code.rd 0 ((s.drop (Code.rd 0 s).2.1).drop (Code.rdField (s.drop (Code.rd 0 s).2.1) 520).2.1)).1, (k.toNat : Int), ⟨(Code.rdField s3 2048).1.toArray⟩⟩ ≠ 0 then none else some (⟨⟨(p.take (Code.rd 0 s).1 ++ (Code.rdField (s.drop (Code.rd 0 s).2.1) 520).1).toArray⟩, (Code.rd 0 ((s.drop (Code.rd 0 s).2.1).drop (Code.rdField (s.drop (Code.rd 0 s).2.1) 520).2.1)).1, (k.toNat : Int), ⟨(Code.rdField s3 2048).1.toArray⟩⟩, s3.drop (Code.rdField s3 2048).2.1)
    else
      if chkR ⟨⟨(p.take (Code.rd 0 s).1 ++ (Code.rdField (s.drop (Code.rd 0 s).2.1) 520).1).toArray⟩, (Code.rd 0 ((s.drop (Code.rd 0 s).2.1).drop (Code.rdField (s.drop (Code.rd 0 s).2.1) 520).2.1)).1, (k.toNat : Int), ⟨#[]⟩⟩ ≠ 0 then none else some (⟨⟨(p.take (Code.rd 0 s).1 ++ (Code.rdField (s.drop (Code.rd 0 s).2.1) 520).1).toArray⟩, (Code.rd 0 ((s.drop (Code.rd 0 s).2.1).drop (Code.rdField (s.drop (Code.rd 0 s).2.1) 520).2.1)).1, (k.toNat : Int), ⟨#[]⟩⟩, s3) := rfl
set_option maxRecDepth 100000 in
set_option maxHeartbeats 8000000 in
theorem cutrow_any (L P : List UInt8) (hL : L.length ≤ 65536) (hP : P.length ≤ 520) (w : World) :
    Calls Try.prog 85 #[.string ⟨L.toArray⟩, .string ⟨P.toArray⟩] w fun e w' => e = .returned (cutV (cutX L P)) ∧ Below w.heap.size w w' := by
  have hE := Lib.hid (cutX_eq L P)
  obtain ⟨X, hX⟩ := named (cutX L P)
  rw [← hX.out] at hE ⊢
  have C1 := Lib.hid (fun u => cutnum_any L (by omega) u)
  have l1 := Code.rd_fits L
  have s1 := Code.rd_size L
  obtain ⟨⟨n1, k1, e1⟩, hR1⟩ := named (Code.rd 0 L)
  rw [← hR1.out] at hE C1 l1 s1
  simp only at hE C1 l1 s1
  obtain ⟨S1, hS1⟩ := named (L.drop k1)
  have hl1 : S1.length ≤ 65536 := by rw [hS1.out, List.length_drop]; omega
  rw [← hS1.out] at hE C1
  have C2 := Lib.hid (fun u => cutfld_any S1 (by omega) 520 (by omega) u)
  have m2 := rdField_most S1 520
  obtain ⟨⟨D, k2, e2⟩, hR2⟩ := named (Code.rdField S1 520)
  rw [← hR2.out] at hE C2 m2
  simp only at hE C2 m2
  obtain ⟨S2, hS2⟩ := named (S1.drop k2)
  have hl2 : S2.length ≤ 65536 := by rw [hS2.out, List.length_drop]; omega
  rw [← hS2.out] at hE C2
  have C3 := Lib.hid (fun u => cutnum_any S2 (by omega) u)
  obtain ⟨⟨n3, k3, e3⟩, hR3⟩ := named (Code.rd 0 S2)
  rw [← hR3.out] at hE C3
  simp only at hE C3
  obtain ⟨S3, hS3⟩ := named (S2.drop k3)
  have hl3 : S3.length ≤ 65536 := by rw [hS3.out, List.length_drop]; omega
  rw [← hS3.out] at hE C3
  have CM := Lib.hid (fun (hD : D.length ≤ 520) u => common_any ⟨(P.drop n1).toArray⟩ ⟨D.toArray⟩ (by rw [ofList_size, List.length_drop]; unfold maxLen; omega) (by rw [ofList_size]; unfold maxLen; omega) u)
  clear hX hR1 hS1 hR2 hS2 hR3 hS3 s1
  obtain ⟨B1, hB1⟩ := named (decide (e1 = 0))
  obtain ⟨B2, hB2⟩ := named (decide (e2 = 0))
  obtain ⟨B3, hB3⟩ := named (decide (e3 = 0))
  rw [← hB1.out] at C1
  rw [← hB2.out] at C2
  rw [← hB3.out] at C3
  have R0 := Lib.hid (RowAt.new rwZ w)
  have W0 := Lib.hid (below_alloc w (.cells #[.string ⟨#[]⟩, .int .u64 0, .int .i64 0, .string ⟨#[]⟩] 39))
  have wP : IntKind.u64.wrap (P.length : Int) = (P.length : Int) := wrap_u64_nat (by omega)
  have PL : (⟨P.toArray⟩ : ByteArray).size = P.length := ofList_size P
  simp only [rwZ] at R0
  go_enter Try.func85, Try.ntmps85
  go_wp2_with fail
  refine wp_scope_fwd 0 rfl ?_
  go_upto_region 4 with (go_at_call 96; ((with_reducible refine (C1.out _).mono ?_); rintro e u1 ⟨rfl, hb1⟩))
  have R1 := Lib.hid (R0.out.below hb1)
  have W1 := Lib.hid (below_of W0.out hb1)
  clear hb1 R0 W0 C1
  obtain ⟨⟨c0, c1, c2, c3⟩, cf⟩ := R1.out.cells
  simp only at c0 c1 c2 c3
  have f0 := cf 0
  have f1 := cf 1
  have f2 := cf 2
  have f3 := cf 3
  clear cf
  by_cases q1 : e1 = 0
  case neg =>
    obtain rfl : B1 = false := by rw [hB1.out]; simpa using q1
    rw [if_pos (.inl q1)] at hE
    have Z := Lib.hid (And.intro (rowAt_put R1.out rwZ) (below_put4 W1.out (Nat.le_refl _) rwZ))
    simp only [rwZ] at Z
    go_wp2_with fail
    go_step3
    refine ⟨rfl, ?_⟩
    go_wp2_with fail
    rw [Exit.noGoto_ret]
    generalize (((u1.setCell ⟨w.heap.size, 0, none⟩ (.string ⟨#[]⟩)).setCell ⟨w.heap.size, 1, none⟩ (.int .u64 0)).setCell ⟨w.heap.size, 2, none⟩ (.int .i64 0)).setCell ⟨w.heap.size, 3, none⟩ (.string ⟨#[]⟩) = VZ at *
    clear c0 c1 c2 c3 f0 f1 f2 f3
    obtain ⟨⟨a0, a1, a2, a3⟩, _⟩ := Z.out.1.cells
    simp only at a0 a1 a2 a3
    refine bodyPost_ret (v := .tuple #[rowV rwZ, .string ⟨#[]⟩, .bool false]) (by simp [results, Try.results85, go_sem, a0, a1, a2, a3, rwZ]) rfl ?_
    exact ⟨by rw [hE.out]; rfl, Z.out.2⟩
  subst q1
  obtain rfl : B1 = true := by rw [hB1.out]; rfl
  by_cases q2 : P.length < n1
  case pos =>
    rw [if_pos (.inr q2)] at hE
    have g1 : (P.length : Int) < (n1 : Int) := by omega
    have Z := Lib.hid (And.intro (rowAt_put R1.out rwZ) (below_put4 W1.out (Nat.le_refl _) rwZ))
    simp only [rwZ] at Z
    go_wp2_with fail
    go_step3
    refine ⟨rfl, ?_⟩
    go_wp2_with fail
    rw [Exit.noGoto_ret]
    generalize (((u1.setCell ⟨w.heap.size, 0, none⟩ (.string ⟨#[]⟩)).setCell ⟨w.heap.size, 1, none⟩ (.int .u64 0)).setCell ⟨w.heap.size, 2, none⟩ (.int .i64 0)).setCell ⟨w.heap.size, 3, none⟩ (.string ⟨#[]⟩) = VZ at *
    clear c0 c1 c2 c3 f0 f1 f2 f3
    obtain ⟨⟨a0, a1, a2, a3⟩, _⟩ := Z.out.1.cells
    simp only at a0 a1 a2 a3
    refine bodyPost_ret (v := .tuple #[rowV rwZ, .string ⟨#[]⟩, .bool false]) (by simp [results, Try.results85, go_sem, a0, a1, a2, a3, rwZ]) rfl ?_
    exact ⟨by rw [hE.out]; rfl, Z.out.2⟩
  rw [if_neg (by omega)] at hE
  have g1 : decide (P.length < n1) = false := by simpa using q2
  clear hB1
  go_upto_region 6 with (go_at_call 97; ((with_reducible refine (C2.out _).mono ?_); rintro e u2 ⟨rfl, hb2⟩))
  clear c0 c1 c2 c3 f0 f1 f2 f3
  have R2 := Lib.hid (R1.out.below hb2)
  have W2 := Lib.hid (below_of W1.out hb2)
  clear hb2 R1 W1 C2
  obtain ⟨⟨c0, c1, c2, c3⟩, cf⟩ := R2.out.cells
  simp only at c0 c1 c2 c3
  have f0 := cf 0
  have f1 := cf 1
  have f2 := cf 2
  have f3 := cf 3
  clear cf
  by_cases q3 : e2 = 0
  case neg =>
    obtain rfl : B2 = false := by rw [hB2.out]; simpa using q3
    rw [if_pos (.inl q3)] at hE
    have Z := Lib.hid (And.intro (rowAt_put R2.out rwZ) (below_put4 W2.out (Nat.le_refl _) rwZ))
    simp only [rwZ] at Z
    go_wp2_with fail
    go_step3
    refine ⟨rfl, ?_⟩
    go_wp2_with fail
    rw [Exit.noGoto_ret]
    generalize (((u2.setCell ⟨w.heap.size, 0, none⟩ (.string ⟨#[]⟩)).setCell ⟨w.heap.size, 1, none⟩ (.int .u64 0)).setCell ⟨w.heap.size, 2, none⟩ (.int .i64 0)).setCell ⟨w.heap.size, 3, none⟩ (.string ⟨#[]⟩) = VZ at *
    clear c0 c1 c2 c3 f0 f1 f2 f3
    obtain ⟨⟨a0, a1, a2, a3⟩, _⟩ := Z.out.1.cells
    simp only at a0 a1 a2 a3
    refine bodyPost_ret (v := .tuple #[rowV rwZ, .string ⟨#[]⟩, .bool false]) (by simp [results, Try.results85, go_sem, a0, a1, a2, a3, rwZ]) rfl ?_
    exact ⟨by rw [hE.out]; rfl, Z.out.2⟩
  subst q3
  obtain rfl : B2 = true := by rw [hB2.out]; rfl
  clear hB2
  have hD : D.length ≤ 520 := by have := m2 rfl; omega
  have CM := Lib.hid (CM.out hD)
  rw [ofList_toList, ofList_toList] at CM
  have S5 := exL_from P n1
  have hn1 : n1 ≤ P.length := by omega
  obtain ⟨G, hG⟩ := named (com (P.drop n1) D)
  rw [← hG.out] at CM hE
  obtain ⟨DP, hDP⟩ := named (P.drop n1)
  rw [← hDP.out] at S5 CM
  clear hG hDP m2
  by_cases q4 : 0 < G
  case pos =>
    rw [if_pos (.inr q4)] at hE
    have g2 : (0 : Int) < (G : Int) := by omega
    go_wp2_with (go_at_call 81; ((with_reducible refine (CM.out _).mono ?_); rintro e u3 ⟨rfl, hb3⟩; have R3 := Lib.hid (R2.out.below hb3); have W3 := Lib.hid (below_of W2.out hb3); clear hb3))
    clear c0 c1 c2 c3 f0 f1 f2 f3
    obtain ⟨⟨c0, c1, c2, c3⟩, cf⟩ := R3.out.cells
    simp only at c0 c1 c2 c3
    have f0 := cf 0
    have f1 := cf 1
    have f2 := cf 2
    have f3 := cf 3
    clear cf
    have Z := Lib.hid (And.intro (rowAt_put R3.out rwZ) (below_put4 W3.out (Nat.le_refl _) rwZ))
    simp only [rwZ] at Z
    go_step3
    refine ⟨rfl, ?_⟩
    go_wp2_with fail
    rw [Exit.noGoto_ret]
    generalize (((u3.setCell ⟨w.heap.size, 0, none⟩ (.string ⟨#[]⟩)).setCell ⟨w.heap.size, 1, none⟩ (.int .u64 0)).setCell ⟨w.heap.size, 2, none⟩ (.int .i64 0)).setCell ⟨w.heap.size, 3, none⟩ (.string ⟨#[]⟩) = VZ at *
    clear c0 c1 c2 c3 f0 f1 f2 f3
    obtain ⟨⟨a0, a1, a2, a3⟩, _⟩ := Z.out.1.cells
    simp only at a0 a1 a2 a3
    refine bodyPost_ret (v := .tuple #[rowV rwZ, .string ⟨#[]⟩, .bool false]) (by simp [results, Try.results85, go_sem, a0, a1, a2, a3, rwZ]) rfl ?_
    exact ⟨by rw [hE.out]; rfl, Z.out.2⟩
  rw [if_neg (by omega)] at hE
  have g2 : decide (0 < G) = false := by simpa using q4
  have S6 := exL_upto P n1
  obtain ⟨TK, hTK⟩ := named (P.take n1)
  rw [← hTK.out] at S6 hE
  have hTl : TK.length ≤ 520 := by rw [hTK.out, List.length_take]; omega
  have z1 : ¬ 9223372036854775807 < TK.length + D.length := by omega
  have CL := Lib.hid (fun u => clone_any ⟨(TK ++ D).toArray⟩ (by rw [ofList_size, List.length_append]; omega) u)
  obtain ⟨KY, hKY⟩ := named (⟨(TK ++ D).toArray⟩ : ByteArray)
  rw [← hKY.out] at CL hE
  have CAT : (⟨TK.toArray⟩ : ByteArray) ++ ⟨D.toArray⟩ = KY := by rw [hKY.out, cat_ba]
  clear hTK hKY
  go_upto_region 9 with (first
    | (go_at_call 81; ((with_reducible refine (CM.out _).mono ?_); rintro e u3 ⟨rfl, hb3⟩; have R3 := Lib.hid (R2.out.below hb3); have W3 := Lib.hid (below_of W2.out hb3); clear hb3))
    | (go_at_call 31; ((with_reducible refine (CL.out _).mono ?_); rintro e u4 ⟨rfl, hb4⟩; have R4 := Lib.hid (R3.out.below hb4); have W4 := Lib.hid (below_of W3.out hb4); clear hb4; obtain ⟨⟨d0, d1, d2, d3⟩, df⟩ := R4.out.cells; simp only at d0 d1 d2 d3; have e0 := df 0; clear df; have R5 := Lib.hid (rowAt_set0 R4.out KY); have W5 := Lib.hid (W4.out.setCell (p := ⟨w.heap.size, 0, none⟩) (Nat.le_refl _) (.string KY))))
    | (go_at_call 96; ((with_reducible refine (C3.out _).mono ?_); rintro e u5 ⟨rfl, hb5⟩; have R6 := Lib.hid (R5.out.below hb5); have W6 := Lib.hid (below_of W5.out hb5); clear hb5; obtain ⟨⟨j0, j1, j2, j3⟩, jf⟩ := R6.out.cells; simp only at j0 j1 j2 j3; have k1 := jf 1; clear jf)))
  have R7 := Lib.hid (rowAt_set1 R6.out n3)
  have W7 := Lib.hid (W6.out.setCell (p := ⟨w.heap.size, 1, none⟩) (Nat.le_refl _) (.int .u64 (n3 : Int)))
  clear c0 c1 c2 c3 f0 f1 f2 f3 d0 d1 d2 d3 e0 j0 j1 j2 j3 k1 R2 R3 R4 R5 R6 W2 W3 W4 W5 W6 CM C3 CL CAT
  generalize u5.setCell ⟨w.heap.size, 1, none⟩ (.int .u64 (n3 : Int)) = v7 at *
  obtain ⟨⟨c0, c1, c2, c3⟩, cf⟩ := R7.out.cells
  simp only at c0 c1 c2 c3
  have f0 := cf 0
  have f1 := cf 1
  have f2 := cf 2
  have f3 := cf 3
  clear cf
  by_cases q5 : e3 = 0
  case neg =>
    obtain rfl : B3 = false := by rw [hB3.out]; simpa using q5
    rw [if_pos q5] at hE
    have Z := Lib.hid (And.intro (rowAt_put R7.out rwZ) (below_put4 W7.out (Nat.le_refl _) rwZ))
    simp only [rwZ] at Z
    go_wp2_with fail
    go_step3
    refine ⟨rfl, ?_⟩
    go_wp2_with fail
    rw [Exit.noGoto_ret]
    generalize (((v7.setCell ⟨w.heap.size, 0, none⟩ (.string ⟨#[]⟩)).setCell ⟨w.heap.size, 1, none⟩ (.int .u64 0)).setCell ⟨w.heap.size, 2, none⟩ (.int .i64 0)).setCell ⟨w.heap.size, 3, none⟩ (.string ⟨#[]⟩) = VZ at *
    clear c0 c1 c2 c3 f0 f1 f2 f3
    obtain ⟨⟨a0, a1, a2, a3⟩, _⟩ := Z.out.1.cells
    simp only at a0 a1 a2 a3
    refine bodyPost_ret (v := .tuple #[rowV rwZ, .string ⟨#[]⟩, .bool false]) (by simp [results, Try.results85, go_sem, a0, a1, a2, a3, rwZ]) rfl ?_
    exact ⟨by rw [hE.out]; rfl, Z.out.2⟩
  subst q5
  obtain rfl : B3 = true := by rw [hB3.out]; rfl
  rw [if_neg (by simp)] at hE
  clear hB3
  by_cases q6 : S3 = []
  case pos =>
    have g6 : S3.isEmpty = true := by rw [q6]; rfl
    have hE : Hid (X = none) := Lib.hid (by rw [hE.out, q6])
    clear q6
    have Z := Lib.hid (And.intro (rowAt_put R7.out rwZ) (below_put4 W7.out (Nat.le_refl _) rwZ))
    simp only [rwZ] at Z
    go_wp2_with fail
    go_step3
    refine ⟨rfl, ?_⟩
    go_wp2_with fail
    rw [Exit.noGoto_ret]
    generalize (((v7.setCell ⟨w.heap.size, 0, none⟩ (.string ⟨#[]⟩)).setCell ⟨w.heap.size, 1, none⟩ (.int .u64 0)).setCell ⟨w.heap.size, 2, none⟩ (.int .i64 0)).setCell ⟨w.heap.size, 3, none⟩ (.string ⟨#[]⟩) = VZ at *
    clear c0 c1 c2 c3 f0 f1 f2 f3
    obtain ⟨⟨a0, a1, a2, a3⟩, _⟩ := Z.out.1.cells
    simp only at a0 a1 a2 a3
    refine bodyPost_ret (v := .tuple #[rowV rwZ, .string ⟨#[]⟩, .bool false]) (by simp [results, Try.results85, go_sem, a0, a1, a2, a3, rwZ]) rfl ?_
    exact ⟨by rw [hE.out]; rfl, Z.out.2⟩
  obtain ⟨k, S4, hS4⟩ : ∃ k S4, S3 = k :: S4 := by
    cases S3 with
    | nil => exact absurd rfl q6
    | cons k S4 => exact ⟨k, S4, rfl⟩
  have g6 : S3.isEmpty = false := by rw [hS4]; rfl
  have I0 := idxL S3 0 k (by rw [hS4]; rfl) 0 rfl
  have EX := exL_from S3 1
  have E2 := slL_from S3 1 (by rw [hS4]; simp) 1 rfl
  have hdr : S3.drop 1 = S4 := by rw [hS4]; rfl
  have h1l : 1 ≤ S3.length := by rw [hS4]; simp
  have h0l : 0 < S3.length := by omega
  rw [hdr] at EX E2
  have hl4 : S4.length ≤ 65536 := by rw [hS4] at hl3; simp at hl3; omega
  rw [hS4] at hE
  simp only at hE
  have hkb := UInt8.toNat_lt k
  obtain ⟨K, hK⟩ := named k.toNat
  rw [← hK.out] at hE hkb I0
  have wK : IntKind.i64.wrap (K : Int) = (K : Int) := by rw [IntKind.wrap_i64]; omega
  clear hS4 hdr q6 hK
  have R8 := Lib.hid (rowAt_set2 R7.out (K : Int))
  have W8 := Lib.hid (W7.out.setCell (p := ⟨w.heap.size, 2, none⟩) (Nat.le_refl _) (.int .i64 (K : Int)))
  go_upto_region 10 with fail
  go_region
  have R9 : Hid (RowAt w.heap.size ⟨KY, n3, (K : Int), ⟨#[]⟩⟩ (v7.setCell ⟨w.heap.size, 2, none⟩ (.int .i64 (K : Int))).drew) := R8
  have W9 := Lib.hid W8.out.drew
  clear c0 c1 c2 c3 f0 f1 f2 f3 R7 R8 W7 W8 I0 EX E2
  generalize (v7.setCell ⟨w.heap.size, 2, none⟩ (.int .i64 (K : Int))).drew = v9 at *
  obtain ⟨⟨c0, c1, c2, c3⟩, cf⟩ := R9.out.cells
  simp only at c0 c1 c2 c3
  have f0 := cf 0
  have f1 := cf 1
  have f2 := cf 2
  have f3 := cf 3
  clear cf
  by_cases q7 : K = 1
  case pos =>
    rw [if_pos q7] at hE
    have g7 : ((K : Int) == 1) = true := by rw [beq_iff_eq]; omega
    have g7b : (K == 1) = true := by rw [beq_iff_eq]; exact q7
    have C4 := Lib.hid (fun u => cutfld_any S4 (by omega) 2048 (by omega) u)
    obtain ⟨⟨V, k4, e4⟩, hR4⟩ := named (Code.rdField S4 2048)
    rw [← hR4.out] at hE C4
    simp only at hE C4
    obtain ⟨S5, hS5⟩ := named (S4.drop k4)
    rw [← hS5.out] at hE C4
    obtain ⟨B4, hB4⟩ := named (decide (e4 = 0))
    rw [← hB4.out] at C4
    clear hS5 hR4 q7
    go_upto_region 13 with (go_at_call 97; ((with_reducible refine (C4.out _).mono ?_); rintro e u6 ⟨rfl, hb6⟩; have R10 := Lib.hid (R9.out.below hb6); have W10 := Lib.hid (below_of W9.out hb6); clear hb6; obtain ⟨⟨d0, d1, d2, d3⟩, df⟩ := R10.out.cells; simp only at d0 d1 d2 d3; have e0 := df 3; clear df))
    have R11 := Lib.hid (rowAt_set3 R10.out ⟨V.toArray⟩)
    have W11 := Lib.hid (W10.out.setCell (p := ⟨w.heap.size, 3, none⟩) (Nat.le_refl _) (.string ⟨V.toArray⟩))
    clear c0 c1 c2 c3 f0 f1 f2 f3 d0 d1 d2 d3 e0 R10 W10 R9 W9 C4
    generalize u6.setCell ⟨w.heap.size, 3, none⟩ (.string ⟨V.toArray⟩) = v11 at *
    obtain ⟨⟨c0, c1, c2, c3⟩, cf⟩ := R11.out.cells
    simp only at c0 c1 c2 c3
    have f0 := cf 0
    have f1 := cf 1
    have f2 := cf 2
    have f3 := cf 3
    clear cf
    by_cases q8 : e4 = 0
    case neg =>
      obtain rfl : B4 = false := by rw [hB4.out]; simpa using q8
      rw [if_pos q8] at hE
      have Z := Lib.hid (And.intro (rowAt_put R11.out rwZ) (below_put4 W11.out (Nat.le_refl _) rwZ))
      simp only [rwZ] at Z
      go_wp2_with fail
      go_step3
      refine ⟨rfl, ?_⟩
      go_wp2_with fail
      rw [Exit.noGoto_ret]
      generalize (((v11.setCell ⟨w.heap.size, 0, none⟩ (.string ⟨#[]⟩)).setCell ⟨w.heap.size, 1, none⟩ (.int .u64 0)).setCell ⟨w.heap.size, 2, none⟩ (.int .i64 0)).setCell ⟨w.heap.size, 3, none⟩ (.string ⟨#[]⟩) = VZ at *
      clear c0 c1 c2 c3 f0 f1 f2 f3
      obtain ⟨⟨a0, a1, a2, a3⟩, _⟩ := Z.out.1.cells
      simp only at a0 a1 a2 a3
      refine bodyPost_ret (v := .tuple #[rowV rwZ, .string ⟨#[]⟩, .bool false]) (by simp [results, Try.results85, go_sem, a0, a1, a2, a3, rwZ]) rfl ?_
      exact ⟨by rw [hE.out]; rfl, Z.out.2⟩
    subst q8
    obtain rfl : B4 = true := by rw [hB4.out]; rfl
    rw [if_neg (by simp)] at hE
    clear hB4
    obtain ⟨E, hEE⟩ := named (chkR ⟨KY, n3, (K : Int), ⟨V.toArray⟩⟩)
    have CK : Hid (∀ u, Calls Try.prog 45 #[.agg #[.string KY, .int .u64 (n3 : Int), .int .i64 (K : Int), .string ⟨V.toArray⟩]] u fun e w' => e = .returned (.int .i64 (E : Nat)) ∧ Below u.heap.size u w') := Lib.hid (fun u => by rw [hEE.out]; exact chk_any ⟨KY, n3, (K : Int), ⟨V.toArray⟩⟩ u)
    rw [← hEE.out] at hE
    by_cases q9 : E = 0
    case neg =>
      rw [if_pos q9] at hE
      have g9 : ((E : Int) != 0) = true := by rw [bne_iff_ne]; omega
      clear hEE
      go_wp2_with (go_at_call 45; ((with_reducible refine (CK.out _).mono ?_); rintro e u9 ⟨rfl, hb9⟩; have R20 := Lib.hid (R11.out.below hb9); have W20 := Lib.hid (below_of W11.out hb9); clear hb9))
      clear c0 c1 c2 c3 f0 f1 f2 f3
      obtain ⟨⟨c0, c1, c2, c3⟩, cf⟩ := R20.out.cells
      simp only at c0 c1 c2 c3
      have f0 := cf 0
      have f1 := cf 1
      have f2 := cf 2
      have f3 := cf 3
      clear cf
      have Z := Lib.hid (And.intro (rowAt_put R20.out rwZ) (below_put4 W20.out (Nat.le_refl _) rwZ))
      simp only [rwZ] at Z
      go_step3
      refine ⟨rfl, ?_⟩
      go_wp2_with fail
      rw [Exit.noGoto_ret]
      generalize (((u9.setCell ⟨w.heap.size, 0, none⟩ (.string ⟨#[]⟩)).setCell ⟨w.heap.size, 1, none⟩ (.int .u64 0)).setCell ⟨w.heap.size, 2, none⟩ (.int .i64 0)).setCell ⟨w.heap.size, 3, none⟩ (.string ⟨#[]⟩) = VZ at *
      clear c0 c1 c2 c3 f0 f1 f2 f3
      obtain ⟨⟨a0, a1, a2, a3⟩, _⟩ := Z.out.1.cells
      simp only at a0 a1 a2 a3
      refine bodyPost_ret (v := .tuple #[rowV rwZ, .string ⟨#[]⟩, .bool false]) (by simp [results, Try.results85, go_sem, a0, a1, a2, a3, rwZ]) rfl ?_
      exact ⟨by rw [hE.out]; rfl, Z.out.2⟩
    subst q9
    rw [if_neg (by simp)] at hE
    clear hEE
    go_upto_region 15 with (go_at_call 45; ((with_reducible refine (CK.out _).mono ?_); rintro e u9 ⟨rfl, hb9⟩; have R20 := Lib.hid (R11.out.below hb9); have W20 := Lib.hid (below_of W11.out hb9); clear hb9))
    clear c0 c1 c2 c3 f0 f1 f2 f3
    obtain ⟨⟨c0, c1, c2, c3⟩, cf⟩ := R20.out.cells
    simp only at c0 c1 c2 c3
    have f0 := cf 0
    have f1 := cf 1
    have f2 := cf 2
    have f3 := cf 3
    clear cf
    have Z := Lib.hid (And.intro (rowAt_put R20.out ⟨KY, n3, (K : Int), ⟨V.toArray⟩⟩) (below_put4 W20.out (Nat.le_refl _) ⟨KY, n3, (K : Int), ⟨V.toArray⟩⟩))
    simp only at Z
    go_wp2_with fail
    rw [jump_ret]
    generalize (((u9.setCell ⟨w.heap.size, 0, none⟩ (.string KY)).setCell ⟨w.heap.size, 1, none⟩ (.int .u64 (n3 : Int))).setCell ⟨w.heap.size, 2, none⟩ (.int .i64 (K : Int))).setCell ⟨w.heap.size, 3, none⟩ (.string ⟨V.toArray⟩) = VZ at *
    clear c0 c1 c2 c3 f0 f1 f2 f3
    obtain ⟨⟨a0, a1, a2, a3⟩, _⟩ := Z.out.1.cells
    simp only at a0 a1 a2 a3
    refine bodyPost_ret (v := .tuple #[rowV ⟨KY, n3, (K : Int), ⟨V.toArray⟩⟩, .string ⟨S5.toArray⟩, .bool true]) (by simp [results, Try.results85, go_sem, a0, a1, a2, a3]) rfl ?_
    exact ⟨by rw [hE.out]; rfl, Z.out.2⟩
  rw [if_neg q7] at hE
  have g7 : ((K : Int) == 1) = false := by rw [beq_eq_false_iff_ne]; omega
  have g7b : (K == 1) = false := by rw [beq_eq_false_iff_ne]; exact q7
  obtain ⟨E, hEE⟩ := named (chkR ⟨KY, n3, (K : Int), ⟨#[]⟩⟩)
  have CK : Hid (∀ u, Calls Try.prog 45 #[.agg #[.string KY, .int .u64 (n3 : Int), .int .i64 (K : Int), .string ⟨#[]⟩]] u fun e w' => e = .returned (.int .i64 (E : Nat)) ∧ Below u.heap.size u w') := Lib.hid (fun u => by rw [hEE.out]; exact chk_any ⟨KY, n3, (K : Int), ⟨#[]⟩⟩ u)
  rw [← hEE.out] at hE
  by_cases q9 : E = 0
  case neg =>
    rw [if_pos q9] at hE
    have g9 : ((E : Int) != 0) = true := by rw [bne_iff_ne]; omega
    clear hEE
    go_wp2_with (go_at_call 45; ((with_reducible refine (CK.out _).mono ?_); rintro e u9 ⟨rfl, hb9⟩; have R20 := Lib.hid (R9.out.below hb9); have W20 := Lib.hid (below_of W9.out hb9); clear hb9))
    clear c0 c1 c2 c3 f0 f1 f2 f3
    obtain ⟨⟨c0, c1, c2, c3⟩, cf⟩ := R20.out.cells
    simp only at c0 c1 c2 c3
    have f0 := cf 0
    have f1 := cf 1
    have f2 := cf 2
    have f3 := cf 3
    clear cf
    have Z := Lib.hid (And.intro (rowAt_put R20.out rwZ) (below_put4 W20.out (Nat.le_refl _) rwZ))
    simp only [rwZ] at Z
    go_step3
    refine ⟨rfl, ?_⟩
    go_wp2_with fail
    rw [Exit.noGoto_ret]
    generalize (((u9.setCell ⟨w.heap.size, 0, none⟩ (.string ⟨#[]⟩)).setCell ⟨w.heap.size, 1, none⟩ (.int .u64 0)).setCell ⟨w.heap.size, 2, none⟩ (.int .i64 0)).setCell ⟨w.heap.size, 3, none⟩ (.string ⟨#[]⟩) = VZ at *
    clear c0 c1 c2 c3 f0 f1 f2 f3
    obtain ⟨⟨a0, a1, a2, a3⟩, _⟩ := Z.out.1.cells
    simp only at a0 a1 a2 a3
    refine bodyPost_ret (v := .tuple #[rowV rwZ, .string ⟨#[]⟩, .bool false]) (by simp [results, Try.results85, go_sem, a0, a1, a2, a3, rwZ]) rfl ?_
    exact ⟨by rw [hE.out]; rfl, Z.out.2⟩
  subst q9
  rw [if_neg (by simp)] at hE
  clear hEE
  go_upto_region 15 with (go_at_call 45; ((with_reducible refine (CK.out _).mono ?_); rintro e u9 ⟨rfl, hb9⟩; have R20 := Lib.hid (R9.out.below hb9); have W20 := Lib.hid (below_of W9.out hb9); clear hb9))
  clear c0 c1 c2 c3 f0 f1 f2 f3
  obtain ⟨⟨c0, c1, c2, c3⟩, cf⟩ := R20.out.cells
  simp only at c0 c1 c2 c3
  have f0 := cf 0
  have f1 := cf 1
  have f2 := cf 2
  have f3 := cf 3
  clear cf
  have Z := Lib.hid (And.intro (rowAt_put R20.out ⟨KY, n3, (K : Int), ⟨#[]⟩⟩) (below_put4 W20.out (Nat.le_refl _) ⟨KY, n3, (K : Int), ⟨#[]⟩⟩))
  simp only at Z
  go_wp2_with fail
  rw [jump_ret]
  generalize (((u9.setCell ⟨w.heap.size, 0, none⟩ (.string KY)).setCell ⟨w.heap.size, 1, none⟩ (.int .u64 (n3 : Int))).setCell ⟨w.heap.size, 2, none⟩ (.int .i64 (K : Int))).setCell ⟨w.heap.size, 3, none⟩ (.string ⟨#[]⟩) = VZ at *
  clear c0 c1 c2 c3 f0 f1 f2 f3
  obtain ⟨⟨a0, a1, a2, a3⟩, _⟩ := Z.out.1.cells
  simp only at a0 a1 a2 a3
  refine bodyPost_ret (v := .tuple #[rowV ⟨KY, n3, (K : Int), ⟨#[]⟩⟩, .string ⟨S4.toArray⟩, .bool true]) (by simp [results, Try.results85, go_sem, a0, a1, a2, a3]) rfl ?_
  exact ⟨by rw [hE.out]; rfl, Z.out.2⟩
end Go.Proofs.Ytmjakkemiiigpaa
/-
  'append(a, b...)': a the call's own row, b another row, nil or not: one law for whatever element. No condition.
-/
namespace Go.Proofs.Ytmjakkemiiigpaa
set_option maxRecDepth 100000
open Go.RowKit
theorem wp_append_two {P : Program} {o : Oper} {a : Act} {w : World} {K : Act → World → Prop} {Q : Exit → Act → World → Prop} (s x : Operand) (t : TypeId)
    (ho : o.op = .call { callee := .builtin .append, args := #[s, x], argTypes := #[t, t] }) (B B' : Nat) (e : TypeId) (size bytes : Nat) (z : Value) (ht : P.underlying t = some (.slice e))
    (hinf : (P.info? e).map (fun i => (i.zero, i.size, i.bytes)) = some (some z, size, bytes)) (hzs : z.cells.size = size) (hsz : 0 < size) (hby : bytes ≤ 64)
    (v : Value) (k : Nat) (xs : List Value) (sv : Value) (n : Nat) (ys : List Value) (hown : w.ownsRow B e size v k xs) (hsrc : w.ownsRow B' e size sv n ys) (hs : a.eval s = v) (hx : a.eval x = sv) (h1 : ∀ u ∈ ys, u.oneCell' = true) (hk : k ≤ 1048576) (hn : n ≤ 1048576) (hB : B ≤ w.heap.size)
    (h : ∀ v' w', w'.ownsRow B e size v' (k + n) (xs ++ ys) → w.grownBy w' v.ownBlock → (∃ va vc, v' = .slice va (k + n) vc) → K (a.put o.dst v') w') : o.wp P a w K Q := by
  obtain ⟨i0, hi, hz0, hz1, hz2⟩ := info_parts hinf
  have shape : ∀ {v' : Value} {w' : World} {l : List Value}, w'.ownsRow B e size v' (k + n) l → ∃ va vc, v' = .slice va (k + n) vc := fun hr => by
    rcases hr.2 with ⟨e1, e0⟩ | ⟨g', cap, cur, e1, _⟩
    · exact ⟨none, 0, by rw [e1, e0]⟩
    · exact ⟨_, _, e1⟩
  rcases hsrc.2 with ⟨rfl, rfl⟩ | ⟨g, cap, cur, rfl, hg, hb, hle, hm, hcs, htk⟩
  · have hy : ys = [] := List.length_eq_zero_iff.1 (by simpa using hsrc.1)
    subst hy
    have hrun : (Builtin.append_ #[t, t] o.type #[v, .slice none 0 0]).run P w = .ok v w := by
      rcases hown.2 with ⟨rfl, _⟩ | ⟨g, cap, cur, rfl, _, _, hle, _⟩
      · exact run_append_nothing w _ _ _ e i0 ht hi none 0 0 (Nat.le_refl _) _ (Src.ofNil w ht 0)
      · exact run_append_nothing w _ _ _ e i0 ht hi _ k cap hle _ (Src.ofNil w ht 0)
    have h2 : w.ownsRow B e size v (k + 0) (xs ++ []) := by rw [Nat.add_zero, List.append_nil]; exact hown
    unfold Oper.wp
    simp [execOp, ho, resolve, invoke, builtin, hs, hx, hrun, Result.andThen]
    exact h v w h2 ⟨rfl, rfl, rfl, Nat.le_refl _, fun _ _ _ => rfl⟩ (shape h2)
  · have hb2 : (k + n) * bytes ≤ 140737488355328 := Nat.le_trans (Nat.mul_le_mul_left (k + n) hby) (by omega)
    exact wp_append_own w s x t ho B e i0 z size bytes ht hi hz0 hz1 hz2 hzs hsz v k xs hs hown ⟨g, 0, none⟩ n cap ys hx hsrc.1 (fun j u hj => World.ownsRow.cells hsrc (g := g) rfl j u hj) h1 (by unfold maxLen; omega) hb2 hB fun v' w' a1 a2 _ => h v' w' a1 a2 (shape a1)
theorem wpList_append_two {P : Program} {ops : Array Oper} {rest : List Oper} {o : Oper} {a : Act} {w : World} {Q : Exit → Act → World → Prop} (hgd : o.guard = none) (s x : Operand) (t : TypeId)
    (ho : o.op = .call { callee := .builtin .append, args := #[s, x], argTypes := #[t, t] }) (B B' : Nat) (e : TypeId) (size bytes : Nat) (z : Value) (ht : P.underlying t = some (.slice e))
    (hinf : (P.info? e).map (fun i => (i.zero, i.size, i.bytes)) = some (some z, size, bytes)) (hzs : z.cells.size = size) (hsz : 0 < size) (hby : bytes ≤ 64)
    (v : Value) (k : Nat) (xs : List Value) (sv : Value) (n : Nat) (ys : List Value) (hown : w.ownsRow B e size v k xs) (hsrc : w.ownsRow B' e size sv n ys) (hs : a.eval s = v) (hx : a.eval x = sv) (h1 : ∀ u ∈ ys, u.oneCell' = true) (hk : k ≤ 1048576) (hn : n ≤ 1048576) (hB : B ≤ w.heap.size)
    (h : ∀ v' w', w'.ownsRow B e size v' (k + n) (xs ++ ys) → w.grownBy w' v.ownBlock → (∃ va vc, v' = .slice va (k + n) vc) → wpList P ops Q rest (a.put o.dst v') w') : wpList P ops Q (o :: rest) a w :=
  wpList_plain hgd fun _ hK => wp_append_two s x t ho B B' e size bytes z ht hinf hzs hsz hby v k xs sv n ys hown hsrc hs hx h1 hk hn hB fun v' w' a1 a2 a3 => hK _ _ (h v' w' a1 a2 a3)
theorem step_append_two {P : Program} {ops : Array Oper} {o : Oper} {a : Act} {w : World} {K : Act → World → Prop} {Q : Exit → Act → World → Prop} {E : Prop} (hgd : o.guard = none) (s x : Operand) (t : TypeId)
    (ho : o.op = .call { callee := .builtin .append, args := #[s, x], argTypes := #[t, t] }) (B B' : Nat) (e : TypeId) (size bytes : Nat) (z : Value) (ht : P.underlying t = some (.slice e))
    (hinf : (P.info? e).map (fun i => (i.zero, i.size, i.bytes)) = some (some z, size, bytes)) (hzs : z.cells.size = size) (hsz : 0 < size) (hby : bytes ≤ 64)
    (v : Value) (k : Nat) (xs : List Value) (sv : Value) (n : Nat) (ys : List Value) (hown : w.ownsRow B e size v k xs) (hsrc : w.ownsRow B' e size sv n ys) (hs : a.eval s = v) (hx : a.eval x = sv) (h1 : ∀ u ∈ ys, u.oneCell' = true) (hk : k ≤ 1048576) (hn : n ≤ 1048576) (hB : B ≤ w.heap.size)
    (h : ∀ v' w', w'.ownsRow B e size v' (k + n) (xs ++ ys) → w.grownBy w' v.ownBlock → (∃ va vc, v' = .slice va (k + n) vc) → K (a.put o.dst v') w') :
    if Region.wanted o (yielded ops a.tmps) = true then Oper.wp P o a w K Q else E := by
  have hw : Region.wanted o (yielded ops a.tmps) = true := by simp [Region.wanted, hgd]
  rw [if_pos hw]
  exact wp_append_two s x t ho B B' e size bytes z ht hinf hzs hsz hby v k xs sv n ys hown hsrc hs hx h1 hk hn hB h
/-- A block of one element is an own row. -/
theorem row_single {w : World} {g B size : Nat} {e : TypeId} {cs : Array Value} (h : w.heap[g]? = some (.cells cs e (0, 0))) (hs : cs.size = size) (hB : B ≤ g) : w.ownsRow B e size (.slice (some ⟨g, 0, none⟩) 1 1) 1 cs.toList := by
  refine ⟨by simp [hs], .inr ⟨g, 1, cs, rfl, hB, h, Nat.le_refl _, by unfold maxLen; omega, by omega, ?_⟩⟩
  rw [List.take_of_length_le (by simp; omega)]
end Go.Proofs.Ytmjakkemiiigpaa
/-
  The contract of decode and Rows. Condition: at most 2^20 bytes.
-/
namespace Go.Proofs.Ytmjakkemiiigpaa
set_option maxRecDepth 100000
open Go.RowKit
theorem own_belowB {w w' : World} {base size n : Nat} {e : TypeId} {v : Value} {xs : List Value} (h : w.ownsRow base e size v n xs) (hb : Below w.heap.size w w') : w'.ownsRow base e size v n xs :=
  h.kept ⟨hb.os, hb.tape, hb.output, hb.size, fun k hk _ => hb.block k hk⟩ (row := none) (by cases v.ownBlock <;> simp)
theorem own_keepB {w w' : World} {base size n : Nat} {e : TypeId} {v : Value} {xs : List Value} (h : w.ownsRow base e size v n xs) (hb : ∀ g cs, v.ownBlock = some g → w.heap[g]? = some (.cells cs e (0, 0)) → w'.heap[g]? = w.heap[g]?) : w'.ownsRow base e size v n xs := by
  refine ⟨h.1, ?_⟩
  rcases h.2 with hn | ⟨g, cap, cur, rfl, a1, a2, a3⟩
  · exact .inl hn
  · exact .inr ⟨g, cap, cur, rfl, a1, (hb g cur rfl a2).trans a2, a3⟩
theorem info_rowB : (Try.prog.info? 39).map (fun i => (i.zero, i.size, i.bytes)) = some (some (.agg #[.string .empty, .int .u64 0, .int .i64 0, .string .empty]), 4, 48) := by kernel_rfl
theorem row_oneB (x : Rw) : ∀ u ∈ [Value.string x.key, .int .u64 (x.seq : Int), .int .i64 x.kind, .string x.val], u.oneCell' = true := by
  intro u hu
  simp only [List.mem_cons, List.not_mem_nil, or_false] at hu
  rcases hu with rfl | rfl | rfl | rfl <;> rfl
/-- decode under way: a builder and rows of its own. -/
structure DeI (N : Nat) (w : World) (T : List UInt8) (l : List Rw) (v : Value) (V : World) : Prop where
  bld : Bld N N T V
  row : V.ownsRow N 39 4 v l.length (rowR l)
  bel : Below N w V
  lo : N ≤ V.heap.size
theorem DeI.keep {N : Nat} {w : World} {T : List UInt8} {l : List Rw} {v : Value} {V V' : World} (h : DeI N w T l v V) (hb : Below V.heap.size V V') : DeI N w T l v V' :=
  ⟨h.bld.below hb, own_belowB h.row hb, h.bel.trans (hb.mono h.lo), Nat.le_trans h.lo hb.size⟩
theorem DeI.wrote {N : Nat} {w : World} {T T' : List UInt8} {l : List Rw} {v : Value} {V V' : World} (h : DeI N w T l v V) (b : Bld N N T' V') (hb : Below N V V') (hf : Fr N V V') : DeI N w T' l v V' := by
  obtain ⟨u, c, _, ho⟩ := h.bld.own
  obtain ⟨ds, hd⟩ := h.bld.at'
  refine ⟨b, own_keepB h.row (fun g cs _ hc => (hf.2 u c).1 g (Array.getElem?_eq_some_iff.1 hc).1 (fun e => ?_) (fun e => ?_)), h.bel.trans hb, Nat.le_trans h.lo hf.1⟩
  · rw [e, hd] at hc
    simp only [Option.some.injEq, Obj.cells.injEq] at hc
    exact absurd hc.2.1 (by decide)
  · obtain ⟨_, es, he⟩ := ho g e
    rw [hc] at he
    simp only [Option.some.injEq, Obj.cells.injEq] at he
    exact absurd he.2.1 (by decide)
theorem Bld.but {B b p : Nat} {l : List UInt8} {w w' : World} (k : Bld B b l w) (hb : But p w w') {cs : Array Value} {t : TypeId} {m : Nat × Nat} (hp : w.heap[p]? = some (.cells cs t m)) (ht1 : t ≠ 93) (ht2 : t ≠ 5) : Bld B b l w' := by
  obtain ⟨ds, hd⟩ := k.at'
  refine k.keep (hb.block _ (Array.getElem?_eq_some_iff.1 hd).1 (fun e => ?_)) (fun v g hv hg => ?_)
  · rw [e, hp] at hd
    simp only [Option.some.injEq, Obj.cells.injEq] at hd
    exact ht1 hd.2.1
  · obtain ⟨u, c, _, ho⟩ := k.own
    rw [hv] at c
    cases c
    obtain ⟨hlt, es, he⟩ := ho g hg
    refine hb.block g hlt fun e => ?_
    rw [e, hp] at he
    simp only [Option.some.injEq, Obj.cells.injEq] at he
    exact ht2 he.2.1
theorem DeI.but {N p : Nat} {w : World} {T : List UInt8} {l : List Rw} {v : Value} {x : Rw} {V V' : World} (h : DeI N w T l v V) (hp : RowAt p x V) (hb : But p V V') (hN : N ≤ p) (hv : v.ownBlock ≠ some p) : DeI N w T l v V' :=
  ⟨h.bld.but hb hp (by decide) (by decide), own_keepB h.row (fun g cs hg hc => hb.block g (Array.getElem?_eq_some_iff.1 hc).1 (fun e => hv (by rw [hg, e]))), h.bel.trans (hb.below hN h.lo), Nat.le_trans h.lo hb.size⟩
theorem DeI.grown {N : Nat} {w : World} {T : List UInt8} {l : List Rw} {v v' : Value} {x : Rw} {V V' : World} (h : DeI N w T l v V) (hr : V'.ownsRow N 39 4 v' (l.length + 1) (rowR l ++ [.string x.key, .int .u64 (x.seq : Int), .int .i64 x.kind, .string x.val])) (hg : V.grownBy V' v.ownBlock) : DeI N w T (l ++ [x]) v' V' := by
  obtain ⟨ds, hd⟩ := h.bld.at'
  have tp : ∀ g cs, v.ownBlock = some g → ∀ cs', V.heap[g]? = some (.cells cs' cs (0, 0)) → cs = 39 := fun g cs hv cs' hc => by
    rcases h.row.2 with ⟨rfl, _⟩ | ⟨g', cap, cur, rfl, _, a2, _⟩
    · cases hv
    · have : g' = g := by simpa [Value.ownBlock] using hv
      subst this
      rw [a2] at hc
      simp only [Option.some.injEq, Obj.cells.injEq] at hc
      exact hc.2.1.symm
  refine ⟨h.bld.keep (hg.block _ (Array.getElem?_eq_some_iff.1 hd).1 (fun e => ?_)) (fun u g hu ho => ?_), ?_, h.bel.grown hg h.lo (fun k hk => (World.ownsRow.lt h.row k hk).1), Nat.le_trans h.lo hg.size⟩
  · exact absurd (tp N _ e.symm _ hd) (by decide)
  · obtain ⟨u', c, _, ho'⟩ := h.bld.own
    rw [hu] at c
    cases c
    obtain ⟨hlt, es, he⟩ := ho' g ho
    refine hg.block g hlt fun e => ?_
    exact absurd (tp g _ e.symm _ he) (by decide)
  · rw [rowR_snoc, List.length_append]
    exact hr
theorem dei_new (w : World) : DeI w.heap.size w [] [] (.slice none 0 0) (w.alloc (.cells #[.pointer none, .slice none 0 0] 93)) :=
  ⟨bld_new w, World.ownsRow_nil _ _ _ _, below_alloc _ _, by simp⟩
theorem DeI.read {N : Nat} {w : World} {T : List UInt8} {l : List Rw} {v : Value} {V V' : World} (h : DeI N w T l v V) (hr : Rd N V V') : V'.ownsRow N 39 4 v l.length (rowR l) := by
  obtain ⟨u, c, _, ho⟩ := h.bld.own
  refine own_keepB h.row (fun g cs _ hc => hr.2 u c g (Array.getElem?_eq_some_iff.1 hc).1 (fun e => ?_))
  obtain ⟨_, es, he⟩ := ho g e
  rw [hc] at he
  simp only [Option.some.injEq, Obj.cells.injEq] at he
  exact absurd he.2.1 (by decide)
/-- What decode answers. -/
def Decd (L : List UInt8) (w : World) (e : Ending) (w' : World) : Prop :=
  (∃ l d a c b, IsB L l d ∧ e = .returned (.tuple #[.slice a l.length c, .int .i64 (d : Int), .int .i64 0]) ∧ Rs a l.length c b 0 l w' ∧ (0 < l.length → w.heap.size ≤ b) ∧ Below w.heap.size w w') ∨
  ((∀ l d, ¬ IsB L l d) ∧ e = .returned (.tuple #[.slice none 0 0, .int .i64 0, .int .i64 7]) ∧ Below w.heap.size w w')
def sizeV : Value → Nat
  | .string s => s.size
  | _ => 0
set_option maxRecDepth 100000 in
set_option maxHeartbeats 8000000 in
theorem decode_any (L : List UInt8) (hL : L.length ≤ 1048576) (w : World) :
    Calls Try.prog 63 #[.string ⟨L.toArray⟩] w (Decd L w) := by
  have PT := Lib.hid (fun u => parts_any L (by omega) u)
  have I0 := Lib.hid (dei_new w)
  have CR := Lib.hid (fun L' P' h1 h2 u => cutrow_any L' P' h1 h2 u)
  cases hp : ptB L with
  | none =>
    rw [hp] at PT
    have hno : Hid (∀ l d, ¬ IsB L l d) := Lib.hid (fun l d h => by rw [ptB_isB h] at hp; cases hp)
    unfold ptV at PT
    clear hp
    go_enter Try.func63, Try.ntmps63
    go_wp2_with fail
    refine wp_scope_fwd 0 rfl ?_
    go_wp2_with (go_at_call 84; ((with_reducible refine (PT.out _).mono ?_); rintro e w1 ⟨rfl, hb1⟩; have I1 := Lib.hid (I0.out.keep hb1)))
    go_step3
    refine ⟨rfl, ?_⟩
    go_wp2_with fail
    rw [Exit.noGoto_ret]
    go_returns
    exact .inr ⟨hno.out, rfl, I1.out.bel⟩
  | some q =>
    obtain ⟨rows, d⟩ := q
    rw [hp] at PT
    unfold ptV at PT
    obtain ⟨p1, p2, p3, p4, p5, p6⟩ := ptB_some hp
    have HF := Lib.hid (fun l r => @DeP.fail L rows r d l hp)
    have HN := Lib.hid (fun l r t x => @DeP.next L rows r t d l x hp)
    have HG := Lib.hid (fun l => @DeP.good L rows d l hp)
    have HB := Lib.hid (fun l => @DeP.bad L rows d l hp)
    have BH := Lib.hid (fun r hr u => behind_any r hr d (by omega) u)
    have PN := Lib.hid (fun k hk u => putnum_any k hk u)
    have hrl : rows.length ≤ 65536 := by omega
    clear hp p6
    have d0 : (d : Int) ≠ 0 := by omega
    go_enter Try.func63, Try.ntmps63
    go_wp2_with fail
    refine wp_scope_fwd 0 rfl ?_
    go_wp2_with (go_at_call 84; ((with_reducible refine (PT.out _).mono ?_); rintro e w1 ⟨rfl, hb1⟩; have I1 := Lib.hid (I0.out.keep hb1); clear hb1))
    go_loopw [2, 8] (fun v r wr => ∃ (l : List Rw) (j : Nat) (t : List UInt8) (a : Option Addr) (c : Nat), l.length = j ∧ v = .slice a j c ∧ r = .string ⟨t.toArray⟩ ∧ DeP L rows d l t ∧ DeI w.heap.size w (rstB d l j) l (.slice a j c) wr) (fun _ r _ => sizeV r)
    case atStart => exact ⟨[], 0, rows, none, 0, rfl, rfl, rfl, DeP.zero L rows d, I1.out⟩
    case round =>
      clear I1 I0 PT
      obtain ⟨l, j, t, a, c, hjN, rfl, rfl, hP, hI⟩ := hrel
      have hl4 : l.length ≤ 1024 := hP.2.2.1
      have htl : t.length ≤ 65536 := by have := congrArg List.length hP.1; rw [List.length_append] at this; omega
      by_cases ht : t = []
      · subst ht
        obtain ⟨a', c', b', e1, RS, hbb⟩ := rs_of_row (l := l) hI.row
        rw [hjN] at e1 RS hbb
        simp only [Value.slice.injEq, true_and] at e1
        obtain ⟨rfl, rfl⟩ := e1
        have OC := Lib.hid (order_any RS)
        have hIH := Lib.hid hI
        have hPH := Lib.hid hP
        have RSH := Lib.hid RS
        have hbbH := Lib.hid hbb
        obtain ⟨T, hT⟩ := named (ordR l)
        rw [← hT.out] at OC
        obtain ⟨E1, hE1⟩ := named (L.drop rows.length)
        obtain ⟨E2, hE2⟩ := named (tailB (rstB d l j) d)
        have EX := exL_from L rows.length
        rw [← hE1.out] at EX
        have BH2 := Lib.hid (BH.out (rstB d l j) (by have := rstB_le d l j; omega))
        rw [← hE2.out] at BH2
        have B0 := Lib.hid (Below.refl wr.heap.size wr).drew
        have hjH := Lib.hid hjN
        clear RS hbb hI hP hjN
        cases T with
        | false =>
          have hno : Hid (∀ l' d', ¬ IsB L l' d') := Lib.hid (HB.out l hPH.out (.inl (by rw [← hT.out])))
          go_upto_region 14 with fail
          refine wp_region_held_drew (S := (fun v => Hid (Below wr.heap.size wr v))) (by kernel_rfl) (B0) (fun hHeld => ?_)
          refine held_take (i := 0) (v := ?_) rfl (by kernel_rfl) (by kernel_rfl) (by kernel_rfl) (fun _ _ _ h => h) (by rfl) (fun w hSw => ?_) (by assumption) ?_; rotate_left 1; focus (((try dsimp only at hSw); first | (go_simp; done) | (go_simp; with_reducible rfl)))
          try simp only [Act.put, List.setIfInBounds_toArray, List.set_cons_zero, List.set_cons_succ]
          refine held_call (i := 1) (by kernel_rfl) rfl (by rfl) (fun K hK => ?_)
          go_simp
          (go_at_call 36; ((with_reducible refine (order_any (RSH.out.below B0.out (Nat.le_refl _))).mono ?_); rw [← hT.out]; rintro e u1 ⟨rfl, hb1⟩))
          have B1 := Lib.hid (below_of (w := wr) B0.out hb1)
          clear hb1
          refine hK.out _ _ (B1) (fun hHeld => ?_)
          try simp only [Act.put, List.setIfInBounds_toArray, List.set_cons_zero, List.set_cons_succ]
          refine held_take (i := 2) (v := ?_) rfl (by kernel_rfl) (by kernel_rfl) (by kernel_rfl) (fun _ _ _ h => h) (by rfl) (fun w hSw => ?_) (by assumption) ?_; rotate_left 1; focus (((try dsimp only at hSw); first | (go_simp; done) | (go_simp; with_reducible rfl)))
          try simp only [Act.put, List.setIfInBounds_toArray, List.set_cons_zero, List.set_cons_succ]
          refine held_take (i := 3) (v := ?_) rfl (by kernel_rfl) (by kernel_rfl) (by kernel_rfl) (fun _ _ _ h => h) (by rfl) (fun w hSw => ?_) (by assumption) ?_; rotate_left 1; focus (((try dsimp only at hSw); first | (go_simp; done) | (go_simp; with_reducible rfl)))
          try simp only [Act.put, List.setIfInBounds_toArray, List.set_cons_zero, List.set_cons_succ]
          refine held_skip (i := 4) rfl (by kernel_rfl) (by kernel_rfl) (by kernel_rfl) (fun _ _ _ h => h) (by rfl) (by assumption) ?_
          try simp only [Act.put, List.setIfInBounds_toArray, List.set_cons_zero, List.set_cons_succ]
          refine held_skip (i := 5) rfl (by kernel_rfl) (by kernel_rfl) (by kernel_rfl) (fun _ _ _ h => h) (by rfl) (by assumption) ?_
          try simp only [Act.put, List.setIfInBounds_toArray, List.set_cons_zero, List.set_cons_succ]
          refine held_skip (i := 6) rfl (by kernel_rfl) (by kernel_rfl) (by kernel_rfl) (fun _ _ _ h => h) (by rfl) (by assumption) ?_
          try simp only [Act.put, List.setIfInBounds_toArray, List.set_cons_zero, List.set_cons_succ]
          refine held_skip (i := 7) rfl (by kernel_rfl) (by kernel_rfl) (by kernel_rfl) (fun _ _ _ h => h) (by rfl) (by assumption) ?_
          try simp only [Act.put, List.setIfInBounds_toArray, List.set_cons_zero, List.set_cons_succ]
          refine held_skip (i := 9) rfl (by kernel_rfl) (by kernel_rfl) (by kernel_rfl) (fun _ _ _ h => h) (by rfl) (by assumption) ?_
          try simp only [Act.put, List.setIfInBounds_toArray, List.set_cons_zero, List.set_cons_succ]
          refine held_skip (i := 8) rfl (by kernel_rfl) (by kernel_rfl) (by kernel_rfl) (fun _ _ _ h => h) (by rfl) (by assumption) ?_
          try simp only [Act.put, List.setIfInBounds_toArray, List.set_cons_zero, List.set_cons_succ]
          refine held_skip (i := 10) rfl (by kernel_rfl) (by kernel_rfl) (by kernel_rfl) (fun _ _ _ h => h) (by rfl) (by assumption) ?_
          try simp only [Act.put, List.setIfInBounds_toArray, List.set_cons_zero, List.set_cons_succ]
          refine held_skip (i := 11) rfl (by kernel_rfl) (by kernel_rfl) (by kernel_rfl) (fun _ _ _ h => h) (by rfl) (by assumption) ?_
          try simp only [Act.put, List.setIfInBounds_toArray, List.set_cons_zero, List.set_cons_succ]
          refine held_take (i := 12) (v := ?_) rfl (by kernel_rfl) (by kernel_rfl) (by kernel_rfl) (fun _ _ _ h => h) (by rfl) (fun w hSw => ?_) (by assumption) ?_; rotate_left 1; focus (((try dsimp only at hSw); first | (go_simp; done) | (go_simp; with_reducible rfl)))
          try simp only [Act.put, List.setIfInBounds_toArray, List.set_cons_zero, List.set_cons_succ]
          refine wpAnyH_done (by kernel_rfl) ?_ _
          go_wp2_with fail
          go_step3
          refine ⟨rfl, ?_⟩
          go_wp2_with fail
          rw [Exit.noGoto_ret]
          go_returns
          exact .inr ⟨hno.out, rfl, hIH.out.bel.trans (B1.out.mono hIH.out.lo)⟩
        | true =>
          have hyes : Hid (E1 = E2 → IsB L l d) := Lib.hid (fun e => HG.out l hPH.out (by rw [← hT.out]) (by rw [hjH.out, ← hE1.out, ← hE2.out, e]))
          have hnot : Hid (E1 ≠ E2 → ∀ l' d', ¬ IsB L l' d') := Lib.hid (fun e => HB.out l hPH.out (.inr (by rw [hjH.out, ← hE1.out, ← hE2.out]; exact e)))
          have W0 := Lib.hid hIH.out.bel.drew
          obtain ⟨Q, hQ⟩ : ∃ Q, (E1 == E2) = Q := ⟨_, rfl⟩
          have hyes : Hid (Q = true → IsB L l d) := Lib.hid (fun e => hyes.out (by rw [e] at hQ; exact beq_iff_eq.1 hQ))
          have hnot : Hid (Q = false → ∀ l' d', ¬ IsB L l' d') := Lib.hid (fun e => hnot.out (by rw [e] at hQ; exact beq_eq_false_iff_ne.1 hQ))
          go_upto_region 14 with fail
          refine wp_region_held_drew (S := (fun v => Hid (Below w.heap.size w v))) (by kernel_rfl) (W0) (fun hHeld => ?_)
          refine held_take (i := 0) (v := ?_) rfl (by kernel_rfl) (by kernel_rfl) (by kernel_rfl) (fun _ _ _ h => h) (by rfl) (fun w hSw => ?_) (by assumption) ?_; rotate_left 1; focus (((try dsimp only at hSw); first | (go_simp; done) | (go_simp; with_reducible rfl)))
          try simp only [Act.put, List.setIfInBounds_toArray, List.set_cons_zero, List.set_cons_succ]
          refine held_call (i := 1) (by kernel_rfl) rfl (by rfl) (fun K hK => ?_)
          go_simp
          (go_at_call 36; ((with_reducible refine (order_any (RSH.out.below B0.out (Nat.le_refl _))).mono ?_); rw [← hT.out]; rintro e u1 ⟨rfl, hb1⟩))
          have I1 := Lib.hid (hIH.out.keep (below_of (w := wr) B0.out hb1))
          clear hb1
          refine hK.out _ _ (Lib.hid I1.out.bel) (fun hHeld => ?_)
          try simp only [Act.put, List.setIfInBounds_toArray, List.set_cons_zero, List.set_cons_succ]
          refine held_take (i := 2) (v := ?_) rfl (by kernel_rfl) (by kernel_rfl) (by kernel_rfl) (fun _ _ _ h => h) (by rfl) (fun w hSw => ?_) (by assumption) ?_; rotate_left 1; focus (((try dsimp only at hSw); first | (go_simp; done) | (go_simp; with_reducible rfl)))
          try simp only [Act.put, List.setIfInBounds_toArray, List.set_cons_zero, List.set_cons_succ]
          refine held_take (i := 3) (v := ?_) rfl (by kernel_rfl) (by kernel_rfl) (by kernel_rfl) (fun _ _ _ h => h) (by rfl) (fun w hSw => ?_) (by assumption) ?_; rotate_left 1; focus (((try dsimp only at hSw); first | (go_simp; done) | (go_simp; with_reducible rfl)))
          try simp only [Act.put, List.setIfInBounds_toArray, List.set_cons_zero, List.set_cons_succ]
          refine held_take (i := 4) (v := ?_) rfl (by kernel_rfl) (by kernel_rfl) (by kernel_rfl) (fun _ _ _ h => h) (by rfl) (fun w hSw => ?_) (by assumption) ?_; rotate_left 1; focus (((try dsimp only at hSw); first | (go_simp; done) | (go_simp; with_reducible rfl)))
          try simp only [Act.put, List.setIfInBounds_toArray, List.set_cons_zero, List.set_cons_succ]
          refine held_take (i := 5) (v := ?_) rfl (by kernel_rfl) (by kernel_rfl) (by kernel_rfl) (fun _ _ _ h => h) (by rfl) (fun w hSw => ?_) (by assumption) ?_; rotate_left 1; focus (((try dsimp only at hSw); first | (go_simp; done) | (go_simp; with_reducible rfl)))
          try simp only [Act.put, List.setIfInBounds_toArray, List.set_cons_zero, List.set_cons_succ]
          refine held_take (i := 6) (v := ?_) rfl (by kernel_rfl) (by kernel_rfl) (by kernel_rfl) (fun _ _ _ h => h) (by rfl) (fun w hSw => ?_) (by assumption) ?_; rotate_left 1; focus (((try dsimp only at hSw); first | (go_simp; done) | (go_simp; with_reducible rfl)))
          try simp only [Act.put, List.setIfInBounds_toArray, List.set_cons_zero, List.set_cons_succ]
          refine held_take (i := 7) (v := ?_) rfl (by kernel_rfl) (by kernel_rfl) (by kernel_rfl) (fun _ _ _ h => h) (by rfl) (fun w hSw => ?_) (by assumption) ?_; rotate_left 1; focus (((try dsimp only at hSw); first | (go_simp; done) | (go_simp; with_reducible rfl)))
          try simp only [Act.put, List.setIfInBounds_toArray, List.set_cons_zero, List.set_cons_succ]
          refine held_take (i := 9) (v := ?_) rfl (by kernel_rfl) (by kernel_rfl) (by kernel_rfl) (fun _ _ _ h => h) (by rfl) (fun w hSw => ?_) (by assumption) ?_; rotate_left 1; focus (((try dsimp only at hSw); first | (go_simp; done) | (go_simp; with_reducible rfl)))
          try simp only [Act.put, List.setIfInBounds_toArray, List.set_cons_zero, List.set_cons_succ]
          refine held_call (i := 8) (by kernel_rfl) rfl (by rfl) (fun K hK => ?_)
          go_simp
          (go_at_call 52; ((with_reducible refine (bld_read I1.out.bld I1.out.lo).mono ?_); rintro e u2 ⟨rfl, hb2, hr2⟩))
          have W2 := Lib.hid (I1.out.bel.trans hb2)
          have O2 := Lib.hid (I1.out.read hr2)
          clear hb2 hr2
          refine hK.out _ _ (W2) (fun hHeld => ?_)
          try simp only [Act.put, List.setIfInBounds_toArray, List.set_cons_zero, List.set_cons_succ]
          refine held_call (i := 10) (by kernel_rfl) rfl (by rfl) (fun K hK => ?_)
          go_simp
          (go_at_call 58; ((with_reducible refine (BH2.out _).mono ?_); rintro e u3 ⟨rfl, hb3⟩))
          have W3 := Lib.hid (W2.out.trans (hb3.mono W2.out.size))
          have O3 := Lib.hid (own_belowB O2.out hb3)
          clear hb3
          refine hK.out _ _ (W3) (fun hHeld => ?_)
          try simp only [Act.put, List.setIfInBounds_toArray, List.set_cons_zero, List.set_cons_succ]
          refine held_take (i := 11) (v := ?_) rfl (by kernel_rfl) (by kernel_rfl) (by kernel_rfl) (fun _ _ _ h => h) (by rfl) (fun w hSw => ?_) (by assumption) ?_; rotate_left 1; focus (((try dsimp only at hSw); first | (go_simp; done) | (go_simp; with_reducible rfl)))
          try simp only [Act.put, List.setIfInBounds_toArray, List.set_cons_zero, List.set_cons_succ]
          refine held_take (i := 12) (v := ?_) rfl (by kernel_rfl) (by kernel_rfl) (by kernel_rfl) (fun _ _ _ h => h) (by rfl) (fun w hSw => ?_) (by assumption) ?_; rotate_left 1; focus (((try dsimp only at hSw); first | (go_simp; done) | (go_simp; with_reducible rfl)))
          try simp only [Act.put, List.setIfInBounds_toArray, List.set_cons_zero, List.set_cons_succ]
          refine wpAnyH_done (by kernel_rfl) ?_ _
          cases Q with
          | true =>
            have hB := Lib.hid (hyes.out rfl)
            go_wp2_with fail
            rw [jump_ret]
            go_returns
            obtain ⟨a2, c2, b2, e2, RS2, hb2⟩ := rs_of_row (l := l) O3.out
            rw [hjH.out] at e2 RS2 hb2
            simp only [Value.slice.injEq, true_and] at e2
            obtain ⟨rfl, rfl⟩ := e2
            refine .inl ⟨l, d, _, c, b2, hB.out, by rw [hjH.out]; rfl, by rw [hjH.out]; exact RS2, by rw [hjH.out]; exact hb2, W3.out⟩
          | false =>
            have hno := Lib.hid (hnot.out rfl)
            go_wp2_with fail
            go_step3
            refine ⟨rfl, ?_⟩
            go_wp2_with fail
            rw [Exit.noGoto_ret]
            go_returns
            exact .inr ⟨hno.out, rfl, W3.out⟩
      · have ti : t.isEmpty = false := by cases t; exact absurd rfl ht; rfl
        have hj4 : j ≤ 1024 := by rw [← hjN]; exact hl4
        replace hjN := Lib.hid hjN
        have I2 := Lib.hid (hI.keep (below_alloc wr (.cells #[.string ⟨#[]⟩, .int .u64 0, .int .i64 0, .string ⟨#[]⟩] 39)))
        have R2 := Lib.hid (RowAt.new rwZ wr)
        simp only [rwZ] at R2
        have hvb : Hid ((Value.slice a j c).ownBlock ≠ some wr.heap.size) := Lib.hid (fun e => by have := (World.ownsRow.lt hI.row wr.heap.size e).2; omega)
        have hlo := Lib.hid hI.lo
        have hK : Hid ((rows.length : Int) - (t.length : Int) = ((bodB d l j).length : Int)) := Lib.hid (by have := congrArg List.length hP.1; rw [List.length_append, hjN.out] at this; omega)
        have hbl : Hid ((bodB d l j).length < 4294967296) := Lib.hid (by have := congrArg List.length hP.1; rw [List.length_append, hjN.out] at this; omega)
        have hPH := Lib.hid hP
        have htH := Lib.hid ht
        obtain ⟨K, hKK⟩ := named (bodB d l j).length
        rw [← hKK.out] at hK hbl
        have hrt : rows.length - t.length = K := by have := hK.out; omega
        have hrt2 : (rows.length : Int) - (t.length : Int) = (K : Int) := hK.out
        clear ht hP hl4
        go_upto_if 26 with fail
        go_cut [10] from 26 to 40 (fun s wc => s = .string ⟨(prvB d l j).toArray⟩ ∧ DeI w.heap.size w (rstB d l j ++ (if j % d = 0 then le4 K else [])) l (.slice a j c) wc ∧ RowAt wr.heap.size ⟨⟨#[]⟩, 0, 0, ⟨#[]⟩⟩ wc)
        case first =>
          by_cases hm : j % d = 0
          · have hmH := Lib.hid hm
            have hpv : Hid (prvB d l j = []) := Lib.hid (by unfold prvB; rw [if_pos hm])
            have em : (j : Int) % (d : Int) = ((j % d : Nat) : Int) := (Int.natCast_emod j d).symm
            have g1 : ¬ (0 : Int) < (j : Int) % (d : Int) := by rw [em]; omega
            clear em
            clear hm
            have hln2 : Hid ((rstB d l j).length + (⟨(le4 K).toArray⟩ : ByteArray).size ≤ 140737488355328) := Lib.hid (by have := rstB_le d l j; show (rstB d l j).length + (le4 K).toArray.size ≤ _; rw [List.size_toArray, le4_len]; omega)
            go_wp2_with (first
              | (go_at_call 57; ((with_reducible refine (PN.out K hbl.out _).mono ?_); rintro e v1 ⟨rfl, hb2⟩; have I3 := Lib.hid (I2.out.keep hb2); have R3 := Lib.hid (R2.out.below hb2); clear hb2))
              | (go_at_call 51; ((with_reducible refine (bld_string_at I3.out.bld I3.out.lo ⟨(le4 K).toArray⟩ hln2.out).mono ?_); rintro e v2 ⟨rfl, hB4, hb4, hf4⟩; have I4 := Lib.hid (I3.out.wrote hB4 hb4 hf4); have R4 := Lib.hid (rowAt_spares R3.out hf4 I3.out.bld); clear hB4 hb4 hf4)))
            go_meet
            exact ⟨by rw [hpv.out], by rw [if_pos hmH.out]; exact I4.out, R4.out⟩
          · have hmH := Lib.hid hm
            have hj0 : 0 < j := by rcases Nat.eq_zero_or_pos j with e | e; exact absurd (by rw [e]; exact Nat.zero_mod d) hm; exact e
            obtain ⟨m, rfl⟩ : ∃ m, j = m + 1 := ⟨j - 1, by omega⟩
            obtain ⟨a', c', b', e1, RS, _⟩ := rs_of_row (l := l) I2.out.row
            rw [hjN.out] at e1 RS
            simp only [Value.slice.injEq, true_and] at e1
            obtain ⟨rfl, rfl⟩ := e1
            obtain ⟨x, hx, rfl, x0, _⟩ := RS.at4 (j := m) (by omega)
            have hpv : Hid (prvB d l (m + 1) = x.key.toList) := Lib.hid (by unfold prvB; rw [if_neg hm, Nat.add_sub_cancel, rwAt_some hx])
            rw [Nat.zero_add] at x0
            have em : ((m + 1 : Nat) : Int) % (d : Int) = (((m + 1) % d : Nat) : Int) := (Int.natCast_emod (m + 1) d).symm
            have g1 : (0 : Int) < ((m + 1 : Nat) : Int) % (d : Int) := by rw [em]; omega
            clear em
            have w1 : wrap64 ((m : Int) + 1 - 1) = (m : Int) := by unfold wrap64; omega
            have w2 : IntKind.i64.wrap (m : Int) = (m : Int) := by rw [IntKind.wrap_i64]; omega
            have w3 : wrap64 (m : Int) = (m : Int) := by unfold wrap64; omega
            have i0 : (m : Int) < (m : Int) + 1 := by omega
            have i1 : m < m + 1 := by omega
            clear RS hx hm
            go_wp2_with fail
            go_meet
            exact ⟨by rw [hpv.out, ofL], by rw [if_neg hmH.out, List.append_nil]; exact I2.out, R2.out⟩
        case rest =>
          obtain ⟨rfl, hI5, hR5⟩ := hcut
          have I5 := Lib.hid hI5
          have R5 := Lib.hid hR5
          have hpl : (prvB d l j).length ≤ 520 := prvB_le hPH.out.2.1 (by rw [hjN.out]; exact Nat.le_refl j)
          have CX := Lib.hid (CR.out t (prvB d l j) htl hpl)
          obtain ⟨P, hP⟩ := named (prvB d l j)
          rw [← hP.out] at CX ⊢
          obtain ⟨C, hC⟩ := named (cutX t P)
          rw [← hC.out] at CX
          have hrb : Hid (w.heap.size ≤ wr.heap.size) := Lib.hid hlo.out
          have htN := Lib.hid htl
          clear I2 R2 hI hI5 hR5 hK hbl hrt hrt2 hlo hpl htl
          cases C with
          | none =>
            unfold cutV at CX
            have hno : Hid (∀ l' d', ¬ IsB L l' d') := Lib.hid (HF.out l t hPH.out htH.out (.inl (by rw [hjN.out, ← hP.out, ← hC.out])))
            go_wp2_with (go_at_call 85; ((with_reducible refine (CX.out _).mono ?_); rintro e v6 ⟨rfl, hb6⟩; have I6 := Lib.hid (I5.out.keep hb6); have R6 := Lib.hid (R5.out.below hb6); clear hb6; obtain ⟨⟨c0, c1, c2, c3⟩, cf⟩ := R6.out.cells; simp only at c0 c1 c2 c3; have f0 := cf 0; have f1 := cf 1; have f2 := cf 2; have f3 := cf 3; clear cf; have I7 := Lib.hid (I6.out.but R6.out (but_put4 wr.heap.size v6 rwZ) hrb.out hvb.out)))
            go_step3
            refine ⟨rfl, ?_⟩
            go_wp2_with fail
            rw [Exit.noGoto_ret]
            go_returns
            exact .inr ⟨hno.out, rfl, I7.out.bel⟩
          | some q =>
            obtain ⟨x, t'⟩ := q
            unfold cutV at CX
            have hT : Hid (rstB d l j ++ (if j % d = 0 then le4 K else []) = rstB d (l ++ [x]) (j + 1)) := Lib.hid (by
              have tk : (l ++ [x]).take j = l := by rw [← hjN.out]; simp
              rw [rstB_snoc, ← rstB_take d (l ++ [x]) (Nat.le_refl j), ← bodB_take d (l ++ [x]) (Nat.le_refl j), tk, hKK.out])
            have hcut2 : Hid (cutX t (prvB d l l.length) = some (x, t')) := Lib.hid (by rw [hjN.out, ← hP.out, ← hC.out])
            have htt : Hid (t'.length < t.length) := Lib.hid (by
              have h0 := (cutX_only hcut2.out).1
              have h1 := congrArg List.length h0
              have h2 := encX_pos (prvB d l l.length) x
              rw [List.length_append] at h1
              omega)
            obtain ⟨xk, xs, xi, xv⟩ := x
            have CX : Hid (∀ u, Calls Try.prog 85 #[.string ⟨t.toArray⟩, .string ⟨P.toArray⟩] u fun e w' => e = .returned (.tuple #[.agg #[.string xk, .int .u64 (xs : Int), .int .i64 xi, .string xv], .string ⟨t'.toArray⟩, .bool true]) ∧ Below u.heap.size u w') := CX
            by_cases hj1 : j = 1024
            · have g4 : ((j : Int) == 1024) = true := by rw [beq_iff_eq]; omega
              have hno : Hid (∀ l' d', ¬ IsB L l' d') := Lib.hid (HF.out l t hPH.out htH.out (.inr (by rw [hjN.out]; exact hj1)))
              have g4b : (j == 1024) = true := by rw [beq_iff_eq]; exact hj1
              clear hj1
              go_wp2_with (go_at_call 85; ((with_reducible refine (CX.out _).mono ?_); rintro e v6 ⟨rfl, hb6⟩; have I6 := Lib.hid (I5.out.keep hb6); have R6 := Lib.hid (R5.out.below hb6); clear hb6; obtain ⟨⟨c0, c1, c2, c3⟩, cf⟩ := R6.out.cells; simp only at c0 c1 c2 c3; have f0 := cf 0; have f1 := cf 1; have f2 := cf 2; have f3 := cf 3; clear cf; have I7 := Lib.hid (I6.out.but R6.out (but_put4 wr.heap.size v6 ⟨xk, xs, xi, xv⟩) hrb.out hvb.out)))
              go_step3
              refine ⟨rfl, ?_⟩
              go_wp2_with fail
              rw [Exit.noGoto_ret]
              go_returns
              exact .inr ⟨hno.out, rfl, I7.out.bel⟩
            · have g4 : ((j : Int) == 1024) = false := by rw [beq_eq_false_iff_ne]; omega
              have g4b : (j == 1024) = false := by rw [beq_eq_false_iff_ne]; exact hj1
              have hP2 := Lib.hid (HN.out l t t' _ hPH.out hcut2.out (by rw [hjN.out]; exact hj1))
              have e9 : Hid ((l ++ [(⟨xk, xs, xi, xv⟩ : Rw)]).length = j + 1) := Lib.hid (by rw [List.length_append, hjN.out]; exact rfl)
              obtain ⟨i0, hi, hz0, hz1, hz2⟩ := info_parts info_rowB
              go_upto_region 13 with (go_at_call 85; ((with_reducible refine (CX.out _).mono ?_); rintro e v6 ⟨rfl, hb6⟩; have I6 := Lib.hid (I5.out.keep hb6); have R6 := Lib.hid (R5.out.below hb6); clear hb6; obtain ⟨⟨c0, c1, c2, c3⟩, cf⟩ := R6.out.cells; simp only at c0 c1 c2 c3; have f0 := cf 0; have f1 := cf 1; have f2 := cf 2; have f3 := cf 3; clear cf; have I7 := Lib.hid (I6.out.but R6.out (but_put4 wr.heap.size v6 ⟨xk, xs, xi, xv⟩) hrb.out hvb.out); have R7 := Lib.hid (rowAt_put R6.out ⟨xk, xs, xi, xv⟩)))
              clear c0 c1 c2 c3 f0 f1 f2 f3 I6 R6
              generalize (((v6.setCell ⟨wr.heap.size, 0, none⟩ (.string xk)).setCell ⟨wr.heap.size, 1, none⟩ (.int .u64 (xs : Int))).setCell ⟨wr.heap.size, 2, none⟩ (.int .i64 xi)).setCell ⟨wr.heap.size, 3, none⟩ (.string xv) = v7 at *
              have I8 := Lib.hid (I7.out.keep (below_alloc v7 (.cells #[.string xk, .int .u64 (xs : Int), .int .i64 xi, .string xv] 39)))
              obtain ⟨c0, c1, c2, c3⟩ := R7.out.c4
              have hown := I8.out.row
              rw [hjN.out] at hown
              have hown := Lib.hid hown
              have hlo8 := Lib.hid I8.out.lo
              go_wp2_with (at_builtin; refine wpList_append_own _ rfl _ _ 22 rfl w.heap.size 39 i0 (.agg #[.string .empty, .int .u64 0, .int .i64 0, .string .empty]) 4 48 Try.underlying22 hi hz0 hz1 hz2 rfl (by decide) (.slice a j c) j (rowR l) (by rfl) hown.out ⟨v7.heap.size, 0, none⟩ 1 1 [.string xk, .int .u64 (xs : Int), .int .i64 xi, .string xv] (by rfl) rfl (World.news_of_block (heap_alloc_new _ _)) (row_oneB ⟨xk, xs, xi, xv⟩) (by unfold maxLen; omega) (by omega) hlo8.out ?_; intro v' w9 hown9 hgrow9 _; have I9 := Lib.hid (I8.out.grown (x := ⟨xk, xs, xi, xv⟩) (by rw [hjN.out]; exact hown9) hgrow9); obtain ⟨a2, c2', hv2⟩ : ∃ a2 c2', v' = .slice a2 (j + 1) c2' := (by rcases hown9.2 with ⟨e1, e0⟩ | ⟨g', cap, cur, e1, _⟩; exact absurd e0 (by omega); exact ⟨_, _, e1⟩); subst hv2; clear hown9 hgrow9)
              refine ⟨⟨l ++ [⟨xk, xs, xi, xv⟩], j + 1, t', a2, c2', e9.out, rfl, rfl, ?_, ?_⟩, ?_⟩
              · exact hP2.out
              · rw [← hT.out]
                exact I9.out
              · show t'.toArray.size < t.toArray.size
                rw [List.size_toArray, List.size_toArray]
                exact htt.out
end Go.Proofs.Ytmjakkemiiigpaa
/-
  The contract of Seek. Condition: at most 2^20 bytes.
-/
namespace Go.Proofs.Ytmjakkemiiigpaa
set_option maxRecDepth 100000
open Go.RowKit
theorem wrap64_small (x : Int) (h1 : -1 ≤ x) (h2 : x ≤ 1000000) : wrap64 x = x := by unfold wrap64; omega
theorem wrapi_small (x : Int) (h1 : -1 ≤ x) (h2 : x ≤ 1000000) : IntKind.i64.wrap x = x := by rw [IntKind.wrap_i64]; omega
theorem wrapi_nat (x : Nat) (h2 : x ≤ 1000000) : IntKind.i64.wrap (x : Int) = x := by rw [IntKind.wrap_i64]; omega
/-- The restarts' rows. -/
def numsI (d k : Nat) : List Value := (List.range k).map fun j => Value.int .i64 ((j * d : Nat) : Int)
theorem numsI_snoc (d k : Nat) : numsI d (k + 1) = numsI d k ++ [.int .i64 ((k * d : Nat) : Int)] := by simp [numsI, List.range_succ]
theorem numsI_len (d k : Nat) : (numsI d k).length = k := by simp [numsI]
theorem numsI_at (d : Nat) {k j : Nat} (h : j < k) : (numsI d k)[j]? = some (.int .i64 ((j * d : Nat) : Int)) := by
  unfold numsI
  rw [List.getElem?_map, List.getElem?_range h]; rfl
theorem info_intB : (Try.prog.info? 3).map (fun i => (i.zero, i.size, i.bytes)) = some (some (.int .i64 0), 1, 8) := by kernel_rfl
theorem nums_cells {w : World} {B d k c : Nat} {p : Option Addr} (h : w.ownsRow B 3 1 (.slice p k c) k (numsI d k)) : k ≤ c ∧ c ≤ 9223372036854775807 ∧ ∀ j, j < k → ∃ b, p = some ⟨b, 0, none⟩ ∧ w.cell? ⟨b, j, none⟩ = some (.int .i64 ((j * d : Nat) : Int)) := by
  rcases h.2 with ⟨e, hz⟩ | ⟨g, cap, cur, e, hg, hb, hn, hm, hs, ht⟩
  · simp only [Value.slice.injEq] at e
    obtain ⟨rfl, rfl, rfl⟩ := e
    exact ⟨Nat.le_refl _, by omega, fun j hj => absurd hj (by omega)⟩
  · simp only [Value.slice.injEq, true_and] at e
    obtain ⟨rfl, rfl⟩ := e
    refine ⟨hn, hm, fun j hj => ⟨g, rfl, ?_⟩⟩
    exact (World.ownsRow.cellAt h j (by omega)).trans (numsI_at d hj)
/-- What Seek answers. -/
def SeekD (L : List UInt8) (k : ByteArray) (q : Nat) (w : World) (e : Ending) (w' : World) : Prop :=
  (∃ l d a c b o, IsB L l d ∧ e = .returned (.tuple #[.slice a (l.length - plc l k q) c, .int .i64 0]) ∧ Rs a (l.length - plc l k q) c b o (l.drop (plc l k q)) w' ∧ Below w.heap.size w w') ∨
  ((∀ l d, ¬ IsB L l d) ∧ e = .returned (.tuple #[.slice none 0 0, .int .i64 7]) ∧ Below w.heap.size w w')
end Go.Proofs.Ytmjakkemiiigpaa
/-
  The contract of Rows, and the law's own answer that the document fixes: true. No condition.
-/
namespace Go.Proofs.Ytmjakkemiiigpaa
set_option maxRecDepth 100000
open Go.RowKit
/-- What Rows answers. -/
def RowsD (L : List UInt8) (w : World) (e : Ending) (w' : World) : Prop :=
  (∃ l d a c b, IsB L l d ∧ e = .returned (.tuple #[.slice a l.length c, .int .i64 0]) ∧ Rs a l.length c b 0 l w' ∧ (0 < l.length → w.heap.size ≤ b) ∧ Below w.heap.size w w') ∨
  ((∀ l d, ¬ IsB L l d) ∧ e = .returned (.tuple #[.slice none 0 0, .int .i64 7]) ∧ Below w.heap.size w w')
set_option maxRecDepth 100000 in
set_option maxHeartbeats 2000000 in
theorem rows_any (L : List UInt8) (hL : L.length ≤ 1048576) (w : World) :
    Calls Try.prog 29 #[.string ⟨L.toArray⟩] w (RowsD L w) := by
  have D := Lib.hid (decode_any L hL w)
  go_enter Try.func29, Try.ntmps29
  go_wp2_with fail
  refine D.out.mono ?_
  rintro e w1 (⟨l, d, a, c, b, hB, rfl, hRs, hb, hw⟩ | ⟨hno, rfl, hw⟩)
  · have K := Lib.hid (show RowsD L w (.returned (.tuple #[.slice a l.length c, .int .i64 0])) w1 from .inl ⟨l, d, a, c, b, hB, rfl, hRs, hb, hw⟩)
    clear hB hRs hb hw
    go_wp2_with fail
    go_returns
    exact K.out
  · have K := Lib.hid (show RowsD L w (.returned (.tuple #[.slice none 0 0, .int .i64 7])) w1 from .inr ⟨hno, rfl, hw⟩)
    clear hno hw
    go_wp2_with fail
    go_returns
    exact K.out
def aw1 : Rw := ⟨⟨#[97, 98]⟩, 2, 1, ⟨#[120]⟩⟩
def aw2 : Rw := ⟨⟨#[97, 98]⟩, 1, 2, ⟨#[]⟩⟩
def aw3 : Rw := ⟨⟨#[98]⟩, 1, 1, ⟨#[]⟩⟩
theorem aw_ord : ordR [aw1, aw2, aw3] = true := by
  have e1 : ahd aw1 aw2.key aw2.seq = true := by unfold ahd aw1 aw2; simp [toL]
  have e2 : ahd aw2 aw3.key aw3.seq = true := by
    unfold ahd aw2 aw3
    rw [if_neg (by rw [toL, toL]; decide), toL, toL]
    decide
  simp [ordR, e1, e2]
theorem aw_chk : chkA [aw1, aw2, aw3] 16 = 0 := chkA_zero (d := 16) (by decide) (by decide) aw_ord (by
  intro x hx
  simp only [List.mem_cons, List.not_mem_nil, or_false] at hx
  rcases hx with rfl | rfl | rfl <;> decide) (by decide)
theorem aw_blk : blkB 16 [aw1, aw2, aw3] = [0, 2, 97, 98, 2, 1, 1, 120, 2, 0, 1, 2, 0, 1, 98, 1, 1, 0, 0, 0, 0, 0, 1, 0, 0, 0, 16, 0, 0, 0] := by
  have k1 : aw1.key.toList = [97, 98] := toL [97, 98]
  have k2 : aw2.key.toList = [97, 98] := toL [97, 98]
  have k3 : aw3.key.toList = [98] := toL [98]
  have v1 : aw1.val.toList = [120] := toL [120]
  have v3 : aw3.val.toList = [] := toL []
  have i0 : encI 16 [aw1, aw2, aw3] 0 = [0, 2, 97, 98, 2, 1, 1, 120] := by
    unfold encI prvB
    rw [if_pos (by decide)]
    show encX [] aw1 = _
    unfold encX valB
    rw [k1, v1, com_nil, if_pos (by decide)]
    rw [show aw1.seq = 2 by rfl, show aw1.val.size = 1 by rfl, show aw1.kind = 1 by rfl]
    rw [show ([97, 98] : List UInt8).drop 0 = [97, 98] by rfl, Code.uvar_small (n := 0) (by decide), Code.uvar_small (n := 2) (by decide), Code.uvar_small (n := 1) (by decide), show ([97, 98] : List UInt8).length = 2 by rfl, Code.uvar_small (n := 2) (by decide)]
    rfl
  have i1 : encI 16 [aw1, aw2, aw3] 1 = [2, 0, 1, 2] := by
    unfold encI prvB
    rw [if_neg (by decide)]
    show encX aw1.key.toList aw2 = _
    unfold encX valB
    rw [k1, k2, show com [97, 98] [97, 98] = 2 by decide, if_neg (by decide)]
    rw [show aw2.seq = 1 by rfl, show aw2.kind = 2 by rfl]
    rw [show ([97, 98] : List UInt8).drop 2 = [] by rfl, Code.uvar_small (n := 2) (by decide), Code.uvar_small (n := 1) (by decide), show ([] : List UInt8).length = 0 by rfl, Code.uvar_small (n := 0) (by decide)]
    rfl
  have i2 : encI 16 [aw1, aw2, aw3] 2 = [0, 1, 98, 1, 1, 0] := by
    unfold encI prvB
    rw [if_neg (by decide)]
    show encX aw2.key.toList aw3 = _
    unfold encX valB
    rw [k2, k3, v3, show com [97, 98] [98] = 0 by decide, if_pos (by decide)]
    rw [show aw3.seq = 1 by rfl, show aw3.val.size = 0 by rfl, show aw3.kind = 1 by rfl]
    rw [show ([98] : List UInt8).drop 0 = [98] by rfl, Code.uvar_small (n := 0) (by decide), Code.uvar_small (n := 1) (by decide), show ([98] : List UInt8).length = 1 by rfl, Code.uvar_small (n := 1) (by decide)]
    rfl
  have b0 : bodB 16 [aw1, aw2, aw3] 0 = [] := rfl
  have b3 : bodB 16 [aw1, aw2, aw3] 3 = [0, 2, 97, 98, 2, 1, 1, 120, 2, 0, 1, 2, 0, 1, 98, 1, 1, 0] := by
    rw [bodB_snoc, bodB_snoc, bodB_snoc, b0, i0, i1, i2]; rfl
  have r3 : rstB 16 [aw1, aw2, aw3] 3 = [0, 0, 0, 0] := by
    rw [rstB_snoc, rstB_snoc, rstB_snoc, b0]
    rw [if_pos (by decide), if_neg (by decide), if_neg (by decide)]
    rfl
  show bodB 16 [aw1, aw2, aw3] 3 ++ tailB (rstB 16 [aw1, aw2, aw3] 3) 16 = _
  rw [b3, r3]
  rfl
theorem aw_build : buildB [aw1, aw2, aw3] 16 = ([0, 2, 97, 98, 2, 1, 1, 120, 2, 0, 1, 2, 0, 1, 98, 1, 1, 0, 0, 0, 0, 0, 1, 0, 0, 0, 16, 0, 0, 0], 0) := by
  unfold buildB
  rw [aw_chk, if_neg (by simp), show (16 : Int).toNat = 16 from rfl, aw_blk, if_neg (by decide)]
theorem aw_none : ∀ l d, ¬ IsB [0, 0, 0, 0, 0, 0, 0, 0] l d := fun l d h => by
  have := ptB_isB h
  rw [show ptB [0, 0, 0, 0, 0, 0, 0, 0] = none by decide] at this
  cases this
theorem aw_rs (w : World) : Rs (some ⟨w.heap.size, 0, none⟩) 3 3 w.heap.size 0 [aw1, aw2, aw3] (w.alloc (.cells #[.string ⟨#[97, 98]⟩, .int .u64 2, .int .i64 1, .string ⟨#[120]⟩, .string ⟨#[97, 98]⟩, .int .u64 1, .int .i64 2, .string ⟨#[]⟩, .string ⟨#[98]⟩, .int .u64 1, .int .i64 1, .string ⟨#[]⟩] 39)) := by
  refine ⟨rfl, Nat.le_refl _, by omega, fun _ => ⟨rfl, by simp⟩, fun j x hx => ?_⟩
  have hj : j < 3 := (List.getElem?_eq_some_iff.1 hx).1
  rcases (show j = 0 ∨ j = 1 ∨ j = 2 by omega) with rfl | rfl | rfl
  all_goals (
    simp only [List.getElem?_cons_zero, List.getElem?_cons_succ, Option.some.injEq] at hx
    subst hx
    refine ⟨?_, ?_, ?_, ?_⟩ <;> (rw [World.cell?_alloc_new]; rfl))
end Go.Proofs.Ytmjakkemiiigpaa
/-
  What Build has made: a block, or nothing. No model's run in this text. No condition.
-/
namespace Go.Proofs.Ytmjakkemiiigpaa
set_option maxRecDepth 100000
open Go.RowKit
theorem buildB_err {l : List Rw} {d : Int} (h : (buildB l d).2 ≠ 0) : (buildB l d).1 = [] := by
  unfold buildB at h ⊢
  split
  · rfl
  · rename_i h1
    rw [if_neg h1] at h
    split at h
    · rename_i h2; rw [if_pos h2]
    · exact absurd rfl h
theorem buildB_ok {l : List Rw} {d : Int} (h : (buildB l d).2 = 0) : chkA l d = 0 ∧ (blkB d.toNat l).length ≤ 65536 ∧ (buildB l d).1 = blkB d.toNat l := by
  unfold buildB at h ⊢
  by_cases h1 : chkA l d = 0
  · rw [if_neg (by simpa using h1)] at h ⊢
    split at h
    · cases h
    · rename_i h2; rw [if_neg h2]; exact ⟨h1, by omega, rfl⟩
  · rw [if_pos h1] at h
    exact absurd h h1
theorem buildB_isB' {l : List Rw} {d : Int} (h : (buildB l d).2 = 0) : ∃ D : Nat, d = (D : Int) ∧ IsB (buildB l d).1 l D := by
  obtain ⟨h1, h2, h3⟩ := buildB_ok h
  obtain ⟨k1, _⟩ := chkA_ok h1
  refine ⟨d.toNat, by omega, ?_, h3, by rw [h3]; exact h2⟩
  rw [show ((d.toNat : Nat) : Int) = d by omega]
  exact h1
theorem SeekD.yes {L : List UInt8} {l : List Rw} {D q : Nat} {k : ByteArray} {w w' : World} {e : Ending} (h : SeekD L k q w e w') (hB : IsB L l D) : ∃ a c b o, e = .returned (.tuple #[.slice a (l.length - plc l k q) c, .int .i64 0]) ∧ Rs a (l.length - plc l k q) c b o (l.drop (plc l k q)) w' ∧ Below w.heap.size w w' := by
  rcases h with ⟨l', d', a, c, b, o, h1, h2⟩ | ⟨hno, _⟩
  · obtain ⟨rfl, rfl⟩ := isB_one hB h1
    exact ⟨a, c, b, o, h2⟩
  · exact absurd hB (hno l D)
theorem RowsD.yes {L : List UInt8} {l : List Rw} {D : Nat} {w w' : World} {e : Ending} (h : RowsD L w e w') (hB : IsB L l D) : ∃ a c b, e = .returned (.tuple #[.slice a l.length c, .int .i64 0]) ∧ Rs a l.length c b 0 l w' ∧ Below w.heap.size w w' := by
  rcases h with ⟨l', d', a, c, b, h1, h2, h3, _, h4⟩ | ⟨hno, _⟩
  · obtain ⟨rfl, rfl⟩ := isB_one hB h1
    exact ⟨a, c, b, h2, h3, h4⟩
  · exact absurd hB (hno l D)
end Go.Proofs.Ytmjakkemiiigpaa
/-
  The contract of read: a data block's rows. Condition: at most 1048576 bytes.
-/
namespace Go.Proofs.Ytmjakkemiiigpaa
set_option maxRecDepth 100000
open Go.RowKit
/-- These are a data block's rows. -/
def ReadP (p : Pt) (l : List Rw) : Prop := ∃ s d, pay p.byt = some s ∧ IsB s l d ∧ enOf l = p.en
theorem readP_one {p : Pt} {l l' : List Rw} (h : ReadP p l) (h' : ReadP p l') : l = l' := by
  obtain ⟨s, d, h1, h2, _⟩ := h
  obtain ⟨s', d', h1', h2', _⟩ := h'
  rw [h1] at h1'
  cases h1'
  exact (isB_one h2 h2').1
theorem RowsD.yes2 {L : List UInt8} {l : List Rw} {D : Nat} {w w' : World} {e : Ending} (h : RowsD L w e w') (hB : IsB L l D) : ∃ a c b, e = .returned (.tuple #[.slice a l.length c, .int .i64 0]) ∧ Rs a l.length c b 0 l w' ∧ (0 < l.length → w.heap.size ≤ b) ∧ Below w.heap.size w w' := by
  rcases h with ⟨l', d', a, c, b, h1, h2⟩ | ⟨hno, _⟩
  · obtain ⟨rfl, rfl⟩ := isB_one hB h1
    exact ⟨a, c, b, h2⟩
  · exact absurd hB (hno l D)
theorem RowsD.none {L : List UInt8} {w w' : World} {e : Ending} (h : RowsD L w e w') (hno : ∀ l d, ¬ IsB L l d) : e = .returned (.tuple #[.slice none 0 0, .int .i64 7]) ∧ Below w.heap.size w w' := by
  rcases h with ⟨l', d', a, c, b, h1, _⟩ | ⟨_, h2, h3⟩
  · exact absurd h1 (hno l' d')
  · exact ⟨h2, h3⟩
def ReadD (p : Pt) (w : World) (e : Ending) (w' : World) : Prop :=
  (∃ l a c b, ReadP p l ∧ e = .returned (.tuple #[.slice a l.length c, .int .i64 0]) ∧ Rs a l.length c b 0 l w' ∧ (0 < l.length → w.heap.size ≤ b) ∧ Below w.heap.size w w') ∨
  ((∀ l, ¬ ReadP p l) ∧ e = .returned (.tuple #[.slice none 0 0, .int .i64 10]) ∧ Below w.heap.size w w')
theorem en_eq (x y : En) : x = y ↔ x.fst.toList = y.fst.toList ∧ x.lst.toList = y.lst.toList ∧ (x.seq : Int) = (y.seq : Int) ∧ (x.cnt : Int) = (y.cnt : Int) := by
  obtain ⟨a, b, c, d⟩ := x
  obtain ⟨a', b', c', d'⟩ := y
  simp only [En.mk.injEq]
  exact ⟨fun ⟨h1, h2, h3, h4⟩ => ⟨by rw [h1], by rw [h2], by omega, by omega⟩, fun ⟨h1, h2, h3, h4⟩ => ⟨bytes_inj h1, bytes_inj h2, by omega, by omega⟩⟩
theorem neq_en (x y : En) (B : Bool) (hB : B = true ↔ ¬ x = y) (u : World) : (binOp .neq 78 (enV x) (enV y)).run Try.prog u = .ok (.bool B) u := by
  rw [en_eq] at hB
  obtain ⟨a, b, c, d⟩ := x
  obtain ⟨a', b', c', d'⟩ := y
  simp only at hB
  go_simp
  by_cases h1 : a.toList = a'.toList
  · by_cases h2 : b.toList = b'.toList
    · by_cases h3 : (c : Int) = (c' : Int)
      · by_cases h4 : (d : Int) = (d' : Int)
        · have : B = false := by cases B <;> simp_all
          simp [h1, h2, h3, h4, this]
        · have : B = true := hB.2 (fun h => h4 h.2.2.2)
          simp [h1, h2, h3, h4, this]
      · have : B = true := hB.2 (fun h => h3 h.2.2.1)
        simp [h1, h2, h3, this]
    · have : B = true := hB.2 (fun h => h2 h.2.1)
      simp [h1, h2, this]
  · have : B = true := hB.2 (fun h => h1 h.1)
    simp [h1, this]
/-- A part in a box. -/
def Box5 (b : Nat) (p : Pt) (w : World) : Prop := w.heap[b]? = some (.cells #[.string ⟨p.byt.toArray⟩, .string p.en.fst, .string p.en.lst, .int .u64 (p.en.seq : Int), .int .i64 (p.en.cnt : Int)] 80 (0, 0))
theorem Box5.new (p : Pt) (w : World) : Box5 w.heap.size p (w.alloc (.cells #[.string ⟨p.byt.toArray⟩, .string p.en.fst, .string p.en.lst, .int .u64 (p.en.seq : Int), .int .i64 (p.en.cnt : Int)] 80)) := heap_alloc_new _ _
theorem Box5.below {b : Nat} {p : Pt} {w w' : World} (h : Box5 b p w) (hb : Below w.heap.size w w') : Box5 b p w' := (hb.block b (Array.getElem?_eq_some_iff.1 h).1).trans h
theorem Box5.cells {b : Nat} {p : Pt} {w : World} (h : Box5 b p w) : w.cell? ⟨b, 0, none⟩ = some (.string ⟨p.byt.toArray⟩) ∧ w.cell? ⟨b, 1, none⟩ = some (.string p.en.fst) ∧ w.cell? ⟨b, 2, none⟩ = some (.string p.en.lst) ∧ w.cell? ⟨b, 3, none⟩ = some (.int .u64 (p.en.seq : Int)) ∧ w.cell? ⟨b, 4, none⟩ = some (.int .i64 (p.en.cnt : Int)) := by
  unfold Box5 at h
  simp [World.cell?, h]
set_option maxRecDepth 100000 in
set_option maxHeartbeats 8000000 in
theorem read_any (p : Pt) (hp : p.byt.length ≤ 1048576) (w : World) : Calls Try.prog 40 #[partV p] w (ReadD p w) := by
  have X0 := Lib.hid (Box5.new p w)
  have W0 := Lib.hid (below_alloc w (.cells #[.string ⟨p.byt.toArray⟩, .string p.en.fst, .string p.en.lst, .int .u64 (p.en.seq : Int), .int .i64 (p.en.cnt : Int)] 80))
  have PC := Lib.hid (fun u => payload_any p.byt hp u)
  unfold ReadD ReadP
  cases hpay : pay p.byt with
  | none =>
    have hno : Hid (∀ l, ¬ ∃ s d, (none : Option (List UInt8)) = some s ∧ IsB s l d ∧ enOf l = p.en) := Lib.hid (fun l ⟨s, d, h, _⟩ => by cases h)
    have hf := pay_no hpay
    obtain ⟨⟨S, T⟩, hR⟩ := named (payR p.byt)
    rw [← hR.out] at PC hf
    simp only at PC hf
    subst hf
    obtain ⟨L, ⟨ef, el, es, ec⟩⟩ := p
    simp only at PC X0 W0 hno
    obtain ⟨c0, c1, c2, c3, c4⟩ := X0.out.cells
    simp only at c0 c1 c2 c3 c4
    clear hpay hR
    go_enter Try.func40, Try.ntmps40
    go_wp2_with (go_at_call 27; ((with_reducible refine (PC.out _).mono ?_); rintro e w1 ⟨rfl, hb1⟩; have B1 := Lib.hid (below_of W0.out hb1); clear hb1))
    go_returns
    exact .inr ⟨hno.out, rfl, B1.out⟩
  | some s =>
    rw [pay_yes hpay] at PC
    simp only at PC
    have hs : s.length ≤ 65536 := by
      unfold pay at hpay
      split at hpay
      · rename_i h
        cases hpay
        exact (Frame.put_get _ h.1).2.2.1
      · cases hpay
    have RC := Lib.hid (fun u => rows_any s (by omega) u)
    by_cases hB : ∃ l d, IsB s l d
    · obtain ⟨l, d, hB⟩ := hB
      have hB := Lib.hid hB
      obtain ⟨n, hn⟩ := named l.length
      have EC : Hid (∀ (a : Option Addr) (c b : Nat) (u : World), Rs a n c b 0 l u → Calls Try.prog 48 #[.slice a n c] u fun e w' => e = .returned (enV (enOf l)) ∧ Below u.heap.size u w') := Lib.hid (fun a c b u h => entryOf_any h)
      by_cases hen : enOf l = p.en
      · have NE := fun u => neq_en (enOf l) p.en false (by simp [hen]) u
        have hyes : Hid (∃ s' d', (some s : Option (List UInt8)) = some s' ∧ IsB s' l d' ∧ enOf l = p.en) := Lib.hid ⟨s, d, rfl, hB.out, hen⟩
        replace hen := Lib.hid hen
        obtain ⟨ef1, hE1⟩ := named (enOf l)
        rw [← hE1.out] at EC NE hyes
        obtain ⟨L, ⟨ef, el, es, ec⟩⟩ := p
        obtain ⟨yf, yl, ys, yc⟩ := ef1
        simp only at PC X0 W0 hyes NE EC
        obtain ⟨c0, c1, c2, c3, c4⟩ := X0.out.cells
        simp only at c0 c1 c2 c3 c4
        clear hpay hen
        go_enter Try.func40, Try.ntmps40
        go_upto_region 5 with (first
          | (go_at_call 27; ((with_reducible refine (PC.out _).mono ?_); rintro e w1 ⟨rfl, hb1⟩; have X1 := Lib.hid (X0.out.below hb1); have B1 := Lib.hid (below_of W0.out hb1); clear hb1 X0 c0 c1 c2 c3 c4))
          | (go_at_call 29; ((with_reducible refine (RC.out _).mono ?_); rintro e w2 hh; obtain ⟨a2, c2', b2, rfl, hR2, hlo2, hb2⟩ := hh.yes2 hB.out; rw [← hn.out] at hR2 hlo2 ⊢; have L2 := Lib.hid hlo2; clear hlo2; have R2 := Lib.hid hR2; have X2 := Lib.hid (X1.out.below hb2); have B2 := Lib.hid (below_of B1.out hb2); clear hb2 hR2 X1))
          | fail "no arm")
        obtain ⟨c0, c1, c2, c3, c4⟩ := X2.out.cells
        simp only at c0 c1 c2 c3 c4
        refine wp_region_held_drew (S := (fun v => (v.cell? ⟨w.heap.size, 1, none⟩ = some (.string ef) ∧ v.cell? ⟨w.heap.size, 2, none⟩ = some (.string el) ∧ v.cell? ⟨w.heap.size, 3, none⟩ = some (.int .u64 (es : Int)) ∧ v.cell? ⟨w.heap.size, 4, none⟩ = some (.int .i64 (ec : Int))) ∧ Below w2.heap.size w2 v)) (by kernel_rfl) (⟨⟨c1, c2, c3, c4⟩, (Below.refl _ w2).drew⟩) (fun hHeld => ?_)
        refine held_take (i := 0) (v := ?_) rfl (by kernel_rfl) (by kernel_rfl) (by kernel_rfl) (fun _ _ _ h => h) (by rfl) (fun w hSw => ?_) (by assumption) ?_; rotate_left 1; focus (((try dsimp only at hSw); first | (go_simp; done) | (go_simp; with_reducible rfl)))
        try simp only [Act.put, List.setIfInBounds_toArray, List.set_cons_zero, List.set_cons_succ]
        refine held_take (i := 1) (v := ?_) rfl (by kernel_rfl) (by kernel_rfl) (by kernel_rfl) (fun _ _ _ h => h) (by rfl) (fun w hSw => ?_) (by assumption) ?_; rotate_left 1; focus (((try dsimp only at hSw); first | (go_simp; done) | (go_simp; with_reducible rfl)))
        try simp only [Act.put, List.setIfInBounds_toArray, List.set_cons_zero, List.set_cons_succ]
        refine held_take (i := 2) (v := ?_) rfl (by kernel_rfl) (by kernel_rfl) (by kernel_rfl) (fun _ _ _ h => h) (by rfl) (fun w hSw => ?_) (by assumption) ?_; rotate_left 1; focus (((try dsimp only at hSw); first | (go_simp; done) | (go_simp; with_reducible rfl)))
        try simp only [Act.put, List.setIfInBounds_toArray, List.set_cons_zero, List.set_cons_succ]
        refine held_take (i := 3) (v := ?_) rfl (by kernel_rfl) (by kernel_rfl) (by kernel_rfl) (fun _ _ _ h => h) (by rfl) (fun w hSw => ?_) (by assumption) ?_; rotate_left 1; focus (((try dsimp only at hSw); first | (go_simp; done) | (go_simp; with_reducible rfl)))
        try simp only [Act.put, List.setIfInBounds_toArray, List.set_cons_zero, List.set_cons_succ]
        refine held_take (i := 5) (v := ?_) rfl (by kernel_rfl) (by kernel_rfl) (by kernel_rfl) (fun _ _ _ h => h) (by rfl) (fun w hSw => ?_) (by assumption) ?_; rotate_left 1; focus (((try dsimp only at hSw); first | (go_simp; done) | (go_simp; with_reducible rfl)))
        try simp only [Act.put, List.setIfInBounds_toArray, List.set_cons_zero, List.set_cons_succ]
        refine held_take (i := 6) (v := ?_) rfl (by kernel_rfl) (by kernel_rfl) (by kernel_rfl) (fun _ _ _ h => h) (by rfl) (fun w hSw => ?_) (by assumption) ?_; rotate_left 1; focus (((try dsimp only at hSw); first | (go_simp; done) | (go_simp; with_reducible rfl)))
        try simp only [Act.put, List.setIfInBounds_toArray, List.set_cons_zero, List.set_cons_succ]
        refine held_call (i := 4) (by kernel_rfl) rfl (by rfl) (fun K hK => ?_)
        go_simp
        refine (EC.out _ _ _ _ (R2.out.below hHeld.2 (Nat.le_refl _))).mono ?_
        rintro e u1 ⟨rfl, hb1⟩
        refine hK.out _ _ (⟨⟨cell_keep hb1 hHeld.1.1, cell_keep hb1 hHeld.1.2.1, cell_keep hb1 hHeld.1.2.2.1, cell_keep hb1 hHeld.1.2.2.2⟩, below_of hHeld.2 hb1⟩) (fun hHeld => ?_)
        try simp only [Act.put, List.setIfInBounds_toArray, List.set_cons_zero, List.set_cons_succ]
        refine held_take (i := 7) (v := ?_) rfl (by kernel_rfl) (by kernel_rfl) (by kernel_rfl) (fun _ _ _ h => h) (by rfl) (fun w hSw => ?_) (by assumption) ?_; rotate_left 1; focus (((try dsimp only at hSw); first | (go_simp; done) | (go_simp; with_reducible rfl)))
        try simp only [Act.put, List.setIfInBounds_toArray, List.set_cons_zero, List.set_cons_succ]
        refine held_take (i := 8) (v := ?_) rfl (by kernel_rfl) (by kernel_rfl) (by kernel_rfl) (fun _ _ _ h => h) (by rfl) (fun w hSw => ?_) (by assumption) ?_; rotate_left 1; focus (((try dsimp only at hSw); first | (go_simp; done) | (go_simp; with_reducible rfl)))
        try simp only [Act.put, List.setIfInBounds_toArray, List.set_cons_zero, List.set_cons_succ]
        refine wpAnyH_done (by kernel_rfl) ?_ _
        go_wp2_with fail
        go_returns
        exact .inl ⟨l, a2, c2', b2, by rw [← hE1.out]; exact hyes.out, by rw [← hn.out]; rfl, by rw [← hn.out]; exact R2.out.below hHeld.2 (Nat.le_refl _), fun h => Nat.le_trans B1.out.size (L2.out (by rw [hn.out]; exact h)), below_of B2.out hHeld.2⟩
      · have NE := fun u => neq_en (enOf l) p.en true (by simpa using hen) u
        have hno : Hid (∀ l', ¬ ∃ s' d', (some s : Option (List UInt8)) = some s' ∧ IsB s' l' d' ∧ enOf l' = p.en) := Lib.hid (fun l' ⟨s', d', h1, h2, h3⟩ => by cases h1; rw [(isB_one hB.out h2).1] at hen; exact hen h3)
        replace hen := Lib.hid hen
        obtain ⟨ef1, hE1⟩ := named (enOf l)
        rw [← hE1.out] at EC NE
        obtain ⟨L, ⟨ef, el, es, ec⟩⟩ := p
        obtain ⟨yf, yl, ys, yc⟩ := ef1
        simp only at PC X0 W0 hno NE EC
        obtain ⟨c0, c1, c2, c3, c4⟩ := X0.out.cells
        simp only at c0 c1 c2 c3 c4
        clear hpay hen
        go_enter Try.func40, Try.ntmps40
        go_upto_region 5 with (first
          | (go_at_call 27; ((with_reducible refine (PC.out _).mono ?_); rintro e w1 ⟨rfl, hb1⟩; have X1 := Lib.hid (X0.out.below hb1); have B1 := Lib.hid (below_of W0.out hb1); clear hb1 X0 c0 c1 c2 c3 c4))
          | (go_at_call 29; ((with_reducible refine (RC.out _).mono ?_); rintro e w2 hh; obtain ⟨a2, c2', b2, rfl, hR2, hlo2, hb2⟩ := hh.yes2 hB.out; rw [← hn.out] at hR2 hlo2 ⊢; have L2 := Lib.hid hlo2; clear hlo2; have R2 := Lib.hid hR2; have X2 := Lib.hid (X1.out.below hb2); have B2 := Lib.hid (below_of B1.out hb2); clear hb2 hR2 X1))
          | fail "no arm")
        obtain ⟨c0, c1, c2, c3, c4⟩ := X2.out.cells
        simp only at c0 c1 c2 c3 c4
        refine wp_region_held_drew (S := (fun v => (v.cell? ⟨w.heap.size, 1, none⟩ = some (.string ef) ∧ v.cell? ⟨w.heap.size, 2, none⟩ = some (.string el) ∧ v.cell? ⟨w.heap.size, 3, none⟩ = some (.int .u64 (es : Int)) ∧ v.cell? ⟨w.heap.size, 4, none⟩ = some (.int .i64 (ec : Int))) ∧ Below w2.heap.size w2 v)) (by kernel_rfl) (⟨⟨c1, c2, c3, c4⟩, (Below.refl _ w2).drew⟩) (fun hHeld => ?_)
        refine held_take (i := 0) (v := ?_) rfl (by kernel_rfl) (by kernel_rfl) (by kernel_rfl) (fun _ _ _ h => h) (by rfl) (fun w hSw => ?_) (by assumption) ?_; rotate_left 1; focus (((try dsimp only at hSw); first | (go_simp; done) | (go_simp; with_reducible rfl)))
        try simp only [Act.put, List.setIfInBounds_toArray, List.set_cons_zero, List.set_cons_succ]
        refine held_take (i := 1) (v := ?_) rfl (by kernel_rfl) (by kernel_rfl) (by kernel_rfl) (fun _ _ _ h => h) (by rfl) (fun w hSw => ?_) (by assumption) ?_; rotate_left 1; focus (((try dsimp only at hSw); first | (go_simp; done) | (go_simp; with_reducible rfl)))
        try simp only [Act.put, List.setIfInBounds_toArray, List.set_cons_zero, List.set_cons_succ]
        refine held_take (i := 2) (v := ?_) rfl (by kernel_rfl) (by kernel_rfl) (by kernel_rfl) (fun _ _ _ h => h) (by rfl) (fun w hSw => ?_) (by assumption) ?_; rotate_left 1; focus (((try dsimp only at hSw); first | (go_simp; done) | (go_simp; with_reducible rfl)))
        try simp only [Act.put, List.setIfInBounds_toArray, List.set_cons_zero, List.set_cons_succ]
        refine held_take (i := 3) (v := ?_) rfl (by kernel_rfl) (by kernel_rfl) (by kernel_rfl) (fun _ _ _ h => h) (by rfl) (fun w hSw => ?_) (by assumption) ?_; rotate_left 1; focus (((try dsimp only at hSw); first | (go_simp; done) | (go_simp; with_reducible rfl)))
        try simp only [Act.put, List.setIfInBounds_toArray, List.set_cons_zero, List.set_cons_succ]
        refine held_take (i := 5) (v := ?_) rfl (by kernel_rfl) (by kernel_rfl) (by kernel_rfl) (fun _ _ _ h => h) (by rfl) (fun w hSw => ?_) (by assumption) ?_; rotate_left 1; focus (((try dsimp only at hSw); first | (go_simp; done) | (go_simp; with_reducible rfl)))
        try simp only [Act.put, List.setIfInBounds_toArray, List.set_cons_zero, List.set_cons_succ]
        refine held_take (i := 6) (v := ?_) rfl (by kernel_rfl) (by kernel_rfl) (by kernel_rfl) (fun _ _ _ h => h) (by rfl) (fun w hSw => ?_) (by assumption) ?_; rotate_left 1; focus (((try dsimp only at hSw); first | (go_simp; done) | (go_simp; with_reducible rfl)))
        try simp only [Act.put, List.setIfInBounds_toArray, List.set_cons_zero, List.set_cons_succ]
        refine held_call (i := 4) (by kernel_rfl) rfl (by rfl) (fun K hK => ?_)
        go_simp
        refine (EC.out _ _ _ _ (R2.out.below hHeld.2 (Nat.le_refl _))).mono ?_
        rintro e u1 ⟨rfl, hb1⟩
        refine hK.out _ _ (⟨⟨cell_keep hb1 hHeld.1.1, cell_keep hb1 hHeld.1.2.1, cell_keep hb1 hHeld.1.2.2.1, cell_keep hb1 hHeld.1.2.2.2⟩, below_of hHeld.2 hb1⟩) (fun hHeld => ?_)
        try simp only [Act.put, List.setIfInBounds_toArray, List.set_cons_zero, List.set_cons_succ]
        refine held_take (i := 7) (v := ?_) rfl (by kernel_rfl) (by kernel_rfl) (by kernel_rfl) (fun _ _ _ h => h) (by rfl) (fun w hSw => ?_) (by assumption) ?_; rotate_left 1; focus (((try dsimp only at hSw); first | (go_simp; done) | (go_simp; with_reducible rfl)))
        try simp only [Act.put, List.setIfInBounds_toArray, List.set_cons_zero, List.set_cons_succ]
        refine held_take (i := 8) (v := ?_) rfl (by kernel_rfl) (by kernel_rfl) (by kernel_rfl) (fun _ _ _ h => h) (by rfl) (fun w hSw => ?_) (by assumption) ?_; rotate_left 1; focus (((try dsimp only at hSw); first | (go_simp; done) | (go_simp; with_reducible rfl)))
        try simp only [Act.put, List.setIfInBounds_toArray, List.set_cons_zero, List.set_cons_succ]
        refine wpAnyH_done (by kernel_rfl) ?_ _
        go_wp2_with fail
        go_returns
        exact .inr ⟨hno.out, rfl, below_of B2.out hHeld.2⟩
    · have hnB : ∀ l d, ¬ IsB s l d := fun l d h => hB ⟨l, d, h⟩
      have hno : Hid (∀ l', ¬ ∃ s' d', (some s : Option (List UInt8)) = some s' ∧ IsB s' l' d' ∧ enOf l' = p.en) := Lib.hid (fun l' ⟨s', d', h1, h2, h3⟩ => by cases h1; exact hnB _ _ h2)
      replace hnB := Lib.hid hnB
      obtain ⟨L, ⟨ef, el, es, ec⟩⟩ := p
      simp only at PC X0 W0 hno
      obtain ⟨c0, c1, c2, c3, c4⟩ := X0.out.cells
      simp only at c0 c1 c2 c3 c4
      clear hpay hB
      go_enter Try.func40, Try.ntmps40
      go_upto_region 5 with (first
        | (go_at_call 27; ((with_reducible refine (PC.out _).mono ?_); rintro e w1 ⟨rfl, hb1⟩; have B1 := Lib.hid (below_of W0.out hb1); clear hb1))
        | (go_at_call 29; ((with_reducible refine (RC.out _).mono ?_); rintro e w2 hh; obtain ⟨rfl, hb2⟩ := hh.none hnB.out; have B2 := Lib.hid (below_of B1.out hb2); clear hb2))
        | fail "no arm")
      refine wp_region_held_drew (S := (fun v => Below w.heap.size w v)) (by kernel_rfl) (B2.out.drew) (fun hHeld => ?_)
      refine held_take (i := 0) (v := ?_) rfl (by kernel_rfl) (by kernel_rfl) (by kernel_rfl) (fun _ _ _ h => h) (by rfl) (fun w hSw => ?_) (by assumption) ?_; rotate_left 1; focus (((try dsimp only at hSw); first | (go_simp; done) | (go_simp; with_reducible rfl)))
      try simp only [Act.put, List.setIfInBounds_toArray, List.set_cons_zero, List.set_cons_succ]
      refine held_take (i := 1) (v := ?_) rfl (by kernel_rfl) (by kernel_rfl) (by kernel_rfl) (fun _ _ _ h => h) (by rfl) (fun w hSw => ?_) (by assumption) ?_; rotate_left 1; focus (((try dsimp only at hSw); first | (go_simp; done) | (go_simp; with_reducible rfl)))
      try simp only [Act.put, List.setIfInBounds_toArray, List.set_cons_zero, List.set_cons_succ]
      refine held_take (i := 2) (v := ?_) rfl (by kernel_rfl) (by kernel_rfl) (by kernel_rfl) (fun _ _ _ h => h) (by rfl) (fun w hSw => ?_) (by assumption) ?_; rotate_left 1; focus (((try dsimp only at hSw); first | (go_simp; done) | (go_simp; with_reducible rfl)))
      try simp only [Act.put, List.setIfInBounds_toArray, List.set_cons_zero, List.set_cons_succ]
      refine held_skip (i := 3) rfl (by kernel_rfl) (by kernel_rfl) (by kernel_rfl) (fun _ _ _ h => h) (by rfl) (by assumption) ?_
      try simp only [Act.put, List.setIfInBounds_toArray, List.set_cons_zero, List.set_cons_succ]
      refine held_skip (i := 5) rfl (by kernel_rfl) (by kernel_rfl) (by kernel_rfl) (fun _ _ _ h => h) (by rfl) (by assumption) ?_
      try simp only [Act.put, List.setIfInBounds_toArray, List.set_cons_zero, List.set_cons_succ]
      refine held_skip (i := 6) rfl (by kernel_rfl) (by kernel_rfl) (by kernel_rfl) (fun _ _ _ h => h) (by rfl) (by assumption) ?_
      try simp only [Act.put, List.setIfInBounds_toArray, List.set_cons_zero, List.set_cons_succ]
      refine held_skip (i := 4) rfl (by kernel_rfl) (by kernel_rfl) (by kernel_rfl) (fun _ _ _ h => h) (by rfl) (by assumption) ?_
      try simp only [Act.put, List.setIfInBounds_toArray, List.set_cons_zero, List.set_cons_succ]
      refine held_skip (i := 7) rfl (by kernel_rfl) (by kernel_rfl) (by kernel_rfl) (fun _ _ _ h => h) (by rfl) (by assumption) ?_
      try simp only [Act.put, List.setIfInBounds_toArray, List.set_cons_zero, List.set_cons_succ]
      refine held_take (i := 8) (v := ?_) rfl (by kernel_rfl) (by kernel_rfl) (by kernel_rfl) (fun _ _ _ h => h) (by rfl) (fun w hSw => ?_) (by assumption) ?_; rotate_left 1; focus (((try dsimp only at hSw); first | (go_simp; done) | (go_simp; with_reducible rfl)))
      try simp only [Act.put, List.setIfInBounds_toArray, List.set_cons_zero, List.set_cons_succ]
      refine wpAnyH_done (by kernel_rfl) ?_ _
      go_wp2_with fail
      go_returns
      exact .inr ⟨hno.out, rfl, hHeld⟩
end Go.Proofs.Ytmjakkemiiigpaa
/-
  The contracts of Get's closures. No condition.
-/
namespace Go.Proofs.Ytmjakkemiiigpaa
set_option maxRecDepth 100000
open Go.RowKit
/-- A place as a row. -/
abbrev plR (k : ByteArray) (q : Nat) : Rw := ⟨k, q, 0, ⟨#[]⟩⟩
theorem rs_two (w : World) (x y : Rw) : Rs (some ⟨w.heap.size, 0, none⟩) 2 2 w.heap.size 0 [x, y] (w.alloc (.cells #[.string x.key, .int .u64 (x.seq : Int), .int .i64 x.kind, .string x.val, .string y.key, .int .u64 (y.seq : Int), .int .i64 y.kind, .string y.val] 39)) := by
  refine ⟨rfl, Nat.le_refl _, by omega, fun _ => ⟨rfl, by simp⟩, fun j x hx => ?_⟩
  have hj : j < 2 := (List.getElem?_eq_some_iff.1 hx).1
  rcases (show j = 0 ∨ j = 1 by omega) with rfl | rfl
  all_goals (
    simp only [List.getElem?_cons_zero, List.getElem?_cons_succ, Option.some.injEq] at hx
    subst hx
    refine ⟨?_, ?_, ?_, ?_⟩ <;> (rw [World.cell?_alloc_new]; rfl))
theorem ordR_two (x y : Rw) : ordR [x, y] = ahd x y.key y.seq := by simp [ordR]
theorem before_enters : ∀ (args : Array Value) (w : World), (callFunc 35 args).run Try.prog w = .ok (.enter 35 args) w := enters_of Try.func35 (by kernel_rfl) rfl
theorem ent_enters : ∀ (args : Array Value) (w : World), (callFunc 38 args).run Try.prog w = .ok (.enter 38 args) w := enters_of Try.func38 (by kernel_rfl) rfl
theorem rowq_enters : ∀ (args : Array Value) (w : World), (callFunc 42 args).run Try.prog w = .ok (.enter 42 args) w := enters_of Try.func42 (by kernel_rfl) rfl
set_option maxRecDepth 100000 in
set_option maxHeartbeats 4000000 in
theorem before_clo (x : Rw) (k : ByteArray) (q g : Nat) (u : World) (h : RowAt g (plR k q) u) :
    Calls Try.prog 35 #[rowV x, .pointer (some ⟨g, 0, none⟩)] u fun e u' => e = .returned (.bool (ahd x k q)) ∧ Below u.heap.size u u' := by
  have X0 := Lib.hid (RowAt.new x u)
  have W0 := Lib.hid (below_alloc u (.cells #[.string x.key, .int .u64 (x.seq : Int), .int .i64 x.kind, .string x.val] 39))
  have P0 := Lib.hid (h.below W0.out)
  have R0 := Lib.hid (rs_two (u.alloc (.cells #[.string x.key, .int .u64 (x.seq : Int), .int .i64 x.kind, .string x.val] 39)) x (plR k q))
  have W1 := Lib.hid (W0.out.alloc W0.out.size (.cells #[.string x.key, .int .u64 (x.seq : Int), .int .i64 x.kind, .string x.val, .string k, .int .u64 (q : Int), .int .i64 0, .string ⟨#[]⟩] 39))
  obtain ⟨⟨c0, c1, c2, c3⟩, _⟩ := X0.out.cells
  obtain ⟨⟨d0, d1, d2, d3⟩, _⟩ := P0.out.cells
  have OC := Lib.hid (order_any R0.out)
  rw [ordR_two] at OC
  obtain ⟨T, hT⟩ := named (ahd x k q)
  rw [← hT.out] at OC ⊢
  obtain ⟨xk, xs, xi, xv⟩ := x
  simp only at c0 c1 c2 c3 d0 d1 d2 d3 OC W1
  rw [World.size_alloc] at OC
  clear h
  go_enter Try.func35, Try.ntmps35
  go_wp2_with (go_at_call 36; ((with_reducible refine OC.out.mono ?_); rintro e w1 ⟨rfl, hb1⟩))
  go_returns
  exact ⟨rfl, below_of W1.out hb1⟩
set_option maxRecDepth 100000 in
set_option maxHeartbeats 4000000 in
theorem ent_clo (x : En) (k : ByteArray) (q g g1 : Nat) (u : World) (h : RowAt g (plR k q) u) (h1 : u.cell? ⟨g1, 0, none⟩ = some (.func (.func 35) #[] #[.pointer (some ⟨g, 0, none⟩)])) :
    Calls Try.prog 38 #[enV x, .pointer (some ⟨g1, 0, none⟩)] u fun e u' => e = .returned (.bool (ahd (⟨x.lst, x.seq, 0, ⟨#[]⟩⟩ : Rw) k q)) ∧ Below u.heap.size u u' := by
  have X0 := Lib.hid (Box4.new u 78 (.string x.fst) (.string x.lst) (.int .u64 (x.seq : Int)) (.int .i64 (x.cnt : Int)))
  have W0 := Lib.hid (below_alloc u (.cells #[.string x.fst, .string x.lst, .int .u64 (x.seq : Int), .int .i64 (x.cnt : Int)] 78))
  have P0 := Lib.hid (h.below W0.out)
  have f1 := cell_keep W0.out h1
  obtain ⟨⟨c0, c1, c2, c3⟩, _⟩ := X0.out.cells
  have BC := Lib.hid (before_clo (⟨x.lst, x.seq, 0, ⟨#[]⟩⟩ : Rw) k q g _ P0.out)
  obtain ⟨T, hT⟩ := named (ahd (⟨x.lst, x.seq, 0, ⟨#[]⟩⟩ : Rw) k q)
  rw [← hT.out] at BC ⊢
  obtain ⟨xf, xl, xs, xc⟩ := x
  simp only at c0 c1 c2 c3 BC
  clear h h1
  go_enter Try.func38, Try.ntmps38
  go_wp2_with fail
  refine BC.out.mono ?_
  rintro e w1 ⟨rfl, hb1⟩
  go_wp2_with fail
  go_returns
  exact ⟨rfl, below_of W0.out hb1⟩
set_option maxRecDepth 100000 in
set_option maxHeartbeats 4000000 in
theorem rowq_clo {a : Option Addr} {n c b o : Nat} {l : List Rw} (k : ByteArray) (q g g1 g2 : Nat) (u : World) (h : RowAt g (plR k q) u) (h1 : u.cell? ⟨g1, 0, none⟩ = some (.func (.func 35) #[] #[.pointer (some ⟨g, 0, none⟩)]))
    (hR : Rs a n c b o l u) (h2 : u.cell? ⟨g2, 0, none⟩ = some (.slice a n c)) (j : Nat) (x : Rw) (hx : l[j]? = some x) :
    Calls Try.prog 42 #[.int .i64 (j : Int), .pointer (some ⟨g1, 0, none⟩), .pointer (some ⟨g2, 0, none⟩)] u fun e u' => e = .returned (.bool !ahd x k q) ∧ Below u.heap.size u u' := by
  have hj : j < n := by rw [← hR.len]; exact (List.getElem?_eq_some_iff.1 hx).1
  have m0 := hR.most
  have q0 := hR.cap
  obtain ⟨y, hy, rfl, x0, x1, x2, x3⟩ := hR.at4 hj
  rw [hx] at hy
  obtain rfl : x = y := Option.some.inj hy
  have BC := Lib.hid (fun v (hv : Below u.heap.size u v) => before_clo x k q g v (h.below hv))
  obtain ⟨T, hT⟩ := named (ahd x k q)
  rw [← hT.out] at BC ⊢
  obtain ⟨xk, xs, xi, xv⟩ := x
  simp only at x0 x1 x2 x3 BC
  have i0 : (j : Int) < (n : Int) := by omega
  clear hR hx hy
  go_enter Try.func42, Try.ntmps42
  go_upto_region 1 with fail
  refine wp_region_held_drew (S := (fun v => (v.cell? ⟨g1, 0, none⟩ = some (.func (.func 35) #[] #[.pointer (some ⟨g, 0, none⟩)]) ∧ v.cell? ⟨g2, 0, none⟩ = some (.slice (some ⟨b, o, none⟩) n c) ∧ v.cell? ⟨b, o + j * 4, none⟩ = some (.string xk) ∧ v.cell? ⟨b, o + j * 4 + 1, none⟩ = some (.int .u64 (xs : Int)) ∧ v.cell? ⟨b, o + j * 4 + 2, none⟩ = some (.int .i64 xi) ∧ v.cell? ⟨b, o + j * 4 + 3, none⟩ = some (.string xv)) ∧ Below u.heap.size u v)) (by kernel_rfl) (⟨⟨h1, h2, x0, x1, x2, x3⟩, (Below.refl _ u).drew⟩) (fun hHeld => ?_)
  refine held_take (i := 0) (v := ?_) rfl (by kernel_rfl) (by kernel_rfl) (by kernel_rfl) (fun _ _ _ h => h) (by rfl) (fun w hSw => ?_) (by assumption) ?_; rotate_left 1; focus (((try dsimp only at hSw); first | (go_simp; done) | (go_simp; with_reducible rfl)))
  try simp only [Act.put, List.setIfInBounds_toArray, List.set_cons_zero, List.set_cons_succ]
  refine held_take (i := 1) (v := ?_) rfl (by kernel_rfl) (by kernel_rfl) (by kernel_rfl) (fun _ _ _ h => h) (by rfl) (fun w hSw => ?_) (by assumption) ?_; rotate_left 1; focus (((try dsimp only at hSw); first | (go_simp; done) | (go_simp; with_reducible rfl)))
  try simp only [Act.put, List.setIfInBounds_toArray, List.set_cons_zero, List.set_cons_succ]
  refine held_take (i := 2) (v := ?_) rfl (by kernel_rfl) (by kernel_rfl) (by kernel_rfl) (fun _ _ _ h => h) (by rfl) (fun w hSw => ?_) (by assumption) ?_; rotate_left 1; focus (((try dsimp only at hSw); first | (go_simp; done) | (go_simp; with_reducible rfl)))
  try simp only [Act.put, List.setIfInBounds_toArray, List.set_cons_zero, List.set_cons_succ]
  refine held_take (i := 3) (v := ?_) rfl (by kernel_rfl) (by kernel_rfl) (by kernel_rfl) (fun _ _ _ h => h) (by rfl) (fun w hSw => ?_) (by assumption) ?_; rotate_left 1; focus (((try dsimp only at hSw); first | (go_simp; done) | (go_simp; with_reducible rfl)))
  try simp only [Act.put, List.setIfInBounds_toArray, List.set_cons_zero, List.set_cons_succ]
  refine held_take (i := 4) (v := ?_) rfl (by kernel_rfl) (by kernel_rfl) (by kernel_rfl) (fun _ _ _ h => h) (by rfl) (fun w hSw => ?_) (by assumption) ?_; rotate_left 1; focus (((try dsimp only at hSw); first | (go_simp; done) | (go_simp; with_reducible rfl)))
  try simp only [Act.put, List.setIfInBounds_toArray, List.set_cons_zero, List.set_cons_succ]
  refine held_call (i := 5) (by kernel_rfl) rfl (by rfl) (fun K hK => ?_)
  go_simp
  refine (BC.out _ hHeld.2).mono ?_
  rintro e u1 ⟨rfl, hb1⟩
  refine hK.out _ _ (⟨⟨cell_keep hb1 hHeld.1.1, cell_keep hb1 hHeld.1.2.1, cell_keep hb1 hHeld.1.2.2.1, cell_keep hb1 hHeld.1.2.2.2.1, cell_keep hb1 hHeld.1.2.2.2.2.1, cell_keep hb1 hHeld.1.2.2.2.2.2⟩, below_of hHeld.2 hb1⟩) (fun hHeld => ?_)
  try simp only [Act.put, List.setIfInBounds_toArray, List.set_cons_zero, List.set_cons_succ]
  refine held_take (i := 6) (v := ?_) rfl (by kernel_rfl) (by kernel_rfl) (by kernel_rfl) (fun _ _ _ h => h) (by rfl) (fun w hSw => ?_) (by assumption) ?_; rotate_left 1; focus (((try dsimp only at hSw); first | (go_simp; done) | (go_simp; with_reducible rfl)))
  try simp only [Act.put, List.setIfInBounds_toArray, List.set_cons_zero, List.set_cons_succ]
  refine held_take (i := 7) (v := ?_) rfl (by kernel_rfl) (by kernel_rfl) (by kernel_rfl) (fun _ _ _ h => h) (by rfl) (fun w hSw => ?_) (by assumption) ?_; rotate_left 1; focus (((try dsimp only at hSw); first | (go_simp; done) | (go_simp; with_reducible rfl)))
  try simp only [Act.put, List.setIfInBounds_toArray, List.set_cons_zero, List.set_cons_succ]
  refine wpAnyH_done (by kernel_rfl) ?_ _
  go_wp2_with fail
  go_returns
  exact ⟨rfl, hHeld.2⟩
end Go.Proofs.Ytmjakkemiiigpaa
/-
  The contracts of isArg and of what it calls. No condition.
-/
namespace Go.Proofs.Ytmjakkemiiigpaa
set_option maxRecDepth 100000
open Go.RowKit
/-- Options as a value. -/
abbrev optV (B R K : Int) : Value := .agg #[.int .i64 B, .int .i64 R, .int .i64 K]
/-- Options or rows that may not be. -/
def argT (l : List Rw) (B R K : Int) : Bool := decide (B < 64) || decide (16384 < B) || decide (R < 1) || decide (64 < R) || decide (K < 1) || decide (32 < K) || !ordR l || l.any badR
theorem arg_enters : ∀ (args : Array Value) (w : World), (callFunc 44 args).run Try.prog w = .ok (.enter 44 args) w := enters_of Try.func44 (by kernel_rfl) rfl
set_option maxRecDepth 100000 in
set_option maxHeartbeats 2000000 in
theorem argClo_any (x : Rw) (u : World) : Calls Try.prog 44 #[rowV x] u fun e u' => e = .returned (.bool (badR x)) ∧ Below u.heap.size u u' := by
  have X0 := Lib.hid (RowAt.new x u)
  have W0 := Lib.hid (below_alloc u (.cells #[.string x.key, .int .u64 (x.seq : Int), .int .i64 x.kind, .string x.val] 39))
  obtain ⟨⟨c0, c1, c2, c3⟩, _⟩ := X0.out.cells
  have CC := Lib.hid (fun u => chk_any x u)
  have hb : ((chkR x : Int) == 2) = badR x := by
    rw [Bool.eq_iff_iff, beq_iff_eq]
    exact ⟨fun h => chkR_two.1 (by omega), fun h => by rw [chkR_two.2 h]; rfl⟩
  obtain ⟨E, hE⟩ := named (chkR x)
  rw [← hE.out] at CC hb
  obtain ⟨T, hT⟩ := named (badR x)
  rw [← hT.out] at hb ⊢
  obtain ⟨xk, xs, xi, xv⟩ := x
  simp only at c0 c1 c2 c3 CC
  have hb2 := Lib.hid hb
  clear hb
  go_enter Try.func44, Try.ntmps44
  go_wp2_with (go_at_call 45; ((with_reducible refine (CC.out _).mono ?_); rintro e w1 ⟨rfl, hb1⟩))
  go_returns
  exact ⟨by rw [← hb2.out]; rfl, below_of W0.out hb1⟩
set_option maxRecDepth 100000 in
set_option maxHeartbeats 4000000 in
/-- IndexFunc over a closure without captured variables. -/
theorem indexFunc_any (G : FuncId) (hE : ∀ (args : Array Value) (w : World), (callFunc G args).run Try.prog w = .ok (.enter G args) w) (P : Rw → Bool) {a : Option Addr} {n c b o : Nat} {l : List Rw} {w : World} (h : Rs a n c b o l w)
    (hG : ∀ x u, Calls Try.prog G #[rowV x] u fun e u' => e = .returned (.bool (P x)) ∧ Below u.heap.size u u') :
    Calls Try.prog 72 #[.slice a n c, .func (.func G) #[] #[]] w fun e w' => ∃ r : Int, (0 ≤ r ↔ l.any P = true) ∧ -1 ≤ r ∧ e = .returned (.int .i64 r) ∧ Below w.heap.size w w' := by
  have m0 := h.most
  have q0 := h.cap
  have hlen := Lib.hid h.len
  have h := Lib.hid h
  have hG := Lib.hid hG
  go_enter Try.func72, Try.ntmps72
  go_wp2_with fail
  go_loopw [8] (fun d wr => ∃ j : Nat, j ≤ n ∧ d = .int .i64 (j : Int) ∧ Hid (∀ i x, i < j → l[i]? = some x → P x = false) ∧ Hid (Below w.heap.size w wr)) (fun d _ => n - (intOf d).toNat)
  case atStart => exact ⟨0, Nat.zero_le _, rfl, Lib.hid (fun i x hi => absurd hi (by omega)), Lib.hid (Below.refl _ _)⟩
  case round =>
    obtain ⟨j, hj, rfl, hp, hb⟩ := hrel
    by_cases hlt : j < n
    · obtain ⟨x, hx, rfl, x0, x1, x2, x3⟩ := (h.out.below hb.out (Nat.le_refl _)).at4 hlt
      have GC := Lib.hid (hG.out x)
      obtain ⟨T, hT⟩ := named (P x)
      rw [← hT.out] at GC
      have hT := Lib.hid hT.out
      have hx := Lib.hid hx
      obtain ⟨xk, xs, xi, xv⟩ := x
      simp only at x0 x1 x2 x3 GC
      have i0 : (j : Int) < (n : Int) := by omega
      cases T with
      | true =>
        go_wp2_with fail
        refine (GC.out _).mono ?_
        rintro e w2 ⟨rfl, hb2⟩
        go_wp2_with fail
        go_returns
        refine ⟨(j : Int), ⟨fun _ => ?_, fun _ => by omega⟩, by omega, rfl, below_of hb.out hb2⟩
        exact List.any_eq_true.2 ⟨_, List.mem_of_getElem? hx.out, hT.out.symm⟩
      | false =>
        go_wp2_with fail
        refine (GC.out _).mono ?_
        rintro e w2 ⟨rfl, hb2⟩
        have B2 := Lib.hid (below_of hb.out hb2)
        clear hb2
        go_wp2_with fail
        go_roundw
        case rel => exact ⟨j + 1, by omega, by go_num, Lib.hid (fun i y hi hy => by
          rcases Nat.lt_or_ge i j with h1 | h1
          · exact hp.out i y h1 hy
          · obtain rfl : i = j := by omega
            rw [hx.out] at hy; cases hy; exact hT.out.symm), B2⟩
        case measure => simp [intOf]; omega
    · have i0 : ¬ (j : Int) < (n : Int) := by omega
      have hno : Hid (l.any P = false) := Lib.hid (by
        rw [Bool.eq_false_iff]
        intro hc
        obtain ⟨y, hy, hq⟩ := List.any_eq_true.1 hc
        obtain ⟨i, hi, rfl⟩ := List.getElem_of_mem hy
        rw [hp.out i _ (by have := hlen.out; omega) (List.getElem?_eq_getElem hi)] at hq
        cases hq)
      go_wp2_with fail
      go_returns
      exact ⟨-1, ⟨fun h => absurd h (by omega), fun h => by have h2 : l.any P = true := (by first | exact h | exact List.any_eq_true.2 h); rw [hno.out] at h2; cases h2⟩, by omega, rfl, hb.out⟩
set_option maxRecDepth 100000 in
set_option maxHeartbeats 4000000 in
theorem contains_any (G : FuncId) (hE : ∀ (args : Array Value) (w : World), (callFunc G args).run Try.prog w = .ok (.enter G args) w) (P : Rw → Bool) {a : Option Addr} {n c b o : Nat} {l : List Rw} {w : World} (h : Rs a n c b o l w)
    (hG : ∀ x u, Calls Try.prog G #[rowV x] u fun e u' => e = .returned (.bool (P x)) ∧ Below u.heap.size u u') :
    Calls Try.prog 43 #[.slice a n c, .func (.func G) #[] #[]] w fun e w' => e = .returned (.bool (l.any P)) ∧ Below w.heap.size w w' := by
  have IC := Lib.hid (indexFunc_any G hE P h hG)
  obtain ⟨T, hT⟩ := named (l.any P)
  rw [← hT.out] at IC ⊢
  go_enter Try.func43, Try.ntmps43
  go_wp2_with (go_at_call 72; ((with_reducible refine IC.out.mono ?_); rintro e w1 ⟨r, hr, _, rfl, hb1⟩; have hr := Lib.hid hr))
  go_returns
  refine ⟨?_, hb1⟩
  have : decide (0 ≤ r) = T := by rw [Bool.eq_iff_iff, decide_eq_true_iff]; exact hr.out
  rw [← this]; rfl
set_option maxRecDepth 100000 in
set_option maxHeartbeats 2000000 in
theorem isArg_0 {a : Option Addr} {n c b o : Nat} {l : List Rw} {w : World} (h : Rs a n c b o l w) (B R K : Int) (h0 : B < 64) :
    Calls Try.prog 19 #[.slice a n c, optV B R K] w fun e w' => e = .returned (.bool true) ∧ Below w.heap.size w w' := by
  have W0 := Lib.hid (below_alloc w (.cells #[.int .i64 B, .int .i64 R, .int .i64 K] 24))
  clear h
  go_enter Try.func19, Try.ntmps19
  go_wp2_with fail
  go_returns
  exact ⟨rfl, W0.out⟩
set_option maxRecDepth 100000 in
set_option maxHeartbeats 2000000 in
theorem isArg_1 {a : Option Addr} {n c b o : Nat} {l : List Rw} {w : World} (h : Rs a n c b o l w) (B R K : Int) (h0 : ¬ B < 64) (h1 : 16384 < B) :
    Calls Try.prog 19 #[.slice a n c, optV B R K] w fun e w' => e = .returned (.bool true) ∧ Below w.heap.size w w' := by
  have W0 := Lib.hid (below_alloc w (.cells #[.int .i64 B, .int .i64 R, .int .i64 K] 24))
  clear h
  go_enter Try.func19, Try.ntmps19
  go_wp2_with fail
  go_returns
  exact ⟨rfl, W0.out⟩
set_option maxRecDepth 100000 in
set_option maxHeartbeats 2000000 in
theorem isArg_2 {a : Option Addr} {n c b o : Nat} {l : List Rw} {w : World} (h : Rs a n c b o l w) (B R K : Int) (h0 : ¬ B < 64) (h1 : ¬ 16384 < B) (h2 : R < 1) :
    Calls Try.prog 19 #[.slice a n c, optV B R K] w fun e w' => e = .returned (.bool true) ∧ Below w.heap.size w w' := by
  have W0 := Lib.hid (below_alloc w (.cells #[.int .i64 B, .int .i64 R, .int .i64 K] 24))
  clear h
  go_enter Try.func19, Try.ntmps19
  go_wp2_with fail
  go_returns
  exact ⟨rfl, W0.out⟩
set_option maxRecDepth 100000 in
set_option maxHeartbeats 2000000 in
theorem isArg_3 {a : Option Addr} {n c b o : Nat} {l : List Rw} {w : World} (h : Rs a n c b o l w) (B R K : Int) (h0 : ¬ B < 64) (h1 : ¬ 16384 < B) (h2 : ¬ R < 1) (h3 : 64 < R) :
    Calls Try.prog 19 #[.slice a n c, optV B R K] w fun e w' => e = .returned (.bool true) ∧ Below w.heap.size w w' := by
  have W0 := Lib.hid (below_alloc w (.cells #[.int .i64 B, .int .i64 R, .int .i64 K] 24))
  clear h
  go_enter Try.func19, Try.ntmps19
  go_wp2_with fail
  go_returns
  exact ⟨rfl, W0.out⟩
set_option maxRecDepth 100000 in
set_option maxHeartbeats 2000000 in
theorem isArg_4 {a : Option Addr} {n c b o : Nat} {l : List Rw} {w : World} (h : Rs a n c b o l w) (B R K : Int) (h0 : ¬ B < 64) (h1 : ¬ 16384 < B) (h2 : ¬ R < 1) (h3 : ¬ 64 < R) (h4 : K < 1) :
    Calls Try.prog 19 #[.slice a n c, optV B R K] w fun e w' => e = .returned (.bool true) ∧ Below w.heap.size w w' := by
  have W0 := Lib.hid (below_alloc w (.cells #[.int .i64 B, .int .i64 R, .int .i64 K] 24))
  clear h
  go_enter Try.func19, Try.ntmps19
  go_wp2_with fail
  go_returns
  exact ⟨rfl, W0.out⟩
set_option maxRecDepth 100000 in
set_option maxHeartbeats 2000000 in
theorem isArg_5 {a : Option Addr} {n c b o : Nat} {l : List Rw} {w : World} (h : Rs a n c b o l w) (B R K : Int) (h0 : ¬ B < 64) (h1 : ¬ 16384 < B) (h2 : ¬ R < 1) (h3 : ¬ 64 < R) (h4 : ¬ K < 1) (h5 : 32 < K) :
    Calls Try.prog 19 #[.slice a n c, optV B R K] w fun e w' => e = .returned (.bool true) ∧ Below w.heap.size w w' := by
  have W0 := Lib.hid (below_alloc w (.cells #[.int .i64 B, .int .i64 R, .int .i64 K] 24))
  clear h
  go_enter Try.func19, Try.ntmps19
  go_wp2_with fail
  go_returns
  exact ⟨rfl, W0.out⟩
set_option maxRecDepth 100000 in
set_option maxHeartbeats 2000000 in
theorem isArg_6 {a : Option Addr} {n c b o : Nat} {l : List Rw} {w : World} (h : Rs a n c b o l w) (B R K : Int) (h0 : ¬ B < 64) (h1 : ¬ 16384 < B) (h2 : ¬ R < 1) (h3 : ¬ 64 < R) (h4 : ¬ K < 1) (h5 : ¬ 32 < K) (h6 : ordR l = false) :
    Calls Try.prog 19 #[.slice a n c, optV B R K] w fun e w' => e = .returned (.bool true) ∧ Below w.heap.size w w' := by
  have W0 := Lib.hid (below_alloc w (.cells #[.int .i64 B, .int .i64 R, .int .i64 K] 24))
  have R1 := Lib.hid (h.below W0.out (Nat.le_refl _))
  have OC := Lib.hid (order_any R1.out)
  rw [h6] at OC
  clear h
  go_enter Try.func19, Try.ntmps19
  go_wp2_with (go_at_call 36; ((with_reducible refine OC.out.mono ?_); rintro e w1 ⟨rfl, hb1⟩))
  go_returns
  exact ⟨rfl, below_of W0.out hb1⟩
set_option maxRecDepth 100000 in
set_option maxHeartbeats 2000000 in
theorem isArg_7 {a : Option Addr} {n c b o : Nat} {l : List Rw} {w : World} (h : Rs a n c b o l w) (B R K : Int) (h0 : ¬ B < 64) (h1 : ¬ 16384 < B) (h2 : ¬ R < 1) (h3 : ¬ 64 < R) (h4 : ¬ K < 1) (h5 : ¬ 32 < K) (h6 : ordR l = true) :
    Calls Try.prog 19 #[.slice a n c, optV B R K] w fun e w' => e = .returned (.bool (l.any badR)) ∧ Below w.heap.size w w' := by
  have W0 := Lib.hid (below_alloc w (.cells #[.int .i64 B, .int .i64 R, .int .i64 K] 24))
  have R1 := Lib.hid (h.below W0.out (Nat.le_refl _))
  have OC := Lib.hid (order_any R1.out)
  rw [h6] at OC
  have CC := Lib.hid (fun (u : World) (hu : Below (w.alloc (.cells #[.int .i64 B, .int .i64 R, .int .i64 K] 24)).heap.size (w.alloc (.cells #[.int .i64 B, .int .i64 R, .int .i64 K] 24)) u) => contains_any 44 arg_enters badR (R1.out.below hu (Nat.le_refl _)) argClo_any)
  obtain ⟨T, hT⟩ := named (l.any badR)
  rw [← hT.out] at CC ⊢
  clear h hT
  go_enter Try.func19, Try.ntmps19
  go_wp2_with (first
    | (go_at_call 36; ((with_reducible refine OC.out.mono ?_); rintro e w1 ⟨rfl, hb1⟩))
    | (go_at_call 43; ((with_reducible refine (CC.out _ hb1).mono ?_); rintro e w2 ⟨rfl, hb2⟩)))
  go_returns
  exact ⟨rfl, below_of (below_of W0.out hb1) hb2⟩
theorem isArg_any {a : Option Addr} {n c b o : Nat} {l : List Rw} {w : World} (h : Rs a n c b o l w) (B R K : Int) :
    Calls Try.prog 19 #[.slice a n c, optV B R K] w fun e w' => e = .returned (.bool (argT l B R K)) ∧ Below w.heap.size w w' := by
  by_cases h0 : B < 64
  · have e : argT l B R K = true := by unfold argT; simp [h0]
    rw [e]; exact isArg_0 h B R K h0
  by_cases h1 : 16384 < B
  · have e : argT l B R K = true := by unfold argT; simp [h1]
    rw [e]; exact isArg_1 h B R K h0 h1
  by_cases h2 : R < 1
  · have e : argT l B R K = true := by unfold argT; simp [h2]
    rw [e]; exact isArg_2 h B R K h0 h1 h2
  by_cases h3 : 64 < R
  · have e : argT l B R K = true := by unfold argT; simp [h3]
    rw [e]; exact isArg_3 h B R K h0 h1 h2 h3
  by_cases h4 : K < 1
  · have e : argT l B R K = true := by unfold argT; simp [h4]
    rw [e]; exact isArg_4 h B R K h0 h1 h2 h3 h4
  by_cases h5 : 32 < K
  · have e : argT l B R K = true := by unfold argT; simp [h5]
    rw [e]; exact isArg_5 h B R K h0 h1 h2 h3 h4 h5
  cases h6 : ordR l with
  | false =>
    have e : argT l B R K = true := by unfold argT; simp [h6]
    rw [e]; exact isArg_6 h B R K h0 h1 h2 h3 h4 h5 h6
  | true =>
    have e : argT l B R K = l.any badR := by unfold argT; simp [h0, h1, h2, h3, h4, h5, h6]
    rw [e]; exact isArg_7 h B R K h0 h1 h2 h3 h4 h5 h6
end Go.Proofs.Ytmjakkemiiigpaa
/-
  A slice of texts that a call made and owns: what it holds, and that other calls leave it. No condition.
-/
namespace Go.Proofs.Ytmjakkemiiigpaa
set_option maxRecDepth 100000
open Go.RowKit
/-- The cells of a list of texts. -/
def textRow (l : List (List UInt8)) : List Value := l.map fun t => .string ⟨t.toArray⟩
theorem textRow_snoc (l : List (List UInt8)) (t : List UInt8) : textRow l ++ [.string ⟨t.toArray⟩] = textRow (l ++ [t]) := by simp [textRow]
/-- v is a slice, in blocks from base on, that owns just these texts. -/
abbrev Texts (w : World) (base : Nat) (v : Value) (l : List (List UInt8)) : Prop := w.ownsRow base 9 1 v l.length (textRow l)
theorem texts_keep {w w' : World} {base : Nat} {v : Value} {l : List (List UInt8)} (h : Texts w base v l) (hb : Below w.heap.size w w') : Texts w' base v l := by
  refine ⟨h.1, ?_⟩
  rcases h.2 with hn | ⟨g, cap, cur, rfl, hg, hh, rest⟩
  · exact .inl hn
  · exact .inr ⟨g, cap, cur, rfl, hg, by rw [hb.block g (Array.getElem?_eq_some_iff.1 hh).1]; exact hh, rest⟩
theorem texts_nil (w : World) (base : Nat) : Texts w base (.slice none 0 0) [] := World.ownsRow_nil _ _ _ _
theorem infoS : (Try.prog.info? 9).map (fun i => (i.zero, i.size, i.bytes)) = some (some (.string ⟨#[]⟩), 1, 16) := by kernel_rfl
theorem new_text (w : World) (x : ByteArray) (t : TypeId) (j : Nat) (u : Value) (hj : ([Value.string x])[j]? = some u) : (w.alloc (.cells #[.string x] t)).cell? ((⟨w.heap.size, 0, none⟩ : Addr).add j) = some u := by
  cases j with
  | zero => simp at hj; subst hj; simp [Addr.add]
  | succ j => simp at hj
/-- What a slice of texts holds at each place. -/
theorem texts_cell {w : World} {base : Nat} {v : Value} {l : List (List UInt8)} (h : Texts w base v l) :
    (v = .slice none 0 0 ∧ l = []) ∨ ∃ g cap, v = .slice (some ⟨g, 0, none⟩) l.length cap ∧ base ≤ g ∧ g < w.heap.size ∧ ∀ i (hi : i < l.length), w.cell? ⟨g, i, none⟩ = some (.string ⟨l[i].toArray⟩) := by
  rcases h.2 with ⟨h1, h2⟩ | ⟨g, cap, cur, h1, hg, hh, h3, h4, h5, h6⟩
  · exact .inl ⟨h1, List.length_eq_zero_iff.1 h2⟩
  · refine .inr ⟨g, cap, h1, hg, (Array.getElem?_eq_some_iff.1 hh).1, fun i hi => ?_⟩
    have e1 : (textRow l)[i]? = some (.string ⟨l[i].toArray⟩) := by unfold textRow; simp [hi]
    rw [← h6, List.getElem?_take] at e1
    split at e1
    · unfold World.cell?
      rw [hh]
      simpa using e1
    · cases e1
/-- 'append(a, b...)' of texts, a the call's own, b nil or not. -/
theorem wpList_append_texts {ops : Array Oper} {rest : List Oper} {o : Oper} {a : Act} {Q : Exit → Act → World → Prop} {w : World} (hgd : o.guard = none) (s x : Operand)
    (ho : o.op = .call { callee := .builtin .append, args := #[s, x], argTypes := #[58, 58] })
    (base base2 : Nat) (v v2 : Value) (l l2 : List (List UInt8)) (hs : a.eval s = v) (hx : a.eval x = v2) (hown : Texts w base v l) (hsrc : Texts w base2 v2 l2) (hlen : l.length + l2.length ≤ 1000000) (hbase : base ≤ w.heap.size)
    (h : ∀ v' w', Texts w' base v' (l ++ l2) → Below base w w' → wpList Try.prog ops Q rest (a.put o.dst v') w') : wpList Try.prog ops Q (o :: rest) a w := by
  obtain ⟨i0, hi, hz0, hz1, hz2⟩ := info_parts infoS
  rcases texts_cell hsrc with ⟨rfl, rfl⟩ | ⟨g, cap, rfl, _, _, hc⟩
  · refine wpList_append_own_none hgd s x 58 ho base 9 i0 1 Try.underlying58 hi v l.length (textRow l) hs hown hx ?_
    exact h v w (by rw [List.append_nil]; exact hown) (Below.refl _ _)
  · refine wpList_append_own w hgd s x 58 ho base 9 i0 (.string ⟨#[]⟩) 1 16 Try.underlying58 hi hz0 hz1 hz2 rfl (by decide) v l.length (textRow l) hs hown ⟨g, 0, none⟩ l2.length cap (textRow l2) hx (by simp [textRow]) ?_ ?_ (by unfold maxLen; omega) (by omega) hbase ?_
    · intro j u hj
      have hjl : j < l2.length := by have := (List.getElem?_eq_some_iff.1 hj).1; simpa [textRow] using this
      have e : (⟨g, 0, none⟩ : Addr).add j = ⟨g, j, none⟩ := by
        unfold Addr.add
        split
        · rename_i h0; rw [h0]
        · simp
      rw [e, hc j hjl]
      have e1 : (textRow l2)[j]? = some (.string ⟨l2[j].toArray⟩) := by unfold textRow; simp [hjl]
      exact e1.symm.trans hj
    · intro u hu
      obtain ⟨t, _, rfl⟩ := List.mem_map.1 hu
      rfl
    · intro v' w' h1 hgr _
      refine h v' w' ?_ ((Below.refl base w).grown hgr hbase fun r hr => (hown.lt r hr).1)
      have e : textRow l ++ textRow l2 = textRow (l ++ l2) := by simp [textRow]
      rw [e] at h1
      unfold Texts
      rw [List.length_append]
      exact h1
end Go.Proofs.Ytmjakkemiiigpaa
