/-
  The contract of parts. Condition: at most 2^62 bytes.
-/
import Derived.Test.YtnmlifagchdphaaBlockBehind
import Derived.Test.YtnmlifagchdphaaHeld
namespace Go.Proofs.Ytnmlifagchdphaa
set_option maxRecDepth 100000
open Go.RowKit
/-- The number of four bytes. -/
def u4 (l : List UInt8) : Nat := (l.getD 0 0).toNat + 256 * (l.getD 1 0).toNat + 65536 * (l.getD 2 0).toNat + 16777216 * (l.getD 3 0).toNat
theorem u4_lt (l : List UInt8) : u4 l < 4294967296 := by
  have := UInt8.toNat_lt (l.getD 0 0)
  have := UInt8.toNat_lt (l.getD 1 0)
  have := UInt8.toNat_lt (l.getD 2 0)
  have := UInt8.toNat_lt (l.getD 3 0)
  unfold u4
  omega
/-- The rows' bytes, and the restart interval. -/
def ptB (L : List UInt8) : Option (List UInt8 × Nat) :=
  if L.length < 8 ∨ 65536 < L.length then none
  else if (L.length - 8) / 4 < u4 (L.drop (L.length - 8)) ∨ u4 (L.drop (L.length - 4)) < 1 ∨ 64 < u4 (L.drop (L.length - 4)) then none
  else some (L.take (L.length - 8 - 4 * u4 (L.drop (L.length - 8))), u4 (L.drop (L.length - 4)))
def ptV : Option (List UInt8 × Nat) → Value
  | none => .tuple #[.string ⟨#[]⟩, .int .i64 0, .bool false]
  | some (r, d) => .tuple #[.string ⟨r.toArray⟩, .int .i64 (d : Int), .bool true]
theorem numL_any (L : List UInt8) (h : 4 ≤ L.length) (w : World) : Calls Try.prog 45 #[.string ⟨L.toArray⟩] w fun e w' => e = .returned (.int .u32 (u4 L : Nat)) ∧ Below w.heap.size w w' := by
  have g : ∀ k, k < 4 → (⟨L.toArray⟩ : ByteArray).toList[k]? = some (L.getD k 0) := fun k hk => by
    rw [ofList_toList, List.getD_eq_getElem?_getD, List.getElem?_eq_getElem (by omega)]; rfl
  exact num4_any ⟨L.toArray⟩ _ _ _ _ (g 0 (by omega)) (g 1 (by omega)) (g 2 (by omega)) (g 3 (by omega)) w
set_option maxRecDepth 100000 in
set_option maxHeartbeats 4000000 in
theorem parts_any (L : List UInt8) (h : L.length ≤ 4611686018427387904) (w : World) :
    Calls Try.prog 30 #[.string ⟨L.toArray⟩] w fun e w' => e = .returned (ptV (ptB L)) ∧ Below w.heap.size w w' := by
  obtain ⟨n, hn⟩ := named L.length
  have hN : (L.length : Int) = (n : Int) := by rw [hn.out]
  have hN2 : L.length = n := by rw [hn.out]
  by_cases h1 : L.length < 8
  · have e : ptB L = none := by unfold ptB; rw [if_pos (.inl h1)]
    rw [e]
    have g1 : (n : Int) < 8 := by omega
    have g2 : n < 8 := by omega
    clear e
    go_enter Try.func30, Try.ntmps30
    go_wp2_with fail
    go_returns
    exact ⟨rfl, Below.refl _ _⟩
  by_cases h2 : 65536 < L.length
  · have e : ptB L = none := by unfold ptB; rw [if_pos (.inr h2)]
    rw [e]
    have g1 : decide (n < 8) = false := by rw [decide_eq_false_iff_not]; omega
    have g2 : 65536 < n := by omega
    clear e
    go_enter Try.func30, Try.ntmps30
    go_wp2_with fail
    go_returns
    exact ⟨rfl, Below.refl _ _⟩
  have hE : Hid (ptB L = if (n - 8) / 4 < u4 (L.drop (n - 8)) ∨ u4 (L.drop (n - 4)) < 1 ∨ 64 < u4 (L.drop (n - 4)) then none else some (L.take (n - 8 - 4 * u4 (L.drop (n - 8))), u4 (L.drop (n - 4)))) := Lib.hid (by unfold ptB; rw [if_neg (by omega), hN2])
  have g1 : decide (n < 8) = false := by rw [decide_eq_false_iff_not]; omega
  have g2 : decide (65536 < n) = false := by rw [decide_eq_false_iff_not]; omega
  obtain ⟨m, hm⟩ : ∃ m, n = m + 8 := ⟨n - 8, by omega⟩
  have N1 := Lib.hid (fun u => numL_any (L.drop (n - 8)) (by rw [List.length_drop]; omega) u)
  have N2 := Lib.hid (fun u => numL_any (L.drop (n - 4)) (by rw [List.length_drop]; omega) u)
  have S1 := slL_from L (n - 8) (by omega) (m : Int) (by omega)
  have S2 := slL_from L (n - 4) (by omega) ((m : Int) + 4) (by omega)
  have ha := u4_lt (L.drop (n - 8))
  have hb := u4_lt (L.drop (n - 4))
  obtain ⟨a, hA⟩ := named (u4 (L.drop (n - 8)))
  obtain ⟨b, hB⟩ := named (u4 (L.drop (n - 4)))
  rw [← hA.out] at N1 hE ha
  rw [← hB.out] at N2 hE hb
  obtain ⟨D1, hD1⟩ := named (L.drop (n - 8))
  obtain ⟨D2, hD2⟩ := named (L.drop (n - 4))
  rw [← hD1.out] at N1 S1
  rw [← hD2.out] at N2 S2
  subst hm
  rw [Nat.add_sub_cancel] at hE
  have S3 : Hid (a * 4 ≤ m → ∀ u : World, (Instr.slice 9 (.string ⟨L.toArray⟩) none (some (.int .i64 ((m : Int) - (a : Int) * 4))) none).run Try.prog u = .ok (.string ⟨(L.take (m - 4 * a)).toArray⟩) u) := Lib.hid (fun hle => slL_upto L (m - 4 * a) (by omega) _ (by omega))
  have hm2 : m ≤ 65528 := by omega
  have w1 : wrap64 ((m : Int) + 8 - 8) = (m : Int) := by unfold wrap64; omega
  have w2 : wrap64 ((m : Int) + 4) = (m : Int) + 4 := by unfold wrap64; omega
  have w4 : IntKind.i64.wrap ((m : Int) + 4) = (m : Int) + 4 := by rw [IntKind.wrap_i64]; omega
  have w5 : IntKind.i64.wrap ((m : Int) + 8 - 8) = (m : Int) := by rw [IntKind.wrap_i64]; omega
  have w6 : IntKind.i64.wrap (m : Int) = (m : Int) := by rw [IntKind.wrap_i64]; omega
  have w3 : IntKind.u32.wrap ((m : Int) / 4) = ((m / 4 : Nat) : Int) := by rw [IntKind.wrap_u32]; omega
  obtain ⟨P, hP⟩ := named (ptB L)
  rw [← hP.out] at hE ⊢
  have CB := Lib.hid (Below.refl w.heap.size w).drew
  clear hA hB hD1 hD2 hP h h1 h2 hn
  replace hN2 := Lib.hid hN2
  go_enter Try.func30, Try.ntmps30
  go_upto_region 4 with fail
  refine wp_region_held_drew (S := (fun v => Hid (Below w.heap.size w v))) (by kernel_rfl) (CB) (fun hHeld => ?_)
  refine held_take (i := 0) (v := ?_) rfl (by kernel_rfl) (by kernel_rfl) (by kernel_rfl) (fun _ _ _ h => h) (by rfl) (fun w hSw => ?_) (by assumption) ?_; rotate_left 1; focus (((try dsimp only at hSw); first | (go_simp; done) | (go_simp; with_reducible rfl)))
  try simp only [Act.put, List.setIfInBounds_toArray, List.set_cons_zero, List.set_cons_succ]
  refine held_take (i := 1) (v := ?_) rfl (by kernel_rfl) (by kernel_rfl) (by kernel_rfl) (fun _ _ _ h => h) (by rfl) (fun w hSw => ?_) (by assumption) ?_; rotate_left 1; focus (((try dsimp only at hSw); first | (go_simp; done) | (go_simp; with_reducible rfl)))
  try simp only [Act.put, List.setIfInBounds_toArray, List.set_cons_zero, List.set_cons_succ]
  refine held_take (i := 2) (v := ?_) rfl (by kernel_rfl) (by kernel_rfl) (by kernel_rfl) (fun _ _ _ h => h) (by rfl) (fun w hSw => ?_) (by assumption) ?_; rotate_left 1; focus (((try dsimp only at hSw); first | (go_simp; done) | (go_simp; with_reducible rfl)))
  try simp only [Act.put, List.setIfInBounds_toArray, List.set_cons_zero, List.set_cons_succ]
  refine held_take (i := 4) (v := ?_) rfl (by kernel_rfl) (by kernel_rfl) (by kernel_rfl) (fun _ _ _ h => h) (by rfl) (fun w hSw => ?_) (by assumption) ?_; rotate_left 1; focus (((try dsimp only at hSw); first | (go_simp; done) | (go_simp; with_reducible rfl)))
  try simp only [Act.put, List.setIfInBounds_toArray, List.set_cons_zero, List.set_cons_succ]
  refine held_take (i := 5) (v := ?_) rfl (by kernel_rfl) (by kernel_rfl) (by kernel_rfl) (fun _ _ _ h => h) (by rfl) (fun w hSw => ?_) (by assumption) ?_; rotate_left 1; focus (((try dsimp only at hSw); first | (go_simp; done) | (go_simp; with_reducible rfl)))
  try simp only [Act.put, List.setIfInBounds_toArray, List.set_cons_zero, List.set_cons_succ]
  refine held_take (i := 6) (v := ?_) rfl (by kernel_rfl) (by kernel_rfl) (by kernel_rfl) (fun _ _ _ h => h) (by rfl) (fun w hSw => ?_) (by assumption) ?_; rotate_left 1; focus (((try dsimp only at hSw); first | (go_simp; done) | (go_simp; with_reducible rfl)))
  try simp only [Act.put, List.setIfInBounds_toArray, List.set_cons_zero, List.set_cons_succ]
  refine held_take (i := 7) (v := ?_) rfl (by kernel_rfl) (by kernel_rfl) (by kernel_rfl) (fun _ _ _ h => h) (by rfl) (fun w hSw => ?_) (by assumption) ?_; rotate_left 1; focus (((try dsimp only at hSw); first | (go_simp; done) | (go_simp; with_reducible rfl)))
  try simp only [Act.put, List.setIfInBounds_toArray, List.set_cons_zero, List.set_cons_succ]
  refine held_call (i := 3) (by kernel_rfl) rfl (by rfl) (fun K hK => ?_)
  go_simp
  (go_at_call 45; ((with_reducible refine (N1.out _).mono ?_); rintro e u1 ⟨rfl, hb1⟩))
  have B1 := Lib.hid (below_of (w := w) hHeld.out hb1)
  clear hb1
  refine hK.out _ _ (B1) (fun hHeld => ?_)
  try simp only [Act.put, List.setIfInBounds_toArray, List.set_cons_zero, List.set_cons_succ]
  refine held_call (i := 8) (by kernel_rfl) rfl (by rfl) (fun K hK => ?_)
  go_simp
  (go_at_call 45; ((with_reducible refine (N2.out _).mono ?_); rintro e u2 ⟨rfl, hb2⟩))
  have B2 := Lib.hid (below_of (w := w) B1.out hb2)
  clear hb2
  refine hK.out _ _ (B2) (fun hHeld => ?_)
  try simp only [Act.put, List.setIfInBounds_toArray, List.set_cons_zero, List.set_cons_succ]
  refine held_take (i := 9) (v := ?_) rfl (by kernel_rfl) (by kernel_rfl) (by kernel_rfl) (fun _ _ _ h => h) (by rfl) (fun w hSw => ?_) (by assumption) ?_; rotate_left 1; focus (((try dsimp only at hSw); first | (go_simp; done) | (go_simp; with_reducible rfl)))
  try simp only [Act.put, List.setIfInBounds_toArray, List.set_cons_zero, List.set_cons_succ]
  refine held_take (i := 10) (v := ?_) rfl (by kernel_rfl) (by kernel_rfl) (by kernel_rfl) (fun _ _ _ h => h) (by rfl) (fun w hSw => ?_) (by assumption) ?_; rotate_left 1; focus (((try dsimp only at hSw); first | (go_simp; done) | (go_simp; with_reducible rfl)))
  try simp only [Act.put, List.setIfInBounds_toArray, List.set_cons_zero, List.set_cons_succ]
  refine wpAnyH_done (by kernel_rfl) ?_ _
  by_cases q1 : m / 4 < a
  · rw [if_pos (.inl q1)] at hE
    have g3 : decide (m / 4 < a) = true := by simpa using q1
    clear S3
    go_wp2_with fail
    go_returns
    exact ⟨by rw [hE.out]; rfl, B2.out⟩
  by_cases q2 : b < 1
  · rw [if_pos (.inr (.inl q2))] at hE
    have g3 : decide (m / 4 < a) = false := by simpa using q1
    have g4 : decide (b < 1) = true := by simpa using q2
    have g5 : (b : Int) < 1 := by omega
    clear S3
    go_wp2_with fail
    go_returns
    exact ⟨by rw [hE.out]; rfl, B2.out⟩
  by_cases q3 : 64 < b
  · rw [if_pos (.inr (.inr q3))] at hE
    have g3 : decide (m / 4 < a) = false := by simpa using q1
    have g4 : decide (b < 1) = false := by simpa using q2
    have g5 : ¬ (b : Int) < 1 := by omega
    have g6 : decide (64 < b) = true := by simpa using q3
    clear S3
    go_wp2_with fail
    go_returns
    exact ⟨by rw [hE.out]; rfl, B2.out⟩
  rw [if_neg (by omega)] at hE
  have S4 := S3.out (by omega)
  have g3 : decide (m / 4 < a) = false := by simpa using q1
  have g4 : decide (b < 1) = false := by simpa using q2
  have g5 : ¬ (b : Int) < 1 := by omega
  have g6 : decide (64 < b) = false := by simpa using q3
  have w7 : IntKind.i64.wrap (a : Int) = (a : Int) := by rw [IntKind.wrap_i64]; omega
  have w8 : IntKind.i64.wrap (b : Int) = (b : Int) := by rw [IntKind.wrap_i64]; omega
  obtain ⟨TK, hTK⟩ := named (L.take (m - 4 * a))
  rw [← hTK.out] at S4 hE
  clear S3 hTK
  go_wp2_with fail
  go_returns
  exact ⟨by rw [hE.out]; rfl, B2.out⟩
end Go.Proofs.Ytnmlifagchdphaa
