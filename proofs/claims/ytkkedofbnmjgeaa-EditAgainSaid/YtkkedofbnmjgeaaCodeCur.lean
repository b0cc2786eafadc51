/-
  The contracts of the cursor's steps, whatever the world. Condition: the cursor's two cells hold a text and a place in it.
-/
import Derived.Test.YtkkedofbnmjgeaaRows
import Derived.Test.YtkkedofbnmjgeaaCodeSpell
import Derived.Test.YtkkedofbnmjgeaaBut
import Derived.Test.YtkkedofbnmjgeaaFwd
import Derived.Shelf.Abstract
import Derived.WalkKit
import Derived.IntWalk
import Derived.WalkMore
import Derived.RegionTactic
import Derived.BigQuiet
import Derived.ChangeAlike
import Derived.Deep.QuietTactic
import Derived.Handy
namespace Go.Proofs.Ytkkedofbnmjgeaa
set_option maxRecDepth 100000
open Go.RowKit
/-- Block b is a cursor over s at place k. -/
structure CurAt (w : World) (b : Nat) (s : ByteArray) (k : Nat) : Prop where
  c0 : w.cell? ⟨b, 0, none⟩ = some (.string s)
  c1 : w.cell? ⟨b, 1, none⟩ = some (.int .i64 (k : Int))
  f1 : w.frozen? ⟨b, 1, none⟩ = false
theorem CurAt.lt {w : World} {b : Nat} {s : ByteArray} {k : Nat} (h : CurAt w b s k) : b < w.heap.size := World.block_lt_of_cell? _ _ h.c0
theorem CurAt.drewN {w : World} {b n : Nat} {s : ByteArray} {k : Nat} (h : CurAt w b s k) : CurAt (w.drewN n) b s k := ⟨h.c0, h.c1, h.f1⟩
theorem CurAt.set {w : World} {b : Nat} {s : ByteArray} {k : Nat} (h : CurAt w b s k) (j : Nat) : CurAt (w.setCell ⟨b, 1, none⟩ (.int .i64 (j : Int))) b s j :=
  ⟨by rw [World.cell?_setCell_other _ _ _ _ (by simp)]; exact h.c0, World.cell?_setCell_same _ _ _ h.c1, (World.frozen?_setCell _ _ _ _).trans h.f1⟩
theorem CurAt.below {B b k : Nat} {w w' : World} {s : ByteArray} (h : CurAt w b s k) (hb : Below B w w') (hB : b < B) : CurAt w' b s k :=
  ⟨(hb.cell (p := ⟨b, 0, none⟩) hB).trans h.c0, (hb.cell (p := ⟨b, 1, none⟩) hB).trans h.c1, (hb.frozen (p := ⟨b, 1, none⟩) hB).trans h.f1⟩
theorem next_none (s : ByteArray) (b k : Nat) (w : World) (h : CurAt w b s k) (hk : k = s.size) :
    Calls Try.prog 77 #[.pointer (some ⟨b, 0, none⟩)] w fun e w' => e = .returned (.tuple #[.int .u8 0, .bool false]) ∧ CurAt w' b s k ∧ But b w w' := by
  obtain ⟨h0, h1, hf⟩ := h
  subst hk
  go_enter Try.func77, Try.ntmps77
  go_wp2
  go_quiet (fail)
  go_wp2
  go_returns
  exact ⟨rfl, CurAt.drewN ⟨h0, h1, hf⟩, (But.refl _ _).drewN⟩
theorem next_some (s : ByteArray) (b k : Nat) (w : World) (h : CurAt w b s k) (hk : k < s.size) (hs : s.size ≤ maxLen) :
    Calls Try.prog 77 #[.pointer (some ⟨b, 0, none⟩)] w fun e w' => e = .returned (.tuple #[.int .u8 (s[k].toNat : Int), .bool true]) ∧ CurAt w' b s (k + 1) ∧ But b w w' := by
  unfold maxLen at hs
  obtain ⟨h0, h1, hf⟩ := h
  go_enter Try.func77, Try.ntmps77
  go_wp2
  go_quiet (fail)
  go_wp2
  go_quiet (fail)
  go_wp2
  go_returns
  exact ⟨rfl, (CurAt.drewN ⟨h0, h1, hf⟩).set (k + 1), ((But.refl b w).drewN (n := _)).setCell (p := ⟨b, 1, none⟩) rfl _⟩
/-- What number reads, by whatever closure steps as the cursor's next does. -/
theorem next_enters : ∀ (args : Array Value) (w : World), (callFunc 77 args).run Try.prog w = .ok (.enter 77 args) w := enters_of Try.func77 (by kernel_rfl) rfl
set_option maxRecDepth 100000 in
set_option maxHeartbeats 2000000 in
theorem number_any (s : ByteArray) (hs : s.size ≤ maxLen) (b k0 : Nat) (w : World) (h : CurAt w b s k0) (hk0 : k0 ≤ s.size) :
    Calls Try.prog 76 #[.func (.func 77) #[.pointer (some ⟨b, 0, none⟩)] #[]] w fun e w' =>
      e = .returned (.tuple #[.int .u64 ((Code.rd 0 (s.data.toList.drop k0)).1 : Int), .int .i64 ((Code.rd 0 (s.data.toList.drop k0)).2.2 : Int)]) ∧
      ((Code.rd 0 (s.data.toList.drop k0)).2.2 = 0 → CurAt w' b s (k0 + (Code.rd 0 (s.data.toList.drop k0)).2.1)) ∧ But b w w' := by
  have hs' := hs
  unfold maxLen at hs'
  obtain ⟨R, HR⟩ := named (Code.rd 0 (s.data.toList.drop k0))
  rw [← HR.out]
  go_enter Try.func76, Try.ntmps76
  go_wp2
  refine wp_scope_fwd 0 rfl ?_
  go_wp2
  go_loopw [2, 4] (fun n d wr => ∃ i acc : Nat, i ≤ 9 ∧ k0 + i ≤ s.size ∧ acc < 128 ^ i ∧ n = .int .u64 (acc : Int) ∧ d = .int .i64 (7 * (i : Int)) ∧ CurAt wr b s (k0 + i) ∧ But b w wr ∧ R = Code.lift i acc (Code.rd i (s.data.toList.drop (k0 + i)))) (fun _ d _ => 64 - (intOf d).toNat)
  case atStart => exact ⟨0, 0, by omega, by omega, by simp, rfl, rfl, h, But.refl _ _, by rw [Code.lift_zero]; exact HR.out⟩
  case round =>
    obtain ⟨i, acc, hi, hki, hacc, rfl, rfl, hc, hB, hR⟩ := hrel
    go_wp2_with fail
    by_cases he : k0 + i = s.size
    · refine (next_none s b (k0 + i) wr hc he).mono ?_
      rintro e w' ⟨rfl, hc', hB'⟩
      go_wp2
      go_step3
      refine ⟨rfl, ?_⟩
      go_wp2
      rw [Exit.noGoto_ret]
      go_returns
      have hd : s.data.toList.drop (k0 + i) = [] := List.drop_eq_nil_of_le (by simp; omega)
      rw [hd, Code.lift_nil] at hR
      rw [hR]
      exact ⟨rfl, fun h => absurd h (by decide), hB.trans hB'⟩
    · have hlt : k0 + i < s.size := by omega
      have hd : Hid (s.data.toList.drop (k0 + i) = s[k0 + i] :: s.data.toList.drop (k0 + i + 1)) := Lib.hid (List.drop_eq_getElem_cons (by simpa using hlt))
      have HR2 := Lib.hid hR
      clear hR
      refine (next_some s b (k0 + i) wr hc hlt hs).mono ?_
      obtain ⟨c, hC⟩ := named s[k0 + i]
      rw [← hC.out] at hd ⊢
      rintro e w' ⟨rfl, hc', hB'⟩
      have hcl := UInt8.toNat_lt c
      have hacc64 : Hid (acc < 128 ^ i) := hacc
      by_cases hf1 : c.toNat = 0 ∧ 0 < i
      · obtain ⟨z, hp⟩ := hf1
        have hz := Lib.hid z
        have h7 : 0 < 7 * (i : Int) := by omega
        go_wp2
        go_step3
        refine ⟨rfl, ?_⟩
        go_wp2
        rw [Exit.noGoto_ret]
        go_returns
        have := HR2.out
        rw [hd.out, Code.lift_form _ _ _ (Or.inl ⟨hz.out, hp⟩)] at this
        rw [this]
        exact ⟨rfl, fun h => absurd h (by decide), hB.trans hB'⟩
      by_cases hf2 : 1 < c.toNat ∧ i = 9
      · obtain ⟨h1, rfl⟩ := hf2
        have h1' : 1 < (c.toNat : Int) := by omega
        go_wp2
        go_step3
        refine ⟨rfl, ?_⟩
        go_wp2
        rw [Exit.noGoto_ret]
        go_returns
        have := HR2.out
        rw [hd.out, Code.lift_form _ _ _ (Or.inr ⟨h1, rfl⟩)] at this
        rw [this]
        exact ⟨rfl, fun h => absurd h (by decide), hB.trans hB'⟩
      have hcode := part_code acc i c hi hacc (by omega)
      by_cases hl : c.toNat < 128
      · have hl' : (c.toNat : Int) < 128 := by omega
        have := HR2.out
        rw [hd.out, Code.lift_last _ _ _ (by omega) hl] at this
        have e2 : c.toNat % 128 = c.toNat := Nat.mod_eq_of_lt hl
        rw [e2] at hcode
        have HR3 := Lib.hid this
        clear this e2
        have hend : ∀ (v : World), CurAt v b s (k0 + i + 1) → But b w v → (R.2.2 = 0 → CurAt v b s (k0 + R.2.1)) ∧ But b w v := fun v h1 h2 =>
          ⟨fun _ => by rw [HR3.out]; show CurAt v b s (k0 + (i + 1)); rw [← Nat.add_assoc]; exact h1, h2⟩
        have hR1 : (R.1 : Int) = ((acc + 128 ^ i * c.toNat : Nat) : Int) ∧ (R.2.2 : Int) = 0 := by rw [HR3.out]; exact ⟨rfl, rfl⟩
        have HE := Lib.hid hend
        have HR1 := Lib.hid hR1
        clear hend hR1
        by_cases hz : c.toNat = 0
        · have h0 : i = 0 := by omega
          subst h0
          go_wp2
          rw [jump_ret]
          go_returns
          refine ⟨?_, HE.out _ hc' (hB.trans hB')⟩
          rw [HR1.out.1, HR1.out.2, ← hcode]; simp [hz]
        · have hz' : ((c.toNat : Int) == 0) = false := beq_eq_false_iff_ne.2 (by omega)
          by_cases h1 : c.toNat = 1
          · go_wp2
            rw [jump_ret]
            go_returns
            refine ⟨?_, HE.out _ hc' (hB.trans hB')⟩
            rw [HR1.out.1, HR1.out.2, ← hcode]; simp [h1]
          · have h9 : ((7 * (i : Int)) == 63) = false := beq_eq_false_iff_ne.2 (by omega)
            have h1' : 1 < (c.toNat : Int) := by omega
            go_wp2
            rw [jump_ret]
            go_returns
            refine ⟨?_, HE.out _ hc' (hB.trans hB')⟩
            rw [HR1.out.1, HR1.out.2]; simp
      · have hl' : 128 ≤ (c.toNat : Int) := by omega
        have h9 : ((7 * (i : Int)) == 63) = false := beq_eq_false_iff_ne.2 (by omega)
        have := HR2.out
        rw [hd.out, Code.lift_more _ _ _ (by omega) hl] at this
        have HR3 := Lib.hid this
        clear this
        go_wp2
        go_roundw
        case rel =>
          refine ⟨i + 1, acc + 128 ^ i * (c.toNat % 128), by omega, by omega, ?_, by go_num, by go_num, hc', hB.trans hB', ?_⟩
          · rw [Nat.pow_succ]
            have := Nat.mul_le_mul_left (128 ^ i) (show c.toNat % 128 ≤ 127 by omega)
            have := hacc64.out
            omega
          · rw [← Nat.add_assoc]; exact HR3.out
        case measure => simp [intOf]; omega
end Go.Proofs.Ytkkedofbnmjgeaa
