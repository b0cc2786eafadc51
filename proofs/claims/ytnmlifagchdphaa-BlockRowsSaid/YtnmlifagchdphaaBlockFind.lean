/-
  The contracts of find. No condition.
-/
import Derived.Test.YtnmlifagchdphaaBlockOrder
import Derived.Test.YtnmlifagchdphaaSliceArg
namespace Go.Proofs.Ytnmlifagchdphaa
set_option maxRecDepth 100000
open Go.RowKit
/-- How many of the first n stand ahead. -/
def Cut (n : Nat) (P : Nat → Bool) (r : Nat) : Prop := r ≤ n ∧ ∀ j, j < n → (P j = true ↔ j < r)
set_option maxRecDepth 100000 in
set_option maxHeartbeats 4000000 in
theorem find_rows (G : FuncId) (x y : Nat) (hE : ∀ (args : Array Value) (w : World), (callFunc G args).run Try.prog w = .ok (.enter G args) w) (P : Nat → Bool) {p : Option Addr} {n c b o : Nat} {l : List Rw} {w : World} (h : Rs p n c b o l w) (hn : n ≤ 1048576)
    (hP : ∀ i j, i ≤ j → j < n → P j = true → P i = true)
    (hG : ∀ u, Below w.heap.size w u → ∀ j v, l[j]? = some v → Calls Try.prog G #[.agg #[.string v.key, .int .u64 (v.seq : Int), .int .i64 v.kind, .string v.val], .pointer (some ⟨x, 0, none⟩), .pointer (some ⟨y, 0, none⟩)] u fun e u' => e = .returned (.bool (P j)) ∧ Below u.heap.size u u') :
    Calls Try.prog 21 #[.slice p n c, .func (.func G) #[] #[.pointer (some ⟨x, 0, none⟩), .pointer (some ⟨y, 0, none⟩)]] w fun e w' => ∃ r, Cut n P r ∧ e = .returned (.int .i64 (r : Int)) ∧ Below w.heap.size w w' := by
  have m0 := h.most
  have q0 := h.cap
  have hlen := Lib.hid h.len
  have h := Lib.hid h
  have hG := Lib.hid hG
  have hP := Lib.hid hP
  go_enter Try.func21, Try.ntmps21
  go_wp2_with fail
  go_loopw [5, 6] (fun a b' wr => ∃ lo hi : Nat, lo ≤ hi ∧ hi ≤ n ∧ a = .int .i64 (lo : Int) ∧ b' = .int .i64 (hi : Int) ∧ (∀ j, j < lo → P j = true) ∧ (∀ j, hi ≤ j → j < n → P j = false) ∧ Below w.heap.size w wr) (fun a b' _ => (intOf b').toNat - (intOf a).toNat)
  case atStart => exact ⟨0, n, Nat.zero_le _, Nat.le_refl _, rfl, rfl, fun j hj => absurd hj (by omega), fun j h1 h2 => absurd h1 (by omega), Below.refl _ _⟩
  case round =>
    obtain ⟨lo, hi, h1, h2, rfl, rfl, f1, f2, hb⟩ := hrel
    have f1 := Lib.hid f1
    have f2 := Lib.hid f2
    have hb := Lib.hid hb
    by_cases hlt : lo < hi
    · obtain ⟨m, hm⟩ := named (lo + (hi - lo) / 2)
      have hm1 : lo ≤ m := by rw [hm.out]; omega
      have hm2 : m < hi := by rw [hm.out]; omega
      obtain ⟨v, hv, rfl, x0, x1, x2, x3⟩ := (h.out.below hb.out (Nat.le_refl _)).at4 (show m < n by omega)
      have AC := Lib.hid (hG.out wr hb.out m v hv)
      have e1 : (lo : Int) + ((hi : Int) - (lo : Int)) / 2 = (m : Int) := by rw [hm.out]; omega
      have e2 : wrap64 ((lo : Int) + ((hi : Int) - (lo : Int)) / 2) = (m : Int) := by rw [e1]; unfold wrap64; omega
      have e3 : wrap64 ((hi : Int) - (lo : Int)) = (hi : Int) - (lo : Int) := by unfold wrap64; omega
      have i0 : (m : Int) < (n : Int) := by omega
      have i1 : m < n := by omega
      have i2 : (lo : Int) < (hi : Int) := by omega
      obtain ⟨vk, vs, vi, vv⟩ := v
      simp only at x0 x1 x2 x3 AC
      obtain ⟨T, hT⟩ := named (P m)
      rw [← hT.out] at AC
      clear hv hm
      cases T with
      | true =>
        go_wp2_with fail
        refine AC.out.mono ?_
        rintro e w2 ⟨rfl, hb2⟩
        have B2 := Lib.hid (below_of hb.out hb2)
        clear hb2
        go_wp2_with fail
        go_roundw
        case rel => exact ⟨m + 1, hi, by omega, h2, by go_num, rfl, fun j hj => hP.out j m (by omega) (by omega) (by rw [← hT.out]), f2.out, B2.out⟩
        case measure => simp [intOf]; omega
      | false =>
        go_wp2_with fail
        refine AC.out.mono ?_
        rintro e w2 ⟨rfl, hb2⟩
        have B2 := Lib.hid (below_of hb.out hb2)
        clear hb2
        go_wp2_with fail
        go_roundw
        case rel => exact ⟨lo, m, by omega, by omega, rfl, rfl, f1.out, fun j hj hjn => by cases hj2 : P j with | false => rfl | true => exact absurd (hP.out m j hj hjn hj2) (by rw [← hT.out]; decide), B2.out⟩
        case measure => simp [intOf]; omega
    · have hlh : lo = hi := by omega
      subst hlh
      have i2 : ¬ (lo : Int) < (lo : Int) := by omega
      go_wp2_with fail
      go_returns
      refine ⟨lo, ⟨h2, fun j hj => ⟨fun hp => ?_, fun hl => f1.out j hl⟩⟩, rfl, hb.out⟩
      rcases Nat.lt_or_ge j lo with hjl | hjl
      · exact hjl
      · rw [f2.out j hjl hj] at hp; cases hp
set_option maxRecDepth 100000 in
set_option maxHeartbeats 4000000 in
theorem find_nums (G : FuncId) (x y : Nat) (hE : ∀ (args : Array Value) (w : World), (callFunc G args).run Try.prog w = .ok (.enter G args) w) (P : Nat → Bool) (f : Nat → Nat) {p : Option Addr} {n c : Nat} {w : World} (hc : n ≤ c) (hm9 : c ≤ 9223372036854775807) (hn : n ≤ 1048576)
    (hcell : ∀ u, Below w.heap.size w u → ∀ j, j < n → ∃ b, p = some ⟨b, 0, none⟩ ∧ u.cell? ⟨b, j, none⟩ = some (.int .i64 (f j : Int)))
    (hP : ∀ i j, i ≤ j → j < n → P j = true → P i = true)
    (hG : ∀ u, Below w.heap.size w u → ∀ j, j < n → Calls Try.prog G #[.int .i64 (f j : Int), .pointer (some ⟨x, 0, none⟩), .pointer (some ⟨y, 0, none⟩)] u fun e u' => e = .returned (.bool (P j)) ∧ Below u.heap.size u u') :
    Calls Try.prog 19 #[.slice p n c, .func (.func G) #[] #[.pointer (some ⟨x, 0, none⟩), .pointer (some ⟨y, 0, none⟩)]] w fun e w' => ∃ r, Cut n P r ∧ e = .returned (.int .i64 (r : Int)) ∧ Below w.heap.size w w' := by
  have hcell := Lib.hid hcell
  have hG := Lib.hid hG
  have hP := Lib.hid hP
  go_enter Try.func19, Try.ntmps19
  go_wp2_with fail
  go_loopw [5, 6] (fun a b' wr => ∃ lo hi : Nat, lo ≤ hi ∧ hi ≤ n ∧ a = .int .i64 (lo : Int) ∧ b' = .int .i64 (hi : Int) ∧ (∀ j, j < lo → P j = true) ∧ (∀ j, hi ≤ j → j < n → P j = false) ∧ Below w.heap.size w wr) (fun a b' _ => (intOf b').toNat - (intOf a).toNat)
  case atStart => exact ⟨0, n, Nat.zero_le _, Nat.le_refl _, rfl, rfl, fun j hj => absurd hj (by omega), fun j h1 h2 => absurd h1 (by omega), Below.refl _ _⟩
  case round =>
    obtain ⟨lo, hi, h1, h2, rfl, rfl, f1, f2, hb⟩ := hrel
    have f1 := Lib.hid f1
    have f2 := Lib.hid f2
    have hb := Lib.hid hb
    by_cases hlt : lo < hi
    · obtain ⟨m, hm⟩ := named (lo + (hi - lo) / 2)
      have hm1 : lo ≤ m := by rw [hm.out]; omega
      have hm2 : m < hi := by rw [hm.out]; omega
      obtain ⟨b, rfl, x0⟩ := hcell.out wr hb.out m (by omega)
      have AC := Lib.hid (hG.out wr hb.out m (by omega))
      have e1 : (lo : Int) + ((hi : Int) - (lo : Int)) / 2 = (m : Int) := by rw [hm.out]; omega
      have e2 : wrap64 ((lo : Int) + ((hi : Int) - (lo : Int)) / 2) = (m : Int) := by rw [e1]; unfold wrap64; omega
      have e3 : wrap64 ((hi : Int) - (lo : Int)) = (hi : Int) - (lo : Int) := by unfold wrap64; omega
      have i0 : (m : Int) < (n : Int) := by omega
      have i1 : m < n := by omega
      have i2 : (lo : Int) < (hi : Int) := by omega
      obtain ⟨F, hF⟩ := named (f m)
      rw [← hF.out] at x0 AC
      obtain ⟨T, hT⟩ := named (P m)
      rw [← hT.out] at AC
      clear hm
      cases T with
      | true =>
        go_wp2_with fail
        refine AC.out.mono ?_
        rintro e w2 ⟨rfl, hb2⟩
        have B2 := Lib.hid (below_of hb.out hb2)
        clear hb2
        go_wp2_with fail
        go_roundw
        case rel => exact ⟨m + 1, hi, by omega, h2, by go_num, rfl, fun j hj => hP.out j m (by omega) (by omega) (by rw [← hT.out]), f2.out, B2.out⟩
        case measure => simp [intOf]; omega
      | false =>
        go_wp2_with fail
        refine AC.out.mono ?_
        rintro e w2 ⟨rfl, hb2⟩
        have B2 := Lib.hid (below_of hb.out hb2)
        clear hb2
        go_wp2_with fail
        go_roundw
        case rel => exact ⟨lo, m, by omega, by omega, rfl, rfl, f1.out, fun j hj hjn => by cases hj2 : P j with | false => rfl | true => exact absurd (hP.out m j hj hjn hj2) (by rw [← hT.out]; decide), B2.out⟩
        case measure => simp [intOf]; omega
    · have hlh : lo = hi := by omega
      subst hlh
      have i2 : ¬ (lo : Int) < (lo : Int) := by omega
      go_wp2_with fail
      go_returns
      refine ⟨lo, ⟨h2, fun j hj => ⟨fun hp => ?_, fun hl => f1.out j hl⟩⟩, rfl, hb.out⟩
      rcases Nat.lt_or_ge j lo with hjl | hjl
      · exact hjl
      · rw [f2.out j hjl hj] at hp; cases hp
end Go.Proofs.Ytnmlifagchdphaa
