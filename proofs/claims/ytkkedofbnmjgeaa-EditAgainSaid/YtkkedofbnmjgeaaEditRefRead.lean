/-
  The document's number and text: the next one of a text, and where the rest begins. Condition: a text that came in.
-/
import Derived.Test.YtkkedofbnmjgeaaEditListed
import Derived.Test.YtkkedofbnmjgeaaCodeUintRef
import Derived.Test.YtkkedofbnmjgeaaCodeFieldRef
namespace Go.Proofs.Ytkkedofbnmjgeaa
set_option maxRecDepth 100000
open Go.RowKit
/-- Where the document's reader stands: none says that it failed. -/
def atI : Option Nat → Int
  | none => -1
  | some a => (a : Int)
def dnum (l : List UInt8) (o : Option Nat) (most : Nat) : Nat × Option Nat :=
  match o with
  | none => (0, none)
  | some a => if (Code.rd 0 (l.drop a)).2.2 = 0 ∧ (Code.rd 0 (l.drop a)).1 ≤ most then ((Code.rd 0 (l.drop a)).1, some (a + (Code.rd 0 (l.drop a)).2.1)) else (0, none)
def dtxt (l : List UInt8) (o : Option Nat) : List UInt8 × Option Nat :=
  match o with
  | none => ([], none)
  | some a => if (Code.rdField (l.drop a) 520).2.2 = 0 then ((Code.rdField (l.drop a) 520).1, some (a + (Code.rdField (l.drop a) 520).2.1)) else ([], none)
def OkAt (l : List UInt8) (o : Option Nat) : Prop := ∀ a, o = some a → a ≤ l.length
theorem ext_drop (s : ByteArray) (a : Nat) : (s.extract a s.size).data.toList = s.data.toList.drop a := by
  rw [ByteArray.data_extract, Array.toList_extract, List.extract_eq_take_drop]
  apply List.take_of_length_le
  rw [List.length_drop]
  exact Nat.le_refl _
theorem dnum_ok {l : List UInt8} {o : Option Nat} {most : Nat} (h : OkAt l o) : OkAt l (dnum l o most).2 := by
  intro b hb
  cases o with
  | none => cases hb
  | some a =>
    have ha := h a rfl
    have hk := Code.rd_size (l.drop a)
    rw [List.length_drop] at hk
    unfold dnum at hb
    simp only at hb
    split at hb
    · injection hb with hb; omega
    · cases hb
set_option maxRecDepth 100000 in
set_option maxHeartbeats 8000000 in
theorem dnum_any (s : ByteArray) (hs : s.size ≤ reachBytes) (o : Option Nat) (ho : OkAt s.data.toList o) (most : Nat) (_ : most ≤ 18446744073709551615) (w : World) : Calls Try.prog 41 #[.string s, .int .i64 (atI o), .int .u64 (most : Int)] w fun e w' => e = .returned (.tuple #[.int .u64 ((dnum s.data.toList o most).1 : Int), .int .i64 (atI (dnum s.data.toList o most).2)]) ∧ w' = w := by
  have hs' := reach_max hs
  have hlen : s.data.toList.length = s.size := by rw [Array.length_toList]; rfl
  cases o with
  | none =>
    simp only [dnum, atI]
    go_enter Try.func41, Try.ntmps41
    go_wp2_with fail
    go_returns
    exact ⟨rfl, rfl⟩
  | some a =>
    have ha := ho a rfl
    rw [hlen] at ha
    have hx : (s.extract a s.size).size ≤ s.size := by rw [ByteArray.size_extract]; omega
    have UR := refuint_any (s.extract a s.size) (by omega) w
    have hfit := Code.rd_fits (s.data.toList.drop a)
    have hk := Code.rd_size (s.data.toList.drop a)
    rw [List.length_drop, hlen] at hk
    have hE := Code.rd_err 0 (s.data.toList.drop a)
    rw [ext_drop] at UR
    unfold dnum
    simp only
    obtain ⟨⟨n, k, er⟩, hR⟩ := named (Code.rd 0 (s.data.toList.drop a))
    rw [← hR.out] at UR hfit hE hk ⊢
    simp only at UR hfit hE hk ⊢
    replace UR := Lib.hid UR
    replace hR := Lib.hid trivial
    have hmx : s.size ≤ 9223372036854775807 := by unfold maxLen at hs'; omega
    clear ho hs hs' hx
    show Calls _ _ #[.string s, .int .i64 ((a : Nat) : Int), .int .u64 (most : Int)] _ _
    have g0 : decide (((a : Nat) : Int) < 0) = false := by simp
    have g1 : ¬ ((a : Nat) : Int) < 0 := by omega
    have g2 : ((a : Nat) : Int) ≤ (s.size : Int) := by omega
    by_cases he : er = 0
    · subst he
      by_cases hn : n ≤ most
      · have g3 : decide ((most : Int) < (n : Int)) = false := by simp; omega
        have g4 : ¬ (most : Int) < (n : Int) := by omega
        have hT : (if (0 : Nat) = 0 ∧ n ≤ most then (n, some (a + k)) else (0, none)) = (n, some (a + k)) := by simp [hn]
        rw [hT]
        clear hT hn hE
        go_enter Try.func41, Try.ntmps41
        go_wp2_with (go_at_call 67; ((with_reducible refine UR.out.mono ?_); rintro r w1 ⟨rfl, rfl⟩))
        go_returns
        refine ⟨?_, rfl⟩
        simp only [atI]
        go_num
      · have g3 : decide ((most : Int) < (n : Int)) = true := by simp; omega
        have g4 : (most : Int) < (n : Int) := by omega
        have hT : (if (0 : Nat) = 0 ∧ n ≤ most then (n, some (a + k)) else (0, none)) = (0, none) := by simp [hn]
        rw [hT]
        clear hT hn hE
        go_enter Try.func41, Try.ntmps41
        go_wp2_with (go_at_call 67; ((with_reducible refine UR.out.mono ?_); rintro r w1 ⟨rfl, rfl⟩))
        go_returns
        exact ⟨rfl, rfl⟩
    · have g5 : ((er : Int) != 0) = true := by rw [bne_iff_ne]; omega
      have g6 : ¬ (er : Int) = 0 := by omega
      have hT : (if er = 0 ∧ n ≤ most then (n, some (a + k)) else (0, none)) = (0, none) := by simp [he]
      rw [hT]
      clear hT hE he
      go_enter Try.func41, Try.ntmps41
      go_wp2_with (go_at_call 67; ((with_reducible refine UR.out.mono ?_); rintro r w1 ⟨rfl, rfl⟩))
      go_returns
      exact ⟨rfl, rfl⟩
theorem rdf_err (l : List UInt8) (x : Int) : (Code.rdField l x).2.1 ≤ l.length := by
  have hk := Code.rd_size l
  unfold Code.rdField
  split
  · simp
  split
  · simp
  split
  · simp
  · simp only; omega
theorem dtxt_ok {l : List UInt8} {o : Option Nat} (h : OkAt l o) : OkAt l (dtxt l o).2 := by
  intro b hb
  cases o with
  | none => cases hb
  | some a =>
    have ha := h a rfl
    have hk := rdf_err (l.drop a) 520
    rw [List.length_drop] at hk
    unfold dtxt at hb
    simp only at hb
    split at hb
    · injection hb with hb; omega
    · cases hb
set_option maxRecDepth 100000 in
set_option maxHeartbeats 8000000 in
theorem dtxt_any (s : ByteArray) (hs : s.size ≤ reachBytes) (o : Option Nat) (ho : OkAt s.data.toList o) (w : World) : Calls Try.prog 42 #[.string s, .int .i64 (atI o)] w fun e w' => e = .returned (.tuple #[.string ⟨(dtxt s.data.toList o).1.toArray⟩, .int .i64 (atI (dtxt s.data.toList o).2)]) ∧ w' = w := by
  have hs' := reach_max hs
  have hlen : s.data.toList.length = s.size := by rw [Array.length_toList]; rfl
  cases o with
  | none =>
    simp only [dtxt, atI]
    go_enter Try.func42, Try.ntmps42
    go_wp2_with fail
    go_returns
    exact ⟨rfl, rfl⟩
  | some a =>
    have ha := ho a rfl
    rw [hlen] at ha
    have hx : (s.extract a s.size).size ≤ s.size := by rw [ByteArray.size_extract]; omega
    have UR := reffield_any (s.extract a s.size) (by omega) 520 (by omega) w
    have hk := rdf_err (s.data.toList.drop a) 520
    rw [List.length_drop, hlen] at hk
    rw [ext_drop] at UR
    unfold dtxt
    simp only
    obtain ⟨⟨n, k, er⟩, hR⟩ := named (Code.rdField (s.data.toList.drop a) 520)
    rw [← hR.out] at UR hk ⊢
    simp only at UR hk ⊢
    replace UR := Lib.hid UR
    replace hR := Lib.hid trivial
    have hmx : s.size ≤ 9223372036854775807 := by unfold maxLen at hs'; omega
    clear ho hs hs' hx
    show Calls _ _ #[.string s, .int .i64 ((a : Nat) : Int)] _ _
    have g0 : decide (((a : Nat) : Int) < 0) = false := by simp
    have g1 : ¬ ((a : Nat) : Int) < 0 := by omega
    have g2 : ((a : Nat) : Int) ≤ (s.size : Int) := by omega
    by_cases he : er = 0
    · subst he
      simp only [if_true]
      go_enter Try.func42, Try.ntmps42
      go_wp2_with (go_at_call 68; ((with_reducible refine UR.out.mono ?_); rintro r w1 ⟨rfl, rfl⟩))
      go_returns
      refine ⟨?_, rfl⟩
      simp only [atI]
      go_num
    · have g5 : ((er : Int) != 0) = true := by rw [bne_iff_ne]; omega
      have g6 : ¬ (er : Int) = 0 := by omega
      rw [if_neg he]
      clear he
      go_enter Try.func42, Try.ntmps42
      go_wp2_with (go_at_call 68; ((with_reducible refine UR.out.mono ?_); rintro r w1 ⟨rfl, rfl⟩))
      go_returns
      exact ⟨rfl, rfl⟩
end Go.Proofs.Ytkkedofbnmjgeaa
