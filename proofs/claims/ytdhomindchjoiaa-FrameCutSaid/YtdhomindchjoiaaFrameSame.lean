/-
  The contract of the document's own Same: two lists that hold the same texts are the same. Condition: lists of a length that there is.
-/
import Derived.Test.YtdhomindchjoiaaTexts
import Derived.BigQuiet
import Derived.Deep.QuietTactic
import Derived.WalkKit
import Derived.IntWalk
import Derived.WalkMore
import Derived.Handy
namespace Go.Proofs.Ytdhomindchjoiaa
open Go.RowKit
/-- v is a slice in which these texts lie. -/
def Lies (w : World) (v : Value) (l : List (List UInt8)) : Prop :=
  ∃ a cap, v = .slice a l.length cap ∧ (l = [] ∨ ∃ b off, a = some ⟨b, off, none⟩ ∧ ∀ i (hi : i < l.length), w.cell? ⟨b, off + i, none⟩ = some (.string ⟨l[i].toArray⟩))
theorem texts_lie {w : World} {base : Nat} {v : Value} {l : List (List UInt8)} (h : Texts w base v l) : Lies w v l := by
  rcases texts_cell h with ⟨rfl, rfl⟩ | ⟨g, cap, rfl, _, _, hc⟩
  · exact ⟨none, 0, rfl, .inl rfl⟩
  · exact ⟨_, cap, rfl, .inr ⟨g, 0, rfl, fun i hi => by rw [Nat.zero_add]; exact hc i hi⟩⟩
theorem same_none (a a' : Option Addr) (c c' : Nat) (w : World) :
    Calls Try.prog 20 #[.slice a 0 c, .slice a' 0 c'] w fun e w' => e = .returned (.bool true) ∧ Below w.heap.size w w' := by
  go_enter Try.func20, Try.ntmps20
  go_wp2
  refine wp_loop_rounds 1 ?_
  rw [rounds_succ]
  go_wp2
  go_ret
  exact ⟨rfl, Below.refl _ _⟩
set_option maxHeartbeats 4000000 in
theorem same_some (l : List (List UInt8)) (hl : l.length ≤ 100000) (b off b' off' c c' : Nat) (w : World) (h : ∀ i (hi : i < l.length), w.cell? ⟨b, off + i, none⟩ = some (.string ⟨l[i].toArray⟩)) (h' : ∀ i (hi : i < l.length), w.cell? ⟨b', off' + i, none⟩ = some (.string ⟨l[i].toArray⟩)) :
    Calls Try.prog 20 #[.slice (some ⟨b, off, none⟩) l.length c, .slice (some ⟨b', off', none⟩) l.length c'] w fun e w' => e = .returned (.bool true) ∧ Below w.heap.size w w' := by
  obtain ⟨n, hn⟩ := named l.length
  have H := Lib.hid h
  have H' := Lib.hid h'
  rw [← hn.out] at hl ⊢
  clear h h'
  go_enter Try.func20, Try.ntmps20
  go_wp2
  go_loopw [5] (fun d wr => ∃ k q : Nat, k ≤ n ∧ d = .int .i64 (k : Int) ∧ wr = w.drewN q) (fun d _ => n - (intOf d).toNat)
  case atStart => exact ⟨0, 0, by omega, rfl, rfl⟩
  case round =>
    obtain ⟨k, q, hk, rfl, rfl⟩ := hrel
    by_cases he : k = n
    · subst he
      go_wp2
      go_ret
      exact ⟨rfl, below_of (w := w) (Below.refl _ _) ⟨rfl, rfl, rfl, Nat.le_refl _, fun _ _ => rfl⟩⟩
    · have hlt : (k : Int) < (n : Int) := by omega
      have hkl : k < l.length := by have := hn.out; omega
      have g1 := H.out k hkl
      have g2 := H'.out k hkl
      obtain ⟨X, hX⟩ := named (⟨l[k].toArray⟩ : ByteArray)
      rw [← hX.out] at g1 g2
      go_wp2
      go_quiet (fail)
      go_wp2
      go_roundw
      case rel => exact ⟨k + 1, _, by omega, by go_num, rfl⟩
      case measure => simp [intOf]; omega
theorem refsame_any (l : List (List UInt8)) (hl : l.length ≤ 100000) (v v' : Value) (w : World) (h : Lies w v l) (h' : Lies w v' l) :
    Calls Try.prog 20 #[v, v'] w fun e w' => e = .returned (.bool true) ∧ Below w.heap.size w w' := by
  obtain ⟨a, c, rfl, g⟩ := h
  obtain ⟨a', c', rfl, g'⟩ := h'
  rcases g with rfl | ⟨b, off, rfl, g⟩
  · exact same_none a a' c c' w
  · rcases g' with rfl | ⟨b', off', rfl, g'⟩
    · exact same_none _ a' c c' w
    · exact same_some l hl b off b' off' c c' w g g'
end Go.Proofs.Ytdhomindchjoiaa
