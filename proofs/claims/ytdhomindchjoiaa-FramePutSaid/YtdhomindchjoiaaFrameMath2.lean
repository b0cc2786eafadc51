/-
  A burst in a frame, behind its length: plain mathematics. No model's run in this text. No condition.
-/
import Derived.Test.YtdhomindchjoiaaFrameMath
namespace Go.Proofs.Ytdhomindchjoiaa.Frame
open Go.Proofs.Ytdhomindchjoiaa.Code
theorem take_modify (l : Bs) (h q : Nat) (f : UInt8 → UInt8) (hq : h ≤ q) : (l.modify q f).take h = l.take h := by
  apply List.ext_getElem?
  intro j
  rw [List.getElem?_take, List.getElem?_take, List.getElem?_modify]
  by_cases hj : j < h
  · have hne : ¬ q = j := by omega
    simp [hj, hne]
  · simp [hj]
theorem take_burst (l : Bs) (h k : Nat) (p : BitVec 32) (hk : 8 * h ≤ k) (n : Nat) : (Crc.burst l k p n).take h = l.take h := by
  induction n with
  | zero => rfl
  | succ n ih =>
    unfold Crc.burst
    split
    · rw [take_modify _ _ _ _ (by omega), ih]
    · exact ih
/-- A burst of at most 32 bits behind the length is told from a frame. -/
theorem get_burst (p : Bs) (hp : p.length ≤ 65536) (k : Nat) (hk : k + 32 ≤ 8 * (p.length + 4)) (b : BitVec 32) (hb : b ≠ 0#32) :
    get (Crc.burst (put p) (8 * (uvar p.length).length + k) b 32) = ([], 0, 7) := by
  have hl := put_length p
  have hlen := Crc.burst_length (put p) (8 * (uvar p.length).length + k) b 32
  have htk := take_burst (put p) (uvar p.length).length (8 * (uvar p.length).length + k) b (by omega) 32
  have hne := Crc.more_burst (put p) (8 * (uvar p.length).length + k) b 0#32 (by omega) hb
  obtain ⟨L, hL⟩ : ∃ L, L = Crc.burst (put p) (8 * (uvar p.length).length + k) b 32 := ⟨_, rfl⟩
  rw [← hL] at hlen htk hne ⊢
  have hu : (put p).take (uvar p.length).length = uvar p.length := by unfold put body; rw [List.append_assoc]; exact List.take_left
  rw [hu] at htk
  have hr : rd 0 L = (p.length, (uvar p.length).length, 0) := by
    rw [← List.take_append_drop (uvar p.length).length L, htk]
    exact rd_uvar p.length 0 _ (by omega) (by omega) (by omega)
  unfold get
  rw [hr]
  simp only
  rw [if_neg (by simp), if_neg (by omega), if_neg (by omega), if_pos ?_]
  intro e
  have h4 : (L.drop ((uvar p.length).length + p.length)).length = 4 := by rw [List.length_drop]; omega
  have e2 : (L.drop ((uvar p.length).length + p.length)).take 4 = L.drop ((uvar p.length).length + p.length) := List.take_of_length_le (by omega)
  rw [e2] at e
  apply hne
  have h1 : L = L.take ((uvar p.length).length + p.length) ++ Crc.four (Crc.more 0#32 (L.take ((uvar p.length).length + p.length))) := by
    have := (List.take_append_drop ((uvar p.length).length + p.length) L).symm
    rw [← e] at this
    exact this
  have h2 : put p = body p ++ Crc.four (Crc.more 0#32 (body p)) := rfl
  rw [h2, Crc.more_sealed]
  exact (congrArg (Crc.more 0#32) h1).trans (Crc.more_sealed _ _)
end Go.Proofs.Ytdhomindchjoiaa.Frame
