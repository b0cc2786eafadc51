/-
  Frames by fields: plain mathematics. No model's run in this text. No condition.
-/
import Derived.Test.YtdhomindchjoiaaFrameMath
namespace Go.Proofs.Ytdhomindchjoiaa.Frame
open Go.Proofs.Ytdhomindchjoiaa.Code
/-- A frame is a field with its seal behind it: what is got, said by the field. -/
theorem get_field (s : Bs) : get s =
    if (rdField s 65536).2.2 ≠ 0 then ([], 0, (rdField s 65536).2.2) else
    if s.length < (rdField s 65536).2.1 + 4 then ([], 0, 6) else
    if seal' (s.take (rdField s 65536).2.1) ≠ (s.drop (rdField s 65536).2.1).take 4 then ([], 0, 7) else
    ((rdField s 65536).1, (rdField s 65536).2.1 + 4, 0) := by
  have hk := rd_size s
  unfold get rdField
  by_cases h1 : (rd 0 s).2.2 = 0
  · rw [if_neg (show ¬ (rd 0 s).2.2 ≠ 0 by simpa using h1), if_neg (show ¬ (rd 0 s).2.2 ≠ 0 by simpa using h1)]
    by_cases h2 : 65536 < (rd 0 s).1
    · have h2' : (65536 : Int) < ((rd 0 s).1 : Int) := by omega
      rw [if_pos h2, if_pos h2']
      rfl
    · have h2' : ¬ (65536 : Int) < ((rd 0 s).1 : Int) := by omega
      rw [if_neg h2, if_neg h2']
      by_cases h3 : s.length - (rd 0 s).2.1 < (rd 0 s).1
      · rw [if_pos h3, if_pos (show s.length < (rd 0 s).2.1 + (rd 0 s).1 + 4 by omega)]
        rfl
      · rw [if_neg h3, if_neg (show ¬ ((0 : Nat) ≠ 0) by decide)]
  · rw [if_pos h1, if_pos h1]
    show _ = if (rd 0 s).2.2 ≠ 0 then _ else _
    rw [if_pos h1]
/-- A field that is read ends where there are bytes. -/
theorem field_end (s : Bs) (h : (rdField s 65536).2.2 = 0) : (rdField s 65536).2.1 ≤ s.length := (put_field s 65536 h).2.1
/-- How many bytes the frame of a payload of k bytes has. -/
theorem uvar_size (k : Nat) (h : k ≤ 65536) : (if (k : Int) < 128 then (k : Int) + 5 else if (k : Int) < 16384 then (k : Int) + 6 else (k : Int) + 7) = ((uvar k).length : Int) + k + 4 := by
  by_cases h1 : k < 128
  · rw [if_pos (by omega), uvar_small h1]; simp; omega
  · rw [if_neg (by omega), uvar_great h1]
    by_cases h2 : k < 16384
    · rw [if_pos (by omega), uvar_small (by omega)]; simp; omega
    · rw [if_neg (by omega), uvar_great (by omega), uvar_small (by omega)]; simp; omega
end Go.Proofs.Ytdhomindchjoiaa.Frame
