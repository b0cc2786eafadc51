/-
  What the statements on frames use of the program's four calls: said once, proved elsewhere; and the answers that each statement holds at its end. No condition.
-/
import Derived.Test.YtdhomindchjoiaaFrameAllRef
import Derived.Test.YtdhomindchjoiaaFrameSame
import Derived.OpenShut
import Derived.ProofKit
namespace Go.Proofs.Ytdhomindchjoiaa
open Go.RowKit
/-- The contracts of the program's Size, Put, Get and All. -/
structure Face : Prop where
  size : ∀ (n : Int) (w : World), (Lit.int .i64 n).wf = true → Calls Try.prog 13 #[.int .i64 n] w fun e w' => e = .returned (.int .i64 (sizeOf n)) ∧ Below w.heap.size w w'
  put : ∀ (p : ByteArray) (w : World), p.size ≤ 200000000000000 → Calls Try.prog 11 #[.string p] w fun e w' => e = .returned (.tuple #[.string ⟨(putOf p.data.toList).1.toArray⟩, .int .i64 ((putOf p.data.toList).2 : Int)]) ∧ Below w.heap.size w w'
  get : ∀ (s : ByteArray) (w : World), s.size ≤ 200000000000000 → Calls Try.prog 16 #[.string s] w fun e w' => e = .returned (.tuple #[.string ⟨(Frame.get s.data.toList).1.toArray⟩, .int .i64 ((Frame.get s.data.toList).2.1 : Int), .int .i64 ((Frame.get s.data.toList).2.2 : Int)]) ∧ Below w.heap.size w w'
  all : ∀ (s : ByteArray) (w : World), s.size ≤ 100000 → Calls Try.prog 18 #[.string s] w fun e w' => ∃ v, e = .returned (.tuple #[v, .int .i64 ((Frame.alls s.data.toList).2.1 : Int), .int .i64 ((Frame.alls s.data.toList).2.2 : Int)]) ∧
    Texts w' w.heap.size v (Frame.alls s.data.toList).1 ∧ Below w.heap.size w w'
theorem uvar_zero : Code.uvar 0 = [0] := by rw [Code.uvar_small (by decide)]; rfl
theorem put_empty : ((⟨(Frame.put []).toArray⟩ : ByteArray).size : Int) = 5 := by
  rw [frame_size, Frame.put_length]
  show (((Code.uvar 0).length + 0 + 4 : Nat) : Int) = 5
  rw [uvar_zero]; rfl
set_option maxHeartbeats 2000000 in
theorem awake_any (F : Face) (w : World) : Calls Try.prog 15 #[] w fun e w' => e = .returned (.bool true) ∧ Below w.heap.size w w' := by
  have hB0 := Below.refl w.heap.size w
  have c1 := fun v => F.put ⟨#[]⟩ v (by decide)
  have c2 := fun v => F.get ⟨#[129, 128, 4]⟩ v (by decide)
  have c3 := fun v => F.get ⟨#[1, 97]⟩ v (by decide)
  have C4 := Lib.hid fun v => F.size 128 v (by decide)
  have C5 := Lib.hid fun v => F.size 65537 v (by decide)
  have e1 : putOf (⟨#[]⟩ : ByteArray).data.toList = (Frame.put [], 0) := rfl
  have e2 : Frame.get (⟨#[129, 128, 4]⟩ : ByteArray).data.toList = ([], 0, 3) := by decide +kernel
  have e3 : Frame.get (⟨#[1, 97]⟩ : ByteArray).data.toList = ([], 0, 6) := by decide +kernel
  have e4 : sizeOf 128 = 134 := rfl
  have e5 : sizeOf 65537 = 0 := rfl
  have hz := put_empty
  rw [e1] at c1
  rw [e2] at c2
  rw [e3] at c3
  obtain ⟨P, hP⟩ := named (⟨(Frame.put []).toArray⟩ : ByteArray)
  have c1' : ∀ v, Calls Try.prog 11 #[.string ⟨#[]⟩] v fun e w' => e = .returned (.tuple #[.string P, .int .i64 0]) ∧ Below v.heap.size v w' := by rw [hP.out]; exact c1
  rw [← hP.out] at hz
  rw [e4] at C4
  rw [e5] at C5
  have C1 := Lib.hid c1'
  have C2 := Lib.hid c2
  have C3 := Lib.hid c3
  clear c1 c1' c2 c3 e1 e2 e3 e4 e5
  go_enter Try.func15, Try.ntmps15
  go_wp2_with (first
    | (go_at_call 11; ((with_reducible refine (C1.out _).mono ?_); rintro e w' ⟨rfl, hb⟩; have hB' := below_of (w := w) (by assumption) hb))
    | (go_at_call 16; ((with_reducible refine (C2.out _).mono ?_); rintro e w' ⟨rfl, hb⟩; have hB' := below_of (w := w) (by assumption) hb))
    | (go_at_call 16; ((with_reducible refine (C3.out _).mono ?_); rintro e w' ⟨rfl, hb⟩; have hB' := below_of (w := w) (by assumption) hb))
    | (go_at_call 13; ((with_reducible refine (C4.out _).mono ?_); rintro e w' ⟨rfl, hb⟩; have hB' := below_of (w := w) (by assumption) hb))
    | (go_at_call 13; ((with_reducible refine (C5.out _).mono ?_); rintro e w' ⟨rfl, hb⟩; have hB' := below_of (w := w) (by assumption) hb)))
  go_ret
  exact ⟨rfl, by assumption⟩
end Go.Proofs.Ytdhomindchjoiaa
