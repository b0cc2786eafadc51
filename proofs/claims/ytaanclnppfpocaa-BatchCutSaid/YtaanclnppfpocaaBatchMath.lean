/-
  Batches as plain data: which are valid, how they are written and read. No condition.
-/
import Derived.Test.YtaanclnppfpocaaCodeMath2
import Derived.Test.YtaanclnppfpocaaKit
namespace Go.Proofs.Ytaanclnppfpocaa
/-- A write. -/
structure Wr where
  kind : Int
  key : ByteArray
  val : ByteArray
def Wr.bad (x : Wr) : Bool := (x.kind != 1 && x.kind != 2) || (x.key.size == 0 || (x.kind == 2 && x.val.size != 0))
def Wr.long (x : Wr) : Bool := decide (520 < x.key.size) || decide (2048 < x.val.size)
def Wr.chk (x : Wr) : Int := if x.bad = true then 2 else if x.long = true then 3 else 0
def chkB (seq : Nat) (l : List Wr) : Int :=
  if l.length = 0 ∨ seq < 1 ∨ 72057594037927872 < seq then 2 else if l.any Wr.bad = true then 2 else if 64 < l.length ∨ l.any Wr.long = true then 3 else 0
/-- What a walk over the writes has found so far. -/
def sofar (long : Bool) (l : List Wr) : Int := if long = true ∨ l.any Wr.long = true then 3 else 0
theorem sofar_nil (b : Bool) : sofar b [] = if b = true then 3 else 0 := by simp [sofar]
theorem sofar_snoc {b : Bool} {l : List Wr} {x : Wr} (hb : x.bad = false) : sofar b (l ++ [x]) = if x.chk = 3 then 3 else sofar b l := by
  unfold sofar Wr.chk
  rw [hb]
  simp only [Bool.false_eq_true, if_false, List.any_append, List.any_cons, List.any_nil, Bool.or_false, Bool.or_eq_true]
  cases h : x.long
  · simp
  · simp
theorem chk_zero (x : Wr) : x.bad = false → (x.chk = 3 ∨ x.chk = 0) := by
  intro h
  unfold Wr.chk
  rw [h]
  simp only [Bool.false_eq_true, if_false]
  split
  · exact .inl rfl
  · exact .inr rfl
theorem chk_bad {x : Wr} : x.chk = 2 ↔ x.bad = true := by
  unfold Wr.chk
  split
  · rename_i h; exact ⟨fun _ => h, fun _ => rfl⟩
  · rename_i h
    refine ⟨fun e => ?_, fun e => absurd e h⟩
    split at e <;> cases e
theorem chkB_end {seq : Nat} {l : List Wr} (h : ¬ (l.length = 0 ∨ seq < 1 ∨ 72057594037927872 < seq)) (hb : l.any Wr.bad = false) : chkB seq l = sofar (decide (64 < l.length)) l := by
  unfold chkB sofar
  rw [if_neg h, hb]
  simp
theorem chkB_arg {seq : Nat} {l : List Wr} (h : l.length = 0 ∨ seq < 1 ∨ 72057594037927872 < seq) : chkB seq l = 2 := by
  unfold chkB; rw [if_pos h]
theorem chkB_bad {seq : Nat} {l : List Wr} (h : l.any Wr.bad = true) : chkB seq l = 2 := by
  unfold chkB
  rw [if_pos h]
  split <;> rfl
theorem chkB_ok {seq : Nat} {l : List Wr} (h : chkB seq l = 0) : l.length ≠ 0 ∧ 1 ≤ seq ∧ seq ≤ 72057594037927872 ∧ l.length ≤ 64 ∧ ∀ x ∈ l, x.bad = false ∧ x.long = false := by
  unfold chkB at h
  split at h
  · cases h
  · rename_i h1
    split at h
    · cases h
    · rename_i h2
      split at h
      · cases h
      · rename_i h3
        refine ⟨by omega, by omega, by omega, by omega, fun x hx => ⟨?_, ?_⟩⟩
        · cases e : x.bad with
          | false => rfl
          | true => exact absurd (List.any_eq_true.2 ⟨x, hx, e⟩) h2
        · cases e : x.long with
          | false => rfl
          | true => exact absurd (.inr (List.any_eq_true.2 ⟨x, hx, e⟩)) h3
theorem chkB_made {seq : Nat} {l : List Wr} (h0 : l.length ≠ 0) (h1 : 1 ≤ seq) (h2 : seq ≤ 72057594037927872) (h3 : l.length ≤ 64) (h : ∀ x ∈ l, x.bad = false ∧ x.long = false) : chkB seq l = 0 := by
  unfold chkB
  rw [if_neg (by omega), if_neg (by simp only [List.any_eq_true, not_exists, not_and]; intro x hx; simp [(h x hx).1]), if_neg]
  simp only [List.any_eq_true, not_or, not_exists, not_and]
  exact ⟨by omega, fun x hx => by simp [(h x hx).2]⟩
end Go.Proofs.Ytaanclnppfpocaa
