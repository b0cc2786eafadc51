/-
  Make, the program's and the document's, with whatever number of bits: the same answer. Condition: at most 65536 keys.
-/
import Derived.Test.YtccdbodemoefkaaBloomRefMake
namespace Go.Proofs.Ytccdbodemoefkaa
set_option maxRecDepth 100000
open Go.RowKit
theorem refmake_arg (bits : Int) (hb : bits < 1 ∨ 32 < bits) (v : Value) (w : World) :
    Calls Try.prog 8 #[v, .int .i64 bits] w fun e w' => e = .returned (.tuple #[.string ⟨#[]⟩, .int .i64 2]) ∧ w' = w := by
  rcases hb with h | h
  · go_enter Try.func8, Try.ntmps8
    go_wp2
    go_returns
    exact ⟨rfl, rfl⟩
  · have h1 : 1 ≤ bits := by omega
    go_enter Try.func8, Try.ntmps8
    go_wp2
    go_returns
    exact ⟨rfl, rfl⟩
def outT (X : List ByteArray) (bits : Int) : ByteArray := if 1 ≤ bits ∧ bits ≤ 32 then mkT X bits.toNat else ⟨#[]⟩
def outE (bits : Int) : Int := if 1 ≤ bits ∧ bits ≤ 32 then 0 else 2
theorem make_out (bits : Int) (a : Option Addr) (n c b o : Nat) (X : List ByteArray) (w : World) (ht : TextsAt a n c b o X w) (hX : ∀ x ∈ X, x.size ≤ maxLen) (hn : n ≤ 65536) :
    Calls Try.prog 7 #[.slice a n c, .int .i64 bits] w fun e w' => e = .returned (.tuple #[.string (outT X bits), .int .i64 (outE bits)]) ∧ Below w.heap.size w w' := by
  unfold outT outE
  by_cases h : 1 ≤ bits ∧ bits ≤ 32
  · rw [if_pos h, if_pos h]
    obtain ⟨k, rfl⟩ : ∃ k : Nat, bits = (k : Int) := ⟨bits.toNat, by omega⟩
    exact make_good k (by omega) (by omega) a n c b o X w ht hX hn
  · rw [if_neg h, if_neg h]
    exact (make_arg bits (by omega) _ w).mono fun e w' ⟨h1, h2⟩ => ⟨h1, by rw [h2]; exact Below.refl _ _⟩
theorem refmake_out (bits : Int) (a : Option Addr) (n c b o : Nat) (X : List ByteArray) (w : World) (ht : TextsAt a n c b o X w) (hX : ∀ x ∈ X, x.size ≤ maxLen) (hn : n ≤ 65536) :
    Calls Try.prog 8 #[.slice a n c, .int .i64 bits] w fun e w' => e = .returned (.tuple #[.string (outT X bits), .int .i64 (outE bits)]) ∧ Below w.heap.size w w' := by
  unfold outT outE
  by_cases h : 1 ≤ bits ∧ bits ≤ 32
  · rw [if_pos h, if_pos h]
    obtain ⟨k, rfl⟩ : ∃ k : Nat, bits = (k : Int) := ⟨bits.toNat, by omega⟩
    exact refmake_good k (by omega) (by omega) a n c b o X w ht hX hn
  · rw [if_neg h, if_neg h]
    exact (refmake_arg bits (by omega) _ w).mono fun e w' ⟨h1, h2⟩ => ⟨h1, by rw [h2]; exact Below.refl _ _⟩
end Go.Proofs.Ytccdbodemoefkaa
