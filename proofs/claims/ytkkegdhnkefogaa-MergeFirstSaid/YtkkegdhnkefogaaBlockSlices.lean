/-
  Slices of slices of rows. No condition.
-/
import Derived.Test.YtkkegdhnkefogaaRowAt
import Derived.WalkKit
namespace Go.Proofs.Ytkkegdhnkefogaa
set_option maxRecDepth 100000
open Go.RowKit
theorem size_rowB (w : World) : (Go.sizeOf (Try.prog.elem 25)).run Try.prog w = .ok 4 w := by
  obtain ⟨i0, hi, hz0, hz1, hz2⟩ := info_parts (show (Try.prog.info? (Try.prog.elem 25)).map (fun i => (i.zero, i.size, i.bytes)) = some (some (.agg #[.string .empty, .int .u64 0, .int .i64 0, .string .empty]), 4, 48) by kernel_rfl)
  simp [Go.sizeOf, typeInfo, hi, hz1]
theorem slr_upto (p : Option Addr) (n c k : Nat) (hk : k ≤ c) (u : World) : (Instr.slice 25 (.slice p n c) none (some (.int .i64 (k : Int))) none).run Try.prog u = .ok (.slice p k c) u := by
  rw [run_slice_h u 25 p n c (by kernel_rfl) .i64 (k : Int) (by omega) (by omega), size_rowB]
  cases p <;> simp [Result.andThen, sliced, Addr.add]
theorem Rs.upto {a : Option Addr} {n c b o : Nat} {l : List Rw} {w : World} (h : Rs a n c b o l w) {k : Nat} (hk : k ≤ n) : Rs a k c b o (l.take k) w :=
  ⟨by rw [List.length_take, h.len]; omega, by have := h.cap; omega, h.most, fun h0 => h.addr (by omega), fun j x hx => by
    rw [List.getElem?_take] at hx
    split at hx
    · exact h.at' j x hx
    · cases hx⟩
theorem addr_add (b o k : Nat) : (⟨b, o, none⟩ : Addr).add k = ⟨b, o + k, none⟩ := by
  unfold Addr.add
  split
  · rename_i h; rw [h]; rfl
  · rfl
/-- Where the rows from the k-th on lie. -/
def fromA (p : Option Addr) (c k : Nat) : Option Addr := if c = k then p else p.map (·.add (k * 4))
theorem slr_from (p : Option Addr) (n c k : Nat) (hk : k ≤ n) (x : Int) (hx : x = (k : Int)) (u : World) : (Instr.slice 25 (.slice p n c) (some (.int .i64 x)) none none).run Try.prog u = .ok (.slice (fromA p c k) (n - k) (c - k)) u := by
  subst hx
  rw [run_slice_l u 25 p n c (by kernel_rfl) .i64 (k : Int) (by omega) (by omega), size_rowB]
  simp only [Result.andThen, sliced, Int.toNat_natCast, fromA]
theorem slr_mid (p : Option Addr) (n c k m : Nat) (hk : k ≤ m) (hm : m ≤ c) (u : World) : (Instr.slice 25 (.slice p n c) (some (.int .i64 (k : Int))) (some (.int .i64 (m : Int))) none).run Try.prog u = .ok (.slice (fromA p c k) (m - k) (c - k)) u := by
  rw [run_slice_lh u 25 p n c (by kernel_rfl) .i64 .i64 (k : Int) (m : Int) (by omega) (by omega) (by omega), size_rowB]
  simp only [Result.andThen, sliced, Int.toNat_natCast, fromA]
theorem Rs.mid {p : Option Addr} {n c b o : Nat} {l : List Rw} {w : World} (h : Rs p n c b o l w) {k m : Nat} (hk : k ≤ m) (hm : m ≤ n) : Rs (fromA p c k) (m - k) (c - k) b (o + k * 4) ((l.take m).drop k) w := by
  have hc := h.cap
  refine ⟨by rw [List.length_drop, List.length_take, h.len]; omega, by omega, by have := h.most; omega, fun h0 => ?_, fun j x hx => ?_⟩
  · obtain ⟨rfl, hb⟩ := h.addr (by omega)
    refine ⟨?_, hb⟩
    unfold fromA
    rw [if_neg (by omega)]
    simp [addr_add]
  · rw [List.getElem?_drop, List.getElem?_take] at hx
    split at hx
    · have := h.at' (k + j) x hx
      rw [show o + (k + j) * 4 = o + k * 4 + j * 4 by omega] at this
      exact this
    · cases hx
theorem Rs.from {p : Option Addr} {n c b o : Nat} {l : List Rw} {w : World} (h : Rs p n c b o l w) {k : Nat} (hk : k ≤ n) : Rs (fromA p c k) (n - k) (c - k) b (o + k * 4) (l.drop k) w := by
  have := h.mid hk (Nat.le_refl n)
  rwa [List.take_of_length_le (by rw [h.len]; exact Nat.le_refl _)] at this
theorem same_rowsB {p1 p2 : Option Addr} {n1 c1 b1 o1 n2 c2 b2 o2 : Nat} {l : List Rw} {w : World} (h1 : Rs p1 n1 c1 b1 o1 l w) (h2 : Rs p2 n2 c2 b2 o2 l w) :
    Calls Try.prog 16 #[.slice p1 n1 c1, .slice p2 n2 c2] w fun e w' => e = .returned (.bool true) ∧ Below w.heap.size w w' := by
  have := samerows_any h1 h2
  simpa using this
end Go.Proofs.Ytkkegdhnkefogaa
