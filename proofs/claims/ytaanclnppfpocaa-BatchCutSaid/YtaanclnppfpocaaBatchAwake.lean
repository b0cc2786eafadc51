/-
  The answers that the document fixes (awake). No condition.
-/
import Derived.Test.YtaanclnppfpocaaBatchEncode
import Derived.Test.YtaanclnppfpocaaBatchDecode
import Derived.Test.YtaanclnppfpocaaBatchNext
import Derived.Test.YtaanclnppfpocaaBatchMath3
namespace Go.Proofs.Ytaanclnppfpocaa
open Go.RowKit
def awL : List Wr := [⟨1, ⟨#[97]⟩, ⟨#[120]⟩⟩, ⟨2, ⟨#[98]⟩, ⟨#[]⟩⟩]
theorem aw_enc : encB 1 awL = [1, 2, 1, 1, 97, 1, 120, 2, 1, 98] := by
  unfold encB encL awL encW fldB
  simp only [List.flatMap_cons, List.flatMap_nil, List.length_cons, List.length_nil]
  rw [Code.uvar_small (by decide), Code.uvar_small (by decide), Code.uvar_small (by decide), Code.uvar_small (by decide), Code.uvar_small (by decide)]
  decide
theorem aw_dec : decB (⟨#[1, 0]⟩ : ByteArray).data.toList = (0, [], 7) := by
  rcases decB_way (⟨#[1, 0]⟩ : ByteArray).data.toList with h | ⟨seq, xs, _, hc, he, _⟩
  · exact h
  · exfalso
    have k0 := (chkB_ok hc).1
    have h1 := congrArg List.length he
    have h2 := Code.uvar_len seq
    have h3 := Code.uvar_len xs.length
    have h4 : 1 ≤ (encL xs).length := by
      cases xs with
      | nil => exact absurd rfl k0
      | cons x r => unfold encL; rw [List.flatMap_cons, List.length_append]; unfold encW; simp only [List.length_cons]; omega
    unfold encB at h1
    rw [List.length_append, List.length_append] at h1
    have h5 : (⟨#[1, 0]⟩ : ByteArray).data.toList.length = 2 := rfl
    omega
set_option maxRecDepth 100000 in
set_option maxHeartbeats 2000000 in
theorem awake_any (w : World) : Calls Try.prog 8 #[] w fun e w' => e = .returned (.bool true) ∧ Below w.heap.size w w' := by
  have hws : Hid (∀ V : World, V.heap[w.heap.size]? = some (.cells #[.int .i64 1, .string ⟨#[97]⟩, .string ⟨#[120]⟩, .int .i64 2, .string ⟨#[98]⟩, .string ⟨#[]⟩] 44 (0, 0)) → Ws (some ⟨w.heap.size, 0, none⟩) 2 2 w.heap.size 0 awL V) := Lib.hid fun V hV => by
    refine ⟨rfl, Nat.le_refl _, by omega, fun _ => ⟨rfl, (Array.getElem?_eq_some_iff.1 hV).1⟩, fun j x hx => ?_, fun x hx => ?_⟩
    · match j, hx with
      | 0, hx => cases hx; exact ⟨by simp [World.cell?, hV], by simp [World.cell?, hV], by simp [World.cell?, hV]⟩
      | 1, hx => cases hx; exact ⟨by simp [World.cell?, hV], by simp [World.cell?, hV], by simp [World.cell?, hV]⟩
    · unfold awL at hx
      simp only [List.mem_cons, List.not_mem_nil, or_false] at hx
      rcases hx with rfl | rfl <;> exact ⟨by decide, by decide⟩
  have hc : Hid (chkB 1 awL = 0) := Lib.hid (by decide)
  have EN := Lib.hid fun u (h : Ws (some ⟨w.heap.size, 0, none⟩) 2 2 w.heap.size 0 awL u) => encode_good (seq := 1) h hc.out
  rw [aw_enc] at EN
  have NX := Lib.hid fun u (h : Ws (some ⟨w.heap.size, 0, none⟩) 2 2 w.heap.size 0 awL u) => next_batch (seq := 1) h
  rw [show nextB 1 awL = 3 by unfold nextB; rw [hc.out]; rfl] at NX
  have DE := Lib.hid fun u => decode_main ⟨#[1, 0]⟩ (by decide) u
  unfold DecodedB at DE
  rw [aw_dec] at DE
  clear hc
  go_enter Try.func8, Try.ntmps8
  go_wp2_with fail
  have G0 : Hid (((w.alloc (.cells #[.int .i64 1, .string ⟨#[97]⟩, .string ⟨#[120]⟩, .int .i64 2, .string ⟨#[98]⟩, .string ⟨#[]⟩] 44)).alloc (.cells #[.int .u64 1, .slice (some ⟨w.heap.size, 0, none⟩) 2 2] 25)).heap[w.heap.size]? = some (.cells #[.int .i64 1, .string ⟨#[97]⟩, .string ⟨#[120]⟩, .int .i64 2, .string ⟨#[98]⟩, .string ⟨#[]⟩] 44 (0, 0))) := Lib.hid ((Lib.alloc_old _ _ _ (by simp)).trans (heap_alloc_new _ _))
  have G1 : Hid (((w.alloc (.cells #[.int .i64 1, .string ⟨#[97]⟩, .string ⟨#[120]⟩, .int .i64 2, .string ⟨#[98]⟩, .string ⟨#[]⟩] 44)).alloc (.cells #[.int .u64 1, .slice (some ⟨w.heap.size, 0, none⟩) 2 2] 25)).heap[w.heap.size + 1]? = some (.cells #[.int .u64 1, .slice (some ⟨w.heap.size, 0, none⟩) 2 2] 25 (0, 0))) := Lib.hid (by
    have := heap_alloc_new (w.alloc (.cells #[.int .i64 1, .string ⟨#[97]⟩, .string ⟨#[120]⟩, .int .i64 2, .string ⟨#[98]⟩, .string ⟨#[]⟩] 44)) (.cells #[.int .u64 1, .slice (some ⟨w.heap.size, 0, none⟩) 2 2] 25)
    simpa using this)
  have B0 : Hid (Below w.heap.size w ((w.alloc (.cells #[.int .i64 1, .string ⟨#[97]⟩, .string ⟨#[120]⟩, .int .i64 2, .string ⟨#[98]⟩, .string ⟨#[]⟩] 44)).alloc (.cells #[.int .u64 1, .slice (some ⟨w.heap.size, 0, none⟩) 2 2] 25))) := Lib.hid ((below_alloc _ _).alloc (by simp) _)
  generalize (w.alloc (.cells #[.int .i64 1, .string ⟨#[97]⟩, .string ⟨#[120]⟩, .int .i64 2, .string ⟨#[98]⟩, .string ⟨#[]⟩] 44)).alloc (.cells #[.int .u64 1, .slice (some ⟨w.heap.size, 0, none⟩) 2 2] 25) = V0 at *
  refine (EN.out V0 (hws.out V0 G0.out)).mono ?_
  rintro e V1 ⟨rfl, b1⟩
  have G0 := Lib.hid ((b1.block w.heap.size (Array.getElem?_eq_some_iff.1 G0.out).1).trans G0.out)
  have G1 := Lib.hid ((b1.block (w.heap.size + 1) (Array.getElem?_eq_some_iff.1 G1.out).1).trans G1.out)
  have B1 := Lib.hid (B0.out.trans (b1.mono B0.out.size))
  clear b1 B0 EN
  go_wp2_with fail
  refine (DE.out V1).mono ?_
  rintro e V2 ⟨da, dc, db, rfl, _, hz, b2⟩
  obtain ⟨rfl, rfl⟩ := hz (by trivial)
  have G0 := Lib.hid ((b2.block w.heap.size (Array.getElem?_eq_some_iff.1 G0.out).1).trans G0.out)
  have G1 := Lib.hid ((b2.block (w.heap.size + 1) (Array.getElem?_eq_some_iff.1 G1.out).1).trans G1.out)
  have B2 := Lib.hid (B1.out.trans (b2.mono B1.out.size))
  obtain ⟨y0, y1, _, _⟩ := cell2 G1.out
  have hlt := (Array.getElem?_eq_some_iff.1 G1.out).1
  clear b2 B1 DE
  go_wp2_with fail
  refine (NX.out _ ((hws.out V2 G0.out).below (below_alloc _ _) (Nat.le_refl _))).mono ?_
  rintro e V3 ⟨rfl, b3⟩
  have B3 := Lib.hid ((B2.out.alloc B2.out.size (.cells #[.int .u64 0, .slice none 0 0] 25)).trans (b3.mono (by have := B2.out.size; simp; omega)))
  go_wp2_with fail
  go_returns
  exact ⟨rfl, B3.out⟩
end Go.Proofs.Ytaanclnppfpocaa
