/-
  An argument of type []Op: opened.
-/
import Derived.Test.YtcgpcpplbmebgaaSliceArg
namespace Go.Proofs.Ytcgpcpplbmebgaa
open Go.RowKit
set_option maxRecDepth 100000
structure SkOp where
  act : Int
  row : Rw
  hgt : Int
  deriving Inhabited
def cellsK (v : SkOp) : List Value := [.int .i64 v.act, .string v.row.key, .int .u64 (v.row.seq : Int), .int .i64 v.row.kind, .string v.row.val, .int .i64 v.hgt]
def SkOpIn (v : SkOp) : Prop := (Lit.int .i64 v.act).wf = true ∧ RwIn v.row ∧ (Lit.int .i64 v.hgt).wf = true
theorem sk_read {H : Type} {enc : TypeId × Value → H} {W : World} {fuel : Nat} {cs : List Value} {y : DataW H × List MemPlace} (h : DataW.trod enc Try.prog W 0 (fun _ => true) true fuel 38 cs = some y) :
    ∃ v : SkOp, cs = cellsK v ∧ ((Lit.int .i64 v.act).wf = true ∧ v.row.seq ≤ 18446744073709551615 ∧ (Lit.int .i64 v.hgt).wf = true) ∧ ∀ n ∈ [v.row.key.size, v.row.val.size], n ∈ y.1.weights Try.prog 38 := by
  have oc : Try.prog.cellsOf 38 = 6 := by kernel_rfl
  have rc : Try.prog.cellsOf 36 = 4 := by kernel_rfl
  have i1 : Try.prog.cellsOf 3 = 1 := by kernel_rfl
  obtain ⟨xs, n, _, hx, hsz, hn, hg⟩ := DataW.trod_struct Try.underlying38 h
  have g0 := hg 0 _ rfl
  have g1 := hg 1 _ rfl
  have g2 := hg 2 _ rfl
  clear hg h
  rw [oc] at hsz
  have hm : xs.length = 3 := hn
  match cs, hsz with
  | [c0, c1, c2, c3, c4, c5], _ =>
    match xs, hm with
    | [y0, y1, y2], _ =>
      obtain ⟨a0, e0, f0, w0⟩ := DataW.trod_int Try.underlying3 g0
      obtain ⟨r, e1, w1, k1⟩ := rw_read g1
      obtain ⟨a2, e2, f2, w2⟩ := DataW.trod_int Try.underlying3 g2
      simp [i1, rc] at e0 e1 e2
      subst e0 e2 f0 f2
      unfold cellsR at e1
      simp only [List.cons.injEq, and_true] at e1
      obtain ⟨rfl, rfl, rfl, rfl⟩ := e1
      refine ⟨⟨a0, r, a2⟩, rfl, ⟨w0, w1, w2⟩, fun m hm => ?_⟩
      have hm := k1 m hm
      have hy : y.1 = .agg [.lit (.int .i64 a0), y1.1, .lit (.int .i64 a2)] := by rw [hx]; rfl
      rw [hy]
      simp only [DataW.weights, Try.underlying38, DataW.weightsEach, List.map_cons, List.map_nil]
      simp [hm]
/-- Steps of a script that came in. -/
theorem open_skops {H : Type} {enc : TypeId × Value → H} {W : World} {a0 : Option Addr} {len cap fuel : Nat} {x : DataW H × List MemPlace} {ts : List TypeId} {ds : List (DataW H)}
    (hf : DataW.trod enc Try.prog W 0 (fun _ => true) true fuel 22 [.slice a0 len cap] = some x) (hsz : (DataW.weightsEach Try.prog ts ds).all (· ≤ reachBytes) = true) {j : Nat} (ht : ts[j]? = some 22) (hd : ds[j]? = some x.1) :
    ∃ b o l, SlOf 6 cellsK a0 len cap b o l W ∧ ∀ v ∈ l, SkOpIn v := by
  have oc : Try.prog.cellsOf 38 = 6 := by kernel_rfl
  obtain ⟨b, o, l, hs, hg⟩ := open_slice_of (α := SkOp) 6 Try.underlying22 oc (by omega) cellsK (fun _ => rfl) (fun v => (Lit.int .i64 v.act).wf = true ∧ v.row.seq ≤ 18446744073709551615 ∧ (Lit.int .i64 v.hgt).wf = true) (fun v => [v.row.key.size, v.row.val.size]) sk_read hf
    (fun m hm => by have := List.all_eq_true.1 hsz _ (DataW.weights_mem_each ht hd m hm); simpa using this)
  refine ⟨b, o, l, hs, fun v hv => ?_⟩
  obtain ⟨⟨p1, p2, p3⟩, p4⟩ := hg v hv
  exact ⟨p1, rwIn_of p2 p4, p3⟩
end Go.Proofs.Ytcgpcpplbmebgaa
