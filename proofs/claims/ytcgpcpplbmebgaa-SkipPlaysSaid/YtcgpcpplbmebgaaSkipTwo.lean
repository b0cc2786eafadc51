/-
  The program's list and the document's, side by side: SkipPlays's relation.
-/
import Derived.Test.YtcgpcpplbmebgaaSkipRef3
import Derived.Test.YtcgpcpplbmebgaaSkipOps
import Derived.Test.YtcgpcpplbmebgaaSkipMath2
namespace Go.Proofs.Ytcgpcpplbmebgaa
set_option maxRecDepth 100000
open Go.RowKit
theorem Zoo.but {base d : Nat} {zs : List (Nat × SL)} {w w' : World} {cs : Array Value} {T : TypeId} {z : Nat × Nat} (h : Zoo base zs w) (hd : w.heap[d]? = some (.cells cs T z)) (h1 : T ≠ 29) (h2 : T ≠ 93) (hb : But d w w') : Zoo base zs w' := by
  obtain ⟨f, k1, k2⟩ := h
  have bl : ∀ b U, Typed w b U → U ≠ T → b < w.heap.size → w'.heap[b]? = w.heap[b]? := fun b U ht hU hlt => hb.block b hlt (fun e => by
    subst e
    obtain ⟨c, hc⟩ := ht
    rw [hd] at hc
    simp only [Option.some.injEq, Obj.cells.injEq] at hc
    exact hU hc.2.1.symm)
  exact ⟨f, fun i p l e' => ⟨(k1 i p l e').1.keep (bl p _ (k1 i p l e').1.typ (Ne.symm h1) (k1 i p l e').1.lt) (fun x hx => bl x.blk _ ((k1 i p l e').1.ntyp x hx) (Ne.symm h2) ((k1 i p l e').1.nlt hx)), (k1 i p l e').2⟩, k2⟩
theorem RefL.grow {B p : Nat} {l : SL} {w w' : World} (h : RefL B p l w) (hb : Below w.heap.size w w') : RefL B p l w' := by
  obtain ⟨rv, hv, h1, h2, h3, h4⟩ := h
  exact ⟨rv, hv, (hb.block p (Array.getElem?_eq_some_iff.1 h1).1).trans h1, row_grow h2 hb, row_grow h3 hb, h4⟩
theorem RefL.else {B p : Nat} {l : SL} {w w' : World} (h : RefL B p l w) (he : Else w w') : RefL B p l w' := by
  obtain ⟨rv, hv, h1, h2, h3, h4⟩ := h
  have nt : ∀ T, T ≠ 33 → ¬ Typed w p T := fun T hT ht => by
    obtain ⟨c, hc⟩ := ht
    rw [h1] at hc
    simp only [Option.some.injEq, Obj.cells.injEq] at hc
    exact hT hc.2.1.symm
  exact ⟨rv, hv, (he p (Array.getElem?_eq_some_iff.1 h1).1 (nt _ (by decide)) (nt _ (by decide))).trans h1, row_else h2 (by decide) (by decide) he, row_else h3 (by decide) (by decide) he, h4⟩
/-- Both lists hold the same rows at the same heights. -/
structure Two (base p d : Nat) (l l' : SL) (w : World) : Prop where
  zoo : Zoo base [(p, l)] w
  ref : RefL base d l' w
theorem Two.grow {base p d : Nat} {l l' : SL} {w w' : World} (h : Two base p d l l' w) (hb : Below w.heap.size w w') : Two base p d l l' w' := ⟨h.zoo.grow hb, h.ref.grow hb⟩
theorem Two.refs {base p d : Nat} {l l' : SL} {w : World} (h : Two base p d l l' w) : ∃ pa pc qa qc pb qb, w.heap[d]? = some (.cells #[.slice pa l'.length pc, .slice qa l'.length qc] 33 (0, 0)) ∧ Rs pa l'.length pc pb 0 (rowsL l') w ∧ SlOf 1 cellsI qa l'.length qc qb 0 (intsH (hgtsL l')) w := by
  obtain ⟨rv, hv, hp, hr, hh, _⟩ := h.ref
  obtain ⟨pa, pc, rfl⟩ := ownsRow_slice hr
  obtain ⟨qa, qc, rfl⟩ := ownsRow_slice hh
  obtain ⟨pb, rs⟩ := rs_row_at hr (rows_len l')
  obtain ⟨qb, qs⟩ := slof_of_row hh (hgts_len l')
  exact ⟨pa, pc, qa, qc, pb, qb, hp, rs, qs⟩
/-- A block that holds one step of the script. -/
def OpAt (b : Nat) (x : SkOp) (w : World) : Prop := w.heap[b]? = some (.cells #[.int .i64 x.act, .string x.row.key, .int .u64 (x.row.seq : Int), .int .i64 x.row.kind, .string x.row.val, .int .i64 x.hgt] 38 (0, 0))
theorem OpAt.new (x : SkOp) (w : World) : OpAt w.heap.size x (w.alloc (.cells #[.int .i64 x.act, .string x.row.key, .int .u64 (x.row.seq : Int), .int .i64 x.row.kind, .string x.row.val, .int .i64 x.hgt] 38)) := heap_alloc_new w _
theorem OpAt.grow {b : Nat} {x : SkOp} {w w' : World} (h : OpAt b x w) (hb : Below w.heap.size w w') : OpAt b x w' := (hb.block b (Array.getElem?_eq_some_iff.1 h).1).trans h
theorem OpAt.else {b : Nat} {x : SkOp} {w w' : World} (h : OpAt b x w) (he : Else w w') : OpAt b x w' := by
  have nt : ∀ T, T ≠ 38 → ¬ Typed w b T := fun T hT ht => by
    obtain ⟨c, hc⟩ := ht
    unfold OpAt at h
    rw [h] at hc
    simp only [Option.some.injEq, Obj.cells.injEq] at hc
    exact hT hc.2.1.symm
  exact (he b (Array.getElem?_eq_some_iff.1 h).1 (nt _ (by decide)) (nt _ (by decide))).trans h
theorem OpAt.cells {b : Nat} {x : SkOp} {w : World} (h : OpAt b x w) : w.cell? ⟨b, 0, none⟩ = some (.int .i64 x.act) ∧ w.cell? ⟨b, 1, none⟩ = some (.string x.row.key) ∧ w.cell? ⟨b, 2, none⟩ = some (.int .u64 (x.row.seq : Int)) ∧ w.cell? ⟨b, 3, none⟩ = some (.int .i64 x.row.kind) ∧ w.cell? ⟨b, 4, none⟩ = some (.string x.row.val) ∧ w.cell? ⟨b, 5, none⟩ = some (.int .i64 x.hgt) := by
  unfold OpAt at h
  refine ⟨?_, ?_, ?_, ?_, ?_, ?_⟩ <;> (unfold World.cell?; rw [h]; rfl)
theorem Two.putP {base p d : Nat} {l l' : SL} {w : World} (h : Two base p d l l' w) (hb : base ≤ w.heap.size) (hn : l.length ≤ 1048575) (x : Rw) (hx : RwIn x) (hgt : Int) :
    Calls Try.prog 11 #[.pointer (some ⟨p, 0, none⟩), rowV x, .int .i64 hgt] w fun e w' => e = .returned (.bool (!thrL l x.key x.seq)) ∧ Two base p d (putL l x (hgtOf hgt)) l' w' ∧ Below base w w' ∧ ∀ b y, OpAt b y w → OpAt b y w' :=
  (h.zoo.putF hb (i := 0) rfl hn x hx.1 hx.2.1 hx.2.2 hgt).mono fun _ _ hp => ⟨hp.1, ⟨hp.2.1, h.ref.else hp.2.2.2⟩, hp.2.2.1, fun _ _ hO => hO.else hp.2.2.2⟩
theorem Two.putD {base p d : Nat} {l l' : SL} {w : World} (h : Two base p d l l' w) (hb : base ≤ w.heap.size) (hn : l'.length ≤ 1000000) (x : Rw) (hgt : Int) :
    Calls Try.prog 12 #[.pointer (some ⟨d, 0, none⟩), rowV x, .int .i64 hgt] w fun e w' => e = .returned (.bool (!thrL l' x.key x.seq)) ∧ Two base p d l (putL l' x (hgtOf hgt)) w' ∧ Below base w w' ∧ ∀ b y, OpAt b y w → OpAt b y w' := by
  cases ht : thrL l' x.key x.seq with
  | true =>
    refine (put_there h.ref hn x hgt ht).mono fun e w' hp => ⟨hp.1, ?_, ?_, fun _ _ hO => hO.grow hp.2⟩
    · rw [show putL l' x (hgtOf hgt) = l' by unfold putL; rw [ht]; rfl]
      exact h.grow hp.2
    · exact ⟨hp.2.os, hp.2.tape, hp.2.output, hp.2.size, fun k hk => hp.2.block k (Nat.lt_of_lt_of_le hk hb)⟩
  | false =>
    obtain ⟨rv, hv, h1, _, _, h4⟩ := h.ref
    refine (put_make h.ref hb hn x hgt ht).mono fun e w' hp => ⟨hp.1, ?_, hp.2.2.below h4 hb, fun b y hO => ?_⟩
    · rw [show putL l' x (hgtOf hgt) = insL l' x (hgtOf hgt) by unfold putL; rw [ht]; rfl]
      exact ⟨h.zoo.but h1 (by decide) (by decide) hp.2.2, hp.2.1⟩
    · refine (hp.2.2.block b (Array.getElem?_eq_some_iff.1 hO).1 (fun e => ?_)).trans hO
      subst e
      unfold OpAt at hO
      rw [h1] at hO
      simp only [Option.some.injEq, Obj.cells.injEq] at hO
      exact absurd hO.2.1 (by decide)
theorem Two.drew {base p d : Nat} {l l' : SL} {w : World} (h : Two base p d l l' w) : Two base p d l l' w.drew := h.grow (Below.refl _ w).drew
end Go.Proofs.Ytcgpcpplbmebgaa
