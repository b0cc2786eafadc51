/-
  The law's own answers that the document fixes: true; SamePairs. No condition.
-/
import Derived.Test.YtlnklpnldmcopaaPack14
import Derived.Deep.QuietTactic
import Derived.Deep.RegionHeld
import Derived.WalkKit
namespace Go.Proofs.Ytlnklpnldmcopaa
set_option maxRecDepth 100000
open Go.RowKit
def mw1 : Rw := ⟨⟨#[97]⟩, 3, 2, ⟨#[]⟩⟩
def mw2 : Rw := ⟨⟨#[97]⟩, 1, 1, ⟨#[120]⟩⟩
def mw3 : Rw := ⟨⟨#[98]⟩, 2, 1, ⟨#[121]⟩⟩
theorem mw_k1 : mw1.key.toList = [97] := toL [97]
theorem mw_k2 : mw2.key.toList = [97] := toL [97]
theorem mw_k3 : mw3.key.toList = [98] := toL [98]
theorem mw_ord : ordR [mw1, mw2, mw3] = true := by
  have e1 : ahd mw1 mw2.key mw2.seq = true := by unfold ahd; rw [mw_k1, mw_k2, if_pos rfl]; rfl
  have e2 : ahd mw2 mw3.key mw3.seq = true := by unfold ahd; rw [mw_k2, mw_k3, if_neg (by decide)]; decide
  simp [ordR, e1, e2]
theorem mw_at : atL 2 [mw1, mw2, mw3] = [(⟨#[97]⟩, ⟨#[120]⟩), (⟨#[98]⟩, ⟨#[121]⟩)] := by
  have s1 : sees 2 none mw1 = false := rfl
  have s2 : sees 2 (some mw1) mw2 = true := by unfold sees; simp only [mw_k1, mw_k2]; rfl
  have s3 : sees 2 (some mw2) mw3 = true := by unfold sees; simp only [mw_k2, mw_k3]; rfl
  unfold atL
  rw [selL, if_neg (by rw [s1]; simp), selL, if_pos s2, selL, if_pos s3, selL]
  rfl
theorem mw_drop : dropL [] true [mw1, mw2, mw3] = [mw3] := by
  have s1 : need [topM] none mw1 = true := rfl
  have s2 : need [topM] (some mw1) mw2 = false := by
    rw [need_same (by rw [mw_k1, mw_k2])]; rfl
  have s3 : need [topM] (some mw2) mw3 = true := by
    rw [need_other (by rw [mw_k2, mw_k3]; decide)]; rfl
  unfold dropL
  rw [List.nil_append, if_pos rfl, selL, if_pos s1, selL, if_neg (by rw [s2]; simp), selL, if_pos s3, selL]
  have p1 : putA [mw1, mw3] = false := by
    show (isPut mw1 || (decide (mw3.key.toList = mw1.key.toList) && putA [mw3])) = false
    rw [mw_k1, mw_k3]; rfl
  rw [botL, if_neg (by rw [p1]; simp)]
  rfl
theorem mw_rs (w : World) : Rs (some ⟨w.heap.size, 0, none⟩) 3 3 w.heap.size 0 [mw1, mw2, mw3] (w.alloc (.cells #[.string ⟨#[97]⟩, .int .u64 3, .int .i64 2, .string ⟨#[]⟩, .string ⟨#[97]⟩, .int .u64 1, .int .i64 1, .string ⟨#[120]⟩, .string ⟨#[98]⟩, .int .u64 2, .int .i64 1, .string ⟨#[121]⟩] 38)) := by
  refine ⟨rfl, Nat.le_refl _, by omega, fun _ => ⟨rfl, by simp⟩, fun j x hx => ?_⟩
  have hj : j < 3 := (List.getElem?_eq_some_iff.1 hx).1
  rcases (show j = 0 ∨ j = 1 ∨ j = 2 by omega) with rfl | rfl | rfl
  all_goals (
    simp only [List.getElem?_cons_zero, List.getElem?_cons_succ, Option.some.injEq] at hx
    subst hx
    refine ⟨?_, ?_, ?_, ?_⟩ <;> (rw [World.cell?_alloc_new]; rfl))
theorem eq_pr (a x b y : ByteArray) (h : a.toList = b.toList ∧ x.toList = y.toList) (u : World) : (binOp .eql 46 (.agg #[.string a, .string x]) (.agg #[.string b, .string y])).run Try.prog u = .ok (.bool true) u := by
  obtain ⟨h1, h2⟩ := h
  go_simp
theorem pair_cells_of {w : World} {B : Nat} {v : Value} {x y : ByteArray × ByteArray} (h : w.ownsRow B 46 2 v 2 (rowP [x, y])) : ∃ g c, v = .slice (some ⟨g, 0, none⟩) 2 c ∧ w.cell? ⟨g, 0, none⟩ = some (.string x.1) ∧ w.cell? ⟨g, 1, none⟩ = some (.string x.2) := by
  rcases h.2 with ⟨_, h0⟩ | ⟨g, cap, cur, rfl, _⟩
  · cases h0
  · exact ⟨g, cap, rfl, (World.ownsRow.cellAt h 0 (by omega)).trans rfl, (World.ownsRow.cellAt h 1 (by omega)).trans rfl⟩
set_option maxRecDepth 100000 in
set_option maxHeartbeats 4000000 in
theorem mawake_any (w : World) : Calls Try.prog 7 #[] w fun e w' => e = .returned (.bool true) ∧ Below w.heap.size w w' := by
  have RS := Lib.hid (mw_rs w)
  have W0 := Lib.hid (below_alloc w (.cells #[.string ⟨#[97]⟩, .int .u64 3, .int .i64 2, .string ⟨#[]⟩, .string ⟨#[97]⟩, .int .u64 1, .int .i64 1, .string ⟨#[120]⟩, .string ⟨#[98]⟩, .int .u64 2, .int .i64 1, .string ⟨#[121]⟩] 38))
  have hsm : ∀ x ∈ [mw1, mw2, mw3], x.key.size ≤ 281474976710656 ∧ x.val.size ≤ 281474976710656 ∧ x.seq ≤ topM := by
    intro x hx
    simp only [List.mem_cons, List.not_mem_nil, or_false] at hx
    rcases hx with rfl | rfl | rfl <;> exact ⟨by decide, by decide, by decide⟩
  have AC : Hid (Calls Try.prog 13 #[.slice (some ⟨w.heap.size, 0, none⟩) 3 3, .int .u64 2] (w.alloc (.cells #[.string ⟨#[97]⟩, .int .u64 3, .int .i64 2, .string ⟨#[]⟩, .string ⟨#[97]⟩, .int .u64 1, .int .i64 1, .string ⟨#[120]⟩, .string ⟨#[98]⟩, .int .u64 2, .int .i64 1, .string ⟨#[121]⟩] 38)) (AtD [mw1, mw2, mw3] 2 (w.alloc (.cells #[.string ⟨#[97]⟩, .int .u64 3, .int .i64 2, .string ⟨#[]⟩, .string ⟨#[97]⟩, .int .u64 1, .int .i64 1, .string ⟨#[120]⟩, .string ⟨#[98]⟩, .int .u64 2, .int .i64 1, .string ⟨#[121]⟩] 38)))) := Lib.hid (mat_any RS.out (by omega) (fun x hx => ⟨(hsm x hx).1, (hsm x hx).2.1⟩) 2)
  have DC : Hid (∀ u, Rs (some ⟨w.heap.size, 0, none⟩) 3 3 w.heap.size 0 [mw1, mw2, mw3] u → Calls Try.prog 9 #[.slice (some ⟨w.heap.size, 0, none⟩) 3 3, .slice none 0 0, .bool true] u (DropD [] true [mw1, mw2, mw3] u)) := Lib.hid (fun u h => mdrop_any h (by omega) hsm (show SlOf 1 cellsU none 0 0 0 0 [] u from ⟨rfl, Nat.le_refl _, by omega, fun h => absurd h (by omega), fun j x h => by simp at h⟩) (fun _ => rfl) (by omega) sort_one true)
  have EQ : ∀ u : World, (binOp .eql 46 (.agg #[.string ⟨#[97]⟩, .string ⟨#[120]⟩]) (.agg #[.string ⟨#[97]⟩, .string ⟨#[120]⟩])).run Try.prog u = .ok (.bool true) u := fun u => eq_pr _ _ _ _ ⟨rfl, rfl⟩ u
  go_enter Try.func7, Try.ntmps7
  go_wp2_with (first
    | (go_at_call 13; ((with_reducible refine AC.out.mono ?_); rintro e w1 hh; obtain ⟨v1, rfl, hv1, hb1⟩ := hh.yes mw_ord; rw [mw_at] at hv1; obtain ⟨g1, c1, rfl, p0, p1⟩ := pair_cells_of hv1; have R1 := Lib.hid (RS.out.below hb1 (Nat.le_refl _)); have W1 := Lib.hid (below_of W0.out hb1); clear hb1 hv1))
    | (go_at_call 9; ((with_reducible refine (DC.out _ R1.out).mono ?_); rintro e w2 hh; obtain ⟨v2, rfl, hv2, hb2⟩ := hh.yes mw_ord; rw [mw_drop] at hv2; obtain ⟨a2, c2, b2, rfl, hr2, _⟩ := rs_of_row hv2; obtain ⟨x2, hx2, rfl, d0, _, _, _⟩ := hr2.at4 (show 0 < 1 by omega); have p0' := cell_keep hb2 p0; have p1' := cell_keep hb2 p1; have ex : x2 = mw3 := (Option.some.inj hx2).symm; subst ex; rw [Nat.zero_add, Nat.zero_mul] at d0; have W2 := Lib.hid (below_of W1.out hb2); have d0' : w2.cell? ⟨b2, 0, none⟩ = some (.string ⟨#[98]⟩) := d0; clear d0 hb2 hv2 hr2 hx2)))
  go_returns
  exact ⟨rfl, W2.out⟩
end Go.Proofs.Ytlnklpnldmcopaa
/-
  MergeFirst: merging the first lists first changes nothing. Condition: at most 20 lists, of at most 60 rows (the law's own).
-/
namespace Go.Proofs.Ytlnklpnldmcopaa
set_option maxRecDepth 100000
open Go.RowKit
theorem MergeD.yes {L : List (List Rw)} {w w' : World} {e : Ending} (h : MergeD L w e w') (ho : L.all ordR = true) : ∃ v, e = .returned (.tuple #[v, .int .i64 0]) ∧ w'.ownsRow w.heap.size 38 4 v (mergeL L).length (rowR (mergeL L)) ∧ Below w.heap.size w w' := by
  rcases h with ⟨h1, _⟩ | ⟨_, h2⟩
  · rw [ho] at h1; cases h1
  · exact h2
theorem MergeD.no {L : List (List Rw)} {w w' : World} {e : Ending} (h : MergeD L w e w') (ho : L.all ordR = false) : e = .returned (.tuple #[.slice none 0 0, .int .i64 2]) ∧ Below w.heap.size w w' := by
  rcases h with ⟨_, h1, h2⟩ | ⟨h1, _⟩
  · exact ⟨h1, h2⟩
  · rw [ho] at h1; cases h1
theorem own_one {w : World} {t : TypeId} {u : Value} (hu : u.oneCell' = true) : (w.alloc (.cells #[u] t)).ownsRow w.heap.size t 1 (.slice (some ⟨w.heap.size, 0, none⟩) 1 1) 1 [u] :=
  ⟨by simp, .inr ⟨w.heap.size, 1, #[u], rfl, Nat.le_refl _, heap_alloc_new w _, Nat.le_refl _, by unfold maxLen; omega, by simp, by simp⟩⟩
theorem mergeL_in {L : List (List Rw)} (hs : ∀ l ∈ L, SortedR l) {x : Rw} (hx : x ∈ mergeL L) : ∃ l ∈ L, x ∈ l := FinL_in ((mergeL_mem hs x).1 hx)
theorem mergeL_len (L : List (List Rw)) : (mergeL L).length ≤ (L.map List.length).sum := by
  have := foldL_len L []
  simpa [foldL, mergeL] using this
theorem sum_drop_le : ∀ (L : List (List Rw)) (j : Nat), ((L.drop j).map List.length).sum ≤ (L.map List.length).sum
  | [], j => by simp
  | l :: L, 0 => Nat.le_refl _
  | l :: L, j + 1 => by have := sum_drop_le L j; simp only [List.drop_succ_cons, List.map_cons, List.sum_cons]; omega
--LAW freshetlaw13.MergeFirst mergefirst_walk rls:ls int:up
--BEGIN
namespace MergeFirstProof
open Go.ChangeShapes Go.WideShapes Go.ChangeAt Go.RowKit
open Go.ChangeMaps (open_string shut_string)
theorem own : ownKnob Try.prog.godebug = none := by kernel_rfl
end MergeFirstProof
--END
end Go.Proofs.Ytlnklpnldmcopaa
/-
  The document's SamePairs, at two rows of the same pairs. No condition.
-/
namespace Go.Proofs.Ytlnklpnldmcopaa
set_option maxRecDepth 100000
open Go.RowKit
theorem rowP_at : ∀ (l : List (ByteArray × ByteArray)) (j : Nat) {x : ByteArray × ByteArray}, l[j]? = some x → (rowP l)[j * 2]? = some (.string x.1) ∧ (rowP l)[j * 2 + 1]? = some (.string x.2)
  | [], _, _, h => by cases h
  | y :: r, 0, x, h => by
    obtain rfl : y = x := by simpa using h
    exact ⟨rfl, rfl⟩
  | y :: r, j + 1, x, h => by
    obtain ⟨h1, h2⟩ := rowP_at r j (x := x) (by simpa using h)
    refine ⟨?_, ?_⟩
    · show (_ :: _ :: rowP r)[(j + 1) * 2]? = _
      rw [show (j + 1) * 2 = j * 2 + 1 + 1 by omega]; simpa using h1
    · show (_ :: _ :: rowP r)[(j + 1) * 2 + 1]? = _
      rw [show (j + 1) * 2 + 1 = j * 2 + 1 + 1 + 1 by omega]; simpa using h2
/-- A row of pairs, as it is read. -/
theorem own_pr {w : World} {B : Nat} {v : Value} {L : List (ByteArray × ByteArray)} (h : w.ownsRow B 46 2 v L.length (rowP L)) {j : Nat} {x : ByteArray × ByteArray} (hx : L[j]? = some x) :
    ∃ g c, v = .slice (some ⟨g, 0, none⟩) L.length c ∧ L.length ≤ c ∧ c ≤ 9223372036854775807 ∧ w.cell? ⟨g, j * 2, none⟩ = some (.string x.1) ∧ w.cell? ⟨g, j * 2 + 1, none⟩ = some (.string x.2) := by
  have hj := (List.getElem?_eq_some_iff.1 hx).1
  rcases h.2 with ⟨_, h0⟩ | ⟨g, cap, cur, rfl, _, _, hc, hm, _⟩
  · omega
  · obtain ⟨e0, e1⟩ := rowP_at L j hx
    exact ⟨g, cap, rfl, hc, hm, (World.ownsRow.cellAt h _ (by omega)).trans e0, (World.ownsRow.cellAt h _ (by omega)).trans e1⟩
theorem neq_pr (a x : ByteArray) (u : World) : (binOp .neq 46 (.agg #[.string a, .string x]) (.agg #[.string a, .string x])).run Try.prog u = .ok (.bool false) u := by
  go_simp
set_option maxRecDepth 100000 in
set_option maxHeartbeats 4000000 in
theorem samepairs_any {w : World} {B1 B2 : Nat} {v1 v2 : Value} {L : List (ByteArray × ByteArray)} (h1 : w.ownsRow B1 46 2 v1 L.length (rowP L)) (h2 : w.ownsRow B2 46 2 v2 L.length (rowP L)) :
    Calls Try.prog 33 #[v1, v2] w fun e w' => e = .returned (.bool true) ∧ Below w.heap.size w w' := by
  obtain ⟨p1, c1, rfl⟩ := row_shape h1
  obtain ⟨p2, c2, rfl⟩ := row_shape h2
  have h1 := Lib.hid h1
  have h2 := Lib.hid h2
  obtain ⟨n, hn⟩ := named L.length
  rw [← hn.out]
  have g2 : (((n : Nat) : Int) != ((n : Nat) : Int)) = false := by rw [bne_eq_false_iff_eq]
  go_enter Try.func33, Try.ntmps33
  go_wp2_with fail
  go_loopw [5] (fun i wr => ∃ j : Nat, j ≤ n ∧ i = .int .i64 (j : Int) ∧ Hid (Below w.heap.size w wr)) (fun i _ => n - (intOf i).toNat)
  case atStart => exact ⟨0, Nat.zero_le _, rfl, Lib.hid (Below.refl _ _)⟩
  case round =>
    obtain ⟨j, hj, rfl, hb⟩ := hrel
    by_cases hlt : j < n
    · obtain ⟨x, hx⟩ : ∃ x, L[j]? = some x := ⟨_, List.getElem?_eq_getElem (by rw [← hn.out]; exact hlt)⟩
      obtain ⟨g1, d1, e1, ec1, em1, x0, x1⟩ := own_pr (own_belowM h1.out hb.out) hx
      obtain ⟨g2', d2, e2, ec2, em2, y0, y1⟩ := own_pr (own_belowM h2.out hb.out) hx
      simp only [Value.slice.injEq] at e1 e2
      obtain ⟨rfl, _, rfl⟩ := e1
      obtain ⟨rfl, _, rfl⟩ := e2
      rw [← hn.out] at ec1 ec2
      have NEQ := neq_pr x.1 x.2
      have i1 : (j : Int) < (n : Int) := by omega
      obtain ⟨xk, xv⟩ := x
      simp only at x0 x1 y0 y1 NEQ
      have hb := Lib.hid hb.out
      clear hx
      go_upto_region 6 with fail
      go_quiet (fail)
      go_wp2_with fail
      go_roundw
      case rel => exact ⟨j + 1, by omega, by go_num, Lib.hid (below_drewN hb.out)⟩
      case measure => simp [intOf]; omega
    · have hjn : j = n := by omega
      subst hjn
      go_wp2_with fail
      go_returns
      exact ⟨rfl, hb.out⟩
end Go.Proofs.Ytlnklpnldmcopaa
/-
  MergeAt: At answers as the document's, and the rows that are handed in stand as they were. Condition: at most 200 rows (the law's own).
-/
namespace Go.Proofs.Ytlnklpnldmcopaa
set_option maxRecDepth 100000
open Go.RowKit
/-- Both answers of At, in one shape. -/
theorem AtD.both {l : List Rw} {q : Nat} : ∃ (L : List (ByteArray × ByteArray)) (E : Nat), ∀ w e w', AtD l q w e w' → ∃ v, e = .returned (.tuple #[v, .int .i64 (E : Int)]) ∧ w'.ownsRow w.heap.size 46 2 v L.length (rowP L) ∧ Below w.heap.size w w' := by
  cases ho : ordR l with
  | true => exact ⟨atL q l, 0, fun w e w' h => h.yes ho⟩
  | false => exact ⟨[], 2, fun w e w' h => by obtain ⟨h1, h2⟩ := h.no ho; exact ⟨_, h1, World.ownsRow_nil _ _ _ _, h2⟩⟩
--LAW freshetlaw13.MergeAt atL_walk rows:l uint64:sq
--BEGIN
namespace MergeAtProof
open Go.ChangeShapes Go.WideShapes Go.ChangeAt Go.RowKit
open Go.ChangeMaps (open_string shut_string)
theorem own : ownKnob Try.prog.godebug = none := by kernel_rfl
end MergeAtProof
--END
end Go.Proofs.Ytlnklpnldmcopaa
/-
  A drawn region whose loads are held by a condition that its last operation need not keep (it stores into a cell that was loaded): walked by hand. No condition.
-/
namespace Go.Proofs.Ytlnklpnldmcopaa
set_option maxRecDepth 100000
open Go
variable {P : Program} {md : Region.Mode} {ops : Array Oper} {Q : Exit → Act → World → Prop} {S : World → Prop} {z : Nat}
/-- Whatever order is picked from here on; S holds behind each operation but number z. -/
def wpE (P : Program) (md : Region.Mode) (ops : Array Oper) (Q : Exit → Act → World → Prop) (S : World → Prop) (z : Nat) : Nat → Array Bool → Act → World → Prop
  | 0, listed, a, w => Region.ready md ops listed = [] ∧ Q .normal a w
  | n + 1, listed, a, w => (Region.ready md ops listed = [] → Q .normal a w) ∧ ∀ i ∈ Region.ready md ops listed, wpOp P ops Q i (fun a' w' => (i ≠ z → S w') ∧ wpE P md ops Q S z n (listed.setIfInBounds i true) a' w') a w
theorem wpE_any : ∀ (n : Nat) (listed : Array Bool) (a : Act) (w : World), wpE P md ops Q S z n listed a w → wpAny P md ops Q n listed a w
  | 0, _, _, _, h => h
  | n + 1, _, _, _, h => ⟨h.1, fun i hi => wpOp_mono (fun a' w' k => wpE_any n _ a' w' k.2) (h.2 i hi)⟩
/-- Number z waits for number i. -/
def waitsB (md : Region.Mode) (ops : Array Oper) (z i : Nat) : Bool := match ops[z]? with
  | some o => o.after.any fun e => Region.binds md e && e.on == i
  | none => false
theorem waits_not {i : Nat} {listed : Array Bool} (hw : waitsB md ops z i = true) (hr : i ∈ Region.ready md ops listed) : z ∉ Region.ready md ops listed := fun hz => by
  obtain ⟨_, o, ho, hall⟩ := mem_ready.1 hz
  have hun := (mem_ready.1 hr).1
  unfold waitsB at hw
  rw [ho] at hw
  obtain ⟨q, hq, hb⟩ := Array.any_eq_true.1 hw
  rw [Bool.and_eq_true, beq_iff_eq] at hb
  have hl := hall _ (Array.getElem_mem hq) hb.1
  rw [hb.2] at hl
  rcases Nat.lt_or_ge i listed.size with h' | h'
  · simp [h'] at hun hl; rw [hun] at hl; cases hl
  · simp [Array.getElem?_eq_none h'] at hl
theorem wpE_first {i : Nat} {oi : Oper} {v : Value} (hi : ops[i]? = some oi) (hsel : ∀ (j : Nat) (o : Oper) cs b, ops[j]? = some o → o.op ≠ .select cs b) (hz : waitsB md ops z i = true) (hiz : i ≠ z)
    (hQ : ∀ c a w, Q (.panic c) (a.put oi.dst v) w → Q (.panic c) a w) :
    ∀ (n : Nat) (listed : Array Bool) (a : Act) (w : World), (∀ j oj, ops[j]? = some oj → j ≠ i → listed.getD j true = false → (∀ e ∈ oj.after, Region.binds md e = true → e.on ≠ i) → oi.apart ops oj = true) → i ∈ Region.ready md ops listed → YieldsIf P ops S oi v a → S w →
      wpE P md ops Q S z n (listed.setIfInBounds i true) (a.put oi.dst v) w → wpE P md ops Q S z (n + 1) listed a w := by
  intro n
  induction n with
  | zero =>
    intro listed a w _ hr hy hS H
    refine ⟨fun h => (by rw [h] at hr; cases hr), fun j hj => ?_⟩
    by_cases e : j = i
    · subst e; exact hy.wpOp hi hS ⟨fun _ => hS, H⟩
    · have h0 := ready_mono hj e
      rw [H.1] at h0
      cases h0
  | succ n ih =>
    intro listed a w hfree hr hy hS H
    refine ⟨fun h => (by rw [h] at hr; cases hr), fun j hj => ?_⟩
    by_cases e : j = i
    · subst e; exact hy.wpOp hi hS ⟨fun _ => hS, H⟩
    · have hjz : j ≠ z := fun g => waits_not hz hr (g ▸ hj)
      have h1 := H.2 j (ready_mono hj e)
      obtain ⟨hjun, oj, hoj, hall⟩ := mem_ready.1 hj
      have hun := (mem_ready.1 hr).1
      have hnot : ∀ d ∈ oj.after, Region.binds md d = true → d.on ≠ i := fun d hd hb g => by
        have hl := hall d hd hb
        rw [g] at hl
        rcases Nat.lt_or_ge i listed.size with h' | h'
        · simp [h'] at hun hl; rw [hun] at hl; cases hl
        · simp [Array.getElem?_eq_none h'] at hl
      have h2 := wpOp_putIf hoj (hfree j oj hoj e hjun hnot) (fun cs b => hsel i oi cs b hi) (fun cs b => hsel j oj cs b hoj) hQ hy h1
      refine wpOp_mono (fun a' w' h3 => ⟨h3.2.1, ih (listed.setIfInBounds j true) a' w' (fun k ok hk hki hu hno => ?_) (ready_mono hr (Ne.symm e)) h3.1 (h3.2.1 hjz) ?_⟩) h2
      · refine hfree k ok hk hki ?_ hno
        by_cases g : j = k
        · subst g; exact hjun
        · rw [getD_set_ne true g] at hu; exact hu
      · rw [Array.setIfInBounds_comm _ _ e]
        exact h3.2.2
variable {fuel : Nat} {listed : Array Bool} {a : Act} {w : World}
theorem heldE_take {i : Nat} {dst : Option Tmp} {op : Op} {type : TypeId} {pos : String} {after} {guard} {v : Value} (hi : ops[i]? = some { dst := dst, op := op, type := type, pos := pos, after := after, guard := guard })
    (hs : Region.noSelect ops = true) (hf : (Region.free md ops listed i && waitsB md ops z i && (i != z)) = true) (hr : (Region.ready md ops listed).contains i = true)
    (hQ : ∀ c a w, Q (.panic c) (a.put dst v) w → Q (.panic c) a w) (hw : Region.wanted { dst := dst, op := op, type := type, pos := pos, after := after, guard := guard } (yielded ops a.tmps) = true)
    (hy : ∀ w, S w → (execOp a.eval { dst := dst, op := op, type := type, pos := pos, after := after, guard := guard }).run P w = .ok (.value v) w) (hS : S w)
    (h : wpE P md ops Q S z fuel (listed.setIfInBounds i true) (a.put dst v) w) : wpE P md ops Q S z (fuel + 1) listed a w := by
  rw [Bool.and_eq_true, Bool.and_eq_true, bne_iff_ne] at hf
  exact wpE_first hi (Region.noSelect_spec hs) hf.1.2 hf.2 hQ fuel listed a w (Region.free_spec hi hf.1.1) (by simpa using hr) (.inl ⟨hw, hy⟩) hS h
theorem heldE_ready {rs : List Nat} (hr : Region.ready md ops listed = rs) (hne : rs ≠ []) (h : ∀ i ∈ rs, wpOp P ops Q i (fun a' w' => (i ≠ z → S w') ∧ wpE P md ops Q S z fuel (listed.setIfInBounds i true) a' w') a w) : wpE P md ops Q S z (fuel + 1) listed a w :=
  ⟨fun h0 => absurd (hr ▸ h0) hne, hr ▸ h⟩
theorem wpOp_of {i : Nat} {o : Oper} {K : Act → World → Prop} (hi : ops[i]? = some o) (hw : Region.wanted o (yielded ops a.tmps) = true) (h : Oper.wp P o a w K Q) : wpOp P ops Q i K a w := by
  unfold wpOp
  simp only [hi, hw, if_true]
  exact .inl h
theorem heldE_call {i : Nat} {o : Oper} (hr : Region.ready md ops listed = [i]) (hi : ops[i]? = some o) (hw : Region.wanted o (yielded ops a.tmps) = true)
    (h : ∀ K : Act → World → Prop, Shut (∀ a w, S w → (S w → wpE P md ops Q S z fuel (listed.setIfInBounds i true) a w) → K a w) → Oper.wp P o a w K Q) : wpE P md ops Q S z (fuel + 1) listed a w :=
  heldE_ready hr (by simp) (fun j hj => by
    obtain rfl : j = i := by simpa using hj
    exact wpOp_of hi hw (h _ (fun a w hS hW => ⟨fun _ => hS, hW hS⟩)))
theorem heldE_two {i j : Nat} {o1 o2 : Oper} (hr : Region.ready md ops listed = [i, j]) (hi : ops[i]? = some o1) (hj : ops[j]? = some o2)
    (hw : Region.wanted o1 (yielded ops a.tmps) = true) (hw2 : Region.wanted o2 (yielded ops a.tmps) = true)
    (h : ∀ K : Act → World → Prop, Shut (∀ a w, S w → (S w → wpE P md ops Q S z fuel (listed.setIfInBounds i true) a w) → K a w) → Oper.wp P o1 a w K Q)
    (h2 : ∀ K : Act → World → Prop, Shut (∀ a w, S w → (S w → wpE P md ops Q S z fuel (listed.setIfInBounds j true) a w) → K a w) → Oper.wp P o2 a w K Q) : wpE P md ops Q S z (fuel + 1) listed a w :=
  heldE_ready hr (by simp) (fun k hk => by
    simp only [List.mem_cons, List.not_mem_nil, or_false] at hk
    rcases hk with rfl | rfl
    · exact wpOp_of hi hw (h _ (fun a w hS hW => ⟨fun _ => hS, hW hS⟩))
    · exact wpOp_of hj hw2 (h2 _ (fun a w hS hW => ⟨fun _ => hS, hW hS⟩)))
theorem heldE_three {i j k : Nat} {o1 o2 o3 : Oper} (hr : Region.ready md ops listed = [i, j, k]) (hi : ops[i]? = some o1) (hj : ops[j]? = some o2) (hk : ops[k]? = some o3)
    (hw : Region.wanted o1 (yielded ops a.tmps) = true) (hw2 : Region.wanted o2 (yielded ops a.tmps) = true) (hw3 : Region.wanted o3 (yielded ops a.tmps) = true)
    (h : ∀ K : Act → World → Prop, Shut (∀ a w, S w → (S w → wpE P md ops Q S z fuel (listed.setIfInBounds i true) a w) → K a w) → Oper.wp P o1 a w K Q)
    (h2 : ∀ K : Act → World → Prop, Shut (∀ a w, S w → (S w → wpE P md ops Q S z fuel (listed.setIfInBounds j true) a w) → K a w) → Oper.wp P o2 a w K Q)
    (h3 : ∀ K : Act → World → Prop, Shut (∀ a w, S w → (S w → wpE P md ops Q S z fuel (listed.setIfInBounds k true) a w) → K a w) → Oper.wp P o3 a w K Q) : wpE P md ops Q S z (fuel + 1) listed a w :=
  heldE_ready hr (by simp) (fun l hl => by
    simp only [List.mem_cons, List.not_mem_nil, or_false] at hl
    rcases hl with rfl | rfl | rfl
    · exact wpOp_of hi hw (h _ (fun a w hS hW => ⟨fun _ => hS, hW hS⟩))
    · exact wpOp_of hj hw2 (h2 _ (fun a w hS hW => ⟨fun _ => hS, hW hS⟩))
    · exact wpOp_of hk hw3 (h3 _ (fun a w hS hW => ⟨fun _ => hS, hW hS⟩)))
/-- The last operation: what it leaves need not meet S. -/
theorem heldE_last {o : Oper} (hr : Region.ready md ops listed = [z]) (hi : ops[z]? = some o) (hw : Region.wanted o (yielded ops a.tmps) = true)
    (h : ∀ K : Act → World → Prop, Shut (∀ a w, wpE P md ops Q S z fuel (listed.setIfInBounds z true) a w → K a w) → Oper.wp P o a w K Q) : wpE P md ops Q S z (fuel + 1) listed a w :=
  heldE_ready hr (by simp) (fun j hj => by
    obtain rfl : j = z := by simpa using hj
    exact wpOp_of hi hw (h _ (fun a w hW => ⟨fun e => absurd rfl e, hW⟩)))
theorem wpE_done (hr : Region.ready md ops listed = []) (h : Q .normal a w) : ∀ n, wpE P md ops Q S z n listed a w
  | 0 => ⟨hr, h⟩
  | _ + 1 => ⟨fun _ => h, by rw [hr]; simp⟩
theorem wp_region_E (z : Nat) (S : World → Prop) {id : Nat} (hm : P.follows .mixedOrders = true) (hS : S w.drew) (h : S w.drew → wpE P .any ops Q S z ops.size (Array.replicate ops.size false) a w.drew) : (Code.region id ops true).wp P Q a w :=
  wp_region_any hm (wpE_any _ _ _ _ (h hS))
end Go.Proofs.Ytlnklpnldmcopaa
/-
  A drawn region whose last operation need not keep the condition, and waits for another by way of a third. No condition.
-/
namespace Go.Proofs.Ytlnklpnldmcopaa
set_option maxRecDepth 100000
section
open Go
variable {P : Program} {md : Region.Mode} {ops : Array Oper} {Q : Exit → Act → World → Prop} {S : World → Prop} {z : Nat}
/-- Number z waits for number i, itself or by way of one that is not listed. -/
def waits2B (md : Region.Mode) (ops : Array Oper) (z i : Nat) (listed : Array Bool) : Bool := waitsB md ops z i || (List.range ops.size).any fun j => waitsB md ops z j && waitsB md ops j i && !listed.getD j true
theorem waits_un {i : Nat} {listed : Array Bool} (hw : waitsB md ops z i = true) (hun : listed.getD i true = false) : z ∉ Region.ready md ops listed := fun hz => by
  obtain ⟨_, o, ho, hall⟩ := mem_ready.1 hz
  unfold waitsB at hw
  rw [ho] at hw
  obtain ⟨q, hq, hb⟩ := Array.any_eq_true.1 hw
  rw [Bool.and_eq_true, beq_iff_eq] at hb
  have hl := hall _ (Array.getElem_mem hq) hb.1
  rw [hb.2] at hl
  rcases Nat.lt_or_ge i listed.size with h' | h'
  · simp [h'] at hun hl; rw [hun] at hl; cases hl
  · simp [Array.getElem?_eq_none h'] at hun
theorem waits2_not {i : Nat} {listed : Array Bool} (hw : waits2B md ops z i listed = true) (hr : i ∈ Region.ready md ops listed) : z ∉ Region.ready md ops listed := by
  unfold waits2B at hw
  rw [Bool.or_eq_true] at hw
  rcases hw with h | h
  · exact waits_not h hr
  · obtain ⟨j, _, hj⟩ := List.any_eq_true.1 h
    simp only [Bool.and_eq_true, Bool.not_eq_true'] at hj
    exact waits_un hj.1.1 hj.2
theorem waits2_set {i k : Nat} {listed : Array Bool} (hw : waits2B md ops z i listed = true) (hr : i ∈ Region.ready md ops listed) (hk : k ∈ Region.ready md ops listed) : waits2B md ops z i (listed.setIfInBounds k true) = true := by
  unfold waits2B at hw ⊢
  rw [Bool.or_eq_true] at hw ⊢
  rcases hw with h | h
  · exact .inl h
  · refine .inr ?_
    obtain ⟨j, hj0, hj⟩ := List.any_eq_true.1 h
    simp only [Bool.and_eq_true, Bool.not_eq_true'] at hj
    refine List.any_eq_true.2 ⟨j, hj0, ?_⟩
    simp only [Bool.and_eq_true, Bool.not_eq_true']
    refine ⟨hj.1, ?_⟩
    have hne : k ≠ j := fun e => waits_not (z := j) hj.1.2 hr (e ▸ hk)
    rw [getD_set_ne true hne]
    exact hj.2
theorem wpE2_first {i : Nat} {oi : Oper} {v : Value} (hi : ops[i]? = some oi) (hsel : ∀ (j : Nat) (o : Oper) cs b, ops[j]? = some o → o.op ≠ .select cs b) (hiz : i ≠ z)
    (hQ : ∀ c a w, Q (.panic c) (a.put oi.dst v) w → Q (.panic c) a w) :
    ∀ (n : Nat) (listed : Array Bool) (a : Act) (w : World), waits2B md ops z i listed = true → (∀ j oj, ops[j]? = some oj → j ≠ i → listed.getD j true = false → (∀ e ∈ oj.after, Region.binds md e = true → e.on ≠ i) → oi.apart ops oj = true) → i ∈ Region.ready md ops listed → YieldsIf P ops S oi v a → S w →
      wpE P md ops Q S z n (listed.setIfInBounds i true) (a.put oi.dst v) w → wpE P md ops Q S z (n + 1) listed a w := by
  intro n
  induction n with
  | zero =>
    intro listed a w _ _ hr hy hS H
    refine ⟨fun h => (by rw [h] at hr; cases hr), fun j hj => ?_⟩
    by_cases e : j = i
    · subst e; exact hy.wpOp hi hS ⟨fun _ => hS, H⟩
    · have h0 := ready_mono hj e
      rw [H.1] at h0
      cases h0
  | succ n ih =>
    intro listed a w hz hfree hr hy hS H
    refine ⟨fun h => (by rw [h] at hr; cases hr), fun j hj => ?_⟩
    by_cases e : j = i
    · subst e; exact hy.wpOp hi hS ⟨fun _ => hS, H⟩
    · have hjz : j ≠ z := fun g => waits2_not hz hr (g ▸ hj)
      have h1 := H.2 j (ready_mono hj e)
      obtain ⟨hjun, oj, hoj, hall⟩ := mem_ready.1 hj
      have hun := (mem_ready.1 hr).1
      have hnot : ∀ d ∈ oj.after, Region.binds md d = true → d.on ≠ i := fun d hd hb g => by
        have hl := hall d hd hb
        rw [g] at hl
        rcases Nat.lt_or_ge i listed.size with h' | h'
        · simp [h'] at hun hl; rw [hun] at hl; cases hl
        · simp [Array.getElem?_eq_none h'] at hl
      have h2 := wpOp_putIf hoj (hfree j oj hoj e hjun hnot) (fun cs b => hsel i oi cs b hi) (fun cs b => hsel j oj cs b hoj) hQ hy h1
      refine wpOp_mono (fun a' w' h3 => ⟨h3.2.1, ih (listed.setIfInBounds j true) a' w' (waits2_set hz hr hj) (fun k ok hk hki hu hno => ?_) (ready_mono hr (Ne.symm e)) h3.1 (h3.2.1 hjz) ?_⟩) h2
      · refine hfree k ok hk hki ?_ hno
        by_cases g : j = k
        · subst g; exact hjun
        · rw [getD_set_ne true g] at hu; exact hu
      · rw [Array.setIfInBounds_comm _ _ e]
        exact h3.2.2
variable {fuel : Nat} {listed : Array Bool} {a : Act} {w : World}
theorem heldE2_take {i : Nat} {dst : Option Tmp} {op : Op} {type : TypeId} {pos : String} {after} {guard} {v : Value} (hi : ops[i]? = some { dst := dst, op := op, type := type, pos := pos, after := after, guard := guard })
    (hs : Region.noSelect ops = true) (hf : (Region.free md ops listed i && waits2B md ops z i listed && (i != z)) = true) (hr : (Region.ready md ops listed).contains i = true)
    (hQ : ∀ c a w, Q (.panic c) (a.put dst v) w → Q (.panic c) a w) (hw : Region.wanted { dst := dst, op := op, type := type, pos := pos, after := after, guard := guard } (yielded ops a.tmps) = true)
    (hy : ∀ w, S w → (execOp a.eval { dst := dst, op := op, type := type, pos := pos, after := after, guard := guard }).run P w = .ok (.value v) w) (hS : S w)
    (h : wpE P md ops Q S z fuel (listed.setIfInBounds i true) (a.put dst v) w) : wpE P md ops Q S z (fuel + 1) listed a w := by
  rw [Bool.and_eq_true, Bool.and_eq_true, bne_iff_ne] at hf
  exact wpE2_first hi (Region.noSelect_spec hs) hf.2 hQ fuel listed a w hf.1.2 (Region.free_spec hi hf.1.1) (by simpa using hr) (.inl ⟨hw, hy⟩) hS h
end
end Go.Proofs.Ytlnklpnldmcopaa
