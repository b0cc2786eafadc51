/-
  A text that a call puts together in a builder of its own: what WriteByte, WriteString and String do. Condition: at most 2^47 bytes.
-/
import Derived.Test.YtnmlifagchdphaaPack2
import Derived.Test.YtnmlifagchdphaaShelf
import Derived.Lib.Builder
import Derived.Lib.UnsafeStr
import Derived.Lib.AppendIntMem
import Derived.Lib.AppendStr
import Derived.Handy
import Derived.Deep.RegionHeld
import Derived.WalkKit
import Derived.Deep.DrawnRows
import Derived.Deep.RegionWith
import Derived.Deep.Cut
import Derived.Deep.DeepCutAuto
namespace Go.Proofs.Ytnmlifagchdphaa
set_option maxRecDepth 100000
open Go.RowKit
/-- A builder in block b that holds the bytes l. -/
abbrev Bld (B b : Nat) (l : List UInt8) (w : World) : Prop := Lib.IsBuilder 53 5 B b (Lib.byteCells l) w
/-- What a write leaves: of what is neither the builder's block nor bytes, all stands. -/
def Spares (b : Nat) (w w' : World) : Prop := w.heap.size ≤ w'.heap.size ∧ ∀ k, k < w.heap.size → k ≠ b → (∀ cs m, w.heap[k]? ≠ some (.cells cs 5 m)) → w'.heap[k]? = w.heap[k]?
theorem Spares.refl (b : Nat) (w : World) : Spares b w w := ⟨Nat.le_refl _, fun _ _ _ _ => rfl⟩
theorem Spares.trans {b : Nat} {x y z : World} (h : Spares b x y) (k : Spares b y z) : Spares b x z :=
  ⟨Nat.le_trans h.1 k.1, fun j hj hb hn => by
    have e := h.2 j hj hb hn
    exact (k.2 j (Nat.lt_of_lt_of_le hj h.1) hb (by rw [e]; exact hn)).trans e⟩
theorem Spares.set (b i : Nat) (w : World) (v : Value) : Spares b w (w.setCell ⟨b, i, none⟩ v) := ⟨by simp [World.setCell], fun _ _ hk _ => heap_setCell_other _ _ _ _ hk⟩
theorem Spares.below {b : Nat} {w w' : World} (h : Below w.heap.size w w') : Spares b w w' := ⟨h.size, fun k hk _ _ => h.block k hk⟩
theorem Spares.grown {b : Nat} {w w' : World} {B n : Nat} {v : Value} {xs : List Value} (h : w.ownsRow B 5 1 v n xs) (hg : w.grownBy w' v.ownBlock) : Spares b w w' := ⟨hg.size, fun k hk _ hn => hg.block k hk fun e => by
  rcases h.2 with ⟨rfl, _⟩ | ⟨g, cap, cur, rfl, _, hc, _⟩
  · cases e
  · have : g = k := by simpa [Value.ownBlock] using e.symm
    subst this
    exact hn _ _ hc⟩
theorem bld_info : ∃ j, Try.prog.info? 53 = some j ∧ j.size ≠ 0 := by
  obtain ⟨j, hj, hs⟩ := Option.map_eq_some_iff.1 (show (Try.prog.info? 53).map (fun i => i.size) = some 2 by kernel_rfl)
  exact ⟨j, hj, by rw [hs]; decide⟩
set_option maxHeartbeats 1000000 in
set_option maxRecDepth 100000 in
theorem bld_check {B b : Nat} {bs : List Value} {w : World} (h : Lib.IsBuilder 53 5 B b bs w) :
    Calls Try.prog 44 #[.pointer (some ⟨b, 0, none⟩)] w fun e w' => e = .returned (.tuple #[]) ∧ Lib.BuilderAt 53 5 B b (.pointer (some ⟨b, 0, none⟩)) bs w' ∧ Below B w w' ∧ Spares b w w' := by
  obtain ⟨j, hj, hjs⟩ := bld_info
  rcases h with h | h
  · have c0 := h.cell0
    have sh := h.shape
    have fz := h.frozen0
    have K : Hid (Lib.BuilderAt 53 5 B b (.pointer (some ⟨b, 0, none⟩)) bs (w.setCell ⟨b, 0, none⟩ (.pointer (some ⟨b, 0, none⟩))) ∧ Below B w (w.setCell ⟨b, 0, none⟩ (.pointer (some ⟨b, 0, none⟩))) ∧ Spares b w (w.setCell ⟨b, 0, none⟩ (.pointer (some ⟨b, 0, none⟩)))) := Lib.hid ⟨h.used _, (Below.refl B w).setCell (p := ⟨b, 0, none⟩) h.1 _, Spares.set _ _ _ _⟩
    have r1 := Lib.run_to_unsafe (P := Try.prog) w ⟨b, 0, none⟩ Try.underlying50 Try.underlying86 hj hjs sh (Nat.zero_lt_succ 1)
    have r3 := Lib.run_from_unsafe (P := Try.prog) w ⟨b, 0, none⟩ Try.underlying86 Try.underlying50 hj sh (by kernel_rfl)
    clear h
    go_enter Try.func44, Try.ntmps44
    go_wp2
    rw [run_callFunc_extern Try.func51 (by kernel_rfl) (by kernel_rfl) (by kernel_rfl) (e := Extern.AbiNoEscape.same) (by kernel_rfl)]
    rw [Lib.run_noEscape]
    simp only [Result.andThen]
    rw [Oper.upon_value]
    go_wp2
    go_end0
    exact ⟨rfl, K.out⟩
  · have c0 := h.cell0
    have K := Lib.hid h
    have r1 := Lib.run_neq_ptr_same (P := Try.prog) w ⟨b, 0, none⟩ Try.underlying50 hj
    clear h
    go_enter Try.func44, Try.ntmps44
    go_wp2
    go_end0
    exact ⟨rfl, K.out, Below.refl B _, Spares.refl _ _⟩
theorem bld_u8 : (Try.prog.info? 5).map (fun i => (i.zero, i.size, i.bytes)) = some (some (.int .u8 0), 1, 1) := by kernel_rfl
set_option maxHeartbeats 1000000 in
set_option maxRecDepth 100000 in
theorem bld_string {B b : Nat} {l : List UInt8} {w : World} (h : Bld B b l w) (hBw : B ≤ w.heap.size) (s : ByteArray) (hlen : l.length + s.size ≤ 140737488355328) :
    Calls Try.prog 25 #[.pointer (some ⟨b, 0, none⟩), .string s] w fun e w' => e = .returned (.tuple #[.int .i64 s.size, .nilIface]) ∧ Bld B b (l ++ s.data.toList) w' ∧ Below B w w' ∧ Spares b w w' := by
  obtain ⟨i0, hi, hz0, hz1, hz2⟩ := info_parts bld_u8
  have C := Lib.hid (bld_check h)
  clear h
  go_enter Try.func25, Try.ntmps25
  go_wp2_with fail
  refine C.out.mono ?_
  rintro e w1 ⟨rfl, h1, hb1, hs1⟩
  clear C
  obtain ⟨hB, v, hbk, hown, hne⟩ := h1
  have c1 : w1.cell? ⟨b, 1, none⟩ = some v := by rw [Lib.cell_of_heap hbk]; rfl
  have z1 := hb1.size
  have hbl := Lib.byteCells_length l
  go_wp2_with (at_builtin; refine Lib.wpList_append_own_string _ rfl _ _ 51 9 rfl B 5 i0 Try.underlying51 Try.underlying9 hi hz0 hz1 hz2 v _ _ (by rfl) hown s (by rfl) ?c3 ?c4 ?c5 ?_)
  case c3 => unfold maxLen; omega
  case c4 => omega
  case c5 => omega
  intro v' w2 hown' hgrow _
  have hlt : b < w1.heap.size := (Array.getElem?_eq_some_iff.1 hbk).1
  have hb2 : w2.heap[b]? = some (.cells #[.pointer (some ⟨b, 0, none⟩), v] 53 (0, 0)) := by
    rw [hgrow.block b hlt (fun e => hne e.symm)]
    exact hbk
  have f1 : w2.frozen? ⟨b, 1, none⟩ = false := Lib.frozen_of_heap hb2 1
  have d1 : w2.cell? ⟨b, 1, none⟩ = some v := by rw [Lib.cell_of_heap hb2]; rfl
  have hput : Hid (Lib.BuilderAt 53 5 B b (.pointer (some ⟨b, 0, none⟩)) (Lib.byteCells l ++ Lib.strCells s) (w2.setCell ⟨b, 1, none⟩ v')) := Lib.hid (Lib.BuilderAt.put (T := 53) (e := 5) hB hb2 (bs' := Lib.byteCells l ++ Lib.strCells s) (by rw [List.length_append, Lib.strCells_length]; first | exact hown' | (rw [hbl]; exact hown')) (by decide))
  have hbel : Hid (Below B w (w2.setCell ⟨b, 1, none⟩ v')) := Lib.hid ((hb1.grown hgrow (by omega) (fun k hk => (hown.lt k hk).1)).setCell (p := ⟨b, 1, none⟩) hB _)
  have hcells : Lib.byteCells l ++ Lib.strCells s = Lib.byteCells (l ++ s.data.toList) := by simp [Lib.byteCells, Lib.strCells]
  rw [hcells] at hput
  obtain ⟨pa, pn, pc, rfl⟩ : ∃ pa pn pc, v' = .slice pa pn pc := by
    rcases hown'.2 with ⟨e, _⟩ | ⟨g, cap, cur, e, _⟩
    · exact ⟨_, _, _, e⟩
    · exact ⟨_, _, _, e⟩
  have hsp : Hid (Spares b w (w2.setCell ⟨b, 1, none⟩ (.slice pa pn pc))) := Lib.hid (hs1.trans ((Spares.grown hown hgrow).trans (Spares.set _ _ _ _)))
  clear hown' hgrow hown hb1 hbk hb2 hcells hs1
  go_wp2
  go_returns
  exact ⟨rfl, .inr hput.out, hbel.out, hsp.out⟩
theorem bld_text {B b : Nat} {l : List UInt8} {w : World} (h : Bld B b l w) (hBw : B ≤ w.heap.size) :
    Calls Try.prog 28 #[.pointer (some ⟨b, 0, none⟩)] w fun e w' => e = .returned (.string ⟨l.toArray⟩) ∧ Below B w w' := Try.Builder_String_any B b l w h hBw
theorem Bld.below {B b : Nat} {l : List UInt8} {w w' : World} (h : Bld B b l w) (hb : Below w.heap.size w w') : Bld B b l w' := by
  have K : ∀ p, Lib.BuilderAt 53 5 B b p (Lib.byteCells l) w → Lib.BuilderAt 53 5 B b p (Lib.byteCells l) w' := fun p h => by
    obtain ⟨hB, v, hbk, hown, hne⟩ := h
    refine ⟨hB, v, (hb.block b (Array.getElem?_eq_some_iff.1 hbk).1).trans hbk, ⟨hown.1, ?_⟩, hne⟩
    rcases hown.2 with e | ⟨g, cap, cur, e, a1, a2, a3⟩
    · exact .inl e
    · exact .inr ⟨g, cap, cur, e, a1, (hb.block g (Array.getElem?_eq_some_iff.1 a2).1).trans a2, a3⟩
  rcases h with h | h
  · exact .inl (K _ h)
  · exact .inr (K _ h)
theorem bld_new (w : World) : Bld w.heap.size w.heap.size [] (w.alloc (.cells #[.pointer none, .slice none 0 0] 53)) := Lib.fresh_isBuilder _ _ w
end Go.Proofs.Ytnmlifagchdphaa
/-
  The contracts of Builder.Len and behind. Condition: texts of less than 2^33 bytes.
-/
namespace Go.Proofs.Ytnmlifagchdphaa
set_option maxRecDepth 100000
open Go.RowKit
set_option maxRecDepth 100000 in
set_option maxHeartbeats 1000000 in
theorem bld_len {B b : Nat} {l : List UInt8} {w : World} (h : Bld B b l w) :
    Calls Try.prog 27 #[.pointer (some ⟨b, 0, none⟩)] w fun e w' => e = .returned (.int .i64 (l.length : Int)) ∧ Below w.heap.size w w' := by
  have hbl := Lib.byteCells_length l
  have K : ∃ v c, w.cell? ⟨b, 1, none⟩ = some (.slice v l.length c) := by
    rcases h with h | h
    all_goals (
      obtain ⟨hB, v, hbk, hown, hne⟩ := h
      have c1 : w.cell? ⟨b, 1, none⟩ = some v := by rw [Lib.cell_of_heap hbk]; rfl
      rcases hown.2 with ⟨rfl, hz⟩ | ⟨g, cap, cur, rfl, _⟩
      · rw [hbl] at hz
        rw [c1, hz]
        exact ⟨_, _, rfl⟩
      · rw [c1, hbl]
        exact ⟨_, _, rfl⟩)
  obtain ⟨v, c, c1⟩ := K
  clear h hbl
  go_enter Try.func27, Try.ntmps27
  go_wp2_with fail
  go_returns
  exact ⟨rfl, Below.refl _ _⟩
set_option maxRecDepth 100000 in
set_option maxHeartbeats 2000000 in
theorem behind_any (r : List UInt8) (hr : r.length < 8589934592) (d : Nat) (hd : d < 4294967296) (w : World) :
    Calls Try.prog 29 #[.string ⟨r.toArray⟩, .int .i64 (d : Int)] w fun e w' => e = .returned (.string ⟨(tailB r d).toArray⟩) ∧ Below w.heap.size w w' := by
  have P1 := Lib.hid (putnum_any (r.length / 4) (by omega))
  have P2 := Lib.hid (putnum_any d hd)
  obtain ⟨q, hq⟩ := named (r.length / 4)
  have e1 : ((r.length : Int)) / 4 = (q : Int) := by rw [hq.out]; omega
  have e2 : (r.toArray.size : Int) / 4 = (q : Int) := by rw [List.size_toArray]; exact e1
  have z1 : ¬ 9223372036854775807 < r.length + (le4 q).length := by rw [le4_len]; omega
  have z2 : ¬ 9223372036854775807 < r.length + (le4 q).length + (le4 d).length := by rw [le4_len, le4_len]; omega
  rw [← hq.out] at P1
  have TB : Hid (tailB r d = r ++ le4 q ++ le4 d) := Lib.hid (by rw [hq.out]; rfl)
  obtain ⟨X, hX⟩ := named (tailB r d)
  rw [← hX.out] at TB ⊢
  clear hX hq
  go_enter Try.func29, Try.ntmps29
  go_wp2_with (first
    | (go_at_call 26; ((with_reducible refine (P1.out _).mono ?_); rintro e w1 ⟨rfl, hb1⟩))
    | (go_at_call 26; ((with_reducible refine (P2.out _).mono ?_); rintro e w2 ⟨rfl, hb2⟩)))
  go_returns
  exact ⟨by rw [TB.out, ← cat_ba, ← cat_ba]; rfl, below_of hb1 hb2⟩
end Go.Proofs.Ytnmlifagchdphaa
/-
  A drawn region whose loads are held by a condition, walked by hand: one operation taken, or passed over by its guard. No condition.
-/
namespace Go.Proofs.Ytnmlifagchdphaa
set_option maxRecDepth 100000
open Go
variable {P : Program} {md : Region.Mode} {ops : Array Oper} {Q : Exit → Act → World → Prop} {S : World → Prop} {fuel : Nat} {listed : Array Bool} {a : Act} {w : World}
theorem held_take {i : Nat} {dst : Option Tmp} {op : Op} {type : TypeId} {pos : String} {after} {guard} {v : Value} (hi : ops[i]? = some { dst := dst, op := op, type := type, pos := pos, after := after, guard := guard })
    (hs : Region.noSelect ops = true) (hf : Region.free md ops listed i = true) (hr : (Region.ready md ops listed).contains i = true)
    (hQ : ∀ c a w, Q (.panic c) (a.put dst v) w → Q (.panic c) a w) (hw : Region.wanted { dst := dst, op := op, type := type, pos := pos, after := after, guard := guard } (yielded ops a.tmps) = true)
    (hy : ∀ w, S w → (execOp a.eval { dst := dst, op := op, type := type, pos := pos, after := after, guard := guard }).run P w = .ok (.value v) w) (hS : S w)
    (h : wpAnyH P md ops Q S fuel (listed.setIfInBounds i true) (a.put dst v) w) : wpAnyH P md ops Q S (fuel + 1) listed a w := wpAnyH_take hi hs hf hr hQ (Or.inl ⟨hw, hy⟩) hS h
theorem held_skip {i : Nat} {dst : Option Tmp} {op : Op} {type : TypeId} {pos : String} {after} {guard} (hi : ops[i]? = some { dst := dst, op := op, type := type, pos := pos, after := after, guard := guard })
    (hs : Region.noSelect ops = true) (hf : Region.free md ops listed i = true) (hr : (Region.ready md ops listed).contains i = true)
    (hQ : ∀ c a w, Q (.panic c) (a.put dst undef) w → Q (.panic c) a w) (hw : Region.wanted { dst := dst, op := op, type := type, pos := pos, after := after, guard := guard } (yielded ops a.tmps) = false) (hS : S w)
    (h : wpAnyH P md ops Q S fuel (listed.setIfInBounds i true) (a.put dst undef) w) : wpAnyH P md ops Q S (fuel + 1) listed a w := wpAnyH_take hi hs hf hr hQ (Or.inr ⟨hw, rfl⟩) hS h
theorem held_call {i : Nat} {dst : Option Tmp} {op : Op} {type : TypeId} {pos : String} {after} {guard} (hr : Region.ready md ops listed = [i]) (hi : ops[i]? = some { dst := dst, op := op, type := type, pos := pos, after := after, guard := guard })
    (hw : Region.wanted { dst := dst, op := op, type := type, pos := pos, after := after, guard := guard } (yielded ops a.tmps) = true)
    (h : ∀ K : Act → World → Prop, Shut (∀ a w, S w → (S w → wpAnyH P md ops Q S fuel (listed.setIfInBounds i true) a w) → K a w) → Oper.wp P { dst := dst, op := op, type := type, pos := pos, after := after, guard := guard } a w K Q) : wpAnyH P md ops Q S (fuel + 1) listed a w :=
  wpAnyH_ready hr (by simp) (AllReadyH.cons hi (fun K hK => by rw [if_pos hw]; exact h K hK) AllReadyH.nil)
/-- Two operations that may come first: each way. -/
theorem held_two {i j : Nat} {o1 o2 : Oper} (hr : Region.ready md ops listed = [i, j]) (hi : ops[i]? = some o1) (hj : ops[j]? = some o2)
    (hw : Region.wanted o1 (yielded ops a.tmps) = true) (hw2 : Region.wanted o2 (yielded ops a.tmps) = true)
    (h : ∀ K : Act → World → Prop, Shut (∀ a w, S w → (S w → wpAnyH P md ops Q S fuel (listed.setIfInBounds i true) a w) → K a w) → Oper.wp P o1 a w K Q)
    (h2 : ∀ K : Act → World → Prop, Shut (∀ a w, S w → (S w → wpAnyH P md ops Q S fuel (listed.setIfInBounds j true) a w) → K a w) → Oper.wp P o2 a w K Q) : wpAnyH P md ops Q S (fuel + 1) listed a w :=
  wpAnyH_ready hr (by simp) (AllReadyH.cons hi (fun K hK => by rw [if_pos hw]; exact h K hK) (AllReadyH.cons hj (fun K hK => by rw [if_pos hw2]; exact h2 K hK) AllReadyH.nil))
/-- Three operations that may come first: each way. -/
theorem held_three {i j k : Nat} {o1 o2 o3 : Oper} (hr : Region.ready md ops listed = [i, j, k]) (hi : ops[i]? = some o1) (hj : ops[j]? = some o2) (hk : ops[k]? = some o3)
    (hw : Region.wanted o1 (yielded ops a.tmps) = true) (hw2 : Region.wanted o2 (yielded ops a.tmps) = true) (hw3 : Region.wanted o3 (yielded ops a.tmps) = true)
    (h : ∀ K : Act → World → Prop, Shut (∀ a w, S w → (S w → wpAnyH P md ops Q S fuel (listed.setIfInBounds i true) a w) → K a w) → Oper.wp P o1 a w K Q)
    (h2 : ∀ K : Act → World → Prop, Shut (∀ a w, S w → (S w → wpAnyH P md ops Q S fuel (listed.setIfInBounds j true) a w) → K a w) → Oper.wp P o2 a w K Q)
    (h3 : ∀ K : Act → World → Prop, Shut (∀ a w, S w → (S w → wpAnyH P md ops Q S fuel (listed.setIfInBounds k true) a w) → K a w) → Oper.wp P o3 a w K Q) : wpAnyH P md ops Q S (fuel + 1) listed a w :=
  wpAnyH_ready hr (by simp) (AllReadyH.cons hi (fun K hK => by rw [if_pos hw]; exact h K hK) (AllReadyH.cons hj (fun K hK => by rw [if_pos hw2]; exact h2 K hK) (AllReadyH.cons hk (fun K hK => by rw [if_pos hw3]; exact h3 K hK) AllReadyH.nil)))
end Go.Proofs.Ytnmlifagchdphaa
/-
  The contract of parts. Condition: at most 2^62 bytes.
-/
namespace Go.Proofs.Ytnmlifagchdphaa
set_option maxRecDepth 100000
open Go.RowKit
/-- The number of four bytes. -/
def u4 (l : List UInt8) : Nat := (l.getD 0 0).toNat + 256 * (l.getD 1 0).toNat + 65536 * (l.getD 2 0).toNat + 16777216 * (l.getD 3 0).toNat
theorem u4_lt (l : List UInt8) : u4 l < 4294967296 := by
  have := UInt8.toNat_lt (l.getD 0 0)
  have := UInt8.toNat_lt (l.getD 1 0)
  have := UInt8.toNat_lt (l.getD 2 0)
  have := UInt8.toNat_lt (l.getD 3 0)
  unfold u4
  omega
/-- The rows' bytes, and the restart interval. -/
def ptB (L : List UInt8) : Option (List UInt8 × Nat) :=
  if L.length < 8 ∨ 65536 < L.length then none
  else if (L.length - 8) / 4 < u4 (L.drop (L.length - 8)) ∨ u4 (L.drop (L.length - 4)) < 1 ∨ 64 < u4 (L.drop (L.length - 4)) then none
  else some (L.take (L.length - 8 - 4 * u4 (L.drop (L.length - 8))), u4 (L.drop (L.length - 4)))
def ptV : Option (List UInt8 × Nat) → Value
  | none => .tuple #[.string ⟨#[]⟩, .int .i64 0, .bool false]
  | some (r, d) => .tuple #[.string ⟨r.toArray⟩, .int .i64 (d : Int), .bool true]
theorem numL_any (L : List UInt8) (h : 4 ≤ L.length) (w : World) : Calls Try.prog 45 #[.string ⟨L.toArray⟩] w fun e w' => e = .returned (.int .u32 (u4 L : Nat)) ∧ Below w.heap.size w w' := by
  have g : ∀ k, k < 4 → (⟨L.toArray⟩ : ByteArray).toList[k]? = some (L.getD k 0) := fun k hk => by
    rw [ofList_toList, List.getD_eq_getElem?_getD, List.getElem?_eq_getElem (by omega)]; rfl
  exact num4_any ⟨L.toArray⟩ _ _ _ _ (g 0 (by omega)) (g 1 (by omega)) (g 2 (by omega)) (g 3 (by omega)) w
set_option maxRecDepth 100000 in
set_option maxHeartbeats 4000000 in
theorem parts_any (L : List UInt8) (h : L.length ≤ 4611686018427387904) (w : World) :
    Calls Try.prog 30 #[.string ⟨L.toArray⟩] w fun e w' => e = .returned (ptV (ptB L)) ∧ Below w.heap.size w w' := by
  obtain ⟨n, hn⟩ := named L.length
  have hN : (L.length : Int) = (n : Int) := by rw [hn.out]
  have hN2 : L.length = n := by rw [hn.out]
  by_cases h1 : L.length < 8
  · have e : ptB L = none := by unfold ptB; rw [if_pos (.inl h1)]
    rw [e]
    have g1 : (n : Int) < 8 := by omega
    have g2 : n < 8 := by omega
    clear e
    go_enter Try.func30, Try.ntmps30
    go_wp2_with fail
    go_returns
    exact ⟨rfl, Below.refl _ _⟩
  by_cases h2 : 65536 < L.length
  · have e : ptB L = none := by unfold ptB; rw [if_pos (.inr h2)]
    rw [e]
    have g1 : decide (n < 8) = false := by rw [decide_eq_false_iff_not]; omega
    have g2 : 65536 < n := by omega
    clear e
    go_enter Try.func30, Try.ntmps30
    go_wp2_with fail
    go_returns
    exact ⟨rfl, Below.refl _ _⟩
  have hE : Hid (ptB L = if (n - 8) / 4 < u4 (L.drop (n - 8)) ∨ u4 (L.drop (n - 4)) < 1 ∨ 64 < u4 (L.drop (n - 4)) then none else some (L.take (n - 8 - 4 * u4 (L.drop (n - 8))), u4 (L.drop (n - 4)))) := Lib.hid (by unfold ptB; rw [if_neg (by omega), hN2])
  have g1 : decide (n < 8) = false := by rw [decide_eq_false_iff_not]; omega
  have g2 : decide (65536 < n) = false := by rw [decide_eq_false_iff_not]; omega
  obtain ⟨m, hm⟩ : ∃ m, n = m + 8 := ⟨n - 8, by omega⟩
  have N1 := Lib.hid (fun u => numL_any (L.drop (n - 8)) (by rw [List.length_drop]; omega) u)
  have N2 := Lib.hid (fun u => numL_any (L.drop (n - 4)) (by rw [List.length_drop]; omega) u)
  have S1 := slL_from L (n - 8) (by omega) (m : Int) (by omega)
  have S2 := slL_from L (n - 4) (by omega) ((m : Int) + 4) (by omega)
  have ha := u4_lt (L.drop (n - 8))
  have hb := u4_lt (L.drop (n - 4))
  obtain ⟨a, hA⟩ := named (u4 (L.drop (n - 8)))
  obtain ⟨b, hB⟩ := named (u4 (L.drop (n - 4)))
  rw [← hA.out] at N1 hE ha
  rw [← hB.out] at N2 hE hb
  obtain ⟨D1, hD1⟩ := named (L.drop (n - 8))
  obtain ⟨D2, hD2⟩ := named (L.drop (n - 4))
  rw [← hD1.out] at N1 S1
  rw [← hD2.out] at N2 S2
  subst hm
  rw [Nat.add_sub_cancel] at hE
  have S3 : Hid (a * 4 ≤ m → ∀ u : World, (Instr.slice 9 (.string ⟨L.toArray⟩) none (some (.int .i64 ((m : Int) - (a : Int) * 4))) none).run Try.prog u = .ok (.string ⟨(L.take (m - 4 * a)).toArray⟩) u) := Lib.hid (fun hle => slL_upto L (m - 4 * a) (by omega) _ (by omega))
  have hm2 : m ≤ 65528 := by omega
  have w1 : wrap64 ((m : Int) + 8 - 8) = (m : Int) := by unfold wrap64; omega
  have w2 : wrap64 ((m : Int) + 4) = (m : Int) + 4 := by unfold wrap64; omega
  have w4 : IntKind.i64.wrap ((m : Int) + 4) = (m : Int) + 4 := by rw [IntKind.wrap_i64]; omega
  have w5 : IntKind.i64.wrap ((m : Int) + 8 - 8) = (m : Int) := by rw [IntKind.wrap_i64]; omega
  have w6 : IntKind.i64.wrap (m : Int) = (m : Int) := by rw [IntKind.wrap_i64]; omega
  have w3 : IntKind.u32.wrap ((m : Int) / 4) = ((m / 4 : Nat) : Int) := by rw [IntKind.wrap_u32]; omega
  obtain ⟨P, hP⟩ := named (ptB L)
  rw [← hP.out] at hE ⊢
  have CB := Lib.hid (Below.refl w.heap.size w).drew
  clear hA hB hD1 hD2 hP h h1 h2 hn
  replace hN2 := Lib.hid hN2
  go_enter Try.func30, Try.ntmps30
  go_upto_region 4 with fail
  refine wp_region_held_drew (S := (fun v => Hid (Below w.heap.size w v))) (by kernel_rfl) (CB) (fun hHeld => ?_)
  refine held_take (i := 0) (v := ?_) rfl (by kernel_rfl) (by kernel_rfl) (by kernel_rfl) (fun _ _ _ h => h) (by rfl) (fun w hSw => ?_) (by assumption) ?_; rotate_left 1; focus (((try dsimp only at hSw); first | (go_simp; done) | (go_simp; with_reducible rfl)))
  try simp only [Act.put, List.setIfInBounds_toArray, List.set_cons_zero, List.set_cons_succ]
  refine held_take (i := 1) (v := ?_) rfl (by kernel_rfl) (by kernel_rfl) (by kernel_rfl) (fun _ _ _ h => h) (by rfl) (fun w hSw => ?_) (by assumption) ?_; rotate_left 1; focus (((try dsimp only at hSw); first | (go_simp; done) | (go_simp; with_reducible rfl)))
  try simp only [Act.put, List.setIfInBounds_toArray, List.set_cons_zero, List.set_cons_succ]
  refine held_take (i := 2) (v := ?_) rfl (by kernel_rfl) (by kernel_rfl) (by kernel_rfl) (fun _ _ _ h => h) (by rfl) (fun w hSw => ?_) (by assumption) ?_; rotate_left 1; focus (((try dsimp only at hSw); first | (go_simp; done) | (go_simp; with_reducible rfl)))
  try simp only [Act.put, List.setIfInBounds_toArray, List.set_cons_zero, List.set_cons_succ]
  refine held_take (i := 4) (v := ?_) rfl (by kernel_rfl) (by kernel_rfl) (by kernel_rfl) (fun _ _ _ h => h) (by rfl) (fun w hSw => ?_) (by assumption) ?_; rotate_left 1; focus (((try dsimp only at hSw); first | (go_simp; done) | (go_simp; with_reducible rfl)))
  try simp only [Act.put, List.setIfInBounds_toArray, List.set_cons_zero, List.set_cons_succ]
  refine held_take (i := 5) (v := ?_) rfl (by kernel_rfl) (by kernel_rfl) (by kernel_rfl) (fun _ _ _ h => h) (by rfl) (fun w hSw => ?_) (by assumption) ?_; rotate_left 1; focus (((try dsimp only at hSw); first | (go_simp; done) | (go_simp; with_reducible rfl)))
  try simp only [Act.put, List.setIfInBounds_toArray, List.set_cons_zero, List.set_cons_succ]
  refine held_take (i := 6) (v := ?_) rfl (by kernel_rfl) (by kernel_rfl) (by kernel_rfl) (fun _ _ _ h => h) (by rfl) (fun w hSw => ?_) (by assumption) ?_; rotate_left 1; focus (((try dsimp only at hSw); first | (go_simp; done) | (go_simp; with_reducible rfl)))
  try simp only [Act.put, List.setIfInBounds_toArray, List.set_cons_zero, List.set_cons_succ]
  refine held_take (i := 7) (v := ?_) rfl (by kernel_rfl) (by kernel_rfl) (by kernel_rfl) (fun _ _ _ h => h) (by rfl) (fun w hSw => ?_) (by assumption) ?_; rotate_left 1; focus (((try dsimp only at hSw); first | (go_simp; done) | (go_simp; with_reducible rfl)))
  try simp only [Act.put, List.setIfInBounds_toArray, List.set_cons_zero, List.set_cons_succ]
  refine held_call (i := 3) (by kernel_rfl) rfl (by rfl) (fun K hK => ?_)
  go_simp
  (go_at_call 45; ((with_reducible refine (N1.out _).mono ?_); rintro e u1 ⟨rfl, hb1⟩))
  have B1 := Lib.hid (below_of (w := w) hHeld.out hb1)
  clear hb1
  refine hK.out _ _ (B1) (fun hHeld => ?_)
  try simp only [Act.put, List.setIfInBounds_toArray, List.set_cons_zero, List.set_cons_succ]
  refine held_call (i := 8) (by kernel_rfl) rfl (by rfl) (fun K hK => ?_)
  go_simp
  (go_at_call 45; ((with_reducible refine (N2.out _).mono ?_); rintro e u2 ⟨rfl, hb2⟩))
  have B2 := Lib.hid (below_of (w := w) B1.out hb2)
  clear hb2
  refine hK.out _ _ (B2) (fun hHeld => ?_)
  try simp only [Act.put, List.setIfInBounds_toArray, List.set_cons_zero, List.set_cons_succ]
  refine held_take (i := 9) (v := ?_) rfl (by kernel_rfl) (by kernel_rfl) (by kernel_rfl) (fun _ _ _ h => h) (by rfl) (fun w hSw => ?_) (by assumption) ?_; rotate_left 1; focus (((try dsimp only at hSw); first | (go_simp; done) | (go_simp; with_reducible rfl)))
  try simp only [Act.put, List.setIfInBounds_toArray, List.set_cons_zero, List.set_cons_succ]
  refine held_take (i := 10) (v := ?_) rfl (by kernel_rfl) (by kernel_rfl) (by kernel_rfl) (fun _ _ _ h => h) (by rfl) (fun w hSw => ?_) (by assumption) ?_; rotate_left 1; focus (((try dsimp only at hSw); first | (go_simp; done) | (go_simp; with_reducible rfl)))
  try simp only [Act.put, List.setIfInBounds_toArray, List.set_cons_zero, List.set_cons_succ]
  refine wpAnyH_done (by kernel_rfl) ?_ _
  by_cases q1 : m / 4 < a
  · rw [if_pos (.inl q1)] at hE
    have g3 : decide (m / 4 < a) = true := by simpa using q1
    clear S3
    go_wp2_with fail
    go_returns
    exact ⟨by rw [hE.out]; rfl, B2.out⟩
  by_cases q2 : b < 1
  · rw [if_pos (.inr (.inl q2))] at hE
    have g3 : decide (m / 4 < a) = false := by simpa using q1
    have g4 : decide (b < 1) = true := by simpa using q2
    have g5 : (b : Int) < 1 := by omega
    clear S3
    go_wp2_with fail
    go_returns
    exact ⟨by rw [hE.out]; rfl, B2.out⟩
  by_cases q3 : 64 < b
  · rw [if_pos (.inr (.inr q3))] at hE
    have g3 : decide (m / 4 < a) = false := by simpa using q1
    have g4 : decide (b < 1) = false := by simpa using q2
    have g5 : ¬ (b : Int) < 1 := by omega
    have g6 : decide (64 < b) = true := by simpa using q3
    clear S3
    go_wp2_with fail
    go_returns
    exact ⟨by rw [hE.out]; rfl, B2.out⟩
  rw [if_neg (by omega)] at hE
  have S4 := S3.out (by omega)
  have g3 : decide (m / 4 < a) = false := by simpa using q1
  have g4 : decide (b < 1) = false := by simpa using q2
  have g5 : ¬ (b : Int) < 1 := by omega
  have g6 : decide (64 < b) = false := by simpa using q3
  have w7 : IntKind.i64.wrap (a : Int) = (a : Int) := by rw [IntKind.wrap_i64]; omega
  have w8 : IntKind.i64.wrap (b : Int) = (b : Int) := by rw [IntKind.wrap_i64]; omega
  obtain ⟨TK, hTK⟩ := named (L.take (m - 4 * a))
  rw [← hTK.out] at S4 hE
  clear S3 hTK
  go_wp2_with fail
  go_returns
  exact ⟨by rw [hE.out]; rfl, B2.out⟩
end Go.Proofs.Ytnmlifagchdphaa
/-
  A row as a value and in a block of its own; a row stands ahead, as the laws say it. No condition.
-/
namespace Go.Proofs.Ytnmlifagchdphaa
set_option maxRecDepth 100000
open Go.RowKit
theorem cell_keep {w w2 : World} (hb : Below w.heap.size w w2) {b o : Nat} {v : Value} (h : w.cell? ⟨b, o, none⟩ = some v) : w2.cell? ⟨b, o, none⟩ = some v := (hb.cell (p := ⟨b, o, none⟩) (World.block_lt_of_cell? _ _ h)).trans h
/-- A row as a value. -/
abbrev rowV (x : Rw) : Value := .agg #[.string x.key, .int .u64 (x.seq : Int), .int .i64 x.kind, .string x.val]
/-- A row in a block of its own. -/
def RowAt (b : Nat) (x : Rw) (w : World) : Prop := w.heap[b]? = some (.cells #[.string x.key, .int .u64 (x.seq : Int), .int .i64 x.kind, .string x.val] 33 (0, 0))
theorem RowAt.below {b : Nat} {x : Rw} {w w' : World} (h : RowAt b x w) (hb : Below w.heap.size w w') : RowAt b x w' := (hb.block b (Array.getElem?_eq_some_iff.1 h).1).trans h
theorem RowAt.cells {b : Nat} {x : Rw} {w : World} (h : RowAt b x w) : (w.cell? ⟨b, 0, none⟩ = some (.string x.key) ∧ w.cell? ⟨b, 1, none⟩ = some (.int .u64 (x.seq : Int)) ∧ w.cell? ⟨b, 2, none⟩ = some (.int .i64 x.kind) ∧ w.cell? ⟨b, 3, none⟩ = some (.string x.val)) ∧ ∀ o, w.frozen? ⟨b, o, none⟩ = false := by
  unfold RowAt at h
  exact ⟨by simp [World.cell?, h], fun o => by simp [World.frozen?, h]⟩
theorem RowAt.new (x : Rw) (w : World) : RowAt w.heap.size x (w.alloc (.cells #[.string x.key, .int .u64 (x.seq : Int), .int .i64 x.kind, .string x.val] 33)) := heap_alloc_new _ _
/-- A row stands ahead, as the laws say it. -/
theorem ahd_parts (x : Rw) (k : ByteArray) (q : Nat) :
    (Op.bytesLess x.key.toList k.toList = true ∧ ahd x k q = true) ∨ (Op.bytesLess x.key.toList k.toList = false ∧ (x.key.toList == k.toList) = true ∧ ahd x k q = decide ((q : Int) < (x.seq : Int))) ∨ (Op.bytesLess x.key.toList k.toList = false ∧ (x.key.toList == k.toList) = false ∧ ahd x k q = false) := by
  have e2 : (decide (q < x.seq) : Bool) = decide ((q : Int) < (x.seq : Int)) := by congr 1; simp
  unfold ahd
  rw [less_before]
  by_cases e : x.key.toList = k.toList
  · rw [if_pos e]
    right; left
    exact ⟨by rw [e, WideAt.bytes_irrefl], by simpa using e, e2⟩
  · rw [if_neg e]
    cases h : bytesBefore x.key.toList k.toList with
    | true => exact .inl ⟨rfl, rfl⟩
    | false => exact .inr (.inr ⟨rfl, by simpa using e, rfl⟩)
theorem rs_row_at {w : World} {B : Nat} {a : Option Addr} {n c : Nat} {l : List Rw} (h : w.ownsRow B 33 4 (.slice a n c) n (rowR l)) (hl : l.length = n) : ∃ b, Rs a n c b 0 l w := by
  subst hl
  obtain ⟨a', c', b, e, r, _⟩ := rs_of_row h
  cases e
  exact ⟨b, r⟩
theorem grown_below {w w2 w3 : World} {o : Obj} {e : TypeId} {size n : Nat} {v : Value} {xs : List Value} (h : Below w.heap.size w w2) (hr : w2.ownsRow w.heap.size e size v n xs) (hg : (w2.alloc o).grownBy w3 v.ownBlock) : Below w.heap.size w w3 := by
  have h1 := h.alloc h.size o
  exact h1.grown hg h1.size (fun k hk => (World.ownsRow.lt hr k hk).1)
end Go.Proofs.Ytnmlifagchdphaa
/-
  The contracts of isBefore and Check. No condition.
-/
namespace Go.Proofs.Ytnmlifagchdphaa
set_option maxRecDepth 100000
open Go.RowKit
set_option maxRecDepth 100000 in
set_option maxHeartbeats 2000000 in
theorem before_any (x : Rw) (k : ByteArray) (q : Nat) (w : World) : Calls Try.prog 18 #[rowV x, .string k, .int .u64 (q : Int)] w fun e w' => e = .returned (.bool (ahd x k q)) ∧ Below w.heap.size w w' := by
  have R0 := (RowAt.new x w).cells
  have W0 := Lib.hid (below_alloc w (.cells #[.string x.key, .int .u64 (x.seq : Int), .int .i64 x.kind, .string x.val] 33))
  have p1 : (x.key.toList == k.toList) = decide (x.key.toList = k.toList) := by rw [Bool.eq_iff_iff]; simp
  have p2 : ahd x k q = if x.key.toList = k.toList then decide (q < x.seq) else Op.bytesLess x.key.toList k.toList := by
    unfold ahd
    rw [less_before]
  obtain ⟨xk, xs, xi, xv⟩ := x
  simp only at R0 W0 p1 p2
  obtain ⟨⟨c0, c1, c2, c3⟩, _⟩ := R0
  rw [p2]
  clear p2
  by_cases e : xk.toList = k.toList
  · rw [if_pos e]
    rw [decide_eq_true e] at p1
    clear e
    go_enter Try.func18, Try.ntmps18
    go_wp2_with fail
    go_returns
    exact ⟨rfl, W0.out⟩
  · rw [if_neg e]
    rw [decide_eq_false e] at p1
    clear e
    go_enter Try.func18, Try.ntmps18
    go_wp2_with fail
    go_returns
    exact ⟨rfl, W0.out⟩
theorem toList_sizeB (s : ByteArray) : s.toList = [] ↔ s.size = 0 := by rw [← List.length_eq_zero_iff, toL_len]
theorem isEmpty_sizeB (s : ByteArray) : s.toList.isEmpty = (s.size == 0) := by rw [Bool.eq_iff_iff, List.isEmpty_iff, toList_sizeB]; simp
set_option maxRecDepth 100000 in
set_option maxHeartbeats 4000000 in
theorem chk_any (x : Rw) (w : World) : Calls Try.prog 39 #[rowV x] w fun e w' => e = .returned (.int .i64 (chkR x : Nat)) ∧ Below w.heap.size w w' := by
  have R0 := (RowAt.new x w).cells
  obtain ⟨R, hR⟩ := named (chkR x)
  rw [← hR.out]
  obtain ⟨xk, xs, xi, xv⟩ := x
  simp only at R0
  obtain ⟨⟨c0, c1, c2, c3⟩, _⟩ := R0
  go_enter Try.func39, Try.ntmps39
  go_wp2
  all_goals
    go_returns
    refine ⟨?_, below_alloc _ _⟩
    rw [hR.out]
    clear hR
    try simp only [toList_sizeB, isEmpty_sizeB, beq_iff_eq, beq_eq_false_iff_ne, bne_eq_false_iff_eq, bne_iff_ne, Bool.not_eq_eq_eq_not, Bool.not_true, Bool.not_false, ne_eq, decide_eq_true_eq, decide_eq_false_iff_not] at *
    unfold chkR badR longR
    simp only [decide_eq_true_eq]
    first
      | (rw [if_pos (by omega)]; rfl)
      | (rw [if_neg (by omega), if_pos (by omega)]; rfl)
      | (rw [if_neg (by omega), if_neg (by omega)]; rfl)
end Go.Proofs.Ytnmlifagchdphaa
/-
  The contracts of Order and checkAll. No condition.
-/
namespace Go.Proofs.Ytnmlifagchdphaa
set_option maxRecDepth 100000
open Go.RowKit
theorem ordR_iff : ∀ l : List Rw, ordR l = true ↔ ∀ (j : Nat) x y, l[j]? = some x → l[j + 1]? = some y → ahd x y.key y.seq = true
  | [] => by simp [ordR]
  | [x] => by
    simp only [ordR, Bool.true_and, true_iff]
    intro j a b _ h
    simp at h
  | x :: y :: r => by
    have ih := ordR_iff (y :: r)
    rw [ordR, Bool.and_eq_true, ih]
    constructor
    · rintro ⟨h1, h2⟩ j a b ha hb
      cases j with
      | zero =>
        obtain rfl : x = a := by simpa using ha
        obtain rfl : y = b := by simpa using hb
        exact h1
      | succ j => exact h2 j a b (by simpa using ha) (by simpa using hb)
    · intro h
      exact ⟨h 0 x y rfl rfl, fun j a b ha hb => h (j + 1) a b (by simpa using ha) (by simpa using hb)⟩
set_option maxRecDepth 100000 in
set_option maxHeartbeats 4000000 in
theorem order_any {a : Option Addr} {n c b o : Nat} {l : List Rw} {w : World} (h : Rs a n c b o l w) :
    Calls Try.prog 12 #[.slice a n c] w fun e w' => e = .returned (.bool (ordR l)) ∧ Below w.heap.size w w' := by
  have e0 := Lib.hid h.len
  have m0 := h.most
  have q0 := h.cap
  obtain ⟨E, hE⟩ := named (ordR l)
  rw [← hE.out]
  have h := Lib.hid h
  go_enter Try.func12, Try.ntmps12
  go_wp2_with fail
  go_loopw [3] (fun i wr => ∃ j : Nat, (j + 1 ≤ n ∨ j = 0) ∧ i = .int .i64 ((j : Int) + 1) ∧ (∀ (k : Nat) x y, k < j → l[k]? = some x → l[k + 1]? = some y → ahd x y.key y.seq = true) ∧ Below w.heap.size w wr) (fun i _ => n + 1 - (intOf i).toNat)
  case atStart => exact ⟨0, .inr rfl, rfl, fun k _ _ hk => absurd hk (by omega), Below.refl _ _⟩
  case round =>
    obtain ⟨j, hj, rfl, ho, hb⟩ := hrel
    by_cases hlt : j + 1 < n
    · obtain ⟨x, hx, rfl, x0, x1, x2, x3⟩ := (h.out.below hb (Nat.le_refl _)).at4 (show j < n by omega)
      obtain ⟨y, hy, _, y0, y1, y2, y3⟩ := (h.out.below hb (Nat.le_refl _)).at4 hlt
      have AC := Lib.hid (fun u => before_any x y.key y.seq u)
      obtain ⟨T, hT⟩ := named (ahd x y.key y.seq)
      have AC : Hid (∀ u, Calls Try.prog 18 #[rowV x, .string y.key, .int .u64 (y.seq : Int)] u fun e w' => e = .returned (.bool T) ∧ Below u.heap.size u w') := Lib.hid (by rw [hT.out]; exact AC.out)
      have hbad : Hid (T = false → E = false) := Lib.hid (fun hf => by
        rw [hE.out]
        cases hc : ordR l with
        | false => rfl
        | true => rw [← (ordR_iff l).1 hc j x y hx hy, ← hT.out, hf])
      have hgood : Hid (T = true → ∀ (k : Nat) x y, k < j + 1 → l[k]? = some x → l[k + 1]? = some y → ahd x y.key y.seq = true) := Lib.hid (fun ht k a b hk ha hb => by
        by_cases hkj : k = j
        · subst hkj
          rw [hx] at ha
          rw [hy] at hb
          cases ha; cases hb
          rw [← hT.out, ht]
        · exact ho k a b (by omega) ha hb)
      have i1 : (j : Int) + 1 < (n : Int) := by omega
      have i0 : (j : Int) < (n : Int) := by omega
      have i2 : j < n := by omega
      have i3 : (0 : Int) ≤ (j : Int) + 1 := by omega
      have wr1 : wrap64 ((j : Int) + 1 - 1) = (j : Int) := by unfold wrap64; omega
      have wr2 : (j : Int) + 1 - 1 = (j : Int) := by omega
      have wr3 : wrap64 (j : Int) = (j : Int) := by unfold wrap64; omega
      have wr4 : IntKind.i64.wrap (j : Int) = (j : Int) := by simp [IntKind.wrap_i64]; omega
      have wr5 : IntKind.i64.wrap ((j : Int) + 1 - 1) = (j : Int) := by rw [wr2, wr4]
      obtain ⟨xk, xs, xi, xv⟩ := x
      obtain ⟨yk, ys, yi, yv⟩ := y
      simp only at x0 x1 x2 x3 y0 y1 y2 y3 AC
      have hb := Lib.hid hb.drew
      have m2 := Lib.hid (show wr.drew.cell? ⟨b, o + j * 4, none⟩ = some (.string xk) ∧ wr.drew.cell? ⟨b, o + j * 4 + 1, none⟩ = some (.int .u64 (xs : Int)) ∧ wr.drew.cell? ⟨b, o + j * 4 + 2, none⟩ = some (.int .i64 xi) ∧ wr.drew.cell? ⟨b, o + j * 4 + 3, none⟩ = some (.string xv) ∧ wr.drew.cell? ⟨b, o + (j + 1) * 4, none⟩ = some (.string yk) ∧ wr.drew.cell? ⟨b, o + (j + 1) * 4 + 1, none⟩ = some (.int .u64 (ys : Int)) from ⟨x0, x1, x2, x3, y0, y1⟩)
      have hkeep : Hid (∀ w2, Below wr.drew.heap.size wr.drew w2 → w2.cell? ⟨b, o + j * 4, none⟩ = some (.string xk) ∧ w2.cell? ⟨b, o + j * 4 + 1, none⟩ = some (.int .u64 (xs : Int)) ∧ w2.cell? ⟨b, o + j * 4 + 2, none⟩ = some (.int .i64 xi) ∧ w2.cell? ⟨b, o + j * 4 + 3, none⟩ = some (.string xv) ∧ w2.cell? ⟨b, o + (j + 1) * 4, none⟩ = some (.string yk) ∧ w2.cell? ⟨b, o + (j + 1) * 4 + 1, none⟩ = some (.int .u64 (ys : Int))) := Lib.hid (fun w2 hb2 => by
        obtain ⟨c0, c1, c2, c3, c4, c5⟩ := m2.out
        exact ⟨cell_keep hb2 c0, cell_keep hb2 c1, cell_keep hb2 c2, cell_keep hb2 c3, cell_keep hb2 c4, cell_keep hb2 c5⟩)
      clear hx hy hT ho x0 x1 x2 x3 y0 y1 y2 y3
      cases T with
      | true =>
        have hg := Lib.hid (hgood.out rfl)
        clear hgood hbad
        go_upto_region 4 with fail
        refine wp_region_held_drew (S := (fun v => v.cell? ⟨b, o + j * 4, none⟩ = some (.string xk) ∧ v.cell? ⟨b, o + j * 4 + 1, none⟩ = some (.int .u64 (xs : Int)) ∧ v.cell? ⟨b, o + j * 4 + 2, none⟩ = some (.int .i64 xi) ∧ v.cell? ⟨b, o + j * 4 + 3, none⟩ = some (.string xv) ∧ v.cell? ⟨b, o + (j + 1) * 4, none⟩ = some (.string yk) ∧ v.cell? ⟨b, o + (j + 1) * 4 + 1, none⟩ = some (.int .u64 (ys : Int)))) (by kernel_rfl) (m2.out) (fun hHeld => ?_)
        refine held_take (i := 0) (v := ?_) rfl (by kernel_rfl) (by kernel_rfl) (by kernel_rfl) (fun _ _ _ h => h) (by rfl) (fun w hSw => ?_) (by assumption) ?_; rotate_left 1; focus (((try dsimp only at hSw); first | (go_simp; done) | (go_simp; with_reducible rfl)))
        try simp only [Act.put, List.setIfInBounds_toArray, List.set_cons_zero, List.set_cons_succ]
        refine held_take (i := 1) (v := ?_) rfl (by kernel_rfl) (by kernel_rfl) (by kernel_rfl) (fun _ _ _ h => h) (by rfl) (fun w hSw => ?_) (by assumption) ?_; rotate_left 1; focus (((try dsimp only at hSw); first | (go_simp; done) | (go_simp; with_reducible rfl)))
        try simp only [Act.put, List.setIfInBounds_toArray, List.set_cons_zero, List.set_cons_succ]
        refine held_take (i := 2) (v := ?_) rfl (by kernel_rfl) (by kernel_rfl) (by kernel_rfl) (fun _ _ _ h => h) (by rfl) (fun w hSw => ?_) (by assumption) ?_; rotate_left 1; focus (((try dsimp only at hSw); first | (go_simp; done) | (go_simp; with_reducible rfl)))
        try simp only [Act.put, List.setIfInBounds_toArray, List.set_cons_zero, List.set_cons_succ]
        refine held_take (i := 3) (v := ?_) rfl (by kernel_rfl) (by kernel_rfl) (by kernel_rfl) (fun _ _ _ h => h) (by rfl) (fun w hSw => ?_) (by assumption) ?_; rotate_left 1; focus (((try dsimp only at hSw); first | (go_simp; done) | (go_simp; with_reducible rfl)))
        try simp only [Act.put, List.setIfInBounds_toArray, List.set_cons_zero, List.set_cons_succ]
        refine held_take (i := 4) (v := ?_) rfl (by kernel_rfl) (by kernel_rfl) (by kernel_rfl) (fun _ _ _ h => h) (by rfl) (fun w hSw => ?_) (by assumption) ?_; rotate_left 1; focus (((try dsimp only at hSw); first | (go_simp; done) | (go_simp; with_reducible rfl)))
        try simp only [Act.put, List.setIfInBounds_toArray, List.set_cons_zero, List.set_cons_succ]
        refine held_take (i := 5) (v := ?_) rfl (by kernel_rfl) (by kernel_rfl) (by kernel_rfl) (fun _ _ _ h => h) (by rfl) (fun w hSw => ?_) (by assumption) ?_; rotate_left 1; focus (((try dsimp only at hSw); first | (go_simp; done) | (go_simp; with_reducible rfl)))
        try simp only [Act.put, List.setIfInBounds_toArray, List.set_cons_zero, List.set_cons_succ]
        refine held_take (i := 6) (v := ?_) rfl (by kernel_rfl) (by kernel_rfl) (by kernel_rfl) (fun _ _ _ h => h) (by rfl) (fun w hSw => ?_) (by assumption) ?_; rotate_left 1; focus (((try dsimp only at hSw); first | (go_simp; done) | (go_simp; with_reducible rfl)))
        try simp only [Act.put, List.setIfInBounds_toArray, List.set_cons_zero, List.set_cons_succ]
        refine held_take (i := 7) (v := ?_) rfl (by kernel_rfl) (by kernel_rfl) (by kernel_rfl) (fun _ _ _ h => h) (by rfl) (fun w hSw => ?_) (by assumption) ?_; rotate_left 1; focus (((try dsimp only at hSw); first | (go_simp; done) | (go_simp; with_reducible rfl)))
        try simp only [Act.put, List.setIfInBounds_toArray, List.set_cons_zero, List.set_cons_succ]
        refine held_take (i := 8) (v := ?_) rfl (by kernel_rfl) (by kernel_rfl) (by kernel_rfl) (fun _ _ _ h => h) (by rfl) (fun w hSw => ?_) (by assumption) ?_; rotate_left 1; focus (((try dsimp only at hSw); first | (go_simp; done) | (go_simp; with_reducible rfl)))
        try simp only [Act.put, List.setIfInBounds_toArray, List.set_cons_zero, List.set_cons_succ]
        refine held_take (i := 9) (v := ?_) rfl (by kernel_rfl) (by kernel_rfl) (by kernel_rfl) (fun _ _ _ h => h) (by rfl) (fun w hSw => ?_) (by assumption) ?_; rotate_left 1; focus (((try dsimp only at hSw); first | (go_simp; done) | (go_simp; with_reducible rfl)))
        try simp only [Act.put, List.setIfInBounds_toArray, List.set_cons_zero, List.set_cons_succ]
        refine held_take (i := 10) (v := ?_) rfl (by kernel_rfl) (by kernel_rfl) (by kernel_rfl) (fun _ _ _ h => h) (by rfl) (fun w hSw => ?_) (by assumption) ?_; rotate_left 1; focus (((try dsimp only at hSw); first | (go_simp; done) | (go_simp; with_reducible rfl)))
        try simp only [Act.put, List.setIfInBounds_toArray, List.set_cons_zero, List.set_cons_succ]
        refine held_take (i := 11) (v := ?_) rfl (by kernel_rfl) (by kernel_rfl) (by kernel_rfl) (fun _ _ _ h => h) (by rfl) (fun w hSw => ?_) (by assumption) ?_; rotate_left 1; focus (((try dsimp only at hSw); first | (go_simp; done) | (go_simp; with_reducible rfl)))
        try simp only [Act.put, List.setIfInBounds_toArray, List.set_cons_zero, List.set_cons_succ]
        refine held_take (i := 12) (v := ?_) rfl (by kernel_rfl) (by kernel_rfl) (by kernel_rfl) (fun _ _ _ h => h) (by rfl) (fun w hSw => ?_) (by assumption) ?_; rotate_left 1; focus (((try dsimp only at hSw); first | (go_simp; done) | (go_simp; with_reducible rfl)))
        try simp only [Act.put, List.setIfInBounds_toArray, List.set_cons_zero, List.set_cons_succ]
        refine held_take (i := 13) (v := ?_) rfl (by kernel_rfl) (by kernel_rfl) (by kernel_rfl) (fun _ _ _ h => h) (by rfl) (fun w hSw => ?_) (by assumption) ?_; rotate_left 1; focus (((try dsimp only at hSw); first | (go_simp; done) | (go_simp; with_reducible rfl)))
        try simp only [Act.put, List.setIfInBounds_toArray, List.set_cons_zero, List.set_cons_succ]
        refine held_take (i := 14) (v := ?_) rfl (by kernel_rfl) (by kernel_rfl) (by kernel_rfl) (fun _ _ _ h => h) (by rfl) (fun w hSw => ?_) (by assumption) ?_; rotate_left 1; focus (((try dsimp only at hSw); first | (go_simp; done) | (go_simp; with_reducible rfl)))
        try simp only [Act.put, List.setIfInBounds_toArray, List.set_cons_zero, List.set_cons_succ]
        refine held_call (i := 15) (by kernel_rfl) rfl (by rfl) (fun K hK => ?_)
        go_simp
        (go_at_call 18; ((with_reducible refine (AC.out _).mono ?_); rintro e w2 ⟨rfl, hb2⟩))
        have m3 := Lib.hid (hkeep.out _ hb2)
        have B2 : Hid (Below w.heap.size w w2) := Lib.hid (below_of hb.out hb2)
        clear hb2
        refine hK.out _ _ (m3.out) (fun hHeld => ?_)
        try simp only [Act.put, List.setIfInBounds_toArray, List.set_cons_zero, List.set_cons_succ]
        refine held_take (i := 16) (v := ?_) rfl (by kernel_rfl) (by kernel_rfl) (by kernel_rfl) (fun _ _ _ h => h) (by rfl) (fun w hSw => ?_) (by assumption) ?_; rotate_left 1; focus (((try dsimp only at hSw); first | (go_simp; done) | (go_simp; with_reducible rfl)))
        try simp only [Act.put, List.setIfInBounds_toArray, List.set_cons_zero, List.set_cons_succ]
        refine wpAnyH_done (by kernel_rfl) ?_ _
        go_wp2_with fail
        go_roundw
        case rel => exact ⟨j + 1, by omega, by go_num, hg.out, B2.out⟩
        case measure => simp [intOf]; omega
      | false =>
        have hE2 := Lib.hid (hbad.out rfl)
        clear hgood hbad
        go_upto_region 4 with fail
        refine wp_region_held_drew (S := (fun v => v.cell? ⟨b, o + j * 4, none⟩ = some (.string xk) ∧ v.cell? ⟨b, o + j * 4 + 1, none⟩ = some (.int .u64 (xs : Int)) ∧ v.cell? ⟨b, o + j * 4 + 2, none⟩ = some (.int .i64 xi) ∧ v.cell? ⟨b, o + j * 4 + 3, none⟩ = some (.string xv) ∧ v.cell? ⟨b, o + (j + 1) * 4, none⟩ = some (.string yk) ∧ v.cell? ⟨b, o + (j + 1) * 4 + 1, none⟩ = some (.int .u64 (ys : Int)))) (by kernel_rfl) (m2.out) (fun hHeld => ?_)
        refine held_take (i := 0) (v := ?_) rfl (by kernel_rfl) (by kernel_rfl) (by kernel_rfl) (fun _ _ _ h => h) (by rfl) (fun w hSw => ?_) (by assumption) ?_; rotate_left 1; focus (((try dsimp only at hSw); first | (go_simp; done) | (go_simp; with_reducible rfl)))
        try simp only [Act.put, List.setIfInBounds_toArray, List.set_cons_zero, List.set_cons_succ]
        refine held_take (i := 1) (v := ?_) rfl (by kernel_rfl) (by kernel_rfl) (by kernel_rfl) (fun _ _ _ h => h) (by rfl) (fun w hSw => ?_) (by assumption) ?_; rotate_left 1; focus (((try dsimp only at hSw); first | (go_simp; done) | (go_simp; with_reducible rfl)))
        try simp only [Act.put, List.setIfInBounds_toArray, List.set_cons_zero, List.set_cons_succ]
        refine held_take (i := 2) (v := ?_) rfl (by kernel_rfl) (by kernel_rfl) (by kernel_rfl) (fun _ _ _ h => h) (by rfl) (fun w hSw => ?_) (by assumption) ?_; rotate_left 1; focus (((try dsimp only at hSw); first | (go_simp; done) | (go_simp; with_reducible rfl)))
        try simp only [Act.put, List.setIfInBounds_toArray, List.set_cons_zero, List.set_cons_succ]
        refine held_take (i := 3) (v := ?_) rfl (by kernel_rfl) (by kernel_rfl) (by kernel_rfl) (fun _ _ _ h => h) (by rfl) (fun w hSw => ?_) (by assumption) ?_; rotate_left 1; focus (((try dsimp only at hSw); first | (go_simp; done) | (go_simp; with_reducible rfl)))
        try simp only [Act.put, List.setIfInBounds_toArray, List.set_cons_zero, List.set_cons_succ]
        refine held_take (i := 4) (v := ?_) rfl (by kernel_rfl) (by kernel_rfl) (by kernel_rfl) (fun _ _ _ h => h) (by rfl) (fun w hSw => ?_) (by assumption) ?_; rotate_left 1; focus (((try dsimp only at hSw); first | (go_simp; done) | (go_simp; with_reducible rfl)))
        try simp only [Act.put, List.setIfInBounds_toArray, List.set_cons_zero, List.set_cons_succ]
        refine held_take (i := 5) (v := ?_) rfl (by kernel_rfl) (by kernel_rfl) (by kernel_rfl) (fun _ _ _ h => h) (by rfl) (fun w hSw => ?_) (by assumption) ?_; rotate_left 1; focus (((try dsimp only at hSw); first | (go_simp; done) | (go_simp; with_reducible rfl)))
        try simp only [Act.put, List.setIfInBounds_toArray, List.set_cons_zero, List.set_cons_succ]
        refine held_take (i := 6) (v := ?_) rfl (by kernel_rfl) (by kernel_rfl) (by kernel_rfl) (fun _ _ _ h => h) (by rfl) (fun w hSw => ?_) (by assumption) ?_; rotate_left 1; focus (((try dsimp only at hSw); first | (go_simp; done) | (go_simp; with_reducible rfl)))
        try simp only [Act.put, List.setIfInBounds_toArray, List.set_cons_zero, List.set_cons_succ]
        refine held_take (i := 7) (v := ?_) rfl (by kernel_rfl) (by kernel_rfl) (by kernel_rfl) (fun _ _ _ h => h) (by rfl) (fun w hSw => ?_) (by assumption) ?_; rotate_left 1; focus (((try dsimp only at hSw); first | (go_simp; done) | (go_simp; with_reducible rfl)))
        try simp only [Act.put, List.setIfInBounds_toArray, List.set_cons_zero, List.set_cons_succ]
        refine held_take (i := 8) (v := ?_) rfl (by kernel_rfl) (by kernel_rfl) (by kernel_rfl) (fun _ _ _ h => h) (by rfl) (fun w hSw => ?_) (by assumption) ?_; rotate_left 1; focus (((try dsimp only at hSw); first | (go_simp; done) | (go_simp; with_reducible rfl)))
        try simp only [Act.put, List.setIfInBounds_toArray, List.set_cons_zero, List.set_cons_succ]
        refine held_take (i := 9) (v := ?_) rfl (by kernel_rfl) (by kernel_rfl) (by kernel_rfl) (fun _ _ _ h => h) (by rfl) (fun w hSw => ?_) (by assumption) ?_; rotate_left 1; focus (((try dsimp only at hSw); first | (go_simp; done) | (go_simp; with_reducible rfl)))
        try simp only [Act.put, List.setIfInBounds_toArray, List.set_cons_zero, List.set_cons_succ]
        refine held_take (i := 10) (v := ?_) rfl (by kernel_rfl) (by kernel_rfl) (by kernel_rfl) (fun _ _ _ h => h) (by rfl) (fun w hSw => ?_) (by assumption) ?_; rotate_left 1; focus (((try dsimp only at hSw); first | (go_simp; done) | (go_simp; with_reducible rfl)))
        try simp only [Act.put, List.setIfInBounds_toArray, List.set_cons_zero, List.set_cons_succ]
        refine held_take (i := 11) (v := ?_) rfl (by kernel_rfl) (by kernel_rfl) (by kernel_rfl) (fun _ _ _ h => h) (by rfl) (fun w hSw => ?_) (by assumption) ?_; rotate_left 1; focus (((try dsimp only at hSw); first | (go_simp; done) | (go_simp; with_reducible rfl)))
        try simp only [Act.put, List.setIfInBounds_toArray, List.set_cons_zero, List.set_cons_succ]
        refine held_take (i := 12) (v := ?_) rfl (by kernel_rfl) (by kernel_rfl) (by kernel_rfl) (fun _ _ _ h => h) (by rfl) (fun w hSw => ?_) (by assumption) ?_; rotate_left 1; focus (((try dsimp only at hSw); first | (go_simp; done) | (go_simp; with_reducible rfl)))
        try simp only [Act.put, List.setIfInBounds_toArray, List.set_cons_zero, List.set_cons_succ]
        refine held_take (i := 13) (v := ?_) rfl (by kernel_rfl) (by kernel_rfl) (by kernel_rfl) (fun _ _ _ h => h) (by rfl) (fun w hSw => ?_) (by assumption) ?_; rotate_left 1; focus (((try dsimp only at hSw); first | (go_simp; done) | (go_simp; with_reducible rfl)))
        try simp only [Act.put, List.setIfInBounds_toArray, List.set_cons_zero, List.set_cons_succ]
        refine held_take (i := 14) (v := ?_) rfl (by kernel_rfl) (by kernel_rfl) (by kernel_rfl) (fun _ _ _ h => h) (by rfl) (fun w hSw => ?_) (by assumption) ?_; rotate_left 1; focus (((try dsimp only at hSw); first | (go_simp; done) | (go_simp; with_reducible rfl)))
        try simp only [Act.put, List.setIfInBounds_toArray, List.set_cons_zero, List.set_cons_succ]
        refine held_call (i := 15) (by kernel_rfl) rfl (by rfl) (fun K hK => ?_)
        go_simp
        (go_at_call 18; ((with_reducible refine (AC.out _).mono ?_); rintro e w2 ⟨rfl, hb2⟩))
        have m3 := Lib.hid (hkeep.out _ hb2)
        have B2 : Hid (Below w.heap.size w w2) := Lib.hid (below_of hb.out hb2)
        clear hb2
        refine hK.out _ _ (m3.out) (fun hHeld => ?_)
        try simp only [Act.put, List.setIfInBounds_toArray, List.set_cons_zero, List.set_cons_succ]
        refine held_take (i := 16) (v := ?_) rfl (by kernel_rfl) (by kernel_rfl) (by kernel_rfl) (fun _ _ _ h => h) (by rfl) (fun w hSw => ?_) (by assumption) ?_; rotate_left 1; focus (((try dsimp only at hSw); first | (go_simp; done) | (go_simp; with_reducible rfl)))
        try simp only [Act.put, List.setIfInBounds_toArray, List.set_cons_zero, List.set_cons_succ]
        refine wpAnyH_done (by kernel_rfl) ?_ _
        go_wp2_with fail
        go_returns
        exact ⟨by rw [hE2.out]; rfl, B2.out⟩
    · have i1 : ¬ ((j : Int) + 1 < (n : Int)) := by omega
      have hE2 : Hid (E = true) := Lib.hid (by
        rw [hE.out]
        exact (ordR_iff l).2 fun k x y hx hy => ho k x y (by have := (List.getElem?_eq_some_iff.1 hy).1; rw [e0.out] at this; omega) hx hy)
      have hb := Lib.hid hb
      clear ho
      go_wp2_with fail
      go_returns
      exact ⟨by rw [hE2.out]; rfl, hb.out⟩
end Go.Proofs.Ytnmlifagchdphaa
