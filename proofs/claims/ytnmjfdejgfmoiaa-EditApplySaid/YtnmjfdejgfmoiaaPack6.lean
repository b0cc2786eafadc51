/-
  A drawn region whose loads are held by a condition that its last operation need not keep (it stores into a cell that was loaded): walked by hand. No condition.
-/
import Derived.Test.YtnmjfdejgfmoiaaPack5
import Derived.Deep.RegionHeld
import Derived.WalkKit
namespace Go.Proofs.Ytnmjfdejgfmoiaa
set_option maxRecDepth 100000
open Go
variable {P : Program} {md : Region.Mode} {ops : Array Oper} {Q : Exit → Act → World → Prop} {S : World → Prop} {z : Nat}
/-- Whatever order is picked from here on; S holds behind each operation but number z. -/
def wpE (P : Program) (md : Region.Mode) (ops : Array Oper) (Q : Exit → Act → World → Prop) (S : World → Prop) (z : Nat) : Nat → Array Bool → Act → World → Prop
  | 0, listed, a, w => Region.ready md ops listed = [] ∧ Q .normal a w
  | n + 1, listed, a, w => (Region.ready md ops listed = [] → Q .normal a w) ∧ ∀ i ∈ Region.ready md ops listed, wpOp P ops Q i (fun a' w' => (i ≠ z → S w') ∧ wpE P md ops Q S z n (listed.setIfInBounds i true) a' w') a w
theorem wpE_any : ∀ (n : Nat) (listed : Array Bool) (a : Act) (w : World), wpE P md ops Q S z n listed a w → wpAny P md ops Q n listed a w
  | 0, _, _, _, h => h
  | n + 1, _, _, _, h => ⟨h.1, fun i hi => wpOp_mono (fun a' w' k => wpE_any n _ a' w' k.2) (h.2 i hi)⟩
/-- Number z waits for number i. -/
def waitsB (md : Region.Mode) (ops : Array Oper) (z i : Nat) : Bool := match ops[z]? with
  | some o => o.after.any fun e => Region.binds md e && e.on == i
  | none => false
theorem waits_not {i : Nat} {listed : Array Bool} (hw : waitsB md ops z i = true) (hr : i ∈ Region.ready md ops listed) : z ∉ Region.ready md ops listed := fun hz => by
  obtain ⟨_, o, ho, hall⟩ := mem_ready.1 hz
  have hun := (mem_ready.1 hr).1
  unfold waitsB at hw
  rw [ho] at hw
  obtain ⟨q, hq, hb⟩ := Array.any_eq_true.1 hw
  rw [Bool.and_eq_true, beq_iff_eq] at hb
  have hl := hall _ (Array.getElem_mem hq) hb.1
  rw [hb.2] at hl
  rcases Nat.lt_or_ge i listed.size with h' | h'
  · simp [h'] at hun hl; rw [hun] at hl; cases hl
  · simp [Array.getElem?_eq_none h'] at hl
theorem wpE_first {i : Nat} {oi : Oper} {v : Value} (hi : ops[i]? = some oi) (hsel : ∀ (j : Nat) (o : Oper) cs b, ops[j]? = some o → o.op ≠ .select cs b) (hz : waitsB md ops z i = true) (hiz : i ≠ z)
    (hQ : ∀ c a w, Q (.panic c) (a.put oi.dst v) w → Q (.panic c) a w) :
    ∀ (n : Nat) (listed : Array Bool) (a : Act) (w : World), (∀ j oj, ops[j]? = some oj → j ≠ i → listed.getD j true = false → (∀ e ∈ oj.after, Region.binds md e = true → e.on ≠ i) → oi.apart ops oj = true) → i ∈ Region.ready md ops listed → YieldsIf P ops S oi v a → S w →
      wpE P md ops Q S z n (listed.setIfInBounds i true) (a.put oi.dst v) w → wpE P md ops Q S z (n + 1) listed a w := by
  intro n
  induction n with
  | zero =>
    intro listed a w _ hr hy hS H
    refine ⟨fun h => (by rw [h] at hr; cases hr), fun j hj => ?_⟩
    by_cases e : j = i
    · subst e; exact hy.wpOp hi hS ⟨fun _ => hS, H⟩
    · have h0 := ready_mono hj e
      rw [H.1] at h0
      cases h0
  | succ n ih =>
    intro listed a w hfree hr hy hS H
    refine ⟨fun h => (by rw [h] at hr; cases hr), fun j hj => ?_⟩
    by_cases e : j = i
    · subst e; exact hy.wpOp hi hS ⟨fun _ => hS, H⟩
    · have hjz : j ≠ z := fun g => waits_not hz hr (g ▸ hj)
      have h1 := H.2 j (ready_mono hj e)
      obtain ⟨hjun, oj, hoj, hall⟩ := mem_ready.1 hj
      have hun := (mem_ready.1 hr).1
      have hnot : ∀ d ∈ oj.after, Region.binds md d = true → d.on ≠ i := fun d hd hb g => by
        have hl := hall d hd hb
        rw [g] at hl
        rcases Nat.lt_or_ge i listed.size with h' | h'
        · simp [h'] at hun hl; rw [hun] at hl; cases hl
        · simp [Array.getElem?_eq_none h'] at hl
      have h2 := wpOp_putIf hoj (hfree j oj hoj e hjun hnot) (fun cs b => hsel i oi cs b hi) (fun cs b => hsel j oj cs b hoj) hQ hy h1
      refine wpOp_mono (fun a' w' h3 => ⟨h3.2.1, ih (listed.setIfInBounds j true) a' w' (fun k ok hk hki hu hno => ?_) (ready_mono hr (Ne.symm e)) h3.1 (h3.2.1 hjz) ?_⟩) h2
      · refine hfree k ok hk hki ?_ hno
        by_cases g : j = k
        · subst g; exact hjun
        · rw [getD_set_ne true g] at hu; exact hu
      · rw [Array.setIfInBounds_comm _ _ e]
        exact h3.2.2
variable {fuel : Nat} {listed : Array Bool} {a : Act} {w : World}
theorem heldE_take {i : Nat} {dst : Option Tmp} {op : Op} {type : TypeId} {pos : String} {after} {guard} {v : Value} (hi : ops[i]? = some { dst := dst, op := op, type := type, pos := pos, after := after, guard := guard })
    (hs : Region.noSelect ops = true) (hf : (Region.free md ops listed i && waitsB md ops z i && (i != z)) = true) (hr : (Region.ready md ops listed).contains i = true)
    (hQ : ∀ c a w, Q (.panic c) (a.put dst v) w → Q (.panic c) a w) (hw : Region.wanted { dst := dst, op := op, type := type, pos := pos, after := after, guard := guard } (yielded ops a.tmps) = true)
    (hy : ∀ w, S w → (execOp a.eval { dst := dst, op := op, type := type, pos := pos, after := after, guard := guard }).run P w = .ok (.value v) w) (hS : S w)
    (h : wpE P md ops Q S z fuel (listed.setIfInBounds i true) (a.put dst v) w) : wpE P md ops Q S z (fuel + 1) listed a w := by
  rw [Bool.and_eq_true, Bool.and_eq_true, bne_iff_ne] at hf
  exact wpE_first hi (Region.noSelect_spec hs) hf.1.2 hf.2 hQ fuel listed a w (Region.free_spec hi hf.1.1) (by simpa using hr) (.inl ⟨hw, hy⟩) hS h
theorem heldE_ready {rs : List Nat} (hr : Region.ready md ops listed = rs) (hne : rs ≠ []) (h : ∀ i ∈ rs, wpOp P ops Q i (fun a' w' => (i ≠ z → S w') ∧ wpE P md ops Q S z fuel (listed.setIfInBounds i true) a' w') a w) : wpE P md ops Q S z (fuel + 1) listed a w :=
  ⟨fun h0 => absurd (hr ▸ h0) hne, hr ▸ h⟩
theorem wpOp_of {i : Nat} {o : Oper} {K : Act → World → Prop} (hi : ops[i]? = some o) (hw : Region.wanted o (yielded ops a.tmps) = true) (h : Oper.wp P o a w K Q) : wpOp P ops Q i K a w := by
  unfold wpOp
  simp only [hi, hw, if_true]
  exact .inl h
theorem heldE_call {i : Nat} {o : Oper} (hr : Region.ready md ops listed = [i]) (hi : ops[i]? = some o) (hw : Region.wanted o (yielded ops a.tmps) = true)
    (h : ∀ K : Act → World → Prop, Shut (∀ a w, S w → (S w → wpE P md ops Q S z fuel (listed.setIfInBounds i true) a w) → K a w) → Oper.wp P o a w K Q) : wpE P md ops Q S z (fuel + 1) listed a w :=
  heldE_ready hr (by simp) (fun j hj => by
    obtain rfl : j = i := by simpa using hj
    exact wpOp_of hi hw (h _ (fun a w hS hW => ⟨fun _ => hS, hW hS⟩)))
theorem heldE_two {i j : Nat} {o1 o2 : Oper} (hr : Region.ready md ops listed = [i, j]) (hi : ops[i]? = some o1) (hj : ops[j]? = some o2)
    (hw : Region.wanted o1 (yielded ops a.tmps) = true) (hw2 : Region.wanted o2 (yielded ops a.tmps) = true)
    (h : ∀ K : Act → World → Prop, Shut (∀ a w, S w → (S w → wpE P md ops Q S z fuel (listed.setIfInBounds i true) a w) → K a w) → Oper.wp P o1 a w K Q)
    (h2 : ∀ K : Act → World → Prop, Shut (∀ a w, S w → (S w → wpE P md ops Q S z fuel (listed.setIfInBounds j true) a w) → K a w) → Oper.wp P o2 a w K Q) : wpE P md ops Q S z (fuel + 1) listed a w :=
  heldE_ready hr (by simp) (fun k hk => by
    simp only [List.mem_cons, List.not_mem_nil, or_false] at hk
    rcases hk with rfl | rfl
    · exact wpOp_of hi hw (h _ (fun a w hS hW => ⟨fun _ => hS, hW hS⟩))
    · exact wpOp_of hj hw2 (h2 _ (fun a w hS hW => ⟨fun _ => hS, hW hS⟩)))
theorem heldE_three {i j k : Nat} {o1 o2 o3 : Oper} (hr : Region.ready md ops listed = [i, j, k]) (hi : ops[i]? = some o1) (hj : ops[j]? = some o2) (hk : ops[k]? = some o3)
    (hw : Region.wanted o1 (yielded ops a.tmps) = true) (hw2 : Region.wanted o2 (yielded ops a.tmps) = true) (hw3 : Region.wanted o3 (yielded ops a.tmps) = true)
    (h : ∀ K : Act → World → Prop, Shut (∀ a w, S w → (S w → wpE P md ops Q S z fuel (listed.setIfInBounds i true) a w) → K a w) → Oper.wp P o1 a w K Q)
    (h2 : ∀ K : Act → World → Prop, Shut (∀ a w, S w → (S w → wpE P md ops Q S z fuel (listed.setIfInBounds j true) a w) → K a w) → Oper.wp P o2 a w K Q)
    (h3 : ∀ K : Act → World → Prop, Shut (∀ a w, S w → (S w → wpE P md ops Q S z fuel (listed.setIfInBounds k true) a w) → K a w) → Oper.wp P o3 a w K Q) : wpE P md ops Q S z (fuel + 1) listed a w :=
  heldE_ready hr (by simp) (fun l hl => by
    simp only [List.mem_cons, List.not_mem_nil, or_false] at hl
    rcases hl with rfl | rfl | rfl
    · exact wpOp_of hi hw (h _ (fun a w hS hW => ⟨fun _ => hS, hW hS⟩))
    · exact wpOp_of hj hw2 (h2 _ (fun a w hS hW => ⟨fun _ => hS, hW hS⟩))
    · exact wpOp_of hk hw3 (h3 _ (fun a w hS hW => ⟨fun _ => hS, hW hS⟩)))
/-- The last operation: what it leaves need not meet S. -/
theorem heldE_last {o : Oper} (hr : Region.ready md ops listed = [z]) (hi : ops[z]? = some o) (hw : Region.wanted o (yielded ops a.tmps) = true)
    (h : ∀ K : Act → World → Prop, Shut (∀ a w, wpE P md ops Q S z fuel (listed.setIfInBounds z true) a w → K a w) → Oper.wp P o a w K Q) : wpE P md ops Q S z (fuel + 1) listed a w :=
  heldE_ready hr (by simp) (fun j hj => by
    obtain rfl : j = z := by simpa using hj
    exact wpOp_of hi hw (h _ (fun a w hW => ⟨fun e => absurd rfl e, hW⟩)))
theorem wpE_done (hr : Region.ready md ops listed = []) (h : Q .normal a w) : ∀ n, wpE P md ops Q S z n listed a w
  | 0 => ⟨hr, h⟩
  | _ + 1 => ⟨fun _ => h, by rw [hr]; simp⟩
theorem wp_region_E (z : Nat) (S : World → Prop) {id : Nat} (hm : P.follows .mixedOrders = true) (hS : S w.drew) (h : S w.drew → wpE P .any ops Q S z ops.size (Array.replicate ops.size false) a w.drew) : (Code.region id ops true).wp P Q a w :=
  wp_region_any hm (wpE_any _ _ _ _ (h hS))
end Go.Proofs.Ytnmjfdejgfmoiaa
