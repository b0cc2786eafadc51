/-
  The function that gives each file's twin (twins), and a call of it. Condition: files of at most 2^28 bytes.
-/
import Derived.Test.YtheealfappjabaaTwin3
namespace Go.Proofs.Ytheealfappjabaa
open Go Go.RowKit Go.Maps
attribute [local go_sem] eq_file ne_file ne_disk ne_map
theorem twin_any {base p : Nat} {own o2 : Own} {st : St} {B mb : Nat} {L : List (Nat × Nat)} {w : World} (h : Twins base own o2 st B mb L w) (hd : DiskAt base own p st w) (hsz : ∀ i, (fileOf st.files i).data.length ≤ 268435456) {v : Value} {f : Option Nat} (hv : PtrH own v f) :
    Calls Try.prog 62 #[v, at0 B] w (Twinned base own o2 st B mb f w) := by
  cases f with
  | none =>
    obtain rfl : v = .pointer none := hv
    exact twin_nil h
  | some i =>
    obtain ⟨b, rfl, hb⟩ := hv
    cases hc : twinOf L b with
    | none => exact twin_makes h hd hb hc (hsz i)
    | some c => exact twin_found h hd hb hc
set_option maxRecDepth 100000 in
theorem twins_new {base p : Nat} {own : Own} {st : St} {w : World} (hd : DiskAt base own p st w) (hb : base ≤ w.heap.size) :
    Calls Try.prog 47 #[] w fun e w' => ∃ B mb, e = .returned (.func (.func 62) #[] #[at0 B]) ∧ Twins base own (fun _ => none) st B mb [] w' ∧ Below w.heap.size w w' ∧ w.heap.size ≤ B ∧ w.heap.size ≤ mb := by
  have hf : ∀ k, w.heap.size ≤ k → own k = none := fun k hk => by
    cases e : own k with
    | none => rfl
    | some r => exact absurd (hd.lt (b := k) (by simp [e])) (by omega)
  have H : ∀ (W : World) (B mb : Nat), W.heap[B]? = some (.cells #[.map (some mb)] 81 (0, 0)) → W.heap[mb]? = some (.map #[] 0) → w.heap.size ≤ B → w.heap.size ≤ mb → Twins base own (fun _ => none) st B mb [] W := by
    intro W B mb h1 h2 h4 h5
    refine ⟨h1, ⟨#[], 0, h2, rfl⟩, ?_, ?_, ?_, ?_, ?_, ?_, ?_, ⟨hf B h4, hf mb h5, rfl, rfl, by omega, by omega⟩⟩
    · intro x hx; cases hx
    · intro c i hc; cases hc
    · intro c hc; exact absurd rfl hc
    · intro a b r ha; cases ha
    · intro k; exact .inr rfl
    · intro c i hc; cases hc
    · intro c i hc; cases hc
  have H := Lib.hid H
  clear hd hf
  go_enter Try.func47, Try.ntmps47
  have hmm := @run_makeMap Try.prog
  go_wp2
  go_returns
  have h1 : ((w.alloc (.map #[] 0)).alloc (.cells #[.map (some w.heap.size)] 81)).heap[w.heap.size + 1]? = some (.cells #[.map (some w.heap.size)] 81 (0, 0)) := by
    have := heap_alloc_new (w.alloc (.map #[] 0)) (.cells #[.map (some w.heap.size)] 81)
    simpa using this
  exact ⟨w.heap.size + 1, w.heap.size, rfl, H.out _ _ _ h1 ((Below.heap_alloc _ _ _ (by simp)).trans (heap_alloc_new _ _)) (by omega) (Nat.le_refl _), ((Below.refl _ w).alloc (Nat.le_refl _) _).alloc (by simp) _, by omega, Nat.le_refl _⟩
end Go.Proofs.Ytheealfappjabaa
