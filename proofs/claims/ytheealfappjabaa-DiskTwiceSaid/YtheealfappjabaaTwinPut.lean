/-
  The copy's blocks behind a twin that is made. No condition.
-/
import Derived.Test.YtheealfappjabaaTwin2
namespace Go.Proofs.Ytheealfappjabaa
open Go Go.RowKit Go.Maps
def withTwin (o2 : Own) (c i : Nat) (v : Value) : Own := fun k => if k = c then some (.file i) else if v.ownBlock = some k then some (.data i) else o2 k
theorem twin_none {L : List (Nat × Nat)} {b c : Nat} (h : twinOf L b = none) (hm : (b, c) ∈ L) : False := by
  unfold twinOf at h
  simp only [Option.map_eq_none_iff, List.find?_eq_none, beq_iff_eq] at h
  exact h _ hm rfl
theorem twins_put {base p : Nat} {own o2 : Own} {st : St} {B mb : Nat} {L : List (Nat × Nat)} {w : World} (h : Twins base own o2 st B mb L w) (hd : DiskAt base own p st w) {b i : Nat} (hb : own b = some (.file i)) (hc : twinOf L b = none) {w1 W : World} {v : Value}
    (hb1 : Below w.heap.size w w1) (ho : w1.ownsRow w.heap.size 5 1 v (fileOf st.files i).data.length (rowB (fileOf st.files i).data)) (hW : But mb (w1.alloc (.cells #[v, .int .i64 ((fileOf st.files i).sure : Int)] 59)) W) (hT : TwinMap mb (L ++ [(b, w1.heap.size)]) W) :
    Twinned base own o2 st B mb (some i) w (.returned (at0 w1.heap.size)) W := by
  obtain ⟨es, clock, hmap, _⟩ := h.map
  have hBl := (Array.getElem?_eq_some_iff.1 h.box).1
  have hml := (Array.getElem?_eq_some_iff.1 hmap).1
  have hBm : B ≠ mb := fun e => by have := h.box; rw [e, hmap] at this; cases this
  obtain ⟨f1, f2, f3, f4, f5, f6⟩ := h.free
  have hs1 := hb1.size
  have hs2 : w1.heap.size + 1 ≤ W.heap.size := by have := hW.size; simpa using this
  have hg : ∀ g, v.ownBlock = some g → w.heap.size ≤ g ∧ g < w1.heap.size := fun g hg => World.ownsRow.lt ho g hg
  have old : ∀ k, k < w.heap.size → k ≠ mb → W.heap[k]? = w.heap[k]? := fun k hk hne => ((hW.block k (by simp; omega) hne).trans (Below.heap_alloc _ _ _ (by omega))).trans (hb1.block k hk)
  have mid : ∀ g, g < w1.heap.size → g ≠ mb → W.heap[g]? = w1.heap[g]? := fun k hk hne => (hW.block k (by simp; omega) hne).trans (Below.heap_alloc _ _ _ hk)
  have hnew : W.heap[w1.heap.size]? = some (.cells #[v, .int .i64 ((fileOf st.files i).sure : Int)] 59 (0, 0)) := (hW.block w1.heap.size (by simp) (by omega)).trans (heap_alloc_new _ _)
  have o2lt : ∀ k, o2 k ≠ none → k < w.heap.size := fun k hk => (h.lo k hk).2
  have o2mb : ∀ k, o2 k ≠ none → k ≠ mb := fun k hk e => hk (e ▸ f4)
  have same : ∀ k, k < w.heap.size → withTwin o2 w1.heap.size i v k = o2 k := fun k hk => by
    unfold withTwin
    rw [if_neg (by omega), if_neg (fun e => by have := (hg k e).1; omega)]
  have up : ∀ k r, o2 k = some r → withTwin o2 w1.heap.size i v k = some r := fun k r hk => by rw [same k (o2lt k (by simp [hk]))]; exact hk
  have atc : withTwin o2 w1.heap.size i v w1.heap.size = some (.file i) := by unfold withTwin; rw [if_pos rfl]
  have atg : ∀ g, v.ownBlock = some g → withTwin o2 w1.heap.size i v g = some (.data i) := fun g e => by
    unfold withTwin; rw [if_neg (by have := (hg g e).2; omega), if_pos e]
  have way : ∀ k r, withTwin o2 w1.heap.size i v k = some r → (k = w1.heap.size ∧ r = .file i) ∨ (v.ownBlock = some k ∧ r = .data i) ∨ o2 k = some r := fun k r hk => by
    unfold withTwin at hk
    split at hk
    · rename_i e; exact .inl ⟨e, by cases hk; rfl⟩
    · split at hk
      · rename_i e; exact .inr (.inl ⟨e, by cases hk; rfl⟩)
      · exact .inr (.inr hk)
  have nofile : ∀ k, o2 k ≠ some (.file i) := fun k hk => by
    obtain ⟨b', hm⟩ := h.all k i hk
    obtain ⟨i', q1, q2⟩ := h.pairs _ hm
    simp only at q1 q2
    rw [hk] at q2
    cases q2
    obtain rfl : b' = b := hd.inj _ _ _ q1 hb
    exact twin_none hc hm
  have nodata : ∀ k, o2 k ≠ some (.data i) := fun k hk => by
    obtain ⟨b', hb'⟩ := h.data k i hk
    exact nofile b' hb'
  refine ⟨_, withTwin o2 w1.heap.size i v, L ++ [(b, w1.heap.size)], rfl, ⟨_, rfl, atc⟩, ⟨?_, hT, ?_, ?_, ?_, ?_, ?_, ?_, ?_, ?_⟩, up, fun k hk hn => by rw [same k hk]; exact hn, ?_⟩
  · rw [old B hBl hBm]; exact h.box
  · intro x hx
    rcases List.mem_append.1 hx with hx | hx
    · obtain ⟨j, q1, q2⟩ := h.pairs x hx
      exact ⟨j, q1, up _ _ q2⟩
    · obtain rfl : x = (b, w1.heap.size) := by simpa using hx
      exact ⟨i, hb, atc⟩
  · intro k j hk
    rcases way k _ hk with ⟨rfl, _⟩ | ⟨_, e⟩ | e
    · exact ⟨b, by simp⟩
    · cases e
    · obtain ⟨b', hm⟩ := h.all k j e
      exact ⟨b', by simp [hm]⟩
  · intro k hk
    obtain ⟨r, hr⟩ := Option.ne_none_iff_exists'.1 hk
    rcases way k _ hr with ⟨rfl, _⟩ | ⟨e, _⟩ | e
    · omega
    · have := hg k e; omega
    · have := h.lo k (by simp [e]); omega
  · intro x y r hx hy
    rcases way x _ hx with ⟨e1, e1'⟩ | ⟨e1, e1'⟩ | e1
    · rcases way y _ hy with ⟨e2, _⟩ | ⟨_, e2'⟩ | e2
      · rw [e1, e2]
      · rw [e1'] at e2'; cases e2'
      · rw [e1'] at e2; exact absurd e2 (nofile y)
    · rcases way y _ hy with ⟨_, e2'⟩ | ⟨e2, _⟩ | e2
      · rw [e1'] at e2'; cases e2'
      · rw [e1] at e2; exact Option.some.inj e2
      · rw [e1'] at e2; exact absurd e2 (nodata y)
    · rcases way y _ hy with ⟨_, e2'⟩ | ⟨_, e2'⟩ | e2
      · rw [e2'] at e1; exact absurd e1 (nofile x)
      · rw [e2'] at e1; exact absurd e1 (nodata x)
      · exact h.inj _ _ _ e1 e2
  · intro k
    by_cases e : own k = none
    · exact .inl e
    · refine .inr ?_
      rw [same k (hd.lt e)]
      exact (h.apart k).resolve_left e
  · intro k j hk
    rcases way k _ hk with ⟨rfl, e⟩ | ⟨_, e⟩ | e
    · cases e
      refine ⟨v, hnew, ?_, fun g hgv => atg g hgv⟩
      have r0 : w1.ownsRow 0 5 1 v (fileOf st.files i).data.length (rowB (fileOf st.files i).data) := by
        obtain ⟨h1, h2⟩ := ho
        refine ⟨h1, ?_⟩
        rcases h2 with hn | ⟨g, cap, cur, rfl, a, b, c⟩
        · exact .inl hn
        · exact .inr ⟨g, cap, cur, rfl, Nat.zero_le _, b, c⟩
      exact row_keep r0 fun g hgv => mid g (hg g hgv).2 (by have := (hg g hgv).1; omega)
    · cases e
    · refine file_keep (h.files k j e) (old k (o2lt k (by simp [e])) (o2mb k (by simp [e]))) fun g hgj => ⟨old g (o2lt g (by simp [hgj])) (o2mb g (by simp [hgj])), up _ _ hgj⟩
  · intro k j hk
    rcases way k _ hk with ⟨_, e⟩ | ⟨_, e⟩ | e
    · cases e
    · cases e; exact ⟨_, atc⟩
    · obtain ⟨b', hb'⟩ := h.data k j e
      exact ⟨b', up _ _ hb'⟩
  · exact ⟨f1, f2, by rw [same B hBl]; exact f3, by rw [same mb hml]; exact f4, f5, f6⟩
  · exact ⟨hW.os.trans hb1.os, hW.tape.trans hb1.tape, hW.output.trans hb1.output, by omega, fun k hk hne => old k hk hne⟩
end Go.Proofs.Ytheealfappjabaa
