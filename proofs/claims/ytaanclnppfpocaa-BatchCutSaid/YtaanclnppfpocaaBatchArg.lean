/-
  A batch that came in as an argument, as a walk wants it. No condition.
-/
import Derived.Test.YtaanclnppfpocaaBatchRep
import Derived.Deep.Slices
import Derived.Deep.Fields
import Derived.ChangeSame
import Derived.OpenShut
import Derived.ProofKit
import Derived.SliceStrings
namespace Go.Proofs.Ytaanclnppfpocaa
open Go Go.RowKit Go.ChangeShapes Go.WideShapes Go.Deep
theorem wr_read {H : Type} {enc : TypeId × Value → H} {w : World} {fuel : Nat} {cs : List Value} {y : DataW H × List MemPlace} (h : DataW.trod enc Try.prog w 0 (fun _ => true) true fuel 44 cs = some y) :
    ∃ x : Wr, cs = [.int .i64 x.kind, .string x.key, .string x.val] ∧ y.1 = .agg [.lit (.int .i64 x.kind), .lit (.string x.key.data.toList), .lit (.string x.val.data.toList)] := by
  have oc : Try.prog.cellsOf 44 = 3 := by kernel_rfl
  have i1 : Try.prog.cellsOf 3 = 1 := by kernel_rfl
  have s1 : Try.prog.cellsOf 9 = 1 := by kernel_rfl
  obtain ⟨xs, n, _, hx, hsz, hn, hg⟩ := DataW.trod_struct Try.underlying44 h
  have g0 := hg 0 _ rfl
  have g1 := hg 1 _ rfl
  have g2 := hg 2 _ rfl
  clear hg h
  rw [oc] at hsz
  have hm : xs.length = 3 := hn
  match cs, hsz with
  | [c0, c1, c2], _ =>
    match xs, hm with
    | [y0, y1, y2], _ =>
      obtain ⟨a0, e0, f0, w0⟩ := DataW.trod_int Try.underlying3 g0
      obtain ⟨a1, e1, f1, w1⟩ := DataW.trod_string Try.underlying9 g1
      obtain ⟨a2, e2, f2, w2⟩ := DataW.trod_string Try.underlying9 g2
      simp [i1, s1] at e0 e1 e2
      subst e0 e1 e2 f0 f1 f2
      exact ⟨⟨a0, a1, a2⟩, rfl, by rw [hx]; rfl⟩
theorem weights_all {H : Type} {P : Program} {e : TypeId} : ∀ {l : List (DataW H)} {d : DataW H} {n : Nat}, d ∈ l → n ∈ d.weights P e → n ∈ DataW.weightsAll P e l
  | [], _, _, h, _ => by cases h
  | x :: r, d, n, h, hn => by
    rw [DataW.weightsAll]
    rcases List.mem_cons.1 h with rfl | h
    · exact List.mem_append_left _ hn
    · exact List.mem_append_right _ (weights_all h hn)
theorem open_ws {H : Type} {enc : TypeId × Value → H} {W : World} {a0 : Option Addr} {len cap fuel : Nat} {x : DataW H × List MemPlace}
    (hf : DataW.trod enc Try.prog W 0 (fun _ => true) true fuel 23 [.slice a0 len cap] = some x) (hsz : ∀ n ∈ x.1.weights Try.prog 23, n ≤ reachBytes) :
    ∃ b o l, Ws a0 len cap b o l W := by
  have oc : Try.prog.cellsOf 44 = 3 := by kernel_rfl
  rcases DataW.trod_slice Try.underlying23 hf with ⟨hcs, _⟩ | ⟨a, len', cap', elems, rest, n, _, hcs, hx, _, hl, hm, hlen, hel, _, _⟩
  · simp at hcs
    obtain ⟨rfl, rfl, rfl⟩ := hcs
    exact ⟨0, 0, [], rfl, Nat.le_refl _, by omega, fun h => absurd h (by omega), fun j x hx => by simp at hx, fun x hx => by cases hx⟩
  · simp at hcs
    obtain ⟨rfl, rfl, rfl⟩ := hcs
    obtain ⟨b, off, spot⟩ := a
    have el : ∀ i, i < len → ∃ v : Wr, (∀ m u, ([.int .i64 v.kind, .string v.key, .string v.val] : List Value)[m]? = some u → W.cell? ((⟨b, off, spot⟩ : Addr).add (i * 3 + m)) = some u) ∧ ∃ y, elems[i]? = some y ∧ y.1 = .agg [.lit (.int .i64 v.kind), .lit (.string v.key.data.toList), .lit (.string v.val.data.toList)] := by
      intro i hi
      have h1 := hel i hi
      rw [oc] at h1
      have hys : elems[i]? = some (elems[i]'(by omega)) := List.getElem?_eq_getElem (by omega)
      rw [hys] at h1
      obtain ⟨cs, hc, ht'⟩ := Option.bind_eq_some_iff.1 h1
      obtain ⟨v, rfl, hy⟩ := wr_read ht'
      obtain ⟨_, hcl, hat⟩ := World.cells?_some hc
      refine ⟨v, fun m u hu => ?_, _, hys, hy⟩
      have hm5 : m < 3 := by have := (List.getElem?_eq_some_iff.1 hu).1; simpa using this
      rw [← Go.Deep.add_add, hat m hm5, hu]
    obtain ⟨vf, hvf⟩ : ∃ vf : Nat → Wr, ∀ i, i < len → (∀ m u, ([.int .i64 (vf i).kind, .string (vf i).key, .string (vf i).val] : List Value)[m]? = some u → W.cell? ((⟨b, off, spot⟩ : Addr).add (i * 3 + m)) = some u) ∧ ∃ y, elems[i]? = some y ∧ y.1 = .agg [.lit (.int .i64 (vf i).kind), .lit (.string (vf i).key.data.toList), .lit (.string (vf i).val.data.toList)] := by
      refine ⟨fun i => if h : i < len then (el i h).choose else ⟨0, .empty, .empty⟩, fun i hi => ?_⟩
      simp only [dif_pos hi]
      exact (el i hi).choose_spec
    have hwt : ∀ i, i < len → ∀ n, n ∈ [(vf i).key.data.toList.length, (vf i).val.data.toList.length] → n ≤ reachBytes := by
      intro i hi n hn
      obtain ⟨_, y, hy, he⟩ := hvf i hi
      refine hsz n ?_
      rw [hx, DataW.weights, Try.underlying23]
      refine List.mem_cons_of_mem _ (List.mem_append_left _ (weights_all (List.mem_map.2 ⟨y, List.mem_of_getElem? hy, rfl⟩) ?_))
      rw [he]
      simp only [DataW.weights, Try.underlying44, DataW.weightsEach, List.map_cons, List.map_nil]
      simp only [List.mem_cons, List.not_mem_nil, or_false] at hn
      rcases hn with rfl | rfl
      · simp
      · simp
    have hspot : 0 < len → spot = none := fun h0 => by
      obtain ⟨hcell, _⟩ := hvf 0 h0
      have := hcell 0 _ rfl
      simpa [Addr.add] using World.cell?_spot this
    unfold maxLen at hm
    refine ⟨b, off, (List.range len).map vf, by simp, hl, by omega, fun h0 => ?_, fun j v hj => ?_, fun v hv => ?_⟩
    · have hs := hspot h0
      subst hs
      obtain ⟨hcell, _⟩ := hvf 0 h0
      exact ⟨rfl, World.block_lt_of_cell? _ _ (hcell 0 _ rfl)⟩
    · have hjl : j < len := by have := (List.getElem?_eq_some_iff.1 hj).1; simpa using this
      have hvj : v = vf j := by simpa [hjl] using hj.symm
      subst hvj
      have hs := hspot (by omega)
      subst hs
      obtain ⟨hcell, _⟩ := hvf j hjl
      have cc : ∀ m u, ([.int .i64 (vf j).kind, .string (vf j).key, .string (vf j).val] : List Value)[m]? = some u → W.cell? ⟨b, off + j * 3 + m, none⟩ = some u := fun m u hu => by
        have := hcell m u hu
        have e1 : (⟨b, off, none⟩ : Addr).add (j * 3 + m) = ⟨b, off + j * 3 + m, none⟩ := by
          unfold Addr.add
          split
          · rename_i h0
            have : j * 3 = 0 ∧ m = 0 := by omega
            rw [this.1, this.2]; simp
          · simp only [Addr.mk.injEq, true_and, and_true]; omega
        rw [e1] at this
        exact this
      exact ⟨cc 0 _ rfl, cc 1 _ rfl, cc 2 _ rfl⟩
    · obtain ⟨i, hi, rfl⟩ := List.mem_map.1 hv
      have hil : i < len := List.mem_range.1 hi
      have e : ∀ s : ByteArray, s.data.toList.length = s.size := fun s => by rw [Array.length_toList]; rfl
      have w1 := hwt i hil _ (List.mem_cons_self ..)
      have w2 := hwt i hil ((vf i).val.data.toList.length) (by simp)
      rw [e] at w1 w2
      exact ⟨w1, w2⟩
/-- A batch that came in. -/
theorem open_batch {H : Type} {enc : TypeId × Value → H} {W : World} {b0 : Nat} {r : Reach} {v : Value} {d : DataW H} {ps : List MemPlace} {ts : List TypeId} {ds : List (DataW H)}
    (hv : Value.okWide Try.prog W r b0 25 v) (h : DataW.Trod enc Try.prog W 0 (fun _ => true) true 25 v d ps)
    (hsz : (DataW.weightsEach Try.prog ts ds).all (· ≤ reachBytes) = true) {j : Nat} (ht : ts[j]? = some 25) (hd : ds[j]? = some d) :
    ∃ seq a n c b o l, v = batchV seq a n c ∧ seq < 2 ^ 64 ∧ Ws a n c b o l W := by
  obtain ⟨cs, rfl, hsz2⟩ := okWide_struct Try.underlying25 hv
  obtain ⟨fuel, hf⟩ := h
  obtain ⟨xs, n, _, hx, _, hn, hg⟩ := DataW.trod_struct Try.underlying25 hf
  have oc : Try.prog.cellsOf 25 = 2 := by kernel_rfl
  have i1 : Try.prog.cellsOf 22 = 1 := by kernel_rfl
  have s1 : Try.prog.cellsOf 23 = 1 := by kernel_rfl
  have g0 := hg 0 _ rfl
  have g1 := hg 1 _ rfl
  clear hg hf
  rw [oc] at hsz2
  obtain ⟨l⟩ := cs
  have hl : l.length = 2 := hsz2
  match l, hl with
  | [c0, c1], _ =>
    have hm : xs.length = 2 := hn
    match xs, hm with
    | [y0, y1], _ =>
      simp only [Value.cells] at g0 g1
      obtain ⟨a0, e0, f0, w0⟩ := DataW.trod_int Try.underlying22 g0
      simp [i1] at e0
      subst e0
      have g1' : DataW.trod enc Try.prog W 0 (fun _ => true) true n 23 [c1] = some y1 := by simpa [i1, s1] using g1
      have e4 : ∃ sa sn sc, c1 = .slice sa sn sc := by
        rcases DataW.trod_slice Try.underlying23 g1' with ⟨hc, _⟩ | ⟨a, len, cap, _, _, _, _, hc, _⟩
        · exact ⟨none, 0, 0, by simpa using hc⟩
        · exact ⟨some a, len, cap, by simpa using hc⟩
      obtain ⟨sa, sn, sc, rfl⟩ := e4
      have hr : 0 ≤ a0 ∧ a0 ≤ 18446744073709551615 := by simpa [Lit.wf, IntKind.min, IntKind.max, IntKind.signed, IntKind.bits] using w0
      obtain ⟨b, o, l, hw⟩ := open_ws g1' (fun m hm => by
        have hm2 : m ∈ d.weights Try.prog 25 := by
          have hd2 : d = .agg [y0.1, y1.1] := by have := congrArg Prod.fst hx; simpa using this
          rw [hd2]
          simp only [DataW.weights, Try.underlying25, DataW.weightsEach, List.map_cons, List.map_nil]
          simp [hm]
        have := List.all_eq_true.1 hsz _ (DataW.weights_mem_each ht hd m hm2)
        simpa using this)
      refine ⟨a0.toNat, sa, sn, sc, b, o, l, ?_, by omega, hw⟩
      have : ((a0.toNat : Nat) : Int) = a0 := by omega
      show Value.agg #[_, _] = _
      unfold batchV
      rw [this]
theorem laid_out : laidOutB Try.prog = true := by kernel_rfl
end Go.Proofs.Ytaanclnppfpocaa
