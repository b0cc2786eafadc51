/-
  An argument that is a state's key, opened and shut: its five fields. No condition.
-/
import Derived.Test.YtpobfheioondaaaDoorRows
import Derived.Test.YtpobfheioondaaaDoorKit
import Derived.OpenShut
import Derived.ProofKit
namespace Go.Proofs.YtpobfheioondaaaDoor
open Go.RowKit Go.ChangeShapes Go.WideShapes
/-- The value of a state's key. -/
abbrev keyVal (st gr : Int) (k p u : ByteArray) : Value := .agg #[.int .i64 st, .int .i64 gr, .string k, .string p, .string u]
abbrev keyDatum {H : Type} (st gr : Int) (k p u : ByteArray) : DataW H := .agg [.lit (.int .i64 st), .lit (.int .i64 gr), .lit (.string k.data.toList), .lit (.string p.data.toList), .lit (.string u.data.toList)]
theorem key_cells : Tryd.prog.cellsOf 23 = 5 := by kernel_rfl
theorem key_one : Tryd.prog.cellsOf 3 = 1 ∧ Tryd.prog.cellsOf 9 = 1 := ⟨by kernel_rfl, by kernel_rfl⟩
section
variable {H : Type} {enc : TypeId × Value → H} {w : World} {base b0 : Nat} {sp : Nat → Bool} {held : Bool} {r : Reach}
theorem open_key {v : Value} {d : DataW H} {ps : List MemPlace} (hv : Value.okWide Tryd.prog w r b0 23 v) (h : DataW.Trod enc Tryd.prog w base sp held 23 v d ps) :
    ∃ st gr k p u, v = keyVal st gr k p u ∧ d = keyDatum st gr k p u ∧ ps = [] ∧ ((Lit.int .i64 st).wf = true ∧ (Lit.int .i64 gr).wf = true) ∧ k.size ≤ maxLen ∧ p.size ≤ maxLen ∧ u.size ≤ maxLen := by
  obtain ⟨cs, rfl, hsz⟩ := okWide_struct Tryd.underlying23 hv
  obtain ⟨fuel, hf⟩ := h
  obtain ⟨xs, n, _, hx, _, hn, hg⟩ := DataW.trod_struct Tryd.underlying23 hf
  obtain ⟨i1, s1⟩ := key_one
  have g0 := hg 0 _ rfl
  have g1 := hg 1 _ rfl
  have g2 := hg 2 _ rfl
  have g3 := hg 3 _ rfl
  have g4 := hg 4 _ rfl
  clear hg hf
  rw [key_cells] at hsz
  obtain ⟨l⟩ := cs
  have hl : l.length = 5 := hsz
  obtain ⟨c0, l, rfl⟩ := List.exists_cons_of_length_eq_add_one hl
  obtain ⟨c1, l, rfl⟩ := List.exists_cons_of_length_eq_add_one (Nat.succ.inj hl)
  obtain ⟨c2, l, rfl⟩ := List.exists_cons_of_length_eq_add_one (Nat.succ.inj (Nat.succ.inj hl))
  obtain ⟨c3, l, rfl⟩ := List.exists_cons_of_length_eq_add_one (Nat.succ.inj (Nat.succ.inj (Nat.succ.inj hl)))
  obtain ⟨c4, l, rfl⟩ := List.exists_cons_of_length_eq_add_one (Nat.succ.inj (Nat.succ.inj (Nat.succ.inj (Nat.succ.inj hl))))
  obtain rfl := List.length_eq_zero_iff.1 (Nat.succ.inj (Nat.succ.inj (Nat.succ.inj (Nat.succ.inj (Nat.succ.inj hl)))))
  have hm : xs.length = 5 := hn
  obtain ⟨y0, xs, rfl⟩ := List.exists_cons_of_length_eq_add_one hm
  obtain ⟨y1, xs, rfl⟩ := List.exists_cons_of_length_eq_add_one (Nat.succ.inj hm)
  obtain ⟨y2, xs, rfl⟩ := List.exists_cons_of_length_eq_add_one (Nat.succ.inj (Nat.succ.inj hm))
  obtain ⟨y3, xs, rfl⟩ := List.exists_cons_of_length_eq_add_one (Nat.succ.inj (Nat.succ.inj (Nat.succ.inj hm)))
  obtain ⟨y4, xs, rfl⟩ := List.exists_cons_of_length_eq_add_one (Nat.succ.inj (Nat.succ.inj (Nat.succ.inj (Nat.succ.inj hm))))
  obtain rfl := List.length_eq_zero_iff.1 (Nat.succ.inj (Nat.succ.inj (Nat.succ.inj (Nat.succ.inj (Nat.succ.inj hm)))))
  simp only [Value.cells] at g0 g1 g2 g3 g4
  obtain ⟨a0, e0, f0, w0⟩ := DataW.trod_int Tryd.underlying3 g0
  obtain ⟨a1, e1, f1, w1⟩ := DataW.trod_int Tryd.underlying3 g1
  obtain ⟨a2, e2, f2, w2⟩ := DataW.trod_string Tryd.underlying9 g2
  obtain ⟨a3, e3, f3, w3⟩ := DataW.trod_string Tryd.underlying9 g3
  obtain ⟨a4, e4, f4, w4⟩ := DataW.trod_string Tryd.underlying9 g4
  simp [i1, s1] at e0 e1 e2 e3 e4
  subst e0 e1 e2 e3 e4 f0 f1 f2 f3 f4
  simp only [Prod.mk.injEq] at hx
  exact ⟨a0, a1, a2, a3, a4, rfl, hx.1, by simpa using hx.2, ⟨w0, w1⟩, w2, w3, w4⟩
theorem shut_key {st gr : Int} {k p u : ByteArray} (h0 : (Lit.int .i64 st).wf = true) (h1 : (Lit.int .i64 gr).wf = true) (h2 : k.size ≤ maxLen) (h3 : p.size ≤ maxLen) (h4 : u.size ≤ maxLen) :
    DataW.Trod enc Tryd.prog w base sp held 23 (keyVal st gr k p u) (keyDatum st gr k p u) [] := by
  have i1 : ∀ (x : Int), (Lit.int .i64 x).wf = true → DataW.trod enc Tryd.prog w base sp held 1 3 [.int .i64 x] = some (.lit (.int .i64 x), []) := fun x hx => by simp [DataW.trod, Tryd.underlying3, hx]
  have s1 : ∀ (x : ByteArray), x.size ≤ maxLen → DataW.trod enc Tryd.prog w base sp held 1 9 [.string x] = some (.lit (.string x.data.toList), []) := fun x hx => by simp [DataW.trod, Tryd.underlying9, hx]
  have := trod_struct_mk (enc := enc) (w := w) (base := base) (spare := sp) (held := held) (n := 1) (cs := [.int .i64 st, .int .i64 gr, .string k, .string p, .string u])
    (xs := [(.lit (.int .i64 st), []), (.lit (.int .i64 gr), []), (.lit (.string k.data.toList), []), (.lit (.string p.data.toList), []), (.lit (.string u.data.toList), [])]) Tryd.underlying23 (by rw [key_cells]; rfl)
    (by simp [key_one.1, key_one.2, i1 _ h0, i1 _ h1, s1 _ h2, s1 _ h3, s1 _ h4])
  exact ⟨2, by simpa [Value.cells] using this⟩
theorem sized_key {ts : List TypeId} {ds : List (DataW H)} (h : (DataW.weightsEach Tryd.prog ts ds).all (· ≤ reachBytes) = true) {j : Nat} {st gr : Int} {k p u : ByteArray} (ht : ts[j]? = some 23) (hd : ds[j]? = some (keyDatum st gr k p u)) :
    k.size ≤ reachBytes ∧ p.size ≤ reachBytes ∧ u.size ≤ reachBytes := by
  have hw : (keyDatum st gr k p u : DataW H).weights Tryd.prog 23 = [k.data.toList.length, p.data.toList.length, u.data.toList.length] := by
    simp [DataW.weights, Tryd.underlying23, DataW.weightsEach]
  have hall := List.all_eq_true.1 h
  have g : ∀ n ∈ [k.data.toList.length, p.data.toList.length, u.data.toList.length], n ≤ reachBytes := fun n hn => by
    have := hall _ (DataW.weights_mem_each ht hd n (by rw [hw]; exact hn))
    simpa using this
  have e : ∀ x : ByteArray, x.data.toList.length = x.size := fun x => by simp
  rw [e, e, e] at g
  exact ⟨g _ (by simp), g _ (by simp), g _ (by simp)⟩
end
end Go.Proofs.YtpobfheioondaaaDoor
