/-
  A script that came in (a slice of calls), nil or not, as a walk wants it. No condition.
-/
import Derived.Test.YtheealfappjabaaDiskDoes
import Derived.Deep.Slices
import Derived.Deep.Fields
import Derived.ChangeSame
namespace Go.Proofs.Ytheealfappjabaa
open Go Go.RowKit Go.ChangeShapes Go.WideShapes Go.Deep
/-- The calls lie one behind the other from ⟨b, o⟩ on. -/
def OpsAt (b o : Nat) (l : List OpV) (w : World) : Prop :=
  ∀ (j : Nat) x, l[j]? = some x → w.cell? ⟨b, o + j * 5, none⟩ = some (.int .i64 x.d) ∧ w.cell? ⟨b, o + j * 5 + 1, none⟩ = some (.string x.nm) ∧ w.cell? ⟨b, o + j * 5 + 2, none⟩ = some (.string x.dt) ∧ w.cell? ⟨b, o + j * 5 + 3, none⟩ = some (.int .i64 x.n) ∧ w.cell? ⟨b, o + j * 5 + 4, none⟩ = some (.slice x.ca x.cn x.cc)
def OpsArg (a : Option Addr) (n c b o : Nat) (l : List OpV) (w : World) : Prop :=
  l.length = n ∧ n ≤ c ∧ c ≤ 9223372036854775807 ∧ (0 < n → a = some ⟨b, o, none⟩ ∧ b < w.heap.size) ∧ OpsAt b o l w ∧ ∀ x ∈ l, x.nm.size ≤ 140737488355328 ∧ x.dt.size ≤ 140737488355328 ∧ x.n ≤ 9223372036854775807
set_option maxRecDepth 100000 in
theorem op_read {H : Type} {enc : TypeId × Value → H} {w : World} {fuel : Nat} {cs : List Value} {y : DataW H × List MemPlace} (h : DataW.trod enc Try.prog w 0 (fun _ => true) true fuel 31 cs = some y) :
    ∃ (x : OpV) (z : DataW H), cs = x.cells.toList ∧ x.n ≤ 9223372036854775807 ∧ y.1 = .agg [.lit (.int .i64 x.d), .lit (.string x.nm.data.toList), .lit (.string x.dt.data.toList), .lit (.int .i64 x.n), z] := by
  have oc : Try.prog.cellsOf 31 = 5 := by kernel_rfl
  have i1 : Try.prog.cellsOf 3 = 1 := by kernel_rfl
  have s1 : Try.prog.cellsOf 9 = 1 := by kernel_rfl
  have l1 : Try.prog.cellsOf 23 = 1 := by kernel_rfl
  obtain ⟨xs, n, _, hx, hsz, hn, hg⟩ := DataW.trod_struct Try.underlying31 h
  have g0 := hg 0 _ rfl
  have g1 := hg 1 _ rfl
  have g2 := hg 2 _ rfl
  have g3 := hg 3 _ rfl
  have g4 := hg 4 _ rfl
  clear hg h
  rw [oc] at hsz
  have hm : xs.length = 5 := hn
  match cs, hsz with
  | [c0, c1, c2, c3, c4], _ =>
    match xs, hm with
    | [y0, y1, y2, y3, y4], _ =>
      obtain ⟨a0, e0, f0, w0⟩ := DataW.trod_int Try.underlying3 g0
      obtain ⟨a1, e1, f1, w1⟩ := DataW.trod_string Try.underlying9 g1
      obtain ⟨a2, e2, f2, w2⟩ := DataW.trod_string Try.underlying9 g2
      obtain ⟨a3, e3, f3, w3⟩ := DataW.trod_int Try.underlying3 g3
      have e4 : ∃ sa sn sc, c4 = .slice sa sn sc := by
        have h4 : DataW.trod enc Try.prog w 0 (fun _ => true) true n 23 [c4] = some y4 := by simpa [l1] using g4
        rcases DataW.trod_slice Try.underlying23 h4 with ⟨hc, _⟩ | ⟨a, len, cap, _, _, _, _, hc, _⟩
        · exact ⟨none, 0, 0, by simpa using hc⟩
        · exact ⟨some a, len, cap, by simpa using hc⟩
      obtain ⟨sa, sn, sc, rfl⟩ := e4
      simp [i1, s1] at e0 e1 e2 e3
      subst e0 e1 e2 e3 f0 f1 f2 f3
      refine ⟨⟨a0, a1, a2, a3, sa, sn, sc⟩, y4.1, rfl, ?_, by rw [hx]; rfl⟩
      have := i64_range w3
      exact this.2
theorem weights_at {H : Type} {P : Program} {e : TypeId} : ∀ {l : List (DataW H)} {d : DataW H} {n : Nat}, d ∈ l → n ∈ d.weights P e → n ∈ DataW.weightsAll P e l
  | [], _, _, h, _ => by cases h
  | x :: r, d, n, h, hn => by
    rw [DataW.weightsAll]
    rcases List.mem_cons.1 h with rfl | h
    · exact List.mem_append_left _ hn
    · exact List.mem_append_right _ (weights_at h hn)
theorem open_ops_arg {H : Type} {enc : TypeId × Value → H} {W : World} {a0 : Option Addr} {len cap fuel : Nat} {x : DataW H × List MemPlace} {ts : List TypeId} {ds : List (DataW H)}
    (hf : DataW.trod enc Try.prog W 0 (fun _ => true) true fuel 22 [.slice a0 len cap] = some x) (hsz : (DataW.weightsEach Try.prog ts ds).all (· ≤ reachBytes) = true) {j : Nat} (ht : ts[j]? = some 22) (hd : ds[j]? = some x.1) :
    ∃ b o l, OpsArg a0 len cap b o l W := by
  have oc : Try.prog.cellsOf 31 = 5 := by kernel_rfl
  rcases DataW.trod_slice Try.underlying22 hf with ⟨hcs, _⟩ | ⟨a, len', cap', elems, rest, n, _, hcs, hx, _, hl, hm, hlen, hel, _, _⟩
  · simp at hcs
    obtain ⟨rfl, rfl, rfl⟩ := hcs
    exact ⟨0, 0, [], rfl, Nat.le_refl _, by omega, fun h => absurd h (by omega), fun j x hx => by simp at hx, fun x hx => by cases hx⟩
  · simp at hcs
    obtain ⟨rfl, rfl, rfl⟩ := hcs
    obtain ⟨b, off, spot⟩ := a
    have el : ∀ i, i < len → ∃ (v : OpV) (z : DataW H), (∀ m u, v.cells.toList[m]? = some u → W.cell? ((⟨b, off, spot⟩ : Addr).add (i * 5 + m)) = some u) ∧ v.n ≤ 9223372036854775807 ∧ ∃ y, elems[i]? = some y ∧ y.1 = .agg [.lit (.int .i64 v.d), .lit (.string v.nm.data.toList), .lit (.string v.dt.data.toList), .lit (.int .i64 v.n), z] := by
      intro i hi
      have h1 := hel i hi
      rw [oc] at h1
      have hys : elems[i]? = some (elems[i]'(by omega)) := List.getElem?_eq_getElem (by omega)
      rw [hys] at h1
      obtain ⟨cs, hc, ht'⟩ := Option.bind_eq_some_iff.1 h1
      obtain ⟨v, z, rfl, hn', hy⟩ := op_read ht'
      obtain ⟨_, hcl, hat⟩ := World.cells?_some hc
      refine ⟨v, z, fun m u hu => ?_, hn', _, hys, hy⟩
      have hm5 : m < 5 := by have := (List.getElem?_eq_some_iff.1 hu).1; rw [hcl] at this; exact this
      rw [← Go.Deep.add_add, hat m hm5, hu]
    obtain ⟨vf, hvf⟩ : ∃ vf : Nat → OpV, ∀ i, i < len → ∃ z : DataW H, (∀ m u, (vf i).cells.toList[m]? = some u → W.cell? ((⟨b, off, spot⟩ : Addr).add (i * 5 + m)) = some u) ∧ (vf i).n ≤ 9223372036854775807 ∧ ∃ y, elems[i]? = some y ∧ y.1 = .agg [.lit (.int .i64 (vf i).d), .lit (.string (vf i).nm.data.toList), .lit (.string (vf i).dt.data.toList), .lit (.int .i64 (vf i).n), z] := by
      refine ⟨fun i => if h : i < len then (el i h).choose else ⟨0, .empty, .empty, 0, none, 0, 0⟩, fun i hi => ?_⟩
      simp only [dif_pos hi]
      exact (el i hi).choose_spec
    have hwt : ∀ i, i < len → ∀ n, n ∈ [(vf i).nm.data.toList.length, (vf i).dt.data.toList.length] → n ≤ reachBytes := by
      intro i hi n hn
      obtain ⟨z, _, _, y, hy, he⟩ := hvf i hi
      have := List.all_eq_true.1 hsz _ (DataW.weights_mem_each ht hd n (by
        rw [hx, DataW.weights, Try.underlying22]
        refine List.mem_cons_of_mem _ (List.mem_append_left _ (weights_at (List.mem_map.2 ⟨y, List.mem_of_getElem? hy, rfl⟩) ?_))
        rw [he]
        simp only [DataW.weights, Try.underlying31, DataW.weightsEach, List.map_cons, List.map_nil]
        simp only [List.mem_cons, List.not_mem_nil, or_false] at hn
        rcases hn with rfl | rfl
        · simp
        · simp))
      simpa using this
    have hspot : 0 < len → spot = none := fun h0 => by
      obtain ⟨_, hcell, _⟩ := hvf 0 h0
      have := hcell 0 _ rfl
      simpa [Addr.add] using World.cell?_spot this
    have hr : ∀ {n : Nat}, n ≤ reachBytes → n ≤ 140737488355328 := fun {n} h => by unfold reachBytes at h; omega
    unfold maxLen at hm
    refine ⟨b, off, (List.range len).map vf, by simp, hl, by omega, fun h0 => ?_, fun j v hj => ?_, fun v hv => ?_⟩
    · have hs := hspot h0
      subst hs
      obtain ⟨_, hcell, _⟩ := hvf 0 h0
      exact ⟨rfl, World.block_lt_of_cell? _ _ (hcell 0 _ rfl)⟩
    · have hjl : j < len := by have := (List.getElem?_eq_some_iff.1 hj).1; simpa using this
      have hvj : v = vf j := by simpa [hjl] using hj.symm
      subst hvj
      have hs := hspot (by omega)
      subst hs
      obtain ⟨_, hcell, _⟩ := hvf j hjl
      have cc : ∀ m u, (vf j).cells.toList[m]? = some u → W.cell? ⟨b, off + j * 5 + m, none⟩ = some u := fun m u hu => by
        have := hcell m u hu
        have e1 : (⟨b, off, none⟩ : Addr).add (j * 5 + m) = ⟨b, off + j * 5 + m, none⟩ := by
          unfold Addr.add
          split
          · rename_i h0
            have : j * 5 = 0 ∧ m = 0 := by omega
            rw [this.1, this.2]; simp
          · simp only [Addr.mk.injEq, true_and, and_true]; omega
        rw [e1] at this
        exact this
      exact ⟨cc 0 _ rfl, cc 1 _ rfl, cc 2 _ rfl, cc 3 _ rfl, cc 4 _ rfl⟩
    · obtain ⟨i, hi, rfl⟩ := List.mem_map.1 hv
      have hil : i < len := List.mem_range.1 hi
      have e : ∀ s : ByteArray, s.data.toList.length = s.size := fun s => by rw [Array.length_toList]; rfl
      have w1 := hwt i hil _ (List.mem_cons_self ..)
      have w2 := hwt i hil ((vf i).dt.data.toList.length) (by simp)
      rw [e] at w1 w2
      obtain ⟨_, _, h3, _⟩ := hvf i hil
      exact ⟨hr w1, hr w2, h3⟩
/-- Are there more calls, or longer data, than one may take? -/
def longB (l : List OpV) : Bool := decide (120 < l.length) || l.any fun x => decide (2000 < x.dt.size) || decide (300 < x.cn)
theorem long_false {l : List OpV} (h : longB l = false) : l.length ≤ 120 ∧ ∀ x ∈ l, x.dt.size ≤ 2000 ∧ x.cn ≤ 300 := by
  unfold longB at h
  rw [Bool.or_eq_false_iff, decide_eq_false_iff_not, List.any_eq_false] at h
  refine ⟨by omega, fun x hx => ?_⟩
  have := h.2 x hx
  simp only [Bool.or_eq_true, decide_eq_true_eq, not_or] at this
  omega
theorem any_take {l : List OpV} {f : OpV → Bool} {j : Nat} {x : OpV} (hj : l[j]? = some x) (h : (l.take j).any f = false) (hx : f x = false) : (l.take (j + 1)).any f = false := by
  rw [List.take_add_one, hj, List.any_append, h]
  simp [hx]
set_option maxRecDepth 100000 in
set_option maxHeartbeats 2000000 in
theorem long_any {a : Option Addr} {n c b o : Nat} {l : List OpV} {w : World} (h : OpsArg a n c b o l w) :
    Calls Try.prog 8 #[.slice a n c] w fun e w' => e = .returned (.bool (longB l)) ∧ w = w' := by
  obtain ⟨hn, hnc, hc, h0, hat, _⟩ := h
  by_cases hbig : 120 < n
  · have hE : longB l = true := by unfold longB; rw [hn, Bool.or_eq_true]; exact .inl (by simpa using hbig)
    rw [hE]
    have hd : decide ((120 : Int) < (n : Int)) = true := by rw [decide_eq_true_eq]; omega
    clear hat h0 hn hE
    go_enter Try.func8, Try.ntmps8
    go_wp2
    go_returns
    exact ⟨rfl, rfl⟩
  · have hd : decide ((120 : Int) < (n : Int)) = false := by rw [decide_eq_false_iff_not]; omega
    obtain ⟨r, hr⟩ := named (longB l)
    rw [← hr.out]
    have hn' := Lib.hid hn
    have hat' := Lib.hid hat
    have h0' := Lib.hid h0
    clear hat h0 hn
    go_enter Try.func8, Try.ntmps8
    go_wp2
    go_loop [3] (fun i => ∃ j : Nat, j ≤ n ∧ i = .int .i64 (j : Int) ∧ (l.take j).any (fun x => decide (2000 < x.dt.size) || decide (300 < x.cn)) = false) (fun i => n - (intOf i).toNat)
    case atStart => exact ⟨0, Nat.zero_le _, rfl, rfl⟩
    case round =>
      obtain ⟨j, hj, rfl, hany⟩ := hrel
      have hany := Lib.hid hany
      by_cases hlt : j < n
      · obtain ⟨x, hx⟩ : ∃ x, l[j]? = some x := ⟨_, List.getElem?_eq_getElem (by rw [hn'.out]; exact hlt)⟩
        obtain ⟨ha, _⟩ := h0'.out (by omega)
        subst ha
        obtain ⟨_, _, e2, _, e4⟩ := hat'.out j x hx
        obtain ⟨xd, xnm, xdt, xn, xca, xcn, xcc⟩ := x
        have hx' := Lib.hid hx
        clear hx
        simp only at e2 e4
        by_cases h1 : 2000 < xdt.size
        · have q1 : decide ((2000 : Int) < (xdt.size : Int)) = true := by rw [decide_eq_true_eq]; omega
          go_wp2
          go_returns
          refine ⟨?_, rfl⟩
          have : r = true := by
            rw [hr.out]; unfold longB
            rw [Bool.or_eq_true, List.any_eq_true]
            exact .inr ⟨_, List.mem_of_getElem? hx'.out, by simp [h1]⟩
          rw [this]; rfl
        · have q1 : decide ((2000 : Int) < (xdt.size : Int)) = false := by rw [decide_eq_false_iff_not]; omega
          by_cases h2 : 300 < xcn
          · have q2 : decide ((300 : Int) < (xcn : Int)) = true := by rw [decide_eq_true_eq]; omega
            go_wp2
            go_returns
            refine ⟨?_, rfl⟩
            have : r = true := by
              rw [hr.out]; unfold longB
              rw [Bool.or_eq_true, List.any_eq_true]
              exact .inr ⟨_, List.mem_of_getElem? hx'.out, by simp [h2]⟩
            rw [this]; rfl
          · have q2 : decide ((300 : Int) < (xcn : Int)) = false := by rw [decide_eq_false_iff_not]; omega
            go_wp2
            go_round
            case rel => exact ⟨j + 1, by omega, by go_num, any_take hx'.out hany.out (by simp [h1, h2])⟩
            case measure => simp [intOf]; omega
      · go_wp2
        go_returns
        refine ⟨?_, rfl⟩
        have : r = false := by
          have hjn : j = n := by omega
          have ha := hany.out
          rw [hjn, ← hn'.out, List.take_length] at ha
          rw [hr.out]; unfold longB
          rw [Bool.or_eq_false_iff, decide_eq_false_iff_not]
          exact ⟨by rw [hn'.out]; omega, ha⟩
        rw [this]; rfl
end Go.Proofs.Ytheealfappjabaa
