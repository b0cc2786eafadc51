/-
  slices.SortFunc at tables: by their numbers, by their first keys. Condition: fewer than 2^62 tables.
-/
import Derived.Test.YtkkedofbnmjgeaaShelfSort
import Derived.Test.YtkkedofbnmjgeaaEditOwn
import Derived.Test.YtkkedofbnmjgeaaEditNil
import Derived.Test.YtkkedofbnmjgeaaSkipMath
namespace Go.Proofs.Ytkkedofbnmjgeaa
set_option maxRecDepth 100000
open Go Go.RowKit Go.Lib Go.Sort Go.Shelf
/-- What cmp.Compare answers, as a number. -/
def cmpI (lt gt : Bool) : Int := if lt = true then -1 else if gt = true then 1 else 0
def cfNum (x y : Mt) : Int := cmpI (decide (x.num < y.num)) (decide (y.num < x.num))
def cfKey (x y : Mt) : Int := cmpI (Op.bytesLess x.fst.toList y.fst.toList) (Op.bytesLess y.fst.toList x.fst.toList)
theorem nanU (a : Int) (w : World) : Calls Try.prog 73 #[.int .u64 a] w fun e w' => e = .returned (.bool false) ∧ w' = w := by
  go_enter Try.func73, Try.ntmps73
  go_wp2_with fail
  go_returns
  exact ⟨by simp, rfl⟩
theorem nanS (a : ByteArray) (w : World) : Calls Try.prog 74 #[.string a] w fun e w' => e = .returned (.bool false) ∧ w' = w := by
  go_enter Try.func74, Try.ntmps74
  go_wp2_with fail
  go_returns
  exact ⟨by simp, rfl⟩
set_option maxRecDepth 100000 in
set_option maxHeartbeats 4000000 in
theorem cmpU_any (a b : Nat) (w : World) : Calls Try.prog 59 #[.int .u64 (a : Int), .int .u64 (b : Int)] w fun e w' => e = .returned (.int .i64 (cmpI (decide (a < b)) (decide (b < a)))) ∧ w' = w := by
  have N1 := Lib.hid (fun x u => nanU x u)
  rcases Nat.lt_trichotomy a b with h | h | h
  · have g1 : (a : Int) < (b : Int) := by omega
    have g2 : decide ((a : Int) < (b : Int)) = true := decide_eq_true g1
    rw [decide_eq_true h]
    clear h
    go_enter Try.func59, Try.ntmps59
    go_wp2_with (go_at_call 73; ((with_reducible refine (N1.out _ _).mono ?_); rintro e w1 ⟨rfl, rfl⟩))
    go_returns
    exact ⟨rfl, rfl⟩
  · subst h
    have g1 : ¬ (a : Int) < (a : Int) := by omega
    rw [decide_eq_false (Nat.lt_irrefl a)]
    go_enter Try.func59, Try.ntmps59
    go_wp2_with (go_at_call 73; ((with_reducible refine (N1.out _ _).mono ?_); rintro e w1 ⟨rfl, rfl⟩))
    go_returns
    exact ⟨rfl, rfl⟩
  · have g1 : ¬ (a : Int) < (b : Int) := by omega
    have g2 : (b : Int) < (a : Int) := by omega
    have g3 : decide ((a : Int) < (b : Int)) = false := decide_eq_false g1
    have g4 : decide ((b : Int) < (a : Int)) = true := decide_eq_true g2
    rw [decide_eq_true h, decide_eq_false (by omega)]
    clear h
    go_enter Try.func59, Try.ntmps59
    go_wp2_with (go_at_call 73; ((with_reducible refine (N1.out _ _).mono ?_); rintro e w1 ⟨rfl, rfl⟩))
    go_returns
    exact ⟨rfl, rfl⟩
theorem gtr_strE (a b : ByteArray) (B : Bool) (h : (!(Op.bytesLess a.toList b.toList || a.toList == b.toList)) = B) (u : World) : (binOp .gtr 9 (.string a) (.string b)).run Try.prog u = .ok (.bool B) u := by
  have e : binOp .gtr 9 (.string a) (.string b) = pure (.bool (!(Op.bytesLess a.toList b.toList || a.toList == b.toList))) := by simp [binOp, Op.stringOp]
  rw [e, h]
  rfl
set_option maxRecDepth 100000 in
set_option maxHeartbeats 4000000 in
theorem cmpS_any (a b : ByteArray) (w : World) : Calls Try.prog 61 #[.string a, .string b] w fun e w' => e = .returned (.int .i64 (cmpI (Op.bytesLess a.toList b.toList) (Op.bytesLess b.toList a.toList))) ∧ w' = w := by
  have N1 := Lib.hid (fun x u => nanS x u)
  cases h1 : Op.bytesLess a.toList b.toList with
  | true =>
    go_enter Try.func61, Try.ntmps61
    go_wp2_with (go_at_call 74; ((with_reducible refine (N1.out _ _).mono ?_); rintro e w1 ⟨rfl, rfl⟩))
    go_returns
    exact ⟨rfl, rfl⟩
  | false =>
    cases h2 : Op.bytesLess b.toList a.toList with
    | true =>
      have GT := gtr_strE a b true (by
        have : (a.toList == b.toList) = false := by
          rw [beq_eq_false_iff_ne]
          intro e
          rw [e, less_before, WideAt.bytes_irrefl] at h2
          cases h2
        rw [h1, this]; rfl)
      go_enter Try.func61, Try.ntmps61
      go_wp2_with (go_at_call 74; ((with_reducible refine (N1.out _ _).mono ?_); rintro e w1 ⟨rfl, rfl⟩))
      go_returns
      exact ⟨rfl, rfl⟩
    | false =>
      have GT := gtr_strE a b false (by
        have : (a.toList == b.toList) = true := by
          rw [beq_iff_eq]
          rcases Classical.em (a.toList = b.toList) with e | e
          · exact e
          · rcases WideAt.bytes_total _ _ e with t | t
            · rw [← less_before, h1] at t; cases t
            · rw [← less_before, h2] at t; cases t
        rw [h1, this]; rfl)
      go_enter Try.func61, Try.ntmps61
      go_wp2_with (go_at_call 74; ((with_reducible refine (N1.out _ _).mono ?_); rintro e w1 ⟨rfl, rfl⟩))
      go_returns
      exact ⟨rfl, rfl⟩
set_option maxRecDepth 100000 in
set_option maxHeartbeats 4000000 in
theorem closNum (x y : Mt) (W : World) : Calls Try.prog 58 #[.agg (cellsM x).toArray, .agg (cellsM y).toArray] W fun e w' => e = .returned (.int .i64 (cfNum x y)) ∧ ∃ q os', w' = grow (W.drewN q) os' := by
  have C := Lib.hid (fun u => cmpU_any x.num y.num u)
  unfold cfNum
  obtain ⟨r, hr⟩ := named (cmpI (decide (x.num < y.num)) (decide (y.num < x.num)))
  rw [← hr.out] at C ⊢
  replace hr := Lib.hid trivial
  show Calls _ _ #[.agg #[.int .u64 (x.num : Int), .int .i64 x.size, .int .i64 x.rows, .string x.fst, .string x.lst, .int .u64 (x.least : Int), .int .u64 (x.gr : Int)], .agg #[.int .u64 (y.num : Int), .int .i64 y.size, .int .i64 y.rows, .string y.fst, .string y.lst, .int .u64 (y.least : Int), .int .u64 (y.gr : Int)]] _ _
  go_enter Try.func58, Try.ntmps58
  go_wp2_with (go_at_call 59; ((with_reducible refine (C.out _).mono ?_); rintro e w1 ⟨rfl, rfl⟩))
  go_returns
  exact ⟨rfl, 0, _, by rw [alloc_eq_grow, alloc_eq_grow, grow_grow]; rfl⟩
set_option maxRecDepth 100000 in
set_option maxHeartbeats 4000000 in
theorem closKey (x y : Mt) (W : World) : Calls Try.prog 60 #[.agg (cellsM x).toArray, .agg (cellsM y).toArray] W fun e w' => e = .returned (.int .i64 (cfKey x y)) ∧ ∃ q os', w' = grow (W.drewN q) os' := by
  have C := Lib.hid (fun u => cmpS_any x.fst y.fst u)
  unfold cfKey
  obtain ⟨r, hr⟩ := named (cmpI (Op.bytesLess x.fst.toList y.fst.toList) (Op.bytesLess y.fst.toList x.fst.toList))
  rw [← hr.out] at C ⊢
  replace hr := Lib.hid trivial
  show Calls _ _ #[.agg #[.int .u64 (x.num : Int), .int .i64 x.size, .int .i64 x.rows, .string x.fst, .string x.lst, .int .u64 (x.least : Int), .int .u64 (x.gr : Int)], .agg #[.int .u64 (y.num : Int), .int .i64 y.size, .int .i64 y.rows, .string y.fst, .string y.lst, .int .u64 (y.least : Int), .int .u64 (y.gr : Int)]] _ _
  go_enter Try.func60, Try.ntmps60
  go_wp2_with (go_at_call 61; ((with_reducible refine (C.out _).mono ?_); rintro e w1 ⟨rfl, rfl⟩))
  go_returns
  exact ⟨rfl, 0, _, by rw [alloc_eq_grow, alloc_eq_grow, grow_grow]; rfl⟩
theorem ltNum (x y : Mt) : ltOf cfNum x y = decide (x.num < y.num) := by
  unfold ltOf cfNum cmpI
  by_cases h1 : x.num < y.num
  · simp [h1]
  · by_cases h2 : y.num < x.num <;> simp [h1, h2]
theorem ltKey (x y : Mt) : ltOf cfKey x y = Op.bytesLess x.fst.toList y.fst.toList := by
  unfold ltOf cfKey cmpI
  cases h1 : Op.bytesLess x.fst.toList y.fst.toList with
  | true => simp
  | false => cases h2 : Op.bytesLess y.fst.toList x.fst.toList <;> simp
theorem swoNum : SWO (ltOf cfNum) where
  irrefl x := by rw [ltNum]; simp
  trans x y z h1 h2 := by rw [ltNum] at *; simp at *; omega
  ntrans x y z h1 h2 := by rw [ltNum] at *; simp at *; omega
theorem swoKey : SWO (ltOf cfKey) where
  irrefl x := by rw [ltKey, less_before]; exact WideAt.bytes_irrefl _
  trans x y z h1 h2 := by
    rw [ltKey, less_before] at *
    exact WideShapes.bytes_trans _ _ _ h1 h2
  ntrans x y z h1 h2 := by
    rw [ltKey, less_before] at *
    cases h3 : bytesBefore x.fst.toList z.fst.toList with
    | false => rfl
    | true =>
      rcases Classical.em (x.fst.toList = y.fst.toList) with e | e
      · rw [e, h2] at h3; cases h3
      · rcases WideAt.bytes_total _ _ e with t | t
        · rw [t] at h1; cases h1
        · have := WideShapes.bytes_trans _ _ _ t h3
          rw [h2] at this; cases this
/-- A level, sorted. -/
def srt (cf : Mt → Mt → Int) (l : List Mt) : List Mt := (pdq (ltOf cf) l.toArray 0 l.toArray.size (Lib.bitLen l.toArray.size) true true).toList
theorem srt_perm (cf : Mt → Mt → Int) (hO : SWO (ltOf cf)) (l : List Mt) : (srt cf l).Perm l ∧ ∀ (i j : Nat) (x y : Mt), i < j → (srt cf l)[i]? = some x → (srt cf l)[j]? = some y → ltOf cf y x = false := by
  obtain ⟨⟨h1, _, h2⟩, h3⟩ := pdq_sorts (ltOf cf) hO l.toArray 0 l.toArray.size (Lib.bitLen l.toArray.size) true true (Nat.zero_le _) (Nat.le_refl _) (Or.inl rfl)
  unfold srt
  obtain ⟨d, hd⟩ : ∃ d, d = pdq (ltOf cf) l.toArray 0 l.toArray.size (Lib.bitLen l.toArray.size) true true := ⟨_, rfl⟩
  rw [← hd] at h1 h2 h3 ⊢
  refine ⟨?_, fun i j x y hij hx hy => ?_⟩
  · have e1 : d.extract 0 l.toArray.size = d := by rw [← h1]; simp
    have e2 : l.toArray.extract 0 l.toArray.size = l.toArray := by simp
    rw [e1, e2] at h2
    exact h2
  · have hj : j < d.size := by
      have := (List.getElem?_eq_some_iff.1 hy).1
      simpa using this
    have := h3 i j (Nat.zero_le _) hij (by rw [← h1]; exact hj)
    have gi : d[i]! = x := by
      rw [Array.getElem?_toList] at hx
      simp [getElem!_def, hx]
    have gj : d[j]! = y := by
      rw [Array.getElem?_toList] at hy
      simp [getElem!_def, hy]
    rw [gi, gj] at this
    exact this
theorem srt_len (cf : Mt → Mt → Int) (hO : SWO (ltOf cf)) (l : List Mt) : (srt cf l).length = l.length := (srt_perm cf hO l).1.length_eq
theorem one_mt (x : Mt) : ∀ v ∈ cellsM x, v.oneCell' = true := fun v hv => one_m [x] v (by simpa using hv)
theorem holds_ms {h : Hd} {l : List Mt} {w : World} (hM : Ms h l w) (ho : h.o = 0) (hf : ∀ j, w.frozen? ⟨h.b, j, none⟩ = false) : HoldsK cellsM 7 w h.b 0 l.toArray := by
  intro j hj
  rw [size_flatK] at hj
  have hj' : j < l.length * 7 := by simpa using hj
  have hi : j / 7 < l.length := by omega
  have hx : l[j / 7]? = some l[j / 7] := List.getElem?_eq_getElem hi
  have hm : j % 7 < (cellsM l[j / 7]).length := Nat.mod_lt _ (by decide)
  have h2 := hM.sl.at' (j / 7) _ hx (j % 7) _ (List.getElem?_eq_getElem hm)
  rw [ho] at h2
  refine ⟨?_, hf _⟩
  rw [get_flatK _ _ _ _ hj]
  rw [show (0 : Nat) + j = 0 + j / 7 * 7 + j % 7 by omega, h2]
  congr 1
  have e1 : l.toArray[j / 7]! = l[j / 7] := by simp [getElem!_def, hi]
  rw [e1]
  simp [getElem!_def, hm]
theorem ms_holds {h : Hd} {l l' : List Mt} {w w' : World} (hM : Ms h l w) (hs : (h.a = none ∧ h.n = 0 ∧ h.c = 0) ∨ (h.a = some ⟨h.b, 0, none⟩ ∧ h.o = 0)) (hl : l'.length = l.length) (hsz : w.heap.size ≤ w'.heap.size) (hH : HoldsK cellsM 7 w' h.b 0 l'.toArray) : Ms h l' w' := by
  refine ⟨⟨hl.trans hM.len, hM.sl.cap, hM.sl.most, fun h0 => ⟨(hM.sl.addr h0).1, Nat.lt_of_lt_of_le (hM.sl.addr h0).2 hsz⟩, fun j x hx m u hu => ?_⟩, hM.none'⟩
  have hj : j < l'.length := (List.getElem?_eq_some_iff.1 hx).1
  have hm : m < 7 := (List.getElem?_eq_some_iff.1 hu).1
  have hn : 0 < h.n := by have := hM.len; omega
  have ho : h.o = 0 := by
    rcases hs with ⟨_, e, _⟩ | ⟨_, e⟩
    · omega
    · exact e
  have h1 := (hH.cell (i := j) (c := m) (by simpa using hj) hm).1
  have e1 : l'.toArray[j]! = x := by simp [getElem!_def, hx]
  rw [e1] at h1
  have e2 : (cellsM x)[m]! = u := by simp [getElem!_def, hu]
  rw [e2] at h1
  rw [ho]; exact h1
theorem but_sort (cf : Mt → Mt → Int) (w : World) (b n : Nat) (d : Array Mt) (os : Array Obj) : But b w (sortWorldK cellsM 7 w b 0 n d os) := by
  refine ⟨rfl, rfl, rfl, size_sortWorldK_c cellsM 7 w b 0 n d os, fun k hk hb => ?_⟩
  unfold sortWorldK
  rw [heap_grow_old _ _ (by rw [size_putRowK]; exact hk)]
  unfold putRowK putRow mapBlock
  simp [Array.getElem?_modify, Ne.symm hb, Sort.ahead]
set_option maxRecDepth 100000 in
set_option maxHeartbeats 4000000 in
/-- One level is sorted. -/
theorem sort_any (g : Nat) (cf : Mt → Mt → Int) (hO : SWO (ltOf cf)) (eg : ∀ args w, (callFunc g args).run Try.prog w = .ok (.enter g args) w) (hc : ∀ x y W, Calls Try.prog g #[.agg (cellsM x).toArray, .agg (cellsM y).toArray] W fun e w' => e = .returned (.int .i64 (cf x y)) ∧ ∃ q os', w' = grow (W.drewN q) os')
    {h : Hd} {l : List Mt} {w : World} (hM : Ms h l w) (hs : (h.a = none ∧ h.n = 0 ∧ h.c = 0) ∨ (h.a = some ⟨h.b, 0, none⟩ ∧ h.o = 0)) (hb : h.a ≠ none → h.b < w.heap.size ∧ ∀ j, w.frozen? ⟨h.b, j, none⟩ = false) (hn : h.n ≤ 1000000) :
    Calls Try.prog 57 #[.slice h.a h.n h.c, .func (.func g) #[] #[]] w fun e w' => e = .returned (.tuple #[]) ∧ Ms h (srt cf l) w' ∧ But h.b w w' ∧ (h.a = none → w' = w) := by
  rcases hs with ⟨e1, e2, e3⟩ | ⟨e1, e2⟩
  · rw [e1, e2, e3]
    refine (sortf_none (.func (.func g) #[] #[]) w).mono ?_
    rintro e w' ⟨rfl, rfl⟩
    have hl : l = [] := List.length_eq_zero_iff.1 (by rw [hM.len, e2])
    subst hl
    have : srt cf [] = [] := List.length_eq_zero_iff.1 (srt_len cf hO [])
    rw [this]
    exact ⟨rfl, hM, But.refl _ _, fun _ => rfl⟩
  · obtain ⟨b1, b2⟩ := hb (by rw [e1]; simp)
    have hH := holds_ms hM e2 b2
    have hcon := AnyQ.slices_SortFunc_eq Try.sortf 7 Try.isAgg40 Try.sizeOf40 cellsM (fun _ => rfl) one_mt cf hO g #[] h.b 0 h.c l.toArray w eg (fun _ _ _ _ x y => hc x y _) hH b1 (by have := hM.len; simp; omega)
    have es : l.toArray.size = h.n := by rw [← hM.len]; simp
    rw [e1, ← es]
    refine Calls.mono (show Calls Try.prog 57 _ _ _ from hcon) ?_
    rintro e w' ⟨rfl, n, os, rfl⟩
    have hlen := srt_len cf hO l
    have hps : (pdq (ltOf cf) l.toArray 0 l.toArray.size (Lib.bitLen l.toArray.size) true true).size = l.toArray.size := by
      unfold srt at hlen; simpa using hlen
    refine ⟨rfl, ms_holds hM (.inr ⟨e1, e2⟩) hlen (size_sortWorldK_c cellsM 7 w h.b 0 n _ os) ?_, but_sort cf w h.b n _ os, fun hc => by cases hc⟩
    have := holdsK_sortWorldK_c cellsM 7 w h.b 0 l.toArray (pdq (ltOf cf) l.toArray 0 l.toArray.size (Lib.bitLen l.toArray.size) true true) n os hH b1 hps
    unfold srt
    simpa using this
end Go.Proofs.Ytkkedofbnmjgeaa
