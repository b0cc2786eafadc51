/-
  Parts of a slice of writes; the copy with a mark, and whether it stands (own, kept). No condition.
-/
import Derived.Test.YtaanclnppfpocaaBatchSameRef
import Derived.Test.YtaanclnppfpocaaBatchDecode
import Derived.Deep.AppendLies
import Derived.Deep.Upon
import Derived.Laws.Slices
import Derived.StillTailTactics
import Derived.Deep.DrawnRows
namespace Go.Proofs.Ytaanclnppfpocaa
open Go.RowKit
theorem Ws.take {a : Option Addr} {n c b o k : Nat} {l : List Wr} {w : World} (h : Ws a n c b o l w) (hk : k ≤ n) : Ws a k c b o (l.take k) w := by
  have hl := h.len
  have hc := h.cap
  refine ⟨by rw [List.length_take]; omega, by omega, h.most, fun h0 => h.addr (by omega), fun j x hx => ?_, fun x hx => h.fit x (List.mem_of_mem_take hx)⟩
  rw [List.getElem?_take] at hx
  split at hx
  · exact h.at' j x hx
  · cases hx
theorem Ws.drop {a : Option Addr} {n c b o k : Nat} {l : List Wr} {w : World} (h : Ws a n c b o l w) (hk : k < n) : Ws (some ⟨b, o + k * 3, none⟩) (n - k) (c - k) b (o + k * 3) (l.drop k) w := by
  have hl := h.len
  have hc := h.cap
  have hm := h.most
  refine ⟨by rw [List.length_drop]; omega, by omega, by omega, fun _ => ⟨rfl, (h.addr (by omega)).2⟩, fun j x hx => ?_, fun x hx => h.fit x (List.mem_of_mem_drop hx)⟩
  rw [List.getElem?_drop] at hx
  have := h.at' (k + j) x hx
  rw [show o + (k + j) * 3 = o + k * 3 + j * 3 by omega] at this
  exact this
theorem size_write (w : World) : (Go.sizeOf (Try.prog.elem 23)).run Try.prog w = .ok 3 w := by
  obtain ⟨i0, hi, hz0, hz1, hz2⟩ := info_parts (show (Try.prog.info? (Try.prog.elem 23)).map (fun i => (i.zero, i.size, i.bytes)) = some (some (.agg #[.int .i64 0, .string .empty, .string .empty]), 3, 40) by kernel_rfl)
  simp [Go.sizeOf, typeInfo, hi, hz1]
theorem slice_upto (b o n c k : Nat) (hk : k ≤ c) (u : World) : (Instr.slice 23 (.slice (some ⟨b, o, none⟩) n c) none (some (.int .i64 (k : Int))) none).run Try.prog u = .ok (.slice (some ⟨b, o, none⟩) k c) u := by
  rw [run_slice_h u 23 (some ⟨b, o, none⟩) n c (by kernel_rfl) .i64 (k : Int) (by omega) (by omega), size_write]
  simp [Result.andThen, sliced, Addr.add]
theorem slice_from (b o n c k : Nat) (hk : k < n) (hn : n ≤ c) (u : World) : (Instr.slice 23 (.slice (some ⟨b, o, none⟩) n c) (some (.int .i64 (k : Int))) none none).run Try.prog u = .ok (.slice (some ⟨b, o + k * 3, none⟩) (n - k) (c - k)) u := by
  rw [run_slice_l u 23 (some ⟨b, o, none⟩) n c (by kernel_rfl) .i64 (k : Int) (by omega) (by omega), size_write]
  have e : ¬ c = k := by omega
  simp only [Result.andThen, sliced, Int.toNat_natCast, e, if_false, Option.map_some, addr_at]
/-- The mark. -/
def markW : Wr := ⟨77, ⟨#[]⟩, ⟨#[]⟩⟩
theorem marked_take (l : List Wr) : (l ++ [markW]).take l.length = l := by simp
theorem row_of_ws {a : Option Addr} {n c b o : Nat} {l : List Wr} {w : World} (h : Ws a n c b o l w) : ∀ j u, (rowW l)[j]? = some u → w.cell? ((⟨b, o, none⟩ : Addr).add j) = some u := by
  intro j u hj
  rw [addr_at]
  have hlt : j < l.length * 3 := by have := (List.getElem?_eq_some_iff.1 hj).1; rwa [rowW_len] at this
  obtain ⟨q, r, hq, hr⟩ : ∃ q r, j = q * 3 + r ∧ r < 3 := ⟨j / 3, j % 3, by omega, Nat.mod_lt _ (by omega)⟩
  subst hq
  have hql : q < l.length := by omega
  obtain ⟨e0, e1, e2⟩ := rowW_at l q (List.getElem?_eq_getElem hql)
  obtain ⟨c0, c1, c2⟩ := h.at' q _ (List.getElem?_eq_getElem hql)
  match r, hr with
  | 0, _ => rw [← hj]; exact c0.trans e0.symm
  | 1, _ => rw [← hj]; exact c1.trans e1.symm
  | 2, _ => rw [← hj]; exact c2.trans e2.symm
theorem rowW_one (l : List Wr) : ∀ u ∈ rowW l, u.oneCell' = true := by
  intro u hu
  unfold rowW at hu
  obtain ⟨x, _, hx⟩ := List.mem_flatMap.1 hu
  simp only [List.mem_cons, List.not_mem_nil, or_false] at hx
  rcases hx with rfl | rfl | rfl <;> rfl
theorem info_write : (Try.prog.info? 44).map (fun i => (i.zero, i.size, i.bytes)) = some (some (.agg #[.int .i64 0, .string .empty, .string .empty]), 3, 40) := by kernel_rfl
/-- 'append(a, b...)' of writes, a the call's own, b a slice of writes, nil or not. -/
theorem wpList_append_ws {ops : Array Oper} {rest : List Oper} {o : Oper} {a : Act} {Q : Exit → Act → World → Prop} {w : World} (hgd : o.guard = none) (s x : Operand)
    (ho : o.op = .call { callee := .builtin .append, args := #[s, x], argTypes := #[23, 23] })
    (base : Nat) (v : Value) (p : Option Addr) (n c b off : Nat) (l : List Wr) (hs : a.eval s = v) (hx : a.eval x = .slice p n c) (hown : w.ownsRow base 44 3 v 0 []) (hsrc : Ws p n c b off l w) (hn : n ≤ 1000000) (hbase : base ≤ w.heap.size)
    (h : ∀ v' w', w'.ownsRow base 44 3 v' n (rowW l) → w.grownBy w' v.ownBlock → (v' = .slice none 0 0 ↔ v = .slice none 0 0 ∧ n = 0) → wpList Try.prog ops Q rest (a.put o.dst v') w') : wpList Try.prog ops Q (o :: rest) a w := by
  obtain ⟨i0, hi, hz0, hz1, hz2⟩ := info_parts info_write
  have hl := hsrc.len
  cases p with
  | none =>
    have h0 : n = 0 := by
      rcases Nat.eq_zero_or_pos n with e | e
      · exact e
      · have := (hsrc.addr e).1; cases this
    subst h0
    obtain rfl : l = [] := List.length_eq_zero_iff.1 hl
    have hrun : (Builtin.append_ #[23, 23] o.type #[v, .slice none 0 c]).run Try.prog w = .ok v w := by
      rcases hown.2 with ⟨rfl, _⟩ | ⟨g, cap, cur, rfl, _, _, hle, _⟩
      · exact run_append_nothing w _ _ _ 44 i0 Try.underlying23 hi none 0 0 (Nat.le_refl _) _ (Src.ofNil w Try.underlying23 c)
      · exact run_append_nothing w _ _ _ 44 i0 Try.underlying23 hi _ 0 cap (Nat.zero_le _) _ (Src.ofNil w Try.underlying23 c)
    refine wpList_plain hgd fun K hK => ?_
    unfold Oper.wp
    simp [execOp, ho, resolve, invoke, builtin, hs, hx, hrun, Result.andThen]
    exact hK _ _ (h v w hown ⟨rfl, rfl, rfl, Nat.le_refl _, fun _ _ _ => rfl⟩ (by simp))
  | some ad =>
    refine wpList_append_own w hgd s x 23 ho base 44 i0 _ 3 40 Try.underlying23 hi hz0 hz1 hz2 rfl (by decide) v 0 [] hs hown ad n c (rowW l) hx (by rw [rowW_len, hl]) ?_ (rowW_one l) (by unfold maxLen; omega) (by omega) hbase ?_
    · intro j u hj
      have hlt : j < l.length * 3 := by have := (List.getElem?_eq_some_iff.1 hj).1; rwa [rowW_len] at this
      have := (hsrc.addr (by omega)).1
      simp only [Option.some.injEq] at this
      subst this
      exact row_of_ws hsrc j u hj
    · intro v' w' h1 h2 h3
      rw [Nat.zero_add, List.nil_append] at h1
      exact h v' w' h1 h2 h3
/-- The copy with a mark behind its writes. -/
def OwnB (seq n : Nat) (l : List Wr) (w : World) (e : Ending) (w' : World) : Prop :=
  ∃ g c, e = .returned (batchV seq (some ⟨g, 0, none⟩) n c) ∧ w.heap.size ≤ g ∧ Ws (some ⟨g, 0, none⟩) (n + 1) c g 0 (l ++ [markW]) w' ∧ Below w.heap.size w w'
theorem below_grown {B : Nat} {w w1 w2 : World} {r : Option Nat} (h : Below B w w1) (hB : B ≤ w1.heap.size) (hg : w1.grownBy w2 r) (hr : ∀ g, r = some g → B ≤ g) : Below B w w2 :=
  h.trans ⟨hg.os, hg.tape, hg.output, hg.size, fun k hk => hg.block k (by omega) (fun e => by have := hr _ e.symm; omega)⟩
set_option maxRecDepth 100000 in
set_option maxHeartbeats 4000000 in
theorem own_any {seq : Nat} {a : Option Addr} {n c b o : Nat} {l : List Wr} {w : World} (h : Ws a n c b o l w) (hn : n ≤ 300) :
    Calls Try.prog 9 #[batchV seq a n c] w (OwnB seq n l w) := by
  obtain ⟨i0, hi, hz0, hz1, hz2⟩ := info_parts info_write
  have hcap := h.cap
  have hmost := h.most
  have hlen := Lib.hid h.len
  have hfit := Lib.hid h.fit
  have S0 : Hid (∀ W2 W3 : World, W2 = (w.alloc (.cells #[.int .u64 (seq : Int), .slice a n c] 25)).alloc (.cells #[.int .u64 0, .slice none 0 0] 25) → W3 = W2.alloc (.cells #[] 44) →
      W3.heap[w.heap.size]? = some (.cells #[.int .u64 (seq : Int), .slice a n c] 25 (0, 0)) ∧ W3.heap[w.heap.size + 1]? = some (.cells #[.int .u64 0, .slice none 0 0] 25 (0, 0)) ∧ Below w.heap.size w W3 ∧ W3.ownsRow (w.heap.size + 2) 44 3 (.slice (some ⟨w.heap.size + 1 + 1, 0, none⟩) 0 0) 0 [] ∧ W3.heap.size = w.heap.size + 3) := Lib.hid fun W2 W3 e2 e3 => by
    subst e2
    subst e3
    have q1 : ((w.alloc (.cells #[.int .u64 (seq : Int), .slice a n c] 25)).alloc (.cells #[.int .u64 0, .slice none 0 0] 25)).heap[w.heap.size + 1]? = some (.cells #[.int .u64 0, .slice none 0 0] 25 (0, 0)) := by
      have := heap_alloc_new (w.alloc (.cells #[.int .u64 (seq : Int), .slice a n c] 25)) (.cells #[.int .u64 0, .slice none 0 0] 25)
      simpa using this
    refine ⟨?_, (Lib.alloc_old _ _ _ (by simp)).trans q1, ((below_alloc _ _).alloc (by simp) _).alloc (by simp; omega) _, ?_, by simp⟩
    · exact (Lib.alloc_old _ _ _ (by simp; omega)).trans ((Lib.alloc_old _ _ _ (by simp)).trans (heap_alloc_new _ _))
    · have := World.ownsRow_made (base := w.heap.size + 2) (e := 44) (size := 3) ((w.alloc (.cells #[.int .u64 (seq : Int), .slice a n c] 25)).alloc (.cells #[.int .u64 0, .slice none 0 0] 25)) #[] 0 (by simp) (by unfold maxLen; omega) (by simp)
      simpa using this
  have S0 := Lib.hid (S0.out _ _ rfl rfl)
  have h := Lib.hid (h.below S0.out.2.2.1 (Nat.le_refl _))
  go_enter Try.func9, Try.ntmps9
  go_wp2_with (at_builtin; refine wpList_append_ws rfl _ _ rfl (w.heap.size + 2) (.slice (some ⟨w.heap.size + 1 + 1, 0, none⟩) 0 0) a n c b o l (by rfl) (by rfl) S0.out.2.2.2.1 h.out ?c1 ?c2 ?_)
  case c1 => omega
  case c2 => simp only [S0.out.2.2.2.2]; omega
  intro v1 w2 r1 g1 _
  have G1 : Hid (w2.heap[w.heap.size]? = some (.cells #[.int .u64 (seq : Int), .slice a n c] 25 (0, 0)) ∧ w2.heap[w.heap.size + 1]? = some (.cells #[.int .u64 0, .slice none 0 0] 25 (0, 0)) ∧ Below w.heap.size w w2 ∧ w.heap.size + 2 ≤ w2.heap.size) := Lib.hid (by
    obtain ⟨s1, s2, s3, _, s5⟩ := S0.out
    have hz := g1.size
    refine ⟨(g1.block _ (by omega) (by simp only [Value.ownBlock, ne_eq, Option.some.injEq]; omega)).trans s1, (g1.block _ (by omega) (by simp only [Value.ownBlock, ne_eq, Option.some.injEq]; omega)).trans s2, below_grown s3 (by omega) g1 (fun g e => by simp [Value.ownBlock] at e; omega), by omega⟩)
  obtain ⟨va, vn, vc, rfl⟩ : ∃ va vn vc, v1 = .slice va vn vc := by
    rcases r1.2 with ⟨e, _⟩ | ⟨g, cap, cur, e, _⟩
    · exact ⟨_, _, _, e⟩
    · exact ⟨_, _, _, e⟩
  have r1 := Lib.hid r1
  clear S0 h g1
  have hbase : Hid (w.heap.size + 2 ≤ (w2.alloc (.cells #[.int .i64 77, .string ⟨#[]⟩, .string ⟨#[]⟩] 44)).heap.size) := Lib.hid (by have := G1.out.2.2.2; simp; omega)
  go_wp2_with (at_builtin; refine wpList_append_lies _ rfl _ _ 23 rfl (w.heap.size + 2) 44 i0 _ 3 40 Try.underlying23 hi hz0 hz1 hz2 rfl (by decide) (.slice va vn vc) n (rowW l) (by rfl) (r1.out.alloc _) ⟨w2.heap.size, 0, none⟩ 1 1 [.int .i64 77, .string ⟨#[]⟩, .string ⟨#[]⟩] (by rfl) rfl ?d1 ?d2 (by decide) ?d3 ?d4 hbase.out _ rfl ?_)
  case d1 => exact World.news_of_block (heap_alloc_new _ _)
  case d2 => intro u hu; simp only [List.mem_cons, List.not_mem_nil, or_false] at hu; rcases hu with rfl | rfl | rfl <;> rfl
  case d3 => unfold maxLen; omega
  case d4 => omega
  intro g cap w3 r3 g3 hat hlt
  have G3 : Hid (w3.heap[w.heap.size]? = some (.cells #[.int .u64 (seq : Int), .slice a n c] 25 (0, 0)) ∧ w3.heap[w.heap.size + 1]? = some (.cells #[.int .u64 0, .slice none 0 0] 25 (0, 0)) ∧ Below w.heap.size w w3 ∧ w.heap.size + 2 ≤ g) := Lib.hid (by
    obtain ⟨s1, s2, s3, s5⟩ := G1.out
    have hlo : ∀ g, (Value.slice va vn vc).ownBlock = some g → w.heap.size + 2 ≤ g := fun g e => (World.ownsRow.lt r1.out g e).1
    have l2 := (Array.getElem?_eq_some_iff.1 s2).1
    refine ⟨(g3.block _ (by simp; omega) (fun e => by have := hlo _ e.symm; omega)).trans ((Lib.alloc_old _ _ _ (by omega)).trans s1), (g3.block _ (by simp; omega) (fun e => by have := hlo _ e.symm; omega)).trans ((Lib.alloc_old _ _ _ (by omega)).trans s2), below_grown (s3.alloc (by omega) _) (by simp; omega) g3 (fun g e => by have := hlo g e; omega), ?_⟩
    rcases hat with e | e
    · exact hlo g e
    · rw [e]; simp; omega)
  have W3 : Hid (Ws (some ⟨g, 0, none⟩) (n + 1) cap g 0 (l ++ [markW]) w3) := Lib.hid (by
    have hr : w3.ownsRow (w.heap.size + 2) 44 3 (.slice (some ⟨g, 0, none⟩) (n + 1) cap) (l ++ [markW]).length (rowW (l ++ [markW])) := by
      rw [List.length_append, hlen.out, rowW_snoc]; exact r3
    obtain ⟨a', c', b', hv, hw, _⟩ := ws_of_row hr (fun x hx => by
      rcases List.mem_append.1 hx with hx | hx
      · exact hfit.out x hx
      · simp only [List.mem_cons, List.not_mem_nil, or_false] at hx
        subst hx
        exact ⟨Nat.zero_le _, Nat.zero_le _⟩)
    rw [List.length_append, hlen.out] at hv hw
    simp only [Value.slice.injEq] at hv
    obtain ⟨rfl, _, rfl⟩ := hv
    have hb := (hw.addr (by omega)).1
    simp only [Option.some.injEq, Addr.mk.injEq] at hb
    obtain ⟨rfl, _⟩ := hb
    exact hw)
  clear r3 g3 hat r1 G1 hbase
  have hnc : n ≤ cap := by have := W3.out.cap; omega
  have SL := slice_upto g 0 (n + 1) cap n hnc
  obtain ⟨x0, x1⟩ := pair_cells G3.out.1
  go_upto_region 3 with fail
  go_still_tail 8, (by kernel_rfl)
  change wpList _ _ _ _ _ w3.drew
  have G4 : Hid (w3.drew.heap[w.heap.size + 1]? = some (.cells #[.int .u64 0, .slice none 0 0] 25 (0, 0)) ∧ Below w.heap.size w w3.drew) := Lib.hid ⟨G3.out.2.1, G3.out.2.2.1.drew⟩
  have W4 : Hid (Ws (some ⟨g, 0, none⟩) (n + 1) cap g 0 (l ++ [markW]) w3.drew) := Lib.hid (W3.out.keep (fun _ => rfl) (Nat.le_refl _))
  have hg2 : Hid (w.heap.size + 2 ≤ g) := Lib.hid G3.out.2.2.2
  clear x0 x1 W3 G3 SL
  generalize w3.drew = V at *
  obtain ⟨y0, y1, f0, f1⟩ := cell2 G4.out.1
  go_wp2_with fail
  have kk := res2 G4.out.1 (.int .u64 (seq : Int)) (.slice (some ⟨g, 0, none⟩) n cap)
  have kb := below2c G4.out.2 (by omega : w.heap.size ≤ w.heap.size + 1) (.int .u64 (seq : Int)) (.slice (some ⟨g, 0, none⟩) n cap)
  have kw := W4.out.keep (w' := (V.setCell ⟨w.heap.size + 1, 0, none⟩ (.int .u64 (seq : Int))).setCell ⟨w.heap.size + 1, 1, none⟩ (.slice (some ⟨g, 0, none⟩) n cap)) (fun _ => other2 (by have := hg2.out; omega) _ _) (by simp [World.setCell])
  generalize (V.setCell ⟨w.heap.size + 1, 0, none⟩ (.int .u64 (seq : Int))).setCell ⟨w.heap.size + 1, 1, none⟩ (.slice (some ⟨g, 0, none⟩) n cap) = U at *
  obtain ⟨a0, a1⟩ := pair_cells kk
  refine bodyPost_ret (v := batchV seq (some ⟨g, 0, none⟩) n cap) (by simp [results, Try.results9, go_sem, a0, a1]) rfl ?_
  exact ⟨g, cap, rfl, by have := hg2.out; omega, kw, kb⟩
theorem marked_at (l : List Wr) : (l ++ [markW])[l.length]? = some markW := by simp
open Classical in
set_option maxRecDepth 100000 in
set_option maxHeartbeats 4000000 in
theorem kept_any {seq n c g : Nat} {a2 : Option Addr} {c2 b2 o2 : Nat} {l : List Wr} {w : World} (h : Ws (some ⟨g, 0, none⟩) (n + 1) c g 0 (l ++ [markW]) w) (h2 : Ws a2 n c2 b2 o2 l w) (hn : n ≤ 300) :
    Calls Try.prog 14 #[batchV seq (some ⟨g, 0, none⟩) n c, batchV seq a2 n c2] w fun e w' => e = .returned (.bool true) ∧ Below w.heap.size w w' := by
  obtain ⟨K, E0, E1⟩ := box_two w seq seq (.slice (some ⟨g, 0, none⟩) n c) (.slice a2 n c2)
  obtain ⟨x0, x1⟩ := pair_cells E0
  obtain ⟨y0, y1⟩ := pair_cells E1
  have K := Lib.hid K
  have E0 := Lib.hid E0
  have E1 := Lib.hid E1
  have hlen := h2.len
  have hcap := h.cap
  have hmost := h.most
  have hcap2 := h2.cap
  have hmost2 := h2.most
  have ht : Ws (some ⟨g, 0, none⟩) n c g 0 l w := by have := h.take (k := n) (by omega); rw [← hlen, marked_take] at this; rw [← hlen]; exact this
  have SM := Lib.hid (refsame_any (s1 := seq) (s2 := seq) (ht.below K.out (Nat.le_refl _)) (h2.below K.out (Nat.le_refl _)))
  have hd : decide (seq = seq ∧ l = l) = true := by simp
  rw [hd] at SM
  have hM : Hid (∀ u, Below w.heap.size w u → u.cell? ⟨g, n * 3, none⟩ = some (.int .i64 77) ∧ g < u.heap.size) := Lib.hid fun u hu => by
    have hw := h.below hu (Nat.le_refl _)
    have := (hw.at' n markW (by rw [← hlen]; exact marked_at l)).1
    rw [Nat.zero_add] at this
    exact ⟨this, (hw.addr (by omega)).2⟩
  have SL : ∀ u, (Instr.slice 23 (.slice (some ⟨g, 0, none⟩) n c) none (some (.int .i64 ((n : Int) + 1))) none).run Try.prog u = .ok (.slice (some ⟨g, 0, none⟩) (n + 1) c) u := fun u => by
    have := slice_upto g 0 n c (n + 1) hcap u
    simpa using this
  have h := Lib.hid h
  have h2 := Lib.hid h2
  have ht := Lib.hid ht
  clear hlen hd
  go_enter Try.func14, Try.ntmps14
  go_wp2_with fail
  generalize (w.alloc (.cells #[.int .u64 (seq : Int), .slice (some ⟨g, 0, none⟩) n c] 25)).alloc (.cells #[.int .u64 (seq : Int), .slice a2 n c2] 25) = V0 at *
  refine SM.out.mono ?_
  rintro e V1 ⟨rfl, q1⟩
  have K1 := Lib.hid (K.out.trans (q1.mono K.out.size))
  have E1' := (q1.block (w.heap.size + 1) (Array.getElem?_eq_some_iff.1 E1.out).1).trans E1.out
  obtain ⟨z0, z1⟩ := pair_cells E1'
  have E1' := Lib.hid E1'
  obtain ⟨m0, m1⟩ := hM.out V1 K1.out
  clear SM q1 x0 x1 y0 y1
  go_wp2_with fail
  go_returns
  exact ⟨rfl, K1.out⟩
end Go.Proofs.Ytaanclnppfpocaa
