/-
  Two texts that a call puts together side by side, each in a builder of its own. Condition: at most 2^47 bytes.
-/
import Derived.Test.YtnmlifagchdphaaBuilder
import Derived.Test.YtnmlifagchdphaaBut
namespace Go.Proofs.Ytnmlifagchdphaa
set_option maxRecDepth 100000
open Go.RowKit
set_option maxHeartbeats 1000000 in
set_option maxRecDepth 100000 in
theorem bld_check2 {B b : Nat} {bs : List Value} {w : World} (h : Lib.IsBuilder 53 5 B b bs w) :
    Calls Try.prog 44 #[.pointer (some ⟨b, 0, none⟩)] w fun e w' => e = .returned (.tuple #[]) ∧ Lib.BuilderAt 53 5 B b (.pointer (some ⟨b, 0, none⟩)) bs w' ∧ But b w w' ∧ w'.cell? ⟨b, 1, none⟩ = w.cell? ⟨b, 1, none⟩ := by
  obtain ⟨j, hj, hjs⟩ := bld_info
  rcases h with h | h
  · have c0 := h.cell0
    have sh := h.shape
    have fz := h.frozen0
    have K : Hid (Lib.BuilderAt 53 5 B b (.pointer (some ⟨b, 0, none⟩)) bs (w.setCell ⟨b, 0, none⟩ (.pointer (some ⟨b, 0, none⟩))) ∧ But b w (w.setCell ⟨b, 0, none⟩ (.pointer (some ⟨b, 0, none⟩))) ∧ (w.setCell ⟨b, 0, none⟩ (.pointer (some ⟨b, 0, none⟩))).cell? ⟨b, 1, none⟩ = w.cell? ⟨b, 1, none⟩) := Lib.hid ⟨h.used _, (But.refl b w).setCell rfl _, World.cell?_setCell_other _ _ _ _ (by simp)⟩
    have r1 := Lib.run_to_unsafe (P := Try.prog) w ⟨b, 0, none⟩ Try.underlying50 Try.underlying86 hj hjs sh (Nat.zero_lt_succ 1)
    have r3 := Lib.run_from_unsafe (P := Try.prog) w ⟨b, 0, none⟩ Try.underlying86 Try.underlying50 hj sh (by kernel_rfl)
    clear h
    go_enter Try.func44, Try.ntmps44
    go_wp2
    rw [run_callFunc_extern Try.func51 (by kernel_rfl) (by kernel_rfl) (by kernel_rfl) (e := Extern.AbiNoEscape.same) (by kernel_rfl)]
    rw [Lib.run_noEscape]
    simp only [Result.andThen]
    rw [Oper.upon_value]
    go_wp2
    go_end0
    exact ⟨rfl, K.out⟩
  · have c0 := h.cell0
    have K := Lib.hid h
    have r1 := Lib.run_neq_ptr_same (P := Try.prog) w ⟨b, 0, none⟩ Try.underlying50 hj
    clear h
    go_enter Try.func44, Try.ntmps44
    go_wp2
    go_end0
    exact ⟨rfl, K.out, But.refl _ _, rfl⟩
/-- Where the bytes lie behind an append. -/
theorem append_where {w : World} {base : Nat} {t u ty e : TypeId} {i : TypeInfo} (ht : Try.prog.underlying t = some (.slice e)) (hu : Try.prog.underlying u = some .string) (hi : Try.prog.info? e = some i) (hz : i.zero = some (.int .u8 0))
    (hsize : i.size = 1) (hby : i.bytes = 1) {v : Value} {n : Nat} {xs : List Value} (hown : w.ownsRow base e 1 v n xs) {s : ByteArray} (h63 : n + s.size ≤ maxLen) (hbytes : n + s.size ≤ 140737488355328) (hbase : base ≤ w.heap.size)
    {v' : Value} {w' : World} (hr : (Builtin.append_ #[t, u] ty #[v, .string s]).run Try.prog w = .ok v' w') : v'.ownBlock = v.ownBlock ∨ v'.ownBlock = some w.heap.size := by
  have hsmall : n + s.size ≤ 9223372036854775807 := by simp only [maxLen] at h63; omega
  have hxl : xs.length = n := by simpa using hown.1
  rcases hown.2 with ⟨rfl, rfl⟩ | ⟨g, cap, cur, rfl, hbg, hg, hnc, hcm, hcs, htake⟩
  · by_cases hm : s.size = 0
    · obtain ⟨v2, w2, hr2, _, _, h4⟩ := Lib.run_append_own_string (P := Try.prog) w base t u ty e i ht hu hi hz hsize hby _ 0 xs hown s h63 hbytes hbase
      rw [hr] at hr2
      cases hr2
      rw [h4.2 ⟨rfl, hm⟩]
      exact .inl rfl
    · have hr2 := run_append_nil_string (P := Try.prog) w t u ty e i (.int .u8 0) ht hu hi hz s (by omega) (by omega) (by rw [hby]; omega)
      rw [hr] at hr2
      cases hr2
      exact .inr rfl
  · by_cases hroom : n + s.size ≤ cap
    · have hcs' : cur.size = cap := by simpa using hcs
      have hr2 := Lib.run_append_room_string (P := Try.prog) w t u ty e i ht hu hi hsize g n cap cur hg s hroom (by omega)
      rw [hr] at hr2
      cases hr2
      exact .inl rfl
    · have holds : ∀ j u, xs[j]? = some u → w.cell? ((⟨g, 0, none⟩ : Addr).add j) = some u := hown.cells (g := g) rfl
      have hr2 := Lib.run_append_grow_string (P := Try.prog) w t u ty e i (.int .u8 0) ht hu hi hz ⟨g, 0, none⟩ n cap xs (by rw [hsize]; simpa using hxl) holds s (by omega) (by omega) (by rw [hby]; exact growslice_fits (by omega) (by omega))
      rw [hr] at hr2
      cases hr2
      exact .inr rfl
theorem wpList_append_text_at {w : World} {ops : Array Oper} {rest : List Oper} {o : Oper} {a : Act} {Q : Exit → Act → World → Prop} (hgd : o.guard = none) (sl x : Operand) (t u : TypeId)
    (ho : o.op = .call { callee := .builtin .append, args := #[sl, x], argTypes := #[t, u] })
    (base : Nat) (e : TypeId) (i : TypeInfo) (ht : Try.prog.underlying t = some (.slice e)) (hu : Try.prog.underlying u = some .string) (hi : Try.prog.info? e = some i) (hz : i.zero = some (.int .u8 0))
    (hsize : i.size = 1) (hby : i.bytes = 1)
    (v : Value) (n : Nat) (xs : List Value) (hs : a.eval sl = v) (hown : w.ownsRow base e 1 v n xs) (s : ByteArray) (hx : a.eval x = .string s)
    (h63 : n + s.size ≤ maxLen) (hbytes : n + s.size ≤ 140737488355328) (hbase : base ≤ w.heap.size)
    (h : ∀ v' w', w'.ownsRow base e 1 v' (n + s.size) (xs ++ Lib.strCells s) → w.grownBy w' v.ownBlock → (v'.ownBlock = v.ownBlock ∨ v'.ownBlock = some w.heap.size) → wpList Try.prog ops Q rest (a.put o.dst v') w') : wpList Try.prog ops Q (o :: rest) a w := by
  refine wpList_plain hgd fun K hK => ?_
  obtain ⟨v', w', hr, h2, h3, _⟩ := Lib.run_append_own_string (P := Try.prog) w base t u o.type e i ht hu hi hz hsize hby v n xs hown s h63 hbytes hbase
  have h5 := append_where ht hu hi hz hsize hby hown h63 hbytes hbase hr
  unfold Oper.wp execOp
  simp only [ho, resolve, invoke, builtin, Sem.run_bind, Sem.run_pure, Result.andThen_ok, List.map_toArray, List.map_cons, List.map_nil, hs, hx, hr]
  exact hK _ _ (h v' w' h2 h3 h5)
/-- What a write into a builder leaves: all but its two blocks; its bytes lie where they lay, or in a new block. -/
def Fr (b : Nat) (w w' : World) : Prop := w.heap.size ≤ w'.heap.size ∧ ∀ v, w.cell? ⟨b, 1, none⟩ = some v → (∀ k, k < w.heap.size → k ≠ b → v.ownBlock ≠ some k → w'.heap[k]? = w.heap[k]?) ∧ ∃ v', w'.cell? ⟨b, 1, none⟩ = some v' ∧ (v'.ownBlock = v.ownBlock ∨ ∃ g, v'.ownBlock = some g ∧ w.heap.size ≤ g)
set_option maxHeartbeats 1000000 in
set_option maxRecDepth 100000 in
theorem bld_string_at {B b : Nat} {l : List UInt8} {w : World} (h : Bld B b l w) (hBw : B ≤ w.heap.size) (s : ByteArray) (hlen : l.length + s.size ≤ 140737488355328) :
    Calls Try.prog 25 #[.pointer (some ⟨b, 0, none⟩), .string s] w fun e w' => e = .returned (.tuple #[.int .i64 s.size, .nilIface]) ∧ Bld B b (l ++ s.data.toList) w' ∧ Below B w w' ∧ Fr b w w' := by
  obtain ⟨i0, hi, hz0, hz1, hz2⟩ := info_parts bld_u8
  have hb0 : B ≤ b := by rcases h with h | h <;> exact h.1
  have C := Lib.hid (bld_check2 h)
  clear h
  go_enter Try.func25, Try.ntmps25
  go_wp2_with fail
  refine C.out.mono ?_
  rintro e w1 ⟨rfl, h1, hm1, hc1⟩
  clear C
  have hb1 := hm1.below hb0 hBw
  obtain ⟨hB, v, hbk, hown, hne⟩ := h1
  have c1 : w1.cell? ⟨b, 1, none⟩ = some v := by rw [Lib.cell_of_heap hbk]; rfl
  have c1w := Lib.hid (hc1.symm.trans c1)
  have z1 := hb1.size
  have hbl := Lib.byteCells_length l
  replace hc1 := Lib.hid hc1
  go_wp2_with (at_builtin; refine wpList_append_text_at rfl _ _ 51 9 rfl B 5 i0 Try.underlying51 Try.underlying9 hi hz0 hz1 hz2 v _ _ (by rfl) hown s (by rfl) ?c3 ?c4 ?c5 ?_)
  case c3 => unfold maxLen; omega
  case c4 => omega
  case c5 => omega
  intro v' w2 hown' hgrow hat
  have hlt : b < w1.heap.size := (Array.getElem?_eq_some_iff.1 hbk).1
  have hb2 : w2.heap[b]? = some (.cells #[.pointer (some ⟨b, 0, none⟩), v] 53 (0, 0)) := by
    rw [hgrow.block b hlt (fun e => hne e.symm)]
    exact hbk
  have f1 : w2.frozen? ⟨b, 1, none⟩ = false := Lib.frozen_of_heap hb2 1
  have d1 : w2.cell? ⟨b, 1, none⟩ = some v := by rw [Lib.cell_of_heap hb2]; rfl
  have hput : Hid (Lib.BuilderAt 53 5 B b (.pointer (some ⟨b, 0, none⟩)) (Lib.byteCells l ++ Lib.strCells s) (w2.setCell ⟨b, 1, none⟩ v')) := Lib.hid (Lib.BuilderAt.put (T := 53) (e := 5) hB hb2 (bs' := Lib.byteCells l ++ Lib.strCells s) (by rw [List.length_append, Lib.strCells_length]; first | exact hown' | (rw [hbl]; exact hown')) (by decide))
  have hbel : Hid (Below B w (w2.setCell ⟨b, 1, none⟩ v')) := Lib.hid ((hb1.grown hgrow (by omega) (fun k hk => (hown.lt k hk).1)).setCell (p := ⟨b, 1, none⟩) hB _)
  have hcells : Lib.byteCells l ++ Lib.strCells s = Lib.byteCells (l ++ s.data.toList) := by simp [Lib.byteCells, Lib.strCells]
  rw [hcells] at hput
  have hfr : Hid (Fr b w (w2.setCell ⟨b, 1, none⟩ v')) := Lib.hid ⟨hbel.out.size, fun u hu => by
    rw [c1w.out] at hu
    cases hu
    refine ⟨fun k hk hkb hkg => ?_, v', World.cell?_setCell_same _ _ _ d1, ?_⟩
    · rw [Below.heap_setCell w2 ⟨b, 1, none⟩ v' k (by simpa using hkb), hgrow.block k (Nat.lt_of_lt_of_le hk z1) (fun e => hkg e.symm)]
      exact hm1.block k hk hkb
    · rcases hat with e | e
      · exact .inl e
      · exact .inr ⟨_, e, z1⟩⟩
  obtain ⟨pa, pn, pc, rfl⟩ : ∃ pa pn pc, v' = .slice pa pn pc := by
    rcases hown'.2 with ⟨e, _⟩ | ⟨g, cap, cur, e, _⟩
    · exact ⟨_, _, _, e⟩
    · exact ⟨_, _, _, e⟩
  clear hown' hgrow hown hb1 hbk hb2 hcells hat hm1 c1w hc1
  go_wp2
  go_returns
  exact ⟨rfl, .inr hput.out, hbel.out, hfr.out⟩
/-- A builder stands where its two blocks stand. -/
theorem Bld.keep {B b : Nat} {l : List UInt8} {w w' : World} (h : Bld B b l w) (hb : w'.heap[b]? = w.heap[b]?) (hg : ∀ v g, w.cell? ⟨b, 1, none⟩ = some v → v.ownBlock = some g → w'.heap[g]? = w.heap[g]?) : Bld B b l w' := by
  have K : ∀ p, Lib.BuilderAt 53 5 B b p (Lib.byteCells l) w → Lib.BuilderAt 53 5 B b p (Lib.byteCells l) w' := fun p h => by
    obtain ⟨hB, v, hbk, hown, hne⟩ := h
    have c1 : w.cell? ⟨b, 1, none⟩ = some v := by rw [Lib.cell_of_heap hbk]; rfl
    refine ⟨hB, v, hb.trans hbk, ⟨hown.1, ?_⟩, hne⟩
    rcases hown.2 with e | ⟨g, cap, cur, e, a1, a2, a3⟩
    · exact .inl e
    · exact .inr ⟨g, cap, cur, e, a1, (hg v g c1 (by rw [e]; rfl)).trans a2, a3⟩
  rcases h with h | h
  · exact .inl (K _ h)
  · exact .inr (K _ h)
/-- What a builder's cell holds, and where its bytes lie. -/
theorem Bld.own {B b : Nat} {l : List UInt8} {w : World} (h : Bld B b l w) : ∃ v, w.cell? ⟨b, 1, none⟩ = some v ∧ v.ownBlock ≠ some b ∧ ∀ g, v.ownBlock = some g → g < w.heap.size ∧ ∃ cs, w.heap[g]? = some (.cells cs 5 (0, 0)) := by
  have K : ∀ p, Lib.BuilderAt 53 5 B b p (Lib.byteCells l) w → ∃ v, w.cell? ⟨b, 1, none⟩ = some v ∧ v.ownBlock ≠ some b ∧ ∀ g, v.ownBlock = some g → g < w.heap.size ∧ ∃ cs, w.heap[g]? = some (.cells cs 5 (0, 0)) := fun p h => by
    obtain ⟨hB, v, hbk, hown, hne⟩ := h
    refine ⟨v, by rw [Lib.cell_of_heap hbk]; rfl, hne, fun g hg => ?_⟩
    rcases hown.2 with ⟨rfl, _⟩ | ⟨g', cap, cur, rfl, a1, a2, a3⟩
    · cases hg
    · have : g' = g := by simpa [Value.ownBlock] using hg
      subst this
      exact ⟨(Array.getElem?_eq_some_iff.1 a2).1, cur, a2⟩
  rcases h with h | h <;> exact K _ h
theorem Bld.at' {B b : Nat} {l : List UInt8} {w : World} (h : Bld B b l w) : ∃ cs, w.heap[b]? = some (.cells cs 53 (0, 0)) := by
  rcases h with ⟨_, v, hbk, _⟩ | ⟨_, v, hbk, _⟩ <;> exact ⟨_, hbk⟩
/-- Two builders side by side. -/
structure Pr (B b1 b2 : Nat) (l1 l2 : List UInt8) (w : World) : Prop where
  one : Bld B b1 l1 w
  two : Bld B b2 l2 w
  ne : b1 ≠ b2
  apart : ∀ v1 v2, w.cell? ⟨b1, 1, none⟩ = some v1 → w.cell? ⟨b2, 1, none⟩ = some v2 → v1.ownBlock = none ∨ v1.ownBlock ≠ v2.ownBlock
  lo : B ≤ w.heap.size
theorem Pr.swap {B b1 b2 : Nat} {l1 l2 : List UInt8} {w : World} (h : Pr B b1 b2 l1 l2 w) : Pr B b2 b1 l2 l1 w := ⟨h.two, h.one, h.ne.symm, fun v1 v2 e1 e2 => by
  by_cases hn : v1.ownBlock = none
  · exact .inl hn
  · refine .inr fun e => ?_
    rcases h.apart v2 v1 e2 e1 with k | k
    · exact hn (e.trans k)
    · exact k e.symm, h.lo⟩
theorem Pr.types {B b1 b2 : Nat} {l1 l2 : List UInt8} {w : World} (h : Pr B b1 b2 l1 l2 w) {v1 : Value} (e1 : w.cell? ⟨b1, 1, none⟩ = some v1) : v1.ownBlock ≠ some b2 := fun e => by
  obtain ⟨v, c, _, hg⟩ := h.one.own
  rw [e1] at c
  cases c
  obtain ⟨_, cs, hc⟩ := hg b2 e
  obtain ⟨ds, hd⟩ := h.two.at'
  rw [hc] at hd
  simp only [Option.some.injEq, Obj.cells.injEq] at hd
  exact absurd hd.2.1 (by decide)
theorem Pr.keep {B b1 b2 : Nat} {l1 l2 : List UInt8} {w w' : World} (h : Pr B b1 b2 l1 l2 w) (hb : Below w.heap.size w w') : Pr B b1 b2 l1 l2 w' :=
  ⟨h.one.below hb, h.two.below hb, h.ne, fun v1 v2 e1 e2 => by
    obtain ⟨u1, c1, _⟩ := h.one.own
    obtain ⟨u2, c2, _⟩ := h.two.own
    rw [(hb.cell (p := ⟨b1, 1, none⟩) (World.block_lt_of_cell? _ _ c1))] at e1
    rw [(hb.cell (p := ⟨b2, 1, none⟩) (World.block_lt_of_cell? _ _ c2))] at e2
    exact h.apart v1 v2 e1 e2, Nat.le_trans h.lo hb.size⟩
theorem Pr.but {B b1 b2 p : Nat} {l1 l2 : List UInt8} {w w' : World} (h : Pr B b1 b2 l1 l2 w) (hb : But p w w') {cs : Array Value} {t : TypeId} {m : Nat × Nat} (hp : w.heap[p]? = some (.cells cs t m)) (ht1 : t ≠ 53) (ht2 : t ≠ 5) : Pr B b1 b2 l1 l2 w' := by
  have nb : ∀ {b l}, Bld B b l w → b ≠ p := fun k e => by
    obtain ⟨ds, hd⟩ := k.at'
    rw [e, hp] at hd
    simp only [Option.some.injEq, Obj.cells.injEq] at hd
    exact ht1 hd.2.1
  have sb : ∀ {b l}, Bld B b l w → w'.heap[b]? = w.heap[b]? := fun k => hb.block _ (by obtain ⟨ds, hd⟩ := k.at'; exact (Array.getElem?_eq_some_iff.1 hd).1) (nb k)
  have kb : ∀ {b l}, Bld B b l w → Bld B b l w' := fun {b l} k => k.keep (sb k) (fun v g hv hg => by
    obtain ⟨u, c, _, ho⟩ := k.own
    rw [hv] at c
    cases c
    obtain ⟨hlt, ds, hd⟩ := ho g hg
    refine hb.block g hlt fun e => ?_
    rw [e, hp] at hd
    simp only [Option.some.injEq, Obj.cells.injEq] at hd
    exact ht2 hd.2.1)
  refine ⟨kb h.one, kb h.two, h.ne, fun v1 v2 e1 e2 => ?_, Nat.le_trans h.lo hb.size⟩
  rw [World.cell?_of_block (a := ⟨b1, 1, none⟩) (sb h.one)] at e1
  rw [World.cell?_of_block (a := ⟨b2, 1, none⟩) (sb h.two)] at e2
  exact h.apart v1 v2 e1 e2
/-- A write into the first one. -/
theorem Pr.wrote {B b1 b2 : Nat} {l1 l2 l1' : List UInt8} {w w' : World} (h : Pr B b1 b2 l1 l2 w) (h1 : Bld B b1 l1' w') (hb : Below B w w') (hf : Fr b1 w w') : Pr B b1 b2 l1' l2 w' := by
  obtain ⟨v1, c1, _, o1⟩ := h.one.own
  obtain ⟨v2, c2, _, o2⟩ := h.two.own
  obtain ⟨hk, v1', c1', hat⟩ := hf.2 v1 c1
  have n2 := h.types c1
  obtain ⟨ds, hd⟩ := h.two.at'
  have s2 := hk b2 (Array.getElem?_eq_some_iff.1 hd).1 h.ne.symm n2
  refine ⟨h1, h.two.keep s2 (fun v g hv hg => ?_), h.ne, fun u1 u2 e1 e2 => ?_, Nat.le_trans h.lo hf.1⟩
  · rw [c2] at hv
    cases hv
    refine hk g (o2 g hg).1 (fun e => ?_) (fun e => ?_)
    · exact h.swap.types c2 (hg.trans (by rw [e]))
    · rcases h.apart v1 v2 c1 c2 with k | k
      · rw [k] at e; cases e
      · exact k (e.trans hg.symm)
  · rw [c1'] at e1
    cases e1
    rw [World.cell?_of_block (a := ⟨b2, 1, none⟩) s2, c2] at e2
    cases e2
    rcases hat with e | ⟨g, e, hlo⟩
    · rw [e]; exact h.apart v1 v2 c1 c2
    · refine .inr fun e3 => ?_
      have := (o2 g (by rw [← e3, e])).1
      omega
theorem pr_new (w : World) : Pr w.heap.size w.heap.size (w.heap.size + 1) [] [] ((w.alloc (.cells #[.pointer none, .slice none 0 0] 53)).alloc (.cells #[.pointer none, .slice none 0 0] 53)) := by
  have h1 := (bld_new w).below (below_alloc (w.alloc (.cells #[.pointer none, .slice none 0 0] 53)) (.cells #[.pointer none, .slice none 0 0] 53))
  have h2 := bld_new (w.alloc (.cells #[.pointer none, .slice none 0 0] 53))
  rw [World.size_alloc] at h2
  have h2 : Bld w.heap.size (w.heap.size + 1) [] ((w.alloc (.cells #[.pointer none, .slice none 0 0] 53)).alloc (.cells #[.pointer none, .slice none 0 0] 53)) := by
    rcases h2 with ⟨hB, v, hbk, ⟨ho, ho2⟩, hne⟩ | ⟨hB, v, hbk, ⟨ho, ho2⟩, hne⟩
    · exact .inl ⟨by omega, v, hbk, ⟨ho, ho2.imp id (fun ⟨g, cap, cur, e, a1, a2⟩ => ⟨g, cap, cur, e, by omega, a2⟩)⟩, hne⟩
    · exact .inr ⟨by omega, v, hbk, ⟨ho, ho2.imp id (fun ⟨g, cap, cur, e, a1, a2⟩ => ⟨g, cap, cur, e, by omega, a2⟩)⟩, hne⟩
  refine ⟨h1, h2, by omega, fun v1 v2 e1 e2 => .inl ?_, by simp; omega⟩
  have : ((w.alloc (.cells #[.pointer none, .slice none 0 0] 53)).alloc (.cells #[.pointer none, .slice none 0 0] 53)).cell? ⟨w.heap.size, 1, none⟩ = some (.slice none 0 0) := by
    rw [((below_alloc (w.alloc (.cells #[.pointer none, .slice none 0 0] 53)) _).cell (p := ⟨w.heap.size, 1, none⟩) (by simp)), World.cell?_alloc_new]
    rfl
  rw [this] at e1
  cases e1
  rfl
end Go.Proofs.Ytnmlifagchdphaa
