/-
  The contract of the program's frame.All: it answers what the plain mathematics reads. Condition: a text of at most 100000 bytes.
-/
import Derived.Test.YtdhomindchjoiaaFrameSeq
import Derived.Test.YtdhomindchjoiaaFrameFace
import Derived.Maps.AppendAt
namespace Go.Proofs.Ytdhomindchjoiaa
open Go.RowKit
attribute [local go_sem] Oper.semAt_some
theorem frames_any (s : ByteArray) (w : World) : Calls Try.prog 28 #[.string s] w fun e w' => e = .returned (.func (.func 34) #[] #[.pointer (some ⟨w.heap.size, 0, none⟩)]) ∧ w' = w.alloc (.cells #[.string s] 9) := by
  have hmf : ∀ (fn : Fn) (first cap : Array Value) (w : World), (Instr.makeFunc fn first cap).run Try.prog w = .ok (.func fn first cap) w := fun _ _ _ _ => rfl
  go_enter Try.func28, Try.ntmps28
  go_wp2
  go_ret
  exact ⟨rfl, rfl⟩
theorem found_cells {W : World} {b : Nat} {x y z : Value} {t : TypeId} (h : W.heap[b]? = some (.cells #[x, y, z] t (0, 0))) : W.cell? ⟨b, 0, none⟩ = some x ∧ W.cell? ⟨b, 1, none⟩ = some y ∧ W.cell? ⟨b, 2, none⟩ = some z := by
  refine ⟨?_, ?_, ?_⟩ <;> simp [World.cell?, h]
theorem found_kept {W w1 : World} {b B n₀ size k : Nat} {x y z u v : Value} {t e : TypeId} {tmp : Obj} {xs : List Value} (h : W.heap[b]? = some (.cells #[x, y, z] t (0, 0))) (hte : t ≠ e)
    (hrow : W.ownsRow n₀ e size v k xs) (hgrow : (W.alloc tmp).grownBy w1 v.ownBlock) (hne : b ≠ B) : (w1.setCell ⟨B, 0, none⟩ u).heap[b]? = some (.cells #[x, y, z] t (0, 0)) := by
  have hlt := (Array.getElem?_eq_some_iff.1 h).1
  have h1 : (W.alloc tmp).heap[b]? = some (.cells #[x, y, z] t (0, 0)) := (Below.heap_alloc W _ b hlt).trans h
  have h2 : w1.heap[b]? = some (.cells #[x, y, z] t (0, 0)) := by
    refine (hgrow.block b (Array.getElem?_eq_some_iff.1 h1).1 ?_).trans h1
    rcases hrow.2 with ⟨rfl, _⟩ | ⟨g, cap, cur, rfl, _, hgb, _⟩
    · simp [Value.ownBlock]
    · intro e'
      obtain rfl : b = g := by simpa [Value.ownBlock] using e'
      rw [h] at hgb
      simp at hgb
      exact hte hgb.2
  exact ((grownBy_setCell' w1 B u).block b (Array.getElem?_eq_some_iff.1 h2).1 (fun e' => hne (by cases e'; rfl))).trans h2
theorem noError_snoc {pre : List Found} {p : List UInt8} {n : Nat} (h : NoError pre) : NoError (pre ++ [(p, n, 0)]) := by
  intro x hx
  rcases List.mem_append.1 hx with h1 | h1
  · exact h x h1
  · rw [List.mem_singleton.1 h1]
theorem ownsRow_slice {W : World} {base size k : Nat} {e : TypeId} {v : Value} {xs : List Value} (h : W.ownsRow base e size v k xs) : ∃ p n c, v = .slice p n c := by
  rcases h.2 with ⟨rfl, _⟩ | ⟨g, cap, cur, rfl, _⟩
  · exact ⟨_, _, _, rfl⟩
  · exact ⟨_, _, _, rfl⟩
/-- The function's last statement stores each result into its own box. -/
abbrev lastStores (W : World) (B : Nat) (x y z : Value) : World := (((W.setCell ⟨B, 0, none⟩ x).setCell ⟨B + 1, 0, none⟩ y).setCell ⟨B + 1 + 1, 0, none⟩ z).drew
theorem alls_left {W : World} {B D : Nat} {x y z : Value} (hK : W.heap[D]? = some (.deferred (some []))) : (lastStores W B x y z).heap[D]? = some (.deferred (some [])) :=
  ((((KeepsOthers.setCell W _ _).trans (KeepsOthers.setCell _ _ _)).trans (KeepsOthers.setCell _ _ _)).trans (KeepsOthers.drew _)).same D _ hK rfl
theorem alls_box1 {W : World} {B : Nat} {t : TypeId} {v x y z : Value} (h : Boxed W B t v) : Boxed (lastStores W B x y z) B t x := ((h.set x).other (by omega) y).other (by omega) z
theorem alls_box2 {W : World} {B : Nat} {t : TypeId} {v x y z : Value} (h : Boxed W (B + 1) t v) : Boxed (lastStores W B x y z) (B + 1) t y := ((h.other (by omega) x).set y).other (by omega) z
theorem alls_box3 {W : World} {B : Nat} {t : TypeId} {v x y z : Value} (h : Boxed W (B + 1 + 1) t v) : Boxed (lastStores W B x y z) (B + 1 + 1) t z := ((h.other (by omega) x).other (by omega) y).set z
theorem alls_below {W : World} {B : Nat} {x y z : Value} : Below B W (lastStores W B x y z) :=
  ((((Below.refl B W).setCell (p := ⟨B, 0, none⟩) (Nat.le_refl _) x).setCell (p := ⟨B + 1, 0, none⟩) (by simp) y).setCell (p := ⟨B + 1 + 1, 0, none⟩) (by simp; omega) z).drew
theorem alls_row {W : World} {B n₀ size k : Nat} {t1 t2 t3 e : TypeId} {v1 v2 v3 v x y z : Value} {xs : List Value} (h1 : Boxed W B t1 v1) (h2 : Boxed W (B + 1) t2 v2) (h3 : Boxed W (B + 1 + 1) t3 v3) (n1 : t1 ≠ e) (n2 : t2 ≠ e) (n3 : t3 ≠ e)
    (h : W.ownsRow n₀ e size v k xs) : (lastStores W B x y z).ownsRow n₀ e size v k xs := by
  have h' := ((h.kept (grownBy_setCell' _ B x) (.inr (h1.not_row n1 h).symm)).kept (grownBy_setCell' _ (B + 1) y) (.inr (h2.not_row n2 h).symm)).kept (grownBy_setCell' _ (B + 1 + 1) z) (.inr (h3.not_row n3 h).symm)
  exact h'
theorem alls_end {W : World} {B D : Nat} {t1 t2 t3 e : TypeId} {v1 v2 v3 v x y z : Value} {size k : Nat} {xs : List Value} (h1 : Boxed W B t1 v1) (h2 : Boxed W (B + 1) t2 v2) (h3 : Boxed W (B + 1 + 1) t3 v3) (n1 : t1 ≠ e) (n2 : t2 ≠ e) (n3 : t3 ≠ e)
    (h : W.ownsRow B e size v k xs) (hK : W.heap[D]? = some (.deferred (some []))) (hD : B ≤ D) :
    (((lastStores W B x y z).putObj D (.deferred none)).cell? ⟨B, 0, none⟩ = some x ∧ ((lastStores W B x y z).putObj D (.deferred none)).cell? ⟨B + 1, 0, none⟩ = some y ∧ ((lastStores W B x y z).putObj D (.deferred none)).cell? ⟨B + 1 + 1, 0, none⟩ = some z) ∧
    ((lastStores W B x y z).putObj D (.deferred none)).ownsRow B e size v k xs ∧ Below B W ((lastStores W B x y z).putObj D (.deferred none)) := by
  have hl := alls_left (B := B) (x := x) (y := y) (z := z) hK
  refine ⟨⟨?_, ?_, ?_⟩, ownsRow_putObj (alls_row h1 h2 h3 n1 n2 n3 h) _ hl rfl, (alls_below (x := x) (y := y) (z := z)).trans ?_⟩
  · exact ((boxed_own B t1 (fun _ : Unit => x)).putObj (s := ()) (.deferred none) (alls_box1 h1) hl rfl).cell
  · exact ((boxed_own (B + 1) t2 (fun _ : Unit => y)).putObj (s := ()) (.deferred none) (alls_box2 h2) hl rfl).cell
  · exact ((boxed_own (B + 1 + 1) t3 (fun _ : Unit => z)).putObj (s := ()) (.deferred none) (alls_box3 h3) hl rfl).cell
  · exact (Below.refl B _).grown (grownBy_putObj' _ D (.deferred none)) (by have := (Array.getElem?_eq_some_iff.1 hl).1; omega) (fun k e => by cases e; omega)
theorem noError_nil : NoError [] := by intro x hx; cases hx
set_option maxRecDepth 100000 in
set_option maxHeartbeats 4000000 in
theorem all_any (s : ByteArray) (hs : s.size ≤ 100000) (w : World) :
    Calls Try.prog 18 #[.string s] w fun e w' => ∃ v, e = .returned (.tuple #[v, .int .i64 ((Frame.alls s.data.toList).2.1 : Int), .int .i64 ((Frame.alls s.data.toList).2.2 : Int)]) ∧
      Texts w' w.heap.size v (Frame.alls s.data.toList).1 ∧ Below w.heap.size w w' := by
  obtain ⟨i0, hi, hz0, hz1, hz2⟩ := info_parts infoS
  refine (callsIn_wide (n := 6)).1 ?_
  refine callsIn_of_wp_marks Try.func18 rfl trivial ?_ rfl
  simp only [Try.ntmps18, List.size_toArray, List.length_cons, List.length_nil, Nat.reduceAdd, Nat.reduceSub, Array.replicate_succ, Array.replicate_zero, List.push_toArray, List.append_toArray, List.nil_append, List.cons_append]
  refine wpIn_wide.2 ?_
  go_wp2
  go_step3
  go_wp2
  have C := Lib.hid (frames_any s)
  go_step3
  go_wp2_with (go_at_call 28; ((with_reducible refine (C.out _).mono ?_); rintro e w' ⟨rfl, rfl⟩))
  have b1 := (((Boxed.new w 31 (.slice none 0 0)).alloc (.cells #[.int .i64 0] 3)).alloc (.cells #[.int .i64 0] 22)).alloc (.cells #[.string s] 9)
  have b2 := ((Boxed.new (w.alloc (.cells #[.slice none 0 0] 31)) 3 (.int .i64 0)).alloc (.cells #[.int .i64 0] 22)).alloc (.cells #[.string s] 9)
  have b3 := (Boxed.new ((w.alloc (.cells #[.slice none 0 0] 31)).alloc (.cells #[.int .i64 0] 3)) 22 (.int .i64 0)).alloc (.cells #[.string s] 9)
  have b4 := Boxed.new (((w.alloc (.cells #[.slice none 0 0] 31)).alloc (.cells #[.int .i64 0] 3)).alloc (.cells #[.int .i64 0] 22)) 9 (.string s)
  simp only [World.size_alloc] at b1 b2 b3 b4
  have hB0 : Below w.heap.size w ((((w.alloc (.cells #[.slice none 0 0] 31)).alloc (.cells #[.int .i64 0] 3)).alloc (.cells #[.int .i64 0] 22)).alloc (.cells #[.string s] 9)) :=
    ((((Below.refl _ w).alloc (Nat.le_refl _) _).alloc (by simp) _).alloc (by simp; omega) _).alloc (by simp; omega) _
  have hsz : ((((w.alloc (.cells #[.slice none 0 0] 31)).alloc (.cells #[.int .i64 0] 3)).alloc (.cells #[.int .i64 0] 22)).alloc (.cells #[.string s] 9)).heap.size = w.heap.size + 4 := by simp
  obtain ⟨W0, hW0⟩ : ∃ W0, ((((w.alloc (.cells #[.slice none 0 0] 31)).alloc (.cells #[.int .i64 0] 3)).alloc (.cells #[.int .i64 0] 22)).alloc (.cells #[.string s] 9)) = W0 := ⟨_, rfl⟩
  rw [hW0] at b1 b2 b3 b4 hB0 hsz ⊢
  clear hW0
  refine (wpIn_wide (n := 6)).1 ?_
  have hL := frame_len s
  refine wpIn_range_until (gf := 34) (lb := #[.pointer (some ⟨w.heap.size + 1 + 1 + 1, 0, none⟩)]) rfl (enters_of Try.func34 (by kernel_rfl) rfl) (B := w.heap.size) (by omega)
    (frames_until s hs (w.heap.size + 1 + 1 + 1) w.heap.size W0 (by omega) b4.cell) (fun _ => rfl)
    (fun pre W => (((∃ v, Boxed W w.heap.size 31 v ∧ W.ownsRow w.heap.size 9 1 v (foundTexts pre).length (textRow (foundTexts pre)) ∧ True) ∧ Boxed W (w.heap.size + 1) 3 (.int .i64 (foundSizes pre : Int))) ∧ Boxed W (w.heap.size + 1 + 1) 22 (.int .i64 0)) ∧ NoError pre ∧ Below w.heap.size w W)
    (fun c _ W => c = .exit 0 ∧ (((∃ v, Boxed W w.heap.size 31 v ∧ W.ownsRow w.heap.size 9 1 v (Frame.alls s.data.toList).1.length (textRow (Frame.alls s.data.toList).1) ∧ True) ∧ Boxed W (w.heap.size + 1) 3 (.int .i64 ((Frame.alls s.data.toList).2.1 : Int))) ∧ Boxed W (w.heap.size + 1 + 1) 22 (.int .i64 ((Frame.alls s.data.toList).2.2 : Int))) ∧ Below w.heap.size w W)
    (OwnFrom.and (OwnFrom.and (OwnFrom.and (Own.from (holdsRow_own w.heap.size w.heap.size 31 9 1 (fun pre => (foundTexts pre).length) (fun pre => textRow (foundTexts pre)) (fun _ _ => True)) _) (Own.from (boxed_own _ _ fun pre => .int .i64 (foundSizes pre : Int)) _)) (Own.from (boxed_own _ _ fun _ => .int .i64 0) _)) (OwnFrom.and (ownFrom_pure _ NoError) (ownFrom_below (Nat.le_refl _) (by omega))))
    (fun c => OwnFrom.and (ownFrom_pure _ fun _ => c = .exit 0) (OwnFrom.and (OwnFrom.and (OwnFrom.and (Own.from (holdsRow_own w.heap.size w.heap.size 31 9 1 (fun _ => (Frame.alls s.data.toList).1.length) (fun _ => textRow (Frame.alls s.data.toList).1) (fun _ _ => True)) _) (Own.from (boxed_own _ _ fun _ => .int .i64 ((Frame.alls s.data.toList).2.1 : Int)) _)) (Own.from (boxed_own _ _ fun _ => .int .i64 ((Frame.alls s.data.toList).2.2 : Int)) _)) (ownFrom_below (Nat.le_refl _) (by omega))))
    (fun pre W h => h.2.1)
    ⟨⟨⟨⟨_, b1, World.ownsRow_nil _ _ _ _, trivial⟩, b2⟩, b3⟩, noError_nil, hB0⟩
    (fun x a' W => ∃ b, w.heap.size + 1 + 1 < b ∧ W.heap[b]? = some (.cells #[.string ⟨x.1.toArray⟩, .int .i64 (x.2.1 : Int), .int .i64 (x.2.2 : Int)] 50 (0, 0)) ∧ a' = { tmps := #[.string s, undef, .pointer (some ⟨w.heap.size, 0, none⟩), .pointer (some ⟨w.heap.size + 1, 0, none⟩), .pointer (some ⟨w.heap.size + 1 + 1, 0, none⟩), .pointer (some ⟨b, 0, none⟩), .string s, .func (.func 34) #[] #[.pointer (some ⟨w.heap.size + 1 + 1 + 1, 0, none⟩)], .agg #[.string ⟨x.1.toArray⟩, .int .i64 (x.2.1 : Int), .int .i64 (x.2.2 : Int)], undef, undef, undef, undef, undef, undef, undef, undef, undef, undef, undef, undef, undef, undef, undef, undef, undef, undef], defers := [] })
    (fun x a' _ X Y row h hg hr => by
      obtain ⟨b, h1, h2, h3⟩ := h
      refine ⟨b, h1, (hg.block b (Array.getElem?_eq_some_iff.1 h2).1 fun e => ?_).trans h2, h3⟩
      obtain ⟨_, o, ho, hc⟩ := hr b e.symm
      rw [h2] at ho; cases ho; cases hc)
    ?assign ?body ?done ?stop
  case assign =>
    rintro l pre x W K ⟨⟨⟨⟨v, hv, hrow, _⟩, b2⟩, b3⟩, hn, hB⟩ hK
    unfold encFound
    gi_wp2
    exact hK _ _ ((KeepsOthers.alloc _ _).from _) ((Below.refl _ W).alloc hB.size _) ⟨⟨⟨⟨v, hv.alloc _, hrow.alloc _, trivial⟩, b2.alloc _⟩, b3.alloc _⟩, hn, hB.alloc hB.size _⟩ ⟨W.heap.size, b3.lt, World.alloc_heap_new W _, rfl⟩
  case body =>
    rintro l pre x a' W hok ⟨⟨⟨⟨v, hv, hrow, _⟩, b2⟩, b3⟩, hn, hB⟩ ⟨b, hb, hx, rfl⟩
    have cx := found_cells hx
    obtain ⟨p, n, E⟩ := x
    obtain ⟨cx0, cx1, cx2⟩ := cx
    dsimp only at cx0 cx1 cx2 hx
    have cv := hv.cell
    have c2 := b2.cell
    have c3 := b3.cell
    have f3 := b3.frozen
    have hle := hok.reads.le
    have hlen := hok.reads.len
    have hBs := hB.size
    have htl : Hid ((foundTexts pre).length = pre.length) := Lib.hid (by simp [foundTexts])
    by_cases h0 : E = 0
    · subst h0
      obtain ⟨hR4, h5, h6⟩ := hok.step rfl
      dsimp only at h5 h6
      obtain ⟨sz, hsn⟩ := named (foundSizes pre)
      rw [← hsn.out] at c2 hle hlen h6
      gi_wp2_with (gi_at_builtin; refine wpListIn_append_own _ rfl _ _ 31 rfl w.heap.size 9 i0 (.string ⟨#[]⟩) 1 16 Try.underlying31 hi hz0 hz1 hz2 rfl (by decide) _ _ _ rfl (hrow.alloc _) ⟨W.heap.size, 0, none⟩ 1 1 [.string ⟨p.toArray⟩] rfl rfl (cell_one_new _ _ _) (by simp [Value.oneCell']) (by have := htl.out; unfold maxLen; omega) (by have := htl.out; omega) (by simp; omega) ?_; intro v' w1 hown' hgrow _; obtain ⟨g', cap', rfl⟩ := ownsRow_succ hown'; obtain ⟨hv1, hv2, hr2, hk2, hb2⟩ := hv.appended (by decide) hrow hB.size (Nat.le_refl _) hown' hgrow; have hc1 := hv1.cell; have hf1 := hv1.frozen; have b2' := ((b2.alloc _).kept hgrow (b2.not_row (by decide) hrow)).other (B' := w.heap.size) (by omega) (.slice (some ⟨g', 0, none⟩) ((foundTexts pre).length + 1) cap'); have b3' := ((b3.alloc _).kept hgrow (b3.not_row (by decide) hrow)).other (B' := w.heap.size) (by omega) (.slice (some ⟨g', 0, none⟩) ((foundTexts pre).length + 1) cap'); rw [← hsn.out] at b2'; have c2' := b2'.cell; have f2' := b2'.frozen; obtain ⟨_, cx1', _⟩ := found_cells (found_kept (u := .slice (some ⟨g', 0, none⟩) ((foundTexts pre).length + 1) cap') hx (by decide) hrow hgrow (show b ≠ w.heap.size by omega)))
      have hr3 := hr2.kept (grownBy_setCell' _ (w.heap.size + 1) (.int .i64 ((sz : Int) + (n : Int)))) (.inr (b2'.not_row (by decide) hr2).symm)
      rw [textRow_snoc] at hr3
      refine ⟨(hk2.trans (KeepsOthers.setCell _ _ _)).from _, hb2.setCell (p := ⟨w.heap.size + 1, 0, none⟩) (by simp) _, ⟨⟨⟨_, hv2.other (by omega) _, ?_, trivial⟩, ?_⟩, b3'.other (by omega) _⟩, noError_snoc hn, hB.trans (hb2.setCell (p := ⟨w.heap.size + 1, 0, none⟩) (by simp) _)⟩
      · rw [foundTexts_snoc, List.length_append]; exact hr3
      · rw [foundSizes_snoc, ← hsn.out, Int.natCast_add]; exact b2'.set _
    · have hEb : ((E : Int) == 0) = false := beq_eq_false_iff_ne.2 (by omega)
      have hst := hok.stop h0
      gi_wp2
      refine ⟨(KeepsOthers.setCell _ _ _).from _, rfl, ?_, hB.setCell (p := ⟨w.heap.size + 1 + 1, 0, none⟩) (by simp; omega) _⟩
      exact ⟨⟨⟨v, hv.other (by omega) _, hrow.kept (grownBy_setCell' _ (w.heap.size + 1 + 1) _) (.inr (b3.not_row (by decide) hrow).symm)⟩, b2.other (by omega) _⟩, b3.set _⟩
  case done =>
    rintro D xs W hD ⟨hR, hE⟩ ⟨⟨⟨⟨v, hv, hrow, _⟩, b2⟩, b3⟩, hn, hB⟩ hK
    have hal := Lib.hid (hR.done hE)
    obtain ⟨q1, q2, q3, rfl⟩ := ownsRow_slice hrow
    have cv := hv.cell
    have fv := hv.frozen
    have c2 := b2.cell
    have f2 := b2.frozen
    have c3 := b3.cell
    have f3 := b3.frozen
    clear hR hE
    go_wp2
    go_region
    all_goals go_wp2
    rw [Exit.noGoto_ret]
    refine ⟨by simp, .inl ⟨_, _, rfl, run_takeDeferred (alls_left hK), ?_⟩⟩
    obtain ⟨⟨r1, r2, r3⟩, r4, r5⟩ := alls_end (x := .slice q1 q2 q3) (y := .int .i64 (foundSizes xs : Int)) (z := .int .i64 0) hv b2 b3 (by decide) (by decide) (by decide) hrow hK (by omega)
    rw [hal.out]
    refine ⟨.tuple #[.slice q1 q2 q3, .int .i64 (foundSizes xs : Int), .int .i64 0], ?_, ?_⟩
    · simp [results, Try.results18, go_sem, r1, r2, r3]
    · exact ⟨_, rfl, r4, hB.trans r5⟩
  case stop =>
    rintro D c pre W hD ⟨rfl, ⟨⟨⟨v, hv, hrow, _⟩, b2⟩, b3⟩, hB⟩ hK
    obtain ⟨q1, q2, q3, rfl⟩ := ownsRow_slice hrow
    have cv := hv.cell
    have fv := hv.frozen
    have c2 := b2.cell
    have f2 := b2.frozen
    have c3 := b3.cell
    have f3 := b3.frozen
    refine wpIn_wide.2 ?_
    go_wp2
    go_region
    all_goals go_wp2
    rw [Exit.noGoto_ret]
    refine ⟨by simp, .inl ⟨_, _, rfl, run_takeDeferred (alls_left hK), ?_⟩⟩
    obtain ⟨⟨r1, r2, r3⟩, r4, r5⟩ := alls_end (x := .slice q1 q2 q3) (y := .int .i64 ((Frame.alls s.data.toList).2.1 : Int)) (z := .int .i64 ((Frame.alls s.data.toList).2.2 : Int)) hv b2 b3 (by decide) (by decide) (by decide) hrow hK (by omega)
    refine ⟨.tuple #[.slice q1 q2 q3, .int .i64 ((Frame.alls s.data.toList).2.1 : Int), .int .i64 ((Frame.alls s.data.toList).2.2 : Int)], ?_, ?_⟩
    · simp [results, Try.results18, go_sem, r1, r2, r3]
    · exact ⟨_, rfl, r4, hB.trans r5⟩
/-- The program's four calls answer as the statements need. -/
theorem progFrame : Face := ⟨fun n w _ => size_any n w, fun p w h => put_any p h w, fun s w h => get_any s h w, fun s w h => all_any s h w⟩
end Go.Proofs.Ytdhomindchjoiaa
