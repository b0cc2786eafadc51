/-
  The contract of the program's Drop, wherever Sort does its work. Condition: at most 1000000 rows and 999999 marks, texts of less than 2^48 bytes.
-/
import Derived.Test.YtlnklpnldmcopaaPack13
import Derived.RangeFuncWrites
import Derived.Sort.CutIn
namespace Go.Proofs.Ytlnklpnldmcopaa
set_option maxRecDepth 100000
open Go.RowKit
attribute [local go_sem] Oper.semAt_some
/-- What Drop answers. -/
def DropD (ms : List Nat) (bottom : Bool) (l : List Rw) (w : World) (e : Ending) (w' : World) : Prop :=
  (ordR l = false ∧ e = .returned (.tuple #[.slice none 0 0, .int .i64 2]) ∧ Below w.heap.size w w') ∨
  (ordR l = true ∧ ∃ v, e = .returned (.tuple #[v, .int .i64 0]) ∧ w'.ownsRow w.heap.size 38 4 v (dropL ms bottom l).length (rowR (dropL ms bottom l)) ∧ Below w.heap.size w w')
theorem DropD.yes {ms : List Nat} {bottom : Bool} {l : List Rw} {w : World} {e : Ending} {w' : World} (h : DropD ms bottom l w e w') (ho : ordR l = true) : ∃ v, e = .returned (.tuple #[v, .int .i64 0]) ∧ w'.ownsRow w.heap.size 38 4 v (dropL ms bottom l).length (rowR (dropL ms bottom l)) ∧ Below w.heap.size w w' := by
  rcases h with ⟨h1, _⟩ | ⟨_, h⟩
  · rw [ho] at h1; cases h1
  · exact h
theorem DropD.no {ms : List Nat} {bottom : Bool} {l : List Rw} {w : World} {e : Ending} {w' : World} (h : DropD ms bottom l w e w') (ho : ordR l = false) : e = .returned (.tuple #[.slice none 0 0, .int .i64 2]) ∧ Below w.heap.size w w' := by
  rcases h with ⟨_, h⟩ | ⟨h1, _⟩
  · exact h
  · rw [ho] at h1; cases h1
theorem SomeR.get {b0 : Nat} {L : List Rw} {w : World} {e : Ending} {w' : World} (h : SomeR b0 L w e w') : ∃ a c b o, e = .returned (.slice a L.length c) ∧ Rs a L.length c b o L w' ∧ (b = b0 ∨ w.heap.size ≤ b) ∧ Below w.heap.size w w' := h
/-- What stands while Drop goes over the keys. -/
structure DropI (N Mn ML n c : Nat) (bottom : Bool) (a : Option Addr) (sv : Value) (D : List Nat) (w0 : World) (L : List Rw) (W : World) : Prop where
  bb : Boxed W N 4 (.bool bottom)
  bn : Boxed W Mn 23 sv
  num : W.ownsRow N 35 1 sv D.length (rowU D)
  row : ∃ v, Boxed W ML 22 v ∧ W.ownsRow N 38 4 v L.length (rowR L)
  bl : Boxed W (ML + 1) 22 (.slice a n c)
  bel : Below N w0 W
theorem DropI.stays {N Mn ML n c : Nat} {bottom : Bool} {a : Option Addr} {sv : Value} {D : List Nat} {w0 : World} {L : List Rw} {W W' : World} (h : DropI N Mn ML n c bottom a sv D w0 L W) (hs : Stays W W') (hB : Below N W W') : DropI N Mn ML n c bottom a sv D w0 L W' := by
  obtain ⟨v, h1, h2⟩ := h.row
  exact ⟨hs.box h.bb, hs.box h.bn, ownsRow_stays h.num hs, ⟨v, hs.box h1, ownsRow_stays h2 hs⟩, hs.box h.bl, h.bel.trans hB⟩
theorem DropI.grow {N Mn ML n c : Nat} {bottom : Bool} {a : Option Addr} {sv : Value} {D : List Nat} {w0 : World} {L : List Rw} {W W' : World} (h : DropI N Mn ML n c bottom a sv D w0 L W) (hN : N ≤ W.heap.size) (hb : Below W.heap.size W W') : DropI N Mn ML n c bottom a sv D w0 L W' := h.stays (Stays.of_below hb) (hb.mono hN)
/-- Another row. -/
theorem DropI.more {N Mn ML n c : Nat} {bottom : Bool} {a : Option Addr} {sv : Value} {D : List Nat} {w0 : World} {L : List Rw} {W w1 : World} (h : DropI N Mn ML n c bottom a sv D w0 L W) (hM : N < Mn) (hM2 : Mn < ML) (hN : N ≤ W.heap.size) (x : Rw) {v v' : Value} {tmp : Obj} (hv : Boxed W ML 22 v) (hr : W.ownsRow N 38 4 v L.length (rowR L))
    (hown : w1.ownsRow N 38 4 v' (L.length + 1) (rowR (L ++ [x]))) (hgrow : (W.alloc tmp).grownBy w1 v.ownBlock) :
    DropI N Mn ML n c bottom a sv D w0 (L ++ [x]) (w1.setCell ⟨ML, 0, none⟩ v') ∧ KeepsOthers W (w1.setCell ⟨ML, 0, none⟩ v') ∧ Below N W (w1.setCell ⟨ML, 0, none⟩ v') ∧ Boxed w1 ML 22 v ∧ Boxed (w1.setCell ⟨ML, 0, none⟩ v') ML 22 v' := by
  obtain ⟨a1, a2, a3, a4, a5⟩ := hv.appended (by decide) hr hN (by omega) hown hgrow
  refine ⟨⟨stays_appended hr hgrow h.bb (by omega) (by decide), stays_appended hr hgrow h.bn (by omega) (by decide), ?_, ⟨v', a2, by rw [List.length_append]; exact a3⟩, stays_appended hr hgrow h.bl (by omega) (by decide), h.bel.trans a5⟩, a4, a5, a1, a2⟩
  refine ⟨h.num.1, ?_⟩
  rcases h.num.2 with e | ⟨g, cap, cur, e1, e2, e3, e4⟩
  · exact .inl e
  · refine .inr ⟨g, cap, cur, e1, e2, stays_appended hr hgrow e3 ?_ (by decide), e4⟩
    rintro rfl
    rw [show W.heap[g]? = _ from hv] at e3; cases e3
theorem boxed_one {W : World} {k : Nat} {t : TypeId} {v v' : Value} (h : Boxed W k t v) (h' : Boxed W k t v') : v = v' := by
  have := h.cell.symm.trans h'.cell
  exact Option.some.inj this
/-- What stands while one row is put to the others. -/
structure LoopR (N Mn ML n c : Nat) (bottom : Bool) (a : Option Addr) (sv : Value) (D : List Nat) (w0 W : World) (LJ : List Rw) (va : Option Addr) (vc vb vo : Nat) (A : List Rw) (v : Value) (gx : Nat) (x : Rw) (C : World) : Prop where
  d : DropI N Mn ML n c bottom a sv D w0 LJ C
  k : KeepsOthers W C
  b : Below N W C
  r : Rs va A.length vc vb vo A C
  bx : Boxed C ML 22 v
  row : C.ownsRow N 38 4 v LJ.length (rowR LJ)
  xb : RowAt gx x C
  big : ML + 2 ≤ C.heap.size
theorem LoopR.grow {N Mn ML n c : Nat} {bottom : Bool} {a : Option Addr} {sv : Value} {D : List Nat} {w0 W : World} {LJ : List Rw} {va : Option Addr} {vc vb vo : Nat} {A : List Rw} {v : Value} {gx : Nat} {x : Rw} {C C' : World} (h : LoopR N Mn ML n c bottom a sv D w0 W LJ va vc vb vo A v gx x C) (hN : N ≤ ML) (hb : Below C.heap.size C C') : LoopR N Mn ML n c bottom a sv D w0 W LJ va vc vb vo A v gx x C' :=
  have hz := h.big
  ⟨h.d.grow (by omega) hb, h.k.trans (keeps_below hb), h.b.trans (hb.mono (by omega)), h.r.below hb (Nat.le_refl _), (Stays.of_below hb).box h.bx, ownsRow_stays h.row (Stays.of_below hb), h.xb.below hb, Nat.le_trans h.big hb.size⟩
/-- What a round leaves. -/
structure RoundR (N Mn ML n c : Nat) (bottom : Bool) (a : Option Addr) (sv : Value) (D : List Nat) (w0 W : World) (LJ : List Rw) (va : Option Addr) (vc vb vo : Nat) (A : List Rw) (C : World) : Prop where
  d : DropI N Mn ML n c bottom a sv D w0 LJ C
  k : KeepsOthers W C
  b : Below N W C
  r : Rs va A.length vc vb vo A C
  ne : ∀ v g, Boxed C ML 22 v → v.ownBlock = some g → g ≠ vb
  big : ML + 2 ≤ C.heap.size
theorem LoopR.done {N Mn ML n c : Nat} {bottom : Bool} {a : Option Addr} {sv : Value} {D : List Nat} {w0 W : World} {LJ : List Rw} {va : Option Addr} {vc vb vo : Nat} {A : List Rw} {v v' : Value} {gx : Nat} {x : Rw} {C w1 : World} {tmp : Obj} (h : LoopR N Mn ML n c bottom a sv D w0 W LJ va vc vb vo A v gx x C) (hN : N < Mn) (hM : Mn < ML) (hne : ∀ g, v.ownBlock = some g → g ≠ vb) (hvb : 0 < A.length) (hvm : vb ≠ ML)
    (hown : w1.ownsRow N 38 4 v' (LJ.length + 1) (rowR (LJ ++ [x]))) (hgrow : (C.alloc tmp).grownBy w1 v.ownBlock) (hat : ∀ g, v'.ownBlock = some g → v.ownBlock = some g ∨ g = (C.alloc tmp).heap.size) :
    RoundR N Mn ML n c bottom a sv D w0 W (LJ ++ [x]) va vc vb vo A (w1.setCell ⟨ML, 0, none⟩ v') := by
  have hz := h.big
  obtain ⟨f1, f2, f3, f4, f5⟩ := h.d.more hN hM (by omega) x h.bx h.row hown hgrow
  have hlt := (h.r.addr hvb).2
  refine ⟨f1, h.k.trans f2, h.b.trans f3, h.r.keep (fun _ => ?_) f3.size, fun u g hu hg => ?_, Nat.le_trans h.big f3.size⟩
  · rw [heap_setCell_other _ _ _ _ hvm]
    refine (hgrow.block vb (by rw [World.size_alloc]; omega) fun e => ?_).trans (Below.heap_alloc C tmp vb hlt)
    exact hne vb e.symm rfl
  · have := boxed_one hu f5
    subst this
    rcases hat g hg with e | e
    · exact hne g e
    · rw [e, World.size_alloc]; omega
set_option maxRecDepth 100000 in
set_option maxHeartbeats 8000000 in
theorem mdrop_any {a : Option Addr} {n c b o : Nat} {l : List Rw} {w : World} (h : Rs a n c b o l w) (hn : n ≤ 1000000) (hs : ∀ x ∈ l, x.key.size ≤ 281474976710656 ∧ x.val.size ≤ 281474976710656 ∧ x.seq ≤ topM)
    {ma : Option Addr} {mn mc mb mo : Nat} {ms : List Nat} (hm : SlOf 1 cellsU ma mn mc mb mo ms w) (hnil : ma = none → mc = 0) (hmn : mn ≤ 999999) (hso : SortOK (mn + 1)) (bottom : Bool) :
    Calls Try.prog 9 #[.slice a n c, .slice ma mn mc, .bool bottom] w (DropD ms bottom l w) := by
  have m0 := h.most
  have q0 := h.cap
  have hlen := Lib.hid h.len
  have hmlen := Lib.hid hm.len
  have hmf := makes_funcM
  obtain ⟨N, hN⟩ := named w.heap.size
  have W0 := Lib.hid (below_alloc w (.cells #[.bool bottom] 4))
  have bb0 := Lib.hid (Boxed.new w 4 (.bool bottom))
  have OC := Lib.hid (order_any (h.below W0.out (Nat.le_refl _)))
  have h := Lib.hid h
  have hm := Lib.hid (hm.below W0.out (Nat.le_refl _))
  cases ho : ordR l with
  | false =>
    rw [ho] at OC
    have ho := Lib.hid ho
    go_enter Try.func9, Try.ntmps9
    go_wp2_with (go_at_call 18; ((with_reducible refine OC.out.mono ?_); rintro e w1 ⟨rfl, hb1⟩))
    go_returns
    exact .inl ⟨ho.out, rfl, below_of W0.out hb1⟩
  | true =>
    rw [ho] at OC
    have ho := Lib.hid ho
    obtain ⟨tu, hu, hu0, hu1, hu2⟩ := info_parts infoU
    obtain ⟨ti, hi, hy0, hy1, hy2⟩ := info_parts info_row
    refine (callsIn_wide (n := 6)).1 ?_
    refine callsIn_of_wp_marks Try.func9 rfl trivial ?_ rfl
    simp only [Try.ntmps9, List.size_toArray, List.length_cons, List.length_nil, Nat.reduceAdd, Nat.reduceSub, Array.replicate_succ, Array.replicate_zero, List.push_toArray, List.append_toArray, List.nil_append, List.cons_append]
    refine wpIn_wide.2 ?_
    have BC := Lib.hid (fun u => bykeys_any a n c u)
    have CL := Lib.hid (fun u (hu : Below (w.alloc (.cells #[.bool bottom] 4)).heap.size (w.alloc (.cells #[.bool bottom] 4)) u) => clone_any (hm.out.below hu (Nat.le_refl _)) hnil (by omega))
    unfold SortOK at hso
    have hDl : Hid ((ms ++ [topM]).length = mn + 1) := Lib.hid (by rw [List.length_append, hmlen.out, List.length_singleton])
    have SO := Lib.hid hso
    go_wp2_with (first
      | (go_at_call 18; ((with_reducible refine OC.out.mono ?_); rintro e w1 ⟨rfl, hb1⟩; have X1 : Hid (Boxed w1 N 4 (.bool bottom)) := Lib.hid (by rw [hN.out]; exact (hb1.block _ bb0.out.lt).trans bb0.out); have B1 : Hid (Below N w w1) := Lib.hid (by rw [hN.out]; exact below_of W0.out hb1); have z1 : Hid (N + 1 ≤ w1.heap.size) := Lib.hid (by have := hb1.size; rw [World.size_alloc] at this; rw [hN.out]; exact this)))
      | (go_at_call 19; ((with_reducible refine (CL.out _ hb1).mono ?_); rintro e w2 ⟨v2, rfl, hv2, hb2⟩; obtain ⟨y1, y2, y3, rfl⟩ := own_shape hv2; have X2 := Lib.hid ((Stays.of_below hb2).box X1.out); have B2 : Hid (Below N w w2) := Lib.hid (B1.out.trans (hb2.mono (by have := z1.out; omega))); have z2 : Hid (N + 1 ≤ w2.heap.size) := Lib.hid (Nat.le_trans z1.out hb2.size); have R2 : Hid (w2.ownsRow N 35 1 (.slice y1 y2 y3) mn (rowU ms)) := Lib.hid (by rw [← hmlen.out]; exact own_lower hv2 (by have := z1.out; omega)); clear hv2 hb2 hb1))
      | (at_builtin; refine wpList_append_own _ rfl _ _ 23 rfl N 35 tu (.int .u64 0) 1 8 Try.underlying23 hu hu0 hu1 hu2 rfl (by decide) (.slice y1 y2 y3) mn (rowU ms) rfl (R2.out.alloc _) ⟨w2.heap.size, 0, none⟩ 1 1 [.int .u64 18446744073709551615] rfl rfl (World.news_of_block (heap_alloc_new _ _)) (by simp [Value.oneCell']) (by unfold maxLen; omega) (by omega) (by rw [World.size_alloc]; have := z2.out; omega) ?_; intro v3 w3 hown3 hgrow3 _; obtain ⟨s1, s2, s3, rfl⟩ := own_shape hown3; have X3 := Lib.hid (((X2.out.alloc _).kept hgrow3 (X2.out.not_row (by decide) R2.out))); have B3 : Hid (Below N w w3) := Lib.hid ((B2.out.alloc (by have := z2.out; omega) _).grown hgrow3 (by rw [World.size_alloc]; have := z2.out; omega) (fun k hk => (World.ownsRow.lt R2.out k hk).1)); have z3 : Hid (N + 1 ≤ w3.heap.size) := Lib.hid (by have h1 := hgrow3.size; rw [World.size_alloc] at h1; have := z2.out; omega); have R3 : Hid ((w3.alloc (.cells #[.slice s1 s2 s3] 23)).ownsRow N 35 1 (.slice s1 s2 s3) (mn + 1) (rowU (ms ++ [topM]))) := Lib.hid (by rw [rowU_app]; exact hown3.alloc _); have X4 := Lib.hid (X3.out.alloc (.cells #[.slice s1 s2 s3] 23)); have Y4 := Lib.hid (Boxed.new w3 23 (.slice s1 s2 s3)); have B4 : Hid (Below N w (w3.alloc (.cells #[.slice s1 s2 s3] 23))) := Lib.hid (B3.out.alloc (by have := z3.out; omega) _); have cs4 := Y4.out.cell; clear hown3 hgrow3)
      | (go_at_call 20; ((with_reducible refine (SO.out N _ (ms ++ [topM]) _ hDl.out (by have h1 := B4.out.size; have h2 := hN.out; omega) R3.out).mono ?_); rintro e w5 ⟨rfl, D', hD1, hD2, hD3, hg5⟩; have X5 := Lib.hid (X4.out.kept hg5 (X4.out.not_row (by decide) R3.out)); have Y5 := Lib.hid (Y4.out.kept hg5 (Y4.out.not_row (by decide) R3.out)); have B5 : Hid (Below N w w5) := Lib.hid (B4.out.grown hg5 (by rw [World.size_alloc]; have := z3.out; omega) (fun k hk => (World.ownsRow.lt R3.out k hk).1)); have z5 : Hid (w3.heap.size + 1 ≤ w5.heap.size) := Lib.hid (by have h1 := hg5.size; rw [World.size_alloc] at h1; exact h1); clear hg5))
      | (go_at_call 21; ((with_reducible refine (BC.out _).mono ?_); rintro e w7 ⟨rfl, rfl⟩)))
    have hDl5 : Hid (D'.length = mn + 1) := Lib.hid (by rw [hD1.length_eq, hDl.out])
    have hnd : Hid (need D' = need (ms ++ [topM])) := Lib.hid (need_mem fun m => hD1.mem_iff)
    have hmax : Hid (topM ∈ D') := Lib.hid (hD1.mem_iff.2 (by simp))
    have hD2 := Lib.hid hD2
    clear R2 R3 X1 X2 X3 X4 Y4 B1 B2 B3 B4 cs4 OC CL SO hD1 bb0
    obtain ⟨Mn, hMn⟩ := named w3.heap.size
    obtain ⟨ML, hML⟩ := named w5.heap.size
    obtain ⟨P18, hP18⟩ := named w2.heap.size
    rw [← hMn.out] at Y5 z5 z3
    rw [← hML.out] at z5
    rw [← hN.out, ← hMn.out, ← hML.out, ← hP18.out]
    have z3 := z3.out
    have z5 := z5.out
    have bl7 : Boxed ((w5.alloc (.cells #[.slice none 0 0] 22)).alloc (.cells #[.slice a n c] 22)) (ML + 1) 22 (.slice a n c) := by
      have := Boxed.new (w5.alloc (.cells #[.slice none 0 0] 22)) 22 (.slice a n c)
      rw [World.size_alloc, ← hML.out] at this; exact this
    have bv7 : Boxed ((w5.alloc (.cells #[.slice none 0 0] 22)).alloc (.cells #[.slice a n c] 22)) ML 22 (.slice none 0 0) := by
      have := (Boxed.new w5 22 (.slice none 0 0)).alloc (.cells #[.slice a n c] 22)
      rw [← hML.out] at this; exact this
    have bb7 : Below N w ((w5.alloc (.cells #[.slice none 0 0] 22)).alloc (.cells #[.slice a n c] 22)) := (B5.out.alloc (by have := hML.out; omega) _).alloc (by have := hML.out; simp; omega) _
    have D1 : DropI N Mn ML n c bottom a (.slice s1 s2 s3) D' w [] ((w5.alloc (.cells #[.slice none 0 0] 22)).alloc (.cells #[.slice a n c] 22)) := ⟨(X5.out.alloc _).alloc _, (Y5.out.alloc _).alloc _, by rw [hDl5.out]; exact (hD3.alloc _).alloc _, ⟨_, bv7, World.ownsRow_nil _ _ _ _⟩, bl7, bb7⟩
    have z7 : ((w5.alloc (.cells #[.slice none 0 0] 22)).alloc (.cells #[.slice a n c] 22)).heap.size = ML + 2 := by simp [hML.out]
    generalize ((w5.alloc (.cells #[.slice none 0 0] 22)).alloc (.cells #[.slice a n c] 22)) = V at *
    clear bl7 bv7 bb7 X5 Y5 B5 hD3 hML hMn hP18
    have hRs : Hid (∀ A, Below N w A → Rs a n c b o l A) := Lib.hid (fun A hA => h.out.below hA (by rw [hN.out]; exact Nat.le_refl _))
    have hbN : Hid (0 < n → b < N) := Lib.hid (fun h0 => by rw [hN.out]; exact (h.out.addr h0).2)
    have SU := keys_until (n := n) (c := c) (b := b) (o := o) (l := l) (a := a) hn (fun A => ∃ PA, DropI N Mn ML n c bottom a (.slice s1 s2 s3) D' w PA A ∧ ML + 2 ≤ A.heap.size) (ML + 1)
      (fun A C ⟨PA, hA, hs⟩ hAC => ⟨PA, hA.grow (by omega) hAC, Nat.le_trans hs hAC.size⟩) (fun A ⟨PA, hA, _⟩ => hA.bl.cell) (fun A ⟨PA, hA, _⟩ => hRs.out A hA.bel) N V
    have hord : Hid (SortedR l) := Lib.hid ((ordR_sorted l).1 ho.out)
    refine (wpIn_wide (n := 6)).1 ?_
    refine wpIn_range_untilW (gf := 37) (lb := #[.pointer (some ⟨ML + 1, 0, none⟩)]) rfl (enters_of Try.func37 (by kernel_rfl) rfl) (B := N) (by omega) SU (fun _ => rfl)
      (fun pre W => (DropI N Mn ML n c bottom a (.slice s1 s2 s3) D' w (dropL ms bottom (l.take (totK pre))) W ∧ ML + 2 ≤ W.heap.size) ∧ Brk l (totK pre) ∧ totK pre ≤ n)
      (fun _ _ _ => False)
      (fun s X Y row h hg hr => ⟨⟨h.1.1.stays (stays_own hg (fun r e => (hr r e).2)) ((Below.refl N X).grown hg (by have := h.1.2; omega) (fun k e => by have := (hr k e).1; omega)), Nat.le_trans h.1.2 hg.size⟩, h.2⟩)
      (fun c s X Y row h hg hr => h)
      (fun pre W h => ⟨_, h.1⟩)
      ⟨⟨by rw [show dropL ms bottom (l.take (totK [])) = [] by unfold dropL; cases bottom <;> rfl]; exact D1, by omega⟩, brk_zero l, Nat.zero_le _⟩
      (fun x a' W => a' = { tmps := #[.slice a n c, .slice ma mn mc, .bool bottom, undef, undef, .pointer (some ⟨N, 0, none⟩), .slice none 0 0, .int .i64 0, .pointer (some ⟨Mn, 0, none⟩), .pointer (some ⟨ML, 0, none⟩), .slice (some ⟨b, o + x.1 * 4, none⟩) x.2 x.2, undef, undef, .slice a n c, .bool true, .bool false, .slice ma mn mc, .slice y1 y2 y3, .slice (some ⟨P18, 0, none⟩) 1 1, .slice s1 s2 s3, .slice s1 s2 s3, .tuple #[], .slice a n c, .func (.func 37) #[] #[.pointer (some ⟨ML + 1, 0, none⟩)], .slice (some ⟨b, o + x.1 * 4, none⟩) x.2 x.2, undef, undef, undef, undef, undef, undef, undef, undef, undef, undef, undef, undef, undef, undef, undef, undef, undef, undef, undef], defers := [] })
      (fun x a' _ X Y row h hg hr => h)
      ?assign ?body ?done ?stop
    case assign =>
      rintro l' pre x W K' hI hK
      unfold encRun at *
      gi_wp2
      exact hK _ _ (KeepsFrom.refl _ _) (Below.refl _ _) hI rfl
    case body =>
      rintro l' pre x a' W hok ⟨⟨hD, hz⟩, hbrk, htot⟩ rfl
      obtain ⟨k, r⟩ := x
      obtain ⟨hk1, hk2, hrun⟩ := hok
      simp only at hk1 hk2 hrun ⊢
      rw [← hk1] at hD hbrk htot
      have hRW := hRs.out W hD.bel
      obtain ⟨rfl, _⟩ := hRW.addr (by omega)
      have hbN := hbN.out (by omega)
      have hrl : k + r ≤ n := by have := hrun.le; rw [hlen.out] at this; exact this
      have hr1 := hrun.pos
      have hSeg := rs_run hRW hrl hr1
      obtain ⟨z, hz0⟩ : ∃ z, l[k]? = some z := ⟨_, List.getElem?_eq_getElem (by rw [hlen.out]; omega)⟩
      have hone := hrun.one hord.out hz0
      have hpl := dropL_run (ms := ms) (bottom := bottom) hord.out hrun hbrk
      have hbrk2 := Lib.hid hrun.brk
      have htk : Hid (totK (pre ++ [(k, r)]) = k + r) := Lib.hid (by rw [totK_snoc, ← hk1])
      have hNW : N ≤ W.heap.size := by omega
      obtain ⟨ga, gc, gb, hga, hSl⟩ := slu_of_row hD.num
      simp only [Value.slice.injEq] at hga
      obtain ⟨e1, e2, e3⟩ := hga
      rw [← e1, ← e2, ← e3] at hSl
      have VC := visible_any hSeg rfl hr1 (by omega) hone hSl (by have := hSl.len; rw [hDl5.out] at this; omega) hD2.out hmax.out (fun x hx => (hs x (List.mem_of_mem_drop (List.mem_of_mem_take hx))).2.2)
      rw [hnd.out] at VC
      obtain ⟨LL, hLL⟩ := named (dropL ms bottom (l.take k))
      rw [← hLL.out] at hD hpl
      have hLLl : Hid (LL.length ≤ k) := Lib.hid (by rw [hLL.out]; have := (dropL_sub ms bottom (l.take k)).length_le; rw [List.length_take] at this; omega)
      have hsub := dropR_sub ms bottom ((l.drop k).take r)
      have hsb := selL_sub (need (ms ++ [topM])) none ((l.drop k).take r)
      have hR : Hid (dropR ms bottom ((l.drop k).take r) = if bottom = true then upL (selL (need (ms ++ [topM])) none ((l.drop k).take r)) else selL (need (ms ++ [topM])) none ((l.drop k).take r)) := Lib.hid rfl
      obtain ⟨A, hA⟩ := named (selL (need (ms ++ [topM])) none ((l.drop k).take r))
      rw [← hA.out] at VC hR hsb
      have cn := hD.bn.cell
      have cb := hD.bb.cell
      have VC := Lib.hid VC
      clear e1 e2 e3
      replace hk1 := Lib.hid hk1
      have hz3 : N < Mn := by omega
      have hz5 : Mn < ML := by omega
      cases bottom with
      | false =>
        gi_wp2_with (refine ⟨trivial, ?_⟩; gi_at_call 22; with_reducible refine (CallsIn.inRound l' (callsIn_wide.2 VC.out)).mono ?_; rintro e w2 hh; obtain ⟨va, vc, vb, vo, rfl, hv1, hv2, hb2⟩ := SomeR.get hh; have V1 := Lib.hid hv1; have V2 := Lib.hid hv2; have V3 := Lib.hid hb2; have cb2 := cell_keep hb2 cb; clear hv1 hv2 hb2)
        have hfin : Hid (dropL ms false (l.take (k + r)) = LL ++ A) := Lib.hid (by rw [hpl, hR.out]; rfl)
        have hRR : Hid (RoundR N Mn ML n c false (some ⟨b, o, none⟩) (.slice s1 s2 s3) D' w W (LL ++ A.take 0) va vc vb vo A w2) := Lib.hid (by
          rw [List.take_zero, List.append_nil]
          have hDw := hD.grow hNW V3.out
          refine ⟨hDw, keeps_below V3.out, V3.out.mono hNW, V1.out, fun v g hv hg => ?_, Nat.le_trans hz V3.out.size⟩
          obtain ⟨v', hv', hr'⟩ := hD.row
          have ev := boxed_one hv ((Stays.of_below V3.out).box hv')
          subst ev
          have h1 := World.ownsRow.lt hr' g hg
          rcases V2.out with e | e
          · rw [e]; omega
          · omega)
        have hvm : Hid (vb ≠ ML) := Lib.hid (by rcases V2.out with e | e <;> omega)
        have hsubF : Hid (∀ x ∈ A, x ∈ l) := Lib.hid (fun x hx => List.mem_of_mem_drop (List.mem_of_mem_take (hsb.subset (hx))))
        have hFl : Hid (A.length ≤ 1000000) := Lib.hid (by have h1 := hsb.length_le; rw [List.length_take, List.length_drop, hlen.out] at h1; omega)
        have hLLl2 : Hid (LL.length ≤ 1000000) := Lib.hid (by have := hLLl.out; omega)
        clear hpl hsb hsub hSl hSeg hRW hone hrun
        gi_loopw [33] (fun jv wr => ∃ j : Nat, j ≤ A.length ∧ jv = .int .i64 (j : Int) ∧ Hid (RoundR N Mn ML n c false (some ⟨b, o, none⟩) (.slice s1 s2 s3) D' w W (LL ++ A.take j) va vc vb vo A wr)) (fun jv _ => A.length - (intOf jv).toNat)
        case atStart => exact ⟨0, Nat.zero_le _, rfl, hRR⟩
        case round =>
          obtain ⟨j, hj, rfl, hI⟩ := hrel
          by_cases hlt : j < A.length
          · obtain ⟨x, hx, rfl, x0, x1, x2, x3⟩ := hI.out.r.at4 hlt
            have hvc := hI.out.r.cap
            have hvmost := hI.out.r.most
            have j1 : (j : Int) < (A.length : Int) := by omega
            have hxl := hsubF.out x (List.mem_of_getElem? hx)
            have CP := Lib.hid (fun u => copied_any x (hs x hxl).1 (hs x hxl).2.1 u)
            have htk : Hid (LL ++ A.take (j + 1) = (LL ++ A.take j) ++ [x]) := Lib.hid (by rw [List.take_add_one, hx, List.append_assoc]; rfl)
            have hLJ : Hid ((LL ++ A.take j).length ≤ 2000000) := Lib.hid (by rw [List.length_append, List.length_take]; have h1 := hLLl2.out; have h2 := hFl.out; omega)
            obtain ⟨LJ, hLJn⟩ := named (LL ++ A.take j)
            rw [← hLJn.out] at hI htk hLJ
            obtain ⟨v, hv, hr⟩ := hI.out.d.row
            have hnev : Hid (∀ g, v.ownBlock = some g → g ≠ vb) := Lib.hid (fun g hg => hI.out.ne v g hv hg)
            have T0 : Hid (LoopR N Mn ML n c false (some ⟨b, o, none⟩) (.slice s1 s2 s3) D' w W LJ (some ⟨vb, vo, none⟩) vc vb vo A v wr.heap.size x (wr.alloc (.cells #[.string x.key, .int .u64 (x.seq : Int), .int .i64 x.kind, .string x.val] 38)).drew) := Lib.hid (by
              have hb : Below wr.heap.size wr (wr.alloc (.cells #[.string x.key, .int .u64 (x.seq : Int), .int .i64 x.kind, .string x.val] 38)).drew := (below_alloc wr _).drew
              have hz := hI.out.big
              exact ⟨hI.out.d.grow (by omega) hb, hI.out.k.trans (keeps_below hb), hI.out.b.trans (hb.mono (by omega)), hI.out.r.below hb (Nat.le_refl _), (Stays.of_below hb).box hv, ownsRow_stays hr (Stays.of_below hb), RowAt.new x wr, Nat.le_trans hz hb.size⟩)
            have hFp : Hid (0 < A.length) := Lib.hid (by omega)
            obtain ⟨q1, q2, q3, rfl⟩ := own_shape hr
            clear hv hr hx hxl
            obtain ⟨xk, xs, xi, xv⟩ := x
            simp only at x0 x1 x2 x3 CP T0
            gi_upto_region 14 with fail
            refine wpIn_mono (Q := (fun e a' w' => e = .normal ∧ ∃ z0 z1 z2 z3 z4, a' = { tmps := #[.slice (some ⟨b, o, none⟩) n c, .slice ma mn mc, .bool false, undef, undef, .pointer (some ⟨N, 0, none⟩), .slice none 0 0, .int .i64 0, .pointer (some ⟨Mn, 0, none⟩), .pointer (some ⟨ML, 0, none⟩), .slice (some ⟨vb, vo, none⟩) A.length vc, undef, .pointer (some ⟨wr.heap.size, 0, none⟩), .slice (some ⟨b, o, none⟩) n c, .bool true, .bool false, .slice ma mn mc, .slice y1 y2 y3, .slice (some ⟨P18, 0, none⟩) 1 1, .slice s1 s2 s3, .slice s1 s2 s3, .tuple #[], .slice (some ⟨b, o, none⟩) n c, .func (.func 37) #[] #[.pointer (some ⟨ML + 1, 0, none⟩)], .slice (some ⟨b, o + k * 4, none⟩) r r, .slice (some ⟨b, o + k * 4, none⟩) r r, .slice s1 s2 s3, .slice (some ⟨vb, vo, none⟩) A.length vc, .bool false, undef, undef, .slice (some ⟨vb, vo, none⟩) A.length vc, .int .i64 (A.length : Int), .int .i64 (j : Int), .bool true, .pointer (some ⟨vb, vo + j * 4, none⟩), .agg #[.string xk, .int .u64 (xs : Int), .int .i64 xi, .string xv], z0, z1, z2, z3, z4, u42, undef], defers := [] } ∧ RoundR N Mn ML n c false (some ⟨b, o, none⟩) (.slice s1 s2 s3) D' w W (LJ ++ [⟨xk, xs, xi, xv⟩]) (some ⟨vb, vo, none⟩) vc vb vo A w')) ?_ ?_
            · have c9 := T0.out.bx.cell
              obtain ⟨⟨e0, e1, e2, e3⟩, _⟩ := T0.out.xb.cells
              clear x0 x1 x2 x3
              refine round_held (S := fun _ => True) (noDefer_spec (by kernel_rfl)) (fun h => by obtain ⟨_, _, h, _⟩ := h; cases h) (by kernel_rfl) (trivial) (fun hHeld => ?_)
              refine held_two (i := 0) (j := 1) (by kernel_rfl) rfl rfl (by rfl) (by rfl) (fun K hK => ?_) (fun K hK => ?_)
              · go_simp
                refine hK.out _ _ (trivial) (fun hHeld => ?_)
                try simp only [Act.put, List.setIfInBounds_toArray, List.set_cons_zero, List.set_cons_succ]
                refine held_call (i := 1) (by kernel_rfl) rfl (by rfl) (fun K hK => ?_)
                go_simp
                refine hK.out _ _ (trivial) (fun hHeld => ?_)
                try simp only [Act.put, List.setIfInBounds_toArray, List.set_cons_zero, List.set_cons_succ]
                refine held_call (i := 2) (by kernel_rfl) rfl (by rfl) (fun K hK => ?_)
                go_simp
                refine (CP.out _).mono ?_
                rintro e w5 ⟨rfl, hb5⟩
                have T5 := Lib.hid (T0.out.grow (by omega) hb5)
                have c9 := T5.out.bx.cell
                have hR5 := Lib.hid (T5.out.row.alloc (.cells #[.string xk, .int .u64 (xs : Int), .int .i64 xi, .string xv] 38))
                have z5' := Lib.hid (show N ≤ w5.heap.size from by have := T5.out.big; omega)
                clear hb5
                refine hK.out _ _ (trivial) (fun hHeld => ?_)
                try simp only [Act.put, List.setIfInBounds_toArray, List.set_cons_zero, List.set_cons_succ]
                refine held_call (i := 3) (by kernel_rfl) rfl (by rfl) (fun K hK => ?_)
                go_simp
                have c9 := (T5.out.bx.alloc (.cells #[.string xk, .int .u64 (xs : Int), .int .i64 xi, .string xv] 38)).cell
                refine hK.out _ _ (trivial) (fun hHeld => ?_)
                try simp only [Act.put, List.setIfInBounds_toArray, List.set_cons_zero, List.set_cons_succ]
                refine held_call (i := 4) (by kernel_rfl) rfl (by rfl) (fun K hK => ?_)
                refine wp_append_lies _ (.tmp 37) (.tmp 40) 22 rfl N 38 ti (.agg #[.string .empty, .int .u64 0, .int .i64 0, .string .empty]) 4 48 Try.underlying22 hi hy0 hy1 hy2 rfl (by decide) (.slice q1 q2 q3) LJ.length (rowR LJ) (by rfl) hR5.out ⟨w5.heap.size, 0, none⟩ 1 1 [.string xk, .int .u64 (xs : Int), .int .i64 xi, .string xv] (by rfl) rfl (World.news_of_block (heap_alloc_new _ _)) (row_one ⟨xk, xs, xi, xv⟩) (by decide) (by have := hLJ.out; unfold maxLen; omega) (by have := hLJ.out; omega) (by rw [World.size_alloc]; have := z5'.out; omega) _ rfl ?_
                intro g9 cap9 w6 hown6 hgrow6 hat6 _
                have T6 := Lib.hid (T5.out.done hz3 hz5 hnev.out hFp.out hvm.out (show w6.ownsRow N 38 4 (.slice (some ⟨g9, 0, none⟩) (LJ.length + 1) cap9) (LJ.length + 1) (rowR (LJ ++ [⟨xk, xs, xi, xv⟩])) by rw [rowR_snoc]; exact hown6) hgrow6 (fun g hg => by simp only [Value.ownBlock, Option.some.injEq] at hg; subst hg; exact hat6))
                obtain ⟨_, _, _, f4, _⟩ := T5.out.d.more hz3 hz5 z5'.out ⟨xk, xs, xi, xv⟩ T5.out.bx T5.out.row (show w6.ownsRow N 38 4 (.slice (some ⟨g9, 0, none⟩) (LJ.length + 1) cap9) (LJ.length + 1) (rowR (LJ ++ [⟨xk, xs, xi, xv⟩])) by rw [rowR_snoc]; exact hown6) hgrow6
                have c96 := f4.cell
                have f96 := f4.frozen
                clear hown6 hgrow6 hat6
                refine hK.out _ _ (trivial) (fun hHeld => ?_)
                try simp only [Act.put, List.setIfInBounds_toArray, List.set_cons_zero, List.set_cons_succ]
                refine held_call (i := 5) (by kernel_rfl) rfl (by rfl) (fun K hK => ?_)
                go_simp
                refine hK.out _ _ (trivial) (fun hHeld => ?_)
                try simp only [Act.put, List.setIfInBounds_toArray, List.set_cons_zero, List.set_cons_succ]
                refine wpAnyH_done (by kernel_rfl) ?_ _
                exact ⟨rfl, _, _, _, _, _, rfl, T6.out⟩
              · go_simp
                refine hK.out _ _ (trivial) (fun hHeld => ?_)
                try simp only [Act.put, List.setIfInBounds_toArray, List.set_cons_zero, List.set_cons_succ]
                refine held_two (i := 0) (j := 2) (by kernel_rfl) rfl rfl (by rfl) (by rfl) (fun K hK => ?_) (fun K hK => ?_)
                · go_simp
                  refine hK.out _ _ (trivial) (fun hHeld => ?_)
                  try simp only [Act.put, List.setIfInBounds_toArray, List.set_cons_zero, List.set_cons_succ]
                  refine held_call (i := 2) (by kernel_rfl) rfl (by rfl) (fun K hK => ?_)
                  go_simp
                  refine (CP.out _).mono ?_
                  rintro e w5 ⟨rfl, hb5⟩
                  have T5 := Lib.hid (T0.out.grow (by omega) hb5)
                  have c9 := T5.out.bx.cell
                  have hR5 := Lib.hid (T5.out.row.alloc (.cells #[.string xk, .int .u64 (xs : Int), .int .i64 xi, .string xv] 38))
                  have z5' := Lib.hid (show N ≤ w5.heap.size from by have := T5.out.big; omega)
                  clear hb5
                  refine hK.out _ _ (trivial) (fun hHeld => ?_)
                  try simp only [Act.put, List.setIfInBounds_toArray, List.set_cons_zero, List.set_cons_succ]
                  refine held_call (i := 3) (by kernel_rfl) rfl (by rfl) (fun K hK => ?_)
                  go_simp
                  have c9 := (T5.out.bx.alloc (.cells #[.string xk, .int .u64 (xs : Int), .int .i64 xi, .string xv] 38)).cell
                  refine hK.out _ _ (trivial) (fun hHeld => ?_)
                  try simp only [Act.put, List.setIfInBounds_toArray, List.set_cons_zero, List.set_cons_succ]
                  refine held_call (i := 4) (by kernel_rfl) rfl (by rfl) (fun K hK => ?_)
                  refine wp_append_lies _ (.tmp 37) (.tmp 40) 22 rfl N 38 ti (.agg #[.string .empty, .int .u64 0, .int .i64 0, .string .empty]) 4 48 Try.underlying22 hi hy0 hy1 hy2 rfl (by decide) (.slice q1 q2 q3) LJ.length (rowR LJ) (by rfl) hR5.out ⟨w5.heap.size, 0, none⟩ 1 1 [.string xk, .int .u64 (xs : Int), .int .i64 xi, .string xv] (by rfl) rfl (World.news_of_block (heap_alloc_new _ _)) (row_one ⟨xk, xs, xi, xv⟩) (by decide) (by have := hLJ.out; unfold maxLen; omega) (by have := hLJ.out; omega) (by rw [World.size_alloc]; have := z5'.out; omega) _ rfl ?_
                  intro g9 cap9 w6 hown6 hgrow6 hat6 _
                  have T6 := Lib.hid (T5.out.done hz3 hz5 hnev.out hFp.out hvm.out (show w6.ownsRow N 38 4 (.slice (some ⟨g9, 0, none⟩) (LJ.length + 1) cap9) (LJ.length + 1) (rowR (LJ ++ [⟨xk, xs, xi, xv⟩])) by rw [rowR_snoc]; exact hown6) hgrow6 (fun g hg => by simp only [Value.ownBlock, Option.some.injEq] at hg; subst hg; exact hat6))
                  obtain ⟨_, _, _, f4, _⟩ := T5.out.d.more hz3 hz5 z5'.out ⟨xk, xs, xi, xv⟩ T5.out.bx T5.out.row (show w6.ownsRow N 38 4 (.slice (some ⟨g9, 0, none⟩) (LJ.length + 1) cap9) (LJ.length + 1) (rowR (LJ ++ [⟨xk, xs, xi, xv⟩])) by rw [rowR_snoc]; exact hown6) hgrow6
                  have c96 := f4.cell
                  have f96 := f4.frozen
                  clear hown6 hgrow6 hat6
                  refine hK.out _ _ (trivial) (fun hHeld => ?_)
                  try simp only [Act.put, List.setIfInBounds_toArray, List.set_cons_zero, List.set_cons_succ]
                  refine held_call (i := 5) (by kernel_rfl) rfl (by rfl) (fun K hK => ?_)
                  go_simp
                  refine hK.out _ _ (trivial) (fun hHeld => ?_)
                  try simp only [Act.put, List.setIfInBounds_toArray, List.set_cons_zero, List.set_cons_succ]
                  refine wpAnyH_done (by kernel_rfl) ?_ _
                  exact ⟨rfl, _, _, _, _, _, rfl, T6.out⟩
                · go_simp
                  refine (CP.out _).mono ?_
                  rintro e w5 ⟨rfl, hb5⟩
                  have T5 := Lib.hid (T0.out.grow (by omega) hb5)
                  have c9 := T5.out.bx.cell
                  have hR5 := Lib.hid (T5.out.row.alloc (.cells #[.string xk, .int .u64 (xs : Int), .int .i64 xi, .string xv] 38))
                  have z5' := Lib.hid (show N ≤ w5.heap.size from by have := T5.out.big; omega)
                  clear hb5
                  refine hK.out _ _ (trivial) (fun hHeld => ?_)
                  try simp only [Act.put, List.setIfInBounds_toArray, List.set_cons_zero, List.set_cons_succ]
                  refine held_two (i := 0) (j := 3) (by kernel_rfl) rfl rfl (by rfl) (by rfl) (fun K hK => ?_) (fun K hK => ?_)
                  · go_simp
                    refine hK.out _ _ (trivial) (fun hHeld => ?_)
                    try simp only [Act.put, List.setIfInBounds_toArray, List.set_cons_zero, List.set_cons_succ]
                    refine held_call (i := 3) (by kernel_rfl) rfl (by rfl) (fun K hK => ?_)
                    go_simp
                    have c9 := (T5.out.bx.alloc (.cells #[.string xk, .int .u64 (xs : Int), .int .i64 xi, .string xv] 38)).cell
                    refine hK.out _ _ (trivial) (fun hHeld => ?_)
                    try simp only [Act.put, List.setIfInBounds_toArray, List.set_cons_zero, List.set_cons_succ]
                    refine held_call (i := 4) (by kernel_rfl) rfl (by rfl) (fun K hK => ?_)
                    refine wp_append_lies _ (.tmp 37) (.tmp 40) 22 rfl N 38 ti (.agg #[.string .empty, .int .u64 0, .int .i64 0, .string .empty]) 4 48 Try.underlying22 hi hy0 hy1 hy2 rfl (by decide) (.slice q1 q2 q3) LJ.length (rowR LJ) (by rfl) hR5.out ⟨w5.heap.size, 0, none⟩ 1 1 [.string xk, .int .u64 (xs : Int), .int .i64 xi, .string xv] (by rfl) rfl (World.news_of_block (heap_alloc_new _ _)) (row_one ⟨xk, xs, xi, xv⟩) (by decide) (by have := hLJ.out; unfold maxLen; omega) (by have := hLJ.out; omega) (by rw [World.size_alloc]; have := z5'.out; omega) _ rfl ?_
                    intro g9 cap9 w6 hown6 hgrow6 hat6 _
                    have T6 := Lib.hid (T5.out.done hz3 hz5 hnev.out hFp.out hvm.out (show w6.ownsRow N 38 4 (.slice (some ⟨g9, 0, none⟩) (LJ.length + 1) cap9) (LJ.length + 1) (rowR (LJ ++ [⟨xk, xs, xi, xv⟩])) by rw [rowR_snoc]; exact hown6) hgrow6 (fun g hg => by simp only [Value.ownBlock, Option.some.injEq] at hg; subst hg; exact hat6))
                    obtain ⟨_, _, _, f4, _⟩ := T5.out.d.more hz3 hz5 z5'.out ⟨xk, xs, xi, xv⟩ T5.out.bx T5.out.row (show w6.ownsRow N 38 4 (.slice (some ⟨g9, 0, none⟩) (LJ.length + 1) cap9) (LJ.length + 1) (rowR (LJ ++ [⟨xk, xs, xi, xv⟩])) by rw [rowR_snoc]; exact hown6) hgrow6
                    have c96 := f4.cell
                    have f96 := f4.frozen
                    clear hown6 hgrow6 hat6
                    refine hK.out _ _ (trivial) (fun hHeld => ?_)
                    try simp only [Act.put, List.setIfInBounds_toArray, List.set_cons_zero, List.set_cons_succ]
                    refine held_call (i := 5) (by kernel_rfl) rfl (by rfl) (fun K hK => ?_)
                    go_simp
                    refine hK.out _ _ (trivial) (fun hHeld => ?_)
                    try simp only [Act.put, List.setIfInBounds_toArray, List.set_cons_zero, List.set_cons_succ]
                    refine wpAnyH_done (by kernel_rfl) ?_ _
                    exact ⟨rfl, _, _, _, _, _, rfl, T6.out⟩
                  · go_simp
                    have c9 := (T5.out.bx.alloc (.cells #[.string xk, .int .u64 (xs : Int), .int .i64 xi, .string xv] 38)).cell
                    refine hK.out _ _ (trivial) (fun hHeld => ?_)
                    try simp only [Act.put, List.setIfInBounds_toArray, List.set_cons_zero, List.set_cons_succ]
                    refine held_call (i := 0) (by kernel_rfl) rfl (by rfl) (fun K hK => ?_)
                    go_simp
                    refine hK.out _ _ (trivial) (fun hHeld => ?_)
                    try simp only [Act.put, List.setIfInBounds_toArray, List.set_cons_zero, List.set_cons_succ]
                    refine held_call (i := 4) (by kernel_rfl) rfl (by rfl) (fun K hK => ?_)
                    refine wp_append_lies _ (.tmp 37) (.tmp 40) 22 rfl N 38 ti (.agg #[.string .empty, .int .u64 0, .int .i64 0, .string .empty]) 4 48 Try.underlying22 hi hy0 hy1 hy2 rfl (by decide) (.slice q1 q2 q3) LJ.length (rowR LJ) (by rfl) hR5.out ⟨w5.heap.size, 0, none⟩ 1 1 [.string xk, .int .u64 (xs : Int), .int .i64 xi, .string xv] (by rfl) rfl (World.news_of_block (heap_alloc_new _ _)) (row_one ⟨xk, xs, xi, xv⟩) (by decide) (by have := hLJ.out; unfold maxLen; omega) (by have := hLJ.out; omega) (by rw [World.size_alloc]; have := z5'.out; omega) _ rfl ?_
                    intro g9 cap9 w6 hown6 hgrow6 hat6 _
                    have T6 := Lib.hid (T5.out.done hz3 hz5 hnev.out hFp.out hvm.out (show w6.ownsRow N 38 4 (.slice (some ⟨g9, 0, none⟩) (LJ.length + 1) cap9) (LJ.length + 1) (rowR (LJ ++ [⟨xk, xs, xi, xv⟩])) by rw [rowR_snoc]; exact hown6) hgrow6 (fun g hg => by simp only [Value.ownBlock, Option.some.injEq] at hg; subst hg; exact hat6))
                    obtain ⟨_, _, _, f4, _⟩ := T5.out.d.more hz3 hz5 z5'.out ⟨xk, xs, xi, xv⟩ T5.out.bx T5.out.row (show w6.ownsRow N 38 4 (.slice (some ⟨g9, 0, none⟩) (LJ.length + 1) cap9) (LJ.length + 1) (rowR (LJ ++ [⟨xk, xs, xi, xv⟩])) by rw [rowR_snoc]; exact hown6) hgrow6
                    have c96 := f4.cell
                    have f96 := f4.frozen
                    clear hown6 hgrow6 hat6
                    refine hK.out _ _ (trivial) (fun hHeld => ?_)
                    try simp only [Act.put, List.setIfInBounds_toArray, List.set_cons_zero, List.set_cons_succ]
                    refine held_call (i := 5) (by kernel_rfl) rfl (by rfl) (fun K hK => ?_)
                    go_simp
                    refine hK.out _ _ (trivial) (fun hHeld => ?_)
                    try simp only [Act.put, List.setIfInBounds_toArray, List.set_cons_zero, List.set_cons_succ]
                    refine wpAnyH_done (by kernel_rfl) ?_ _
                    exact ⟨rfl, _, _, _, _, _, rfl, T6.out⟩
            · rintro e a8 w8 ⟨rfl, z0, z1, z2, z3, z4, rfl, hRR8⟩
              gi_wp2
              go_roundw
              case rel => exact ⟨j + 1, by omega, by go_num, by rw [htk.out]; exact Lib.hid hRR8⟩
              case measure => simp [intOf] <;> omega
          · have hjn : j = A.length := by omega
            subst hjn
            have j1 : ¬ (A.length : Int) < (A.length : Int) := by omega
            rw [List.take_length] at hI
            gi_wp2
            exact ⟨hI.out.k.from _, hI.out.b, ⟨by rw [htk.out, hfin.out]; exact hI.out.d, hI.out.big⟩, by rw [htk.out]; exact hbrk2.out, by rw [htk.out]; exact hrl⟩
      | true =>
        obtain ⟨F, hF⟩ := named (upL A)
        have UC : Hid (∀ va vc vb vo u, Rs va A.length vc vb vo A u → Calls Try.prog 23 #[.slice va A.length vc] u fun e w' => e = .returned (.slice va F.length vc) ∧ Rs va F.length vc vb vo F w' ∧ Below u.heap.size u w') := Lib.hid (fun va vc vb vo u h => by rw [hF.out]; exact upto_any h)
        have hFs : Hid (∀ x, x ∈ F → x ∈ A) := Lib.hid (fun x hx => by rw [hF.out] at hx; exact (upL_sub A).subset hx)
        have hFlen : Hid (F.length ≤ A.length) := Lib.hid (by rw [hF.out]; exact (upL_sub A).length_le)
        gi_wp2_with (first
          | (refine ⟨trivial, ?_⟩; gi_at_call 22; with_reducible refine (CallsIn.inRound l' (callsIn_wide.2 VC.out)).mono ?_; rintro e w2 hh; obtain ⟨va, vc, vb, vo, rfl, hv1, hv2, hb2⟩ := SomeR.get hh; have V1 := Lib.hid hv1; have V2 := Lib.hid hv2; have V3 := Lib.hid hb2; have cb2 := cell_keep hb2 cb; clear hv1 hv2 hb2)
          | (refine ⟨trivial, ?_⟩; gi_at_call 23; with_reducible refine (CallsIn.inRound l' (callsIn_wide.2 (UC.out _ _ _ _ _ V1.out))).mono ?_; rintro e w3 ⟨rfl, hv4, hb3⟩; have V4 := Lib.hid hv4; have V5 := Lib.hid (below_of V3.out hb3); clear hv4 hb3))
        have hfin : Hid (dropL ms true (l.take (k + r)) = LL ++ F) := Lib.hid (by rw [hpl, hR.out, hF.out]; rfl)
        have hRR : Hid (RoundR N Mn ML n c true (some ⟨b, o, none⟩) (.slice s1 s2 s3) D' w W (LL ++ F.take 0) va vc vb vo F w3) := Lib.hid (by
          rw [List.take_zero, List.append_nil]
          have hDw := hD.grow hNW V5.out
          refine ⟨hDw, keeps_below V5.out, V5.out.mono hNW, V4.out, fun v g hv hg => ?_, Nat.le_trans hz V5.out.size⟩
          obtain ⟨v', hv', hr'⟩ := hD.row
          have ev := boxed_one hv ((Stays.of_below V5.out).box hv')
          subst ev
          have h1 := World.ownsRow.lt hr' g hg
          rcases V2.out with e | e
          · rw [e]; omega
          · omega)
        have hvm : Hid (vb ≠ ML) := Lib.hid (by rcases V2.out with e | e <;> omega)
        have hsubF : Hid (∀ x ∈ F, x ∈ l) := Lib.hid (fun x hx => List.mem_of_mem_drop (List.mem_of_mem_take (hsb.subset (hFs.out _ hx))))
        have hFl : Hid (F.length ≤ 1000000) := Lib.hid (by have h1 := hsb.length_le; rw [List.length_take, List.length_drop, hlen.out] at h1; have h2 := hFlen.out; omega)
        have hLLl2 : Hid (LL.length ≤ 1000000) := Lib.hid (by have := hLLl.out; omega)
        clear hpl hsb hsub hSl hSeg hRW hone hrun
        gi_loopw [33] (fun jv wr => ∃ j : Nat, j ≤ F.length ∧ jv = .int .i64 (j : Int) ∧ Hid (RoundR N Mn ML n c true (some ⟨b, o, none⟩) (.slice s1 s2 s3) D' w W (LL ++ F.take j) va vc vb vo F wr)) (fun jv _ => F.length - (intOf jv).toNat)
        case atStart => exact ⟨0, Nat.zero_le _, rfl, hRR⟩
        case round =>
          obtain ⟨j, hj, rfl, hI⟩ := hrel
          by_cases hlt : j < F.length
          · obtain ⟨x, hx, rfl, x0, x1, x2, x3⟩ := hI.out.r.at4 hlt
            have hvc := hI.out.r.cap
            have hvmost := hI.out.r.most
            have j1 : (j : Int) < (F.length : Int) := by omega
            have hxl := hsubF.out x (List.mem_of_getElem? hx)
            have CP := Lib.hid (fun u => copied_any x (hs x hxl).1 (hs x hxl).2.1 u)
            have htk : Hid (LL ++ F.take (j + 1) = (LL ++ F.take j) ++ [x]) := Lib.hid (by rw [List.take_add_one, hx, List.append_assoc]; rfl)
            have hLJ : Hid ((LL ++ F.take j).length ≤ 2000000) := Lib.hid (by rw [List.length_append, List.length_take]; have h1 := hLLl2.out; have h2 := hFl.out; omega)
            obtain ⟨LJ, hLJn⟩ := named (LL ++ F.take j)
            rw [← hLJn.out] at hI htk hLJ
            obtain ⟨v, hv, hr⟩ := hI.out.d.row
            have hnev : Hid (∀ g, v.ownBlock = some g → g ≠ vb) := Lib.hid (fun g hg => hI.out.ne v g hv hg)
            have T0 : Hid (LoopR N Mn ML n c true (some ⟨b, o, none⟩) (.slice s1 s2 s3) D' w W LJ (some ⟨vb, vo, none⟩) vc vb vo F v wr.heap.size x (wr.alloc (.cells #[.string x.key, .int .u64 (x.seq : Int), .int .i64 x.kind, .string x.val] 38)).drew) := Lib.hid (by
              have hb : Below wr.heap.size wr (wr.alloc (.cells #[.string x.key, .int .u64 (x.seq : Int), .int .i64 x.kind, .string x.val] 38)).drew := (below_alloc wr _).drew
              have hz := hI.out.big
              exact ⟨hI.out.d.grow (by omega) hb, hI.out.k.trans (keeps_below hb), hI.out.b.trans (hb.mono (by omega)), hI.out.r.below hb (Nat.le_refl _), (Stays.of_below hb).box hv, ownsRow_stays hr (Stays.of_below hb), RowAt.new x wr, Nat.le_trans hz hb.size⟩)
            have hFp : Hid (0 < F.length) := Lib.hid (by omega)
            obtain ⟨q1, q2, q3, rfl⟩ := own_shape hr
            clear hv hr hx hxl
            obtain ⟨xk, xs, xi, xv⟩ := x
            simp only at x0 x1 x2 x3 CP T0
            gi_upto_region 14 with fail
            refine wpIn_mono (Q := (fun e a' w' => e = .normal ∧ ∃ z0 z1 z2 z3 z4, a' = { tmps := #[.slice (some ⟨b, o, none⟩) n c, .slice ma mn mc, .bool true, undef, undef, .pointer (some ⟨N, 0, none⟩), .slice none 0 0, .int .i64 0, .pointer (some ⟨Mn, 0, none⟩), .pointer (some ⟨ML, 0, none⟩), .slice (some ⟨vb, vo, none⟩) F.length vc, undef, .pointer (some ⟨wr.heap.size, 0, none⟩), .slice (some ⟨b, o, none⟩) n c, .bool true, .bool false, .slice ma mn mc, .slice y1 y2 y3, .slice (some ⟨P18, 0, none⟩) 1 1, .slice s1 s2 s3, .slice s1 s2 s3, .tuple #[], .slice (some ⟨b, o, none⟩) n c, .func (.func 37) #[] #[.pointer (some ⟨ML + 1, 0, none⟩)], .slice (some ⟨b, o + k * 4, none⟩) r r, .slice (some ⟨b, o + k * 4, none⟩) r r, .slice s1 s2 s3, .slice (some ⟨vb, vo, none⟩) A.length vc, .bool true, .slice (some ⟨vb, vo, none⟩) A.length vc, .slice (some ⟨vb, vo, none⟩) F.length vc, .slice (some ⟨vb, vo, none⟩) F.length vc, .int .i64 (F.length : Int), .int .i64 (j : Int), .bool true, .pointer (some ⟨vb, vo + j * 4, none⟩), .agg #[.string xk, .int .u64 (xs : Int), .int .i64 xi, .string xv], z0, z1, z2, z3, z4, u42, undef], defers := [] } ∧ RoundR N Mn ML n c true (some ⟨b, o, none⟩) (.slice s1 s2 s3) D' w W (LJ ++ [⟨xk, xs, xi, xv⟩]) (some ⟨vb, vo, none⟩) vc vb vo F w')) ?_ ?_
            · have c9 := T0.out.bx.cell
              obtain ⟨⟨e0, e1, e2, e3⟩, _⟩ := T0.out.xb.cells
              clear x0 x1 x2 x3
              refine round_held (S := fun _ => True) (noDefer_spec (by kernel_rfl)) (fun h => by obtain ⟨_, _, h, _⟩ := h; cases h) (by kernel_rfl) (trivial) (fun hHeld => ?_)
              refine held_two (i := 0) (j := 1) (by kernel_rfl) rfl rfl (by rfl) (by rfl) (fun K hK => ?_) (fun K hK => ?_)
              · go_simp
                refine hK.out _ _ (trivial) (fun hHeld => ?_)
                try simp only [Act.put, List.setIfInBounds_toArray, List.set_cons_zero, List.set_cons_succ]
                refine held_call (i := 1) (by kernel_rfl) rfl (by rfl) (fun K hK => ?_)
                go_simp
                refine hK.out _ _ (trivial) (fun hHeld => ?_)
                try simp only [Act.put, List.setIfInBounds_toArray, List.set_cons_zero, List.set_cons_succ]
                refine held_call (i := 2) (by kernel_rfl) rfl (by rfl) (fun K hK => ?_)
                go_simp
                refine (CP.out _).mono ?_
                rintro e w5 ⟨rfl, hb5⟩
                have T5 := Lib.hid (T0.out.grow (by omega) hb5)
                have c9 := T5.out.bx.cell
                have hR5 := Lib.hid (T5.out.row.alloc (.cells #[.string xk, .int .u64 (xs : Int), .int .i64 xi, .string xv] 38))
                have z5' := Lib.hid (show N ≤ w5.heap.size from by have := T5.out.big; omega)
                clear hb5
                refine hK.out _ _ (trivial) (fun hHeld => ?_)
                try simp only [Act.put, List.setIfInBounds_toArray, List.set_cons_zero, List.set_cons_succ]
                refine held_call (i := 3) (by kernel_rfl) rfl (by rfl) (fun K hK => ?_)
                go_simp
                have c9 := (T5.out.bx.alloc (.cells #[.string xk, .int .u64 (xs : Int), .int .i64 xi, .string xv] 38)).cell
                refine hK.out _ _ (trivial) (fun hHeld => ?_)
                try simp only [Act.put, List.setIfInBounds_toArray, List.set_cons_zero, List.set_cons_succ]
                refine held_call (i := 4) (by kernel_rfl) rfl (by rfl) (fun K hK => ?_)
                refine wp_append_lies _ (.tmp 37) (.tmp 40) 22 rfl N 38 ti (.agg #[.string .empty, .int .u64 0, .int .i64 0, .string .empty]) 4 48 Try.underlying22 hi hy0 hy1 hy2 rfl (by decide) (.slice q1 q2 q3) LJ.length (rowR LJ) (by rfl) hR5.out ⟨w5.heap.size, 0, none⟩ 1 1 [.string xk, .int .u64 (xs : Int), .int .i64 xi, .string xv] (by rfl) rfl (World.news_of_block (heap_alloc_new _ _)) (row_one ⟨xk, xs, xi, xv⟩) (by decide) (by have := hLJ.out; unfold maxLen; omega) (by have := hLJ.out; omega) (by rw [World.size_alloc]; have := z5'.out; omega) _ rfl ?_
                intro g9 cap9 w6 hown6 hgrow6 hat6 _
                have T6 := Lib.hid (T5.out.done hz3 hz5 hnev.out hFp.out hvm.out (show w6.ownsRow N 38 4 (.slice (some ⟨g9, 0, none⟩) (LJ.length + 1) cap9) (LJ.length + 1) (rowR (LJ ++ [⟨xk, xs, xi, xv⟩])) by rw [rowR_snoc]; exact hown6) hgrow6 (fun g hg => by simp only [Value.ownBlock, Option.some.injEq] at hg; subst hg; exact hat6))
                obtain ⟨_, _, _, f4, _⟩ := T5.out.d.more hz3 hz5 z5'.out ⟨xk, xs, xi, xv⟩ T5.out.bx T5.out.row (show w6.ownsRow N 38 4 (.slice (some ⟨g9, 0, none⟩) (LJ.length + 1) cap9) (LJ.length + 1) (rowR (LJ ++ [⟨xk, xs, xi, xv⟩])) by rw [rowR_snoc]; exact hown6) hgrow6
                have c96 := f4.cell
                have f96 := f4.frozen
                clear hown6 hgrow6 hat6
                refine hK.out _ _ (trivial) (fun hHeld => ?_)
                try simp only [Act.put, List.setIfInBounds_toArray, List.set_cons_zero, List.set_cons_succ]
                refine held_call (i := 5) (by kernel_rfl) rfl (by rfl) (fun K hK => ?_)
                go_simp
                refine hK.out _ _ (trivial) (fun hHeld => ?_)
                try simp only [Act.put, List.setIfInBounds_toArray, List.set_cons_zero, List.set_cons_succ]
                refine wpAnyH_done (by kernel_rfl) ?_ _
                exact ⟨rfl, _, _, _, _, _, rfl, T6.out⟩
              · go_simp
                refine hK.out _ _ (trivial) (fun hHeld => ?_)
                try simp only [Act.put, List.setIfInBounds_toArray, List.set_cons_zero, List.set_cons_succ]
                refine held_two (i := 0) (j := 2) (by kernel_rfl) rfl rfl (by rfl) (by rfl) (fun K hK => ?_) (fun K hK => ?_)
                · go_simp
                  refine hK.out _ _ (trivial) (fun hHeld => ?_)
                  try simp only [Act.put, List.setIfInBounds_toArray, List.set_cons_zero, List.set_cons_succ]
                  refine held_call (i := 2) (by kernel_rfl) rfl (by rfl) (fun K hK => ?_)
                  go_simp
                  refine (CP.out _).mono ?_
                  rintro e w5 ⟨rfl, hb5⟩
                  have T5 := Lib.hid (T0.out.grow (by omega) hb5)
                  have c9 := T5.out.bx.cell
                  have hR5 := Lib.hid (T5.out.row.alloc (.cells #[.string xk, .int .u64 (xs : Int), .int .i64 xi, .string xv] 38))
                  have z5' := Lib.hid (show N ≤ w5.heap.size from by have := T5.out.big; omega)
                  clear hb5
                  refine hK.out _ _ (trivial) (fun hHeld => ?_)
                  try simp only [Act.put, List.setIfInBounds_toArray, List.set_cons_zero, List.set_cons_succ]
                  refine held_call (i := 3) (by kernel_rfl) rfl (by rfl) (fun K hK => ?_)
                  go_simp
                  have c9 := (T5.out.bx.alloc (.cells #[.string xk, .int .u64 (xs : Int), .int .i64 xi, .string xv] 38)).cell
                  refine hK.out _ _ (trivial) (fun hHeld => ?_)
                  try simp only [Act.put, List.setIfInBounds_toArray, List.set_cons_zero, List.set_cons_succ]
                  refine held_call (i := 4) (by kernel_rfl) rfl (by rfl) (fun K hK => ?_)
                  refine wp_append_lies _ (.tmp 37) (.tmp 40) 22 rfl N 38 ti (.agg #[.string .empty, .int .u64 0, .int .i64 0, .string .empty]) 4 48 Try.underlying22 hi hy0 hy1 hy2 rfl (by decide) (.slice q1 q2 q3) LJ.length (rowR LJ) (by rfl) hR5.out ⟨w5.heap.size, 0, none⟩ 1 1 [.string xk, .int .u64 (xs : Int), .int .i64 xi, .string xv] (by rfl) rfl (World.news_of_block (heap_alloc_new _ _)) (row_one ⟨xk, xs, xi, xv⟩) (by decide) (by have := hLJ.out; unfold maxLen; omega) (by have := hLJ.out; omega) (by rw [World.size_alloc]; have := z5'.out; omega) _ rfl ?_
                  intro g9 cap9 w6 hown6 hgrow6 hat6 _
                  have T6 := Lib.hid (T5.out.done hz3 hz5 hnev.out hFp.out hvm.out (show w6.ownsRow N 38 4 (.slice (some ⟨g9, 0, none⟩) (LJ.length + 1) cap9) (LJ.length + 1) (rowR (LJ ++ [⟨xk, xs, xi, xv⟩])) by rw [rowR_snoc]; exact hown6) hgrow6 (fun g hg => by simp only [Value.ownBlock, Option.some.injEq] at hg; subst hg; exact hat6))
                  obtain ⟨_, _, _, f4, _⟩ := T5.out.d.more hz3 hz5 z5'.out ⟨xk, xs, xi, xv⟩ T5.out.bx T5.out.row (show w6.ownsRow N 38 4 (.slice (some ⟨g9, 0, none⟩) (LJ.length + 1) cap9) (LJ.length + 1) (rowR (LJ ++ [⟨xk, xs, xi, xv⟩])) by rw [rowR_snoc]; exact hown6) hgrow6
                  have c96 := f4.cell
                  have f96 := f4.frozen
                  clear hown6 hgrow6 hat6
                  refine hK.out _ _ (trivial) (fun hHeld => ?_)
                  try simp only [Act.put, List.setIfInBounds_toArray, List.set_cons_zero, List.set_cons_succ]
                  refine held_call (i := 5) (by kernel_rfl) rfl (by rfl) (fun K hK => ?_)
                  go_simp
                  refine hK.out _ _ (trivial) (fun hHeld => ?_)
                  try simp only [Act.put, List.setIfInBounds_toArray, List.set_cons_zero, List.set_cons_succ]
                  refine wpAnyH_done (by kernel_rfl) ?_ _
                  exact ⟨rfl, _, _, _, _, _, rfl, T6.out⟩
                · go_simp
                  refine (CP.out _).mono ?_
                  rintro e w5 ⟨rfl, hb5⟩
                  have T5 := Lib.hid (T0.out.grow (by omega) hb5)
                  have c9 := T5.out.bx.cell
                  have hR5 := Lib.hid (T5.out.row.alloc (.cells #[.string xk, .int .u64 (xs : Int), .int .i64 xi, .string xv] 38))
                  have z5' := Lib.hid (show N ≤ w5.heap.size from by have := T5.out.big; omega)
                  clear hb5
                  refine hK.out _ _ (trivial) (fun hHeld => ?_)
                  try simp only [Act.put, List.setIfInBounds_toArray, List.set_cons_zero, List.set_cons_succ]
                  refine held_two (i := 0) (j := 3) (by kernel_rfl) rfl rfl (by rfl) (by rfl) (fun K hK => ?_) (fun K hK => ?_)
                  · go_simp
                    refine hK.out _ _ (trivial) (fun hHeld => ?_)
                    try simp only [Act.put, List.setIfInBounds_toArray, List.set_cons_zero, List.set_cons_succ]
                    refine held_call (i := 3) (by kernel_rfl) rfl (by rfl) (fun K hK => ?_)
                    go_simp
                    have c9 := (T5.out.bx.alloc (.cells #[.string xk, .int .u64 (xs : Int), .int .i64 xi, .string xv] 38)).cell
                    refine hK.out _ _ (trivial) (fun hHeld => ?_)
                    try simp only [Act.put, List.setIfInBounds_toArray, List.set_cons_zero, List.set_cons_succ]
                    refine held_call (i := 4) (by kernel_rfl) rfl (by rfl) (fun K hK => ?_)
                    refine wp_append_lies _ (.tmp 37) (.tmp 40) 22 rfl N 38 ti (.agg #[.string .empty, .int .u64 0, .int .i64 0, .string .empty]) 4 48 Try.underlying22 hi hy0 hy1 hy2 rfl (by decide) (.slice q1 q2 q3) LJ.length (rowR LJ) (by rfl) hR5.out ⟨w5.heap.size, 0, none⟩ 1 1 [.string xk, .int .u64 (xs : Int), .int .i64 xi, .string xv] (by rfl) rfl (World.news_of_block (heap_alloc_new _ _)) (row_one ⟨xk, xs, xi, xv⟩) (by decide) (by have := hLJ.out; unfold maxLen; omega) (by have := hLJ.out; omega) (by rw [World.size_alloc]; have := z5'.out; omega) _ rfl ?_
                    intro g9 cap9 w6 hown6 hgrow6 hat6 _
                    have T6 := Lib.hid (T5.out.done hz3 hz5 hnev.out hFp.out hvm.out (show w6.ownsRow N 38 4 (.slice (some ⟨g9, 0, none⟩) (LJ.length + 1) cap9) (LJ.length + 1) (rowR (LJ ++ [⟨xk, xs, xi, xv⟩])) by rw [rowR_snoc]; exact hown6) hgrow6 (fun g hg => by simp only [Value.ownBlock, Option.some.injEq] at hg; subst hg; exact hat6))
                    obtain ⟨_, _, _, f4, _⟩ := T5.out.d.more hz3 hz5 z5'.out ⟨xk, xs, xi, xv⟩ T5.out.bx T5.out.row (show w6.ownsRow N 38 4 (.slice (some ⟨g9, 0, none⟩) (LJ.length + 1) cap9) (LJ.length + 1) (rowR (LJ ++ [⟨xk, xs, xi, xv⟩])) by rw [rowR_snoc]; exact hown6) hgrow6
                    have c96 := f4.cell
                    have f96 := f4.frozen
                    clear hown6 hgrow6 hat6
                    refine hK.out _ _ (trivial) (fun hHeld => ?_)
                    try simp only [Act.put, List.setIfInBounds_toArray, List.set_cons_zero, List.set_cons_succ]
                    refine held_call (i := 5) (by kernel_rfl) rfl (by rfl) (fun K hK => ?_)
                    go_simp
                    refine hK.out _ _ (trivial) (fun hHeld => ?_)
                    try simp only [Act.put, List.setIfInBounds_toArray, List.set_cons_zero, List.set_cons_succ]
                    refine wpAnyH_done (by kernel_rfl) ?_ _
                    exact ⟨rfl, _, _, _, _, _, rfl, T6.out⟩
                  · go_simp
                    have c9 := (T5.out.bx.alloc (.cells #[.string xk, .int .u64 (xs : Int), .int .i64 xi, .string xv] 38)).cell
                    refine hK.out _ _ (trivial) (fun hHeld => ?_)
                    try simp only [Act.put, List.setIfInBounds_toArray, List.set_cons_zero, List.set_cons_succ]
                    refine held_call (i := 0) (by kernel_rfl) rfl (by rfl) (fun K hK => ?_)
                    go_simp
                    refine hK.out _ _ (trivial) (fun hHeld => ?_)
                    try simp only [Act.put, List.setIfInBounds_toArray, List.set_cons_zero, List.set_cons_succ]
                    refine held_call (i := 4) (by kernel_rfl) rfl (by rfl) (fun K hK => ?_)
                    refine wp_append_lies _ (.tmp 37) (.tmp 40) 22 rfl N 38 ti (.agg #[.string .empty, .int .u64 0, .int .i64 0, .string .empty]) 4 48 Try.underlying22 hi hy0 hy1 hy2 rfl (by decide) (.slice q1 q2 q3) LJ.length (rowR LJ) (by rfl) hR5.out ⟨w5.heap.size, 0, none⟩ 1 1 [.string xk, .int .u64 (xs : Int), .int .i64 xi, .string xv] (by rfl) rfl (World.news_of_block (heap_alloc_new _ _)) (row_one ⟨xk, xs, xi, xv⟩) (by decide) (by have := hLJ.out; unfold maxLen; omega) (by have := hLJ.out; omega) (by rw [World.size_alloc]; have := z5'.out; omega) _ rfl ?_
                    intro g9 cap9 w6 hown6 hgrow6 hat6 _
                    have T6 := Lib.hid (T5.out.done hz3 hz5 hnev.out hFp.out hvm.out (show w6.ownsRow N 38 4 (.slice (some ⟨g9, 0, none⟩) (LJ.length + 1) cap9) (LJ.length + 1) (rowR (LJ ++ [⟨xk, xs, xi, xv⟩])) by rw [rowR_snoc]; exact hown6) hgrow6 (fun g hg => by simp only [Value.ownBlock, Option.some.injEq] at hg; subst hg; exact hat6))
                    obtain ⟨_, _, _, f4, _⟩ := T5.out.d.more hz3 hz5 z5'.out ⟨xk, xs, xi, xv⟩ T5.out.bx T5.out.row (show w6.ownsRow N 38 4 (.slice (some ⟨g9, 0, none⟩) (LJ.length + 1) cap9) (LJ.length + 1) (rowR (LJ ++ [⟨xk, xs, xi, xv⟩])) by rw [rowR_snoc]; exact hown6) hgrow6
                    have c96 := f4.cell
                    have f96 := f4.frozen
                    clear hown6 hgrow6 hat6
                    refine hK.out _ _ (trivial) (fun hHeld => ?_)
                    try simp only [Act.put, List.setIfInBounds_toArray, List.set_cons_zero, List.set_cons_succ]
                    refine held_call (i := 5) (by kernel_rfl) rfl (by rfl) (fun K hK => ?_)
                    go_simp
                    refine hK.out _ _ (trivial) (fun hHeld => ?_)
                    try simp only [Act.put, List.setIfInBounds_toArray, List.set_cons_zero, List.set_cons_succ]
                    refine wpAnyH_done (by kernel_rfl) ?_ _
                    exact ⟨rfl, _, _, _, _, _, rfl, T6.out⟩
            · rintro e a8 w8 ⟨rfl, z0, z1, z2, z3, z4, rfl, hRR8⟩
              gi_wp2
              go_roundw
              case rel => exact ⟨j + 1, by omega, by go_num, by rw [htk.out]; exact Lib.hid hRR8⟩
              case measure => simp [intOf] <;> omega
          · have hjn : j = F.length := by omega
            subst hjn
            have j1 : ¬ (F.length : Int) < (F.length : Int) := by omega
            rw [List.take_length] at hI
            gi_wp2
            exact ⟨hI.out.k.from _, hI.out.b, ⟨by rw [htk.out, hfin.out]; exact hI.out.d, hI.out.big⟩, by rw [htk.out]; exact hbrk2.out, by rw [htk.out]; exact hrl⟩
    case done =>
      rintro D xs W hD hS ⟨⟨hI, hz⟩, hbrk, htot⟩ hK
      obtain ⟨v, hv, hr⟩ := hI.row
      obtain ⟨q1, q2, q3, rfl⟩ := own_shape hr
      have cv := hv.cell
      have hr := Lib.hid hr
      have hI := Lib.hid hI
      have hfin : Hid (dropL ms bottom (l.take (totK xs)) = dropL ms bottom l) := Lib.hid (by
        have e : totK xs = l.length := by rw [hlen.out]; exact hS
        rw [e, List.take_length])
      have BF : Below N W (W.putObj D (.deferred none)) := (Below.refl N _).grown (grownBy_putObj' _ D (.deferred none)) (by omega) (fun k e => by cases e; omega)
      go_wp2
      refine ⟨by simp, .inl ⟨_, _, rfl, run_takeDeferred hK, ?_⟩⟩
      refine ⟨.tuple #[.slice q1 q2 q3, .int .i64 0], ?_, ?_⟩
      · simp [results, Try.results9, go_sem]
      · refine .inr ⟨ho.out, _, rfl, ?_, by rw [← hN.out]; exact hI.out.bel.trans BF⟩
        rw [← hN.out, ← hfin.out]
        exact ownsRow_putObj hr.out (.deferred none) hK rfl
    case stop =>
      rintro D cd pre W hD hF
      exact hF.elim
end Go.Proofs.Ytlnklpnldmcopaa
