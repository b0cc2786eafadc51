/-
  The contract of Pop of the heap of lists. No condition.
-/
import Derived.Test.YtkkegdhnkefogaaMergeHeapOps
namespace Go.Proofs.Ytkkegdhnkefogaa
set_option maxRecDepth 100000
open Go.RowKit
theorem own_short {w : World} {B g n c m : Nat} {e : TypeId} {xs : List Value} (h : w.ownsRow B e 1 (.slice (some ⟨g, 0, none⟩) n c) n xs) (hm : m ≤ n) : w.ownsRow B e 1 (.slice (some ⟨g, 0, none⟩) m c) m (xs.take m) := by
  have hl := h.1
  rcases h.2 with ⟨h', _⟩ | ⟨g', cap', cur, h', hb, hg, hnc, hcm, hcs, ht⟩
  · cases h'
  · simp only [Value.slice.injEq, Option.some.injEq, Addr.mk.injEq, and_true, true_and] at h'
    obtain ⟨rfl, rfl⟩ := h'
    refine ⟨by rw [List.length_take]; omega, .inr ⟨g, c, cur, rfl, hb, hg, by omega, hcm, hcs, ?_⟩⟩
    rw [← ht, List.take_take]
    congr 1
    omega
theorem size_pt (w : World) : (Go.sizeOf (Try.prog.elem 67)).run Try.prog w = .ok 1 w := by
  obtain ⟨i0, hi, hz0, hz1, hz2⟩ := info_parts (show (Try.prog.info? (Try.prog.elem 67)).map (fun i => (i.zero, i.size, i.bytes)) = some (some (.pointer none), 1, 8) by kernel_rfl)
  simp [Go.sizeOf, typeInfo, hi, hz1]
theorem slp_upto (p : Option Addr) (n c k : Nat) (hk : k ≤ c) (u : World) : (Instr.slice 67 (.slice p n c) none (some (.int .i64 (k : Int))) none).run Try.prog u = .ok (.slice p k c) u := by
  rw [run_slice_h u 67 p n c (by kernel_rfl) .i64 (k : Int) (by omega) (by omega), size_pt]
  cases p <;> simp [Result.andThen, sliced, Addr.add]
set_option maxRecDepth 100000 in
set_option maxHeartbeats 4000000 in
theorem hpop_any {B hp k : Nat} {ps : List Nat} {it : Nat → It} {w : World} (h : Hp B hp k ps it w) {n b : Nat} (hn : ps.length = n + 1) (hb : ps[n]? = some b) :
    Calls Try.prog 92 #[.pointer (some ⟨hp, 0, none⟩)] w fun e w' => e = .returned (.iface 72 (.pointer (some ⟨b, 0, none⟩))) ∧ HpD B hp k (ps.take n) it w w' := by
  obtain ⟨g, c, h1, h2, hc, hm, hrow⟩ := h.row (by omega)
  obtain ⟨c0, c1, f0, _⟩ := two_cells h1
  have a1 := hrow n b hb
  rw [hn] at h1 h2 c0 hc
  have hfin : HpD B hp k (ps.take n) it w (w.setCell ⟨hp, 0, none⟩ (.slice (some ⟨g, 0, none⟩) n c)) := by
    have hbel : Below B w (w.setCell ⟨hp, 0, none⟩ (.slice (some ⟨g, 0, none⟩) n c)) := (Below.refl B w).setCell (p := ⟨hp, 0, none⟩) h.low _
    obtain ⟨hgB, cur, hcur⟩ := row_block h2
    have hne : hp ≠ g := fun e => by subst e; rw [h1] at hcur; cases hcur
    have hlt : (ps.take n).length = n := by rw [List.length_take]; omega
    refine ⟨⟨⟨_, heap_setCell_same _ _ 0 _ _ _ h1, ?_⟩, fun c' hc' => ?_, h.nodup.sublist (List.take_sublist _ _), h.low⟩, ElseH.of_grown (grownBy_setCell' w hp _) h1 (.inl rfl), hbel⟩
    · have h3 := own_short h2 (m := n) (by omega)
      have e : (rowPt ps).take n = rowPt (ps.take n) := by unfold rowPt; rw [List.map_take]
      rw [e] at h3
      rw [hlt]
      refine h3.kept (grownBy_setCell' w hp _) (.inr fun e => hne ?_)
      simp only [Value.ownBlock, Option.some.injEq] at e
      exact e.symm
    · have hm' := List.mem_of_mem_take hc'
      refine ⟨(h.item c' hm').1.keep h.big hbel (heap_setCell_other _ _ _ _ fun e => ?_), (h.item c' hm').2⟩
      obtain ⟨a, n', c'', bb, o, q1, _⟩ := (h.item c' hm').1
      have e : c' = hp := e
      subst e
      rw [h1] at q1; cases q1
  have hfin := Lib.hid hfin
  have SL := slp_upto (some ⟨g, 0, none⟩) (n + 1) c n (by omega)
  have i1 : (n : Int) < (n : Int) + 1 := by omega
  have wr1 : wrap64 ((n : Int) + 1 - 1) = (n : Int) := by unfold wrap64; omega
  have wr2 : (n : Int) + 1 - 1 = (n : Int) := by omega
  have wr3 : wrap64 (n : Int) = (n : Int) := by unfold wrap64; omega
  clear h h1 h2 hrow hb
  go_enter Try.func92, Try.ntmps92
  go_wp2_with fail
  go_returns
  exact ⟨rfl, hfin.out⟩
set_option maxRecDepth 100000 in
set_option maxHeartbeats 4000000 in
/-- Sifting up. -/
theorem up_any {B hp k : Nat} {ps : List Nat} {it : Nat → It} {w : World} (h : Hp B hp k ps it w) {j : Nat} (hj : j < ps.length) (hl : ps.length ≤ 1000) (hu : UpI (fun a b => ltI (it a) (it b)) ps.length j ps) :
    Calls Try.prog 53 #[.iface 49 (.pointer (some ⟨hp, 0, none⟩)), .int .i64 (j : Int)] w fun e w' => e = .returned (.tuple #[]) ∧ ∃ qs, qs.Perm ps ∧ HeapP (fun a b => ltI (it a) (it b)) qs.length 0 qs ∧ HpD B hp k qs it w w' := by
  have h := Lib.hid h
  have hu := Lib.hid hu
  go_enter Try.func53, Try.ntmps53
  go_wp2_with fail
  go_loopw [1] (fun jv wr => ∃ (i : Nat) (qs : List Nat), i < qs.length ∧ jv = .int .i64 (i : Int) ∧ Hid (qs.Perm ps) ∧ Hid (UpI (fun a b => ltI (it a) (it b)) qs.length i qs) ∧ Hid (HpD B hp k qs it w wr)) (fun jv _ => (intOf jv).toNat)
  case atStart => exact ⟨j, ps, hj, rfl, Lib.hid (List.Perm.refl _), hu, Lib.hid (HpD.refl h.out)⟩
  case round =>
    obtain ⟨i, qs, hi, rfl, hp1, hu1, hD⟩ := hrel
    have hql : qs.length ≤ 1000 := by rw [hp1.out.length_eq]; exact hl
    by_cases h0 : i = 0
    · subst h0
      have e0 : (((0 : Nat) : Int) - 1).tdiv 2 = 0 := by decide
      have e1 : ((0 : Int) == ((0 : Nat) : Int)) = true := rfl
      have hfin := Lib.hid (hu1.out.done (.inl rfl))
      go_wp2_with fail
      go_returns
      exact ⟨rfl, qs, hp1.out, hfin.out, hD.out⟩
    · obtain ⟨P, hP⟩ := named (par i)
      have hPi : P < i := by rw [hP.out]; unfold par; omega
      have e0 : ((i : Int) - 1).tdiv 2 = (P : Int) := by
        rw [hP.out]; unfold par
        rw [Int.tdiv_eq_ediv_of_nonneg (by omega)]; omega
      have e1 : ((P : Int) == (i : Int)) = false := by rw [beq_eq_false_iff_ne]; omega
      have e1' : (P == i) = false := by rw [beq_eq_false_iff_ne]; omega
      have gi : qs[i]? = some (qs.getD i 0) := by rw [List.getD_eq_getElem?_getD, List.getElem?_eq_getElem hi]; rfl
      have gP : qs[P]? = some (qs.getD P 0) := by rw [List.getD_eq_getElem?_getD, List.getElem?_eq_getElem (show P < qs.length by omega)]; rfl
      have LC := Lib.hid (less_any hD.out.hp gi gP)
      have SW := Lib.hid (fun (u : World) (hu : Hp B hp k qs it u) => swap_any hu gP gi)
      obtain ⟨T, hT⟩ := named (ltI (it (qs.getD i 0)) (it (qs.getD P 0)))
      rw [← hT.out] at LC
      cases T with
      | false =>
        have hfin := Lib.hid (hu1.out.done (.inr (by rw [← hP.out]; exact hT.out.symm)))
        clear hT
        go_wp2_with (go_at_call 91; ((with_reducible refine LC.out.mono ?_); rintro e w1 ⟨rfl, hb1⟩; have D1 := Lib.hid (hD.out.below hb1); clear hb1))
        go_returns
        exact ⟨rfl, qs, hp1.out, hfin.out, D1.out⟩
      | true =>
        have hstep := hu1.out.step (ordI it) rfl hi (by omega) (by rw [← hP.out]; exact hT.out.symm)
        rw [← hP.out] at hstep
        have hperm2 := Lib.hid ((swp_perm (ps := qs) (i := P) (j := i) (by omega) hi).trans hp1.out)
        have hlen2 := Lib.hid (swp_len qs P i)
        rw [← hlen2.out] at hstep
        have hstep := Lib.hid hstep
        clear hT
        go_wp2_with (first
          | (go_at_call 91; ((with_reducible refine LC.out.mono ?_); rintro e w1 ⟨rfl, hb1⟩; have D1 := Lib.hid (hD.out.below hb1); clear hb1))
          | (go_at_call 93; ((with_reducible refine (SW.out _ D1.out.hp).mono ?_); rintro e w2 ⟨rfl, hd2⟩; have D2 := Lib.hid (D1.out.trans hd2); clear hd2)))
        go_roundw
        case rel => exact ⟨P, swp qs P i, by rw [hlen2.out]; omega, rfl, hperm2, hstep, D2⟩
        case measure => simp [intOf] <;> omega
end Go.Proofs.Ytkkegdhnkefogaa
