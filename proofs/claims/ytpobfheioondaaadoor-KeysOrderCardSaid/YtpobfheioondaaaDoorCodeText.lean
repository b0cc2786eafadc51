/-
  The contracts of code.Text and of the document's own, and of the document's PutText: each answers the plain mathematics' ordered text. Condition: a text of a length that there is (the document's PutText: at most 2^31 bytes).
-/
import Derived.Test.YtpobfheioondaaaDoorCodePutText
import Derived.Laws.AppendOwn
import Derived.OwnWalk
import Derived.Laws.DeepStrings4
namespace Go.Proofs.YtpobfheioondaaaDoor
open Go.RowKit
theorem ownsRow_but {w w' : World} {base : Nat} {e : TypeId} {size : Nat} {v : Value} {n b : Nat} {xs : List Value} (h : w.ownsRow base e size v n xs) (hb : But b w w') (hlt : b < base) : w'.ownsRow base e size v n xs := by
  refine ⟨h.1, ?_⟩
  rcases h.2 with h2 | ⟨g, cap, cur, h1, h2, h3, h4⟩
  · exact Or.inl h2
  · refine Or.inr ⟨g, cap, cur, h1, h2, ?_, h4⟩
    have hg : g < w.heap.size := (Array.getElem?_eq_some_iff.1 h3).1
    rw [hb.block g hg (by omega)]; exact h3
theorem cur_grown {w w' : World} {b k : Nat} {s : ByteArray} {row : Option Nat} (h : CurAt w b s k) (hg : w.grownBy w' row) (hr : ∀ r, row = some r → b < r) : CurAt w' b s k := by
  have hb := hg.block b h.lt (fun e => by have := hr b e.symm; omega)
  refine ⟨?_, ?_, ?_⟩
  · have := h.c0; unfold World.cell? at this ⊢; rw [hb]; exact this
  · have := h.c1; unfold World.cell? at this ⊢; rw [hb]; exact this
  · have := h.f1; unfold World.frozen? at this ⊢; rw [hb]; exact this
theorem World.alloc_cur {w : World} {b k : Nat} {s : ByteArray} {o : Obj} (h : CurAt w b s k) : CurAt (w.alloc o) b s k := h.below (below_alloc w o) h.lt
def bytesRowOf (l : List UInt8) : List Value := l.map fun c => .int .u8 (c.toNat : Int)
theorem own_text {w : World} {base : Nat} {v : Value} {n : Nat} {l : List UInt8} (h : w.ownsRow base 5 1 v n (bytesRowOf l)) (x : World) (hx : ∀ a, x.cell? a = w.cell? a) : (convert 45 9 v).run Tryd.prog x = .ok (.string ⟨l.toArray⟩) x := by
  have hl : l.length = n := by have := h.1; simpa [bytesRowOf] using this
  rcases h.2 with ⟨rfl, rfl⟩ | ⟨g, cap, cur, rfl, h2, h3, h4, h5, h6, h7⟩
  · obtain rfl := List.length_eq_zero_iff.1 hl
    rw [run_convert_bytes_string x 45 9 5 none 0 0 Tryd.underlying45 Tryd.underlying5 Tryd.underlying9]
    rfl
  · subst hl
    refine run_convert_bytes_back x _ _ 5 ⟨g, 0, none⟩ cap l Tryd.underlying45 Tryd.underlying5 Tryd.underlying9 ?_
    intro j hj
    have ha : (⟨g, 0, none⟩ : Addr).add j = ⟨g, j, none⟩ := by
      unfold Addr.add
      split
      · rename_i h0; rw [h0]
      · simp
    rw [ha, hx]
    have e1 : (bytesRowOf l)[j]? = some (.int .u8 (l[j].toNat : Int)) := by unfold bytesRowOf; simp [hj]
    rw [← h7, List.getElem?_take] at e1
    split at e1
    · unfold World.cell?
      rw [h3]
      simpa using e1
    · cases e1
/-- How much a cursor has ahead. -/
def curLeft (w : World) (b n : Nat) : Nat := n - (intOf ((w.cell? ⟨b, 1, none⟩).getD undef)).toNat
theorem CurAt.left {w : World} {b k : Nat} {s : ByteArray} (h : CurAt w b s k) (n : Nat) : curLeft w b n = n - k := by
  unfold curLeft; rw [h.c1]; simp [intOf]
theorem info8 : (Tryd.prog.info? 5).map (fun i => (i.zero, i.size, i.bytes)) = some (some (.int .u8 0), 1, 1) := by kernel_rfl
theorem new_cell (w : World) (x : Int) (t : TypeId) (j : Nat) (u : Value) (hj : ([Value.int .u8 x])[j]? = some u) : (w.alloc (.cells #[.int .u8 x] t)).cell? ((⟨w.heap.size, 0, none⟩ : Addr).add j) = some u := by
  cases j with
  | zero => simp at hj; subst hj; simp [Addr.add]
  | succ j => simp at hj
set_option maxRecDepth 100000 in
set_option maxHeartbeats 4000000 in
theorem text_any (s : ByteArray) (hs : s.size ≤ reachBytes) (w : World) :
    Calls Tryd.prog 33 #[.string s] w fun e w' =>
      e = .returned (.tuple #[.string ⟨(Code.untxt s.data.toList).1.toArray⟩, .int .i64 ((Code.untxt s.data.toList).2.1 : Int), .int .i64 ((Code.untxt s.data.toList).2.2 : Int)]) ∧ Below w.heap.size w w' := by
  have hs' := reach_max hs
  unfold reachBytes at hs
  have hmf := makes_func
  obtain ⟨R, HR⟩ := named (Code.untxt s.data.toList)
  rw [← HR.out]
  go_enter Tryd.func33, Tryd.ntmps33
  go_wp2
  refine wp_scope_fwd 0 rfl ?_
  go_wp2
  go_loopw [7] (fun v wr => ∃ (k : Nat) (pre : List UInt8), k ≤ s.size ∧ pre.length ≤ k ∧ wr.ownsRow (w.heap.size + 1) 5 1 v pre.length (bytesRowOf pre) ∧ CurAt wr w.heap.size s k ∧ Below w.heap.size w wr ∧ R = Code.liftT k pre (Code.untxt (s.data.toList.drop k))) (fun _ wr => curLeft wr w.heap.size s.size)
  case atStart => exact ⟨0, [], by omega, by simp, World.ownsRow_nil _ _ _ _, cur_new _ _ _, below_alloc _ _, by rw [List.drop_zero, Code.liftT_zero]; exact HR.out⟩
  case round =>
    obtain ⟨k, pre, hk, hpk, hown, hc, hB, hR⟩ := hrel
    have HR2 := Lib.hid hR
    have HO := Lib.hid hown
    clear hR hown
    obtain ⟨i0, hi, hz0, hz1, hz2⟩ := info_parts info8
    have hwlt := hc.lt
    go_wp2_with fail
    by_cases he : k = s.size
    · refine (next_none s w.heap.size k wr hc he).mono ?_
      rintro e w1 ⟨rfl, hc1, hB1⟩
      go_wp2
      go_step3
      refine ⟨rfl, ?_⟩
      go_wp2
      rw [Exit.noGoto_ret]
      go_returns
      have hd : s.data.toList.drop k = [] := List.drop_eq_nil_of_le (by simp; omega)
      have := HR2.out
      rw [hd, Code.liftT_nil] at this
      rw [this]
      exact ⟨rfl, hB.trans (hB1.below (Nat.le_refl _) hB.size)⟩
    have hks : k < s.size := by omega
    have hd := Lib.hid (drop_byte s k hks)
    refine (next_some s w.heap.size k wr hc hks hs').mono ?_
    obtain ⟨c, hC⟩ := named s[k]
    rw [← hC.out] at hd ⊢
    rintro e w1 ⟨rfl, hc1, hB1⟩
    have hcl := UInt8.toNat_lt c
    have hO1 := ownsRow_but HO.out hB1 (Nat.lt_succ_self _)
    have hBw1 : Below w.heap.size w w1 := hB.trans (hB1.below (Nat.le_refl _) hB.size)
    have hw1 := hc1.lt
    by_cases h0 : c.toNat = 0
    · have hc0 : c = 0 := UInt8.toNat_inj.1 h0
      subst hc0
      clear h0
      go_wp2_with fail
      by_cases he2 : k + 1 = s.size
      · refine (next_none s w.heap.size (k + 1) w1 hc1 he2).mono ?_
        rintro e w2 ⟨rfl, hc2, hB2⟩
        go_wp2
        go_step3
        refine ⟨rfl, ?_⟩
        go_wp2
        rw [Exit.noGoto_ret]
        go_returns
        have hd2 : s.data.toList.drop (k + 1) = [] := List.drop_eq_nil_of_le (by simp; omega)
        have := HR2.out
        rw [hd.out, hd2, Code.liftT_one] at this
        rw [this]
        exact ⟨rfl, hBw1.trans (hB2.below (Nat.le_refl _) hBw1.size)⟩
      have hks2 : k + 1 < s.size := by omega
      have hd2 := Lib.hid (drop_byte s (k + 1) hks2)
      refine (next_some s w.heap.size (k + 1) w1 hc1 hks2 hs').mono ?_
      obtain ⟨d, hD⟩ := named s[k + 1]
      rw [← hD.out] at hd2 ⊢
      rintro e w2 ⟨rfl, hc2, hB2⟩
      have hdl := UInt8.toNat_lt d
      have hO2 := ownsRow_but hO1 hB2 (Nat.lt_succ_self _)
      have hBw2 : Below w.heap.size w w2 := hBw1.trans (hB2.below (Nat.le_refl _) hBw1.size)
      have hw2 := hc2.lt
      by_cases h255 : d.toNat = 255
      · have hd255 : d = 255 := UInt8.toNat_inj.1 h255
        subst hd255
        clear h255
        go_wp2_with (at_builtin; refine wpList_append_own _ rfl _ _ 45 rfl (w.heap.size + 1) 5 i0 (.int .u8 0) 1 1 Tryd.underlying45 hi hz0 hz1 hz2 rfl (by decide) _ _ _ rfl (hO2.alloc _) ⟨w2.heap.size, 0, none⟩ 1 1 [.int .u8 0] rfl rfl ?c1 ?c2 ?c3 ?c4 ?c5 ?_)
        case c1 => intro j u hj; exact new_cell _ _ _ j u hj
        case c2 => intro u hu; simp at hu; subst hu; rfl
        case c3 => unfold maxLen; omega
        case c4 => omega
        case c5 => simp; omega
        intro v' w3 hO3 hgr _
        have hob : ∀ r, u7.ownBlock = some r → w.heap.size < r := fun r hr => by have := (hO2.lt r hr).1; omega
        have hc3 := cur_grown (World.alloc_cur hc2) hgr hob
        have hB3 := (hBw2.alloc hBw2.size _).grown hgr (by simp; omega) (fun r hr => by have := hob r hr; omega)
        have hR3 := HR2.out
        rw [hd.out, hd2.out, Code.liftT_zero_byte] at hR3
        have HR3 := Lib.hid hR3
        have HO3 := Lib.hid hO3
        clear hR3 hO3
        go_wp2
        go_roundw
        case rel => exact ⟨k + 2, pre ++ [0], by omega, by simp; omega, by simpa [bytesRowOf] using HO3.out, hc3, hB3, HR3.out⟩
        case measure => rw [hc3.left, hc.left]; omega
      by_cases h1 : d.toNat = 1
      · have hd1 : d = 1 := UInt8.toNat_inj.1 h1
        subst hd1
        clear h1
        have hcv := fun n => own_text hO2 (w2.drewN n) (fun _ => rfl)
        have hcv0 := own_text hO2 w2 (fun _ => rfl)
        obtain ⟨q0, q1, q2⟩ := hc2
        go_wp2
        go_quiet (fail)
        go_wp2
        rw [jump_ret]
        go_returns
        have := HR2.out
        rw [hd.out, hd2.out, Code.liftT_end] at this
        rw [this]
        exact ⟨rfl, below_drewN hBw2⟩
      · have e1 : ((d.toNat : Int) == 255) = false := beq_eq_false_iff_ne.2 (by omega)
        have e2 : ((d.toNat : Int) == 1) = false := beq_eq_false_iff_ne.2 (by omega)
        go_wp2
        go_step3
        refine ⟨rfl, ?_⟩
        go_wp2
        rw [Exit.noGoto_ret]
        go_returns
        have := HR2.out
        rw [hd.out, hd2.out, Code.liftT_form _ _ _ (fun e => h1 (by rw [e]; rfl)) (fun e => h255 (by rw [e]; rfl))] at this
        rw [this]
        exact ⟨rfl, hBw2⟩
    · have e0 : ((c.toNat : Int) == 0) = false := beq_eq_false_iff_ne.2 (by omega)
      go_wp2_with (at_builtin; refine wpList_append_own _ rfl _ _ 45 rfl (w.heap.size + 1) 5 i0 (.int .u8 0) 1 1 Tryd.underlying45 hi hz0 hz1 hz2 rfl (by decide) _ _ _ rfl (hO1.alloc _) ⟨w1.heap.size, 0, none⟩ 1 1 [.int .u8 (c.toNat : Int)] rfl rfl ?c1 ?c2 ?c3 ?c4 ?c5 ?_)
      case c1 => intro j u hj; exact new_cell _ _ _ j u hj
      case c2 => intro u hu; simp at hu; subst hu; rfl
      case c3 => unfold maxLen; omega
      case c4 => omega
      case c5 => simp; omega
      intro v' w3 hO3 hgr _
      have hob : ∀ r, u7.ownBlock = some r → w.heap.size < r := fun r hr => by have := (hO1.lt r hr).1; omega
      have hc3 := cur_grown (World.alloc_cur hc1) hgr hob
      have hB3 := (hBw1.alloc hBw1.size _).grown hgr (by simp; omega) (fun r hr => by have := hob r hr; omega)
      have hR3 := HR2.out
      rw [hd.out, Code.liftT_byte _ _ _ (fun e => h0 (by rw [e]; rfl))] at hR3
      have HR3 := Lib.hid hR3
      have HO3 := Lib.hid hO3
      clear hR3 hO3
      go_wp2
      go_roundw
      case rel => exact ⟨k + 1, pre ++ [c], by omega, by simp; omega, by simpa [bytesRowOf] using HO3.out, hc3, hB3, HR3.out⟩
      case measure => rw [hc3.left, hc.left]; omega
theorem extract_one (s : ByteArray) (k : Nat) (h : k < s.size) : s.extract k (k + 1) = ⟨#[s[k]]⟩ := by
  apply ByteArray.ext
  apply Array.toList_inj.1
  rw [ByteArray.data_extract, Array.toList_extract]
  have hl : k < s.data.toList.length := by simpa using h
  rw [List.extract_eq_take_drop, Nat.add_sub_cancel_left, List.drop_eq_getElem_cons hl]
  rfl
theorem slice_one (s : ByteArray) (k : Nat) (h : k < s.size) (w : World) : (Instr.slice 9 (.string s) (some (.int .i64 (k : Int))) (some (.int .i64 ((k : Int) + 1))) none).run Tryd.prog w = .ok (.string ⟨#[s[k]]⟩) w := by
  rw [run_slice_string_if w 9 s .i64 .i64 _ _ Tryd.underlying9, if_pos ⟨by omega, by omega⟩, if_pos ⟨by omega, by omega⟩]
  have e1 : (k : Int).toNat = k := by omega
  have e2 : ((k : Int) + 1).toNat = k + 1 := by omega
  rw [e1, e2, extract_one s k h]
end Go.Proofs.YtpobfheioondaaaDoor
