/-
  The contracts of code.Uint, code.PutUint and of the document's own: each answers the plain mathematics' short number. Condition: a text of a length that there is; a number of 64 bits.
-/
import Derived.Test.YtfmdjlhoikedpaaDoorCodeCur
import Derived.Test.YtfmdjlhoikedpaaDoorHolds
import Derived.Outline
namespace Go.Proofs.YtfmdjlhoikedpaaDoor
open Go.RowKit
theorem makes_func : ∀ (fn : Fn) (first cap : Array Value) (w : World), (Instr.makeFunc fn first cap).run Tryd.prog w = .ok (.func fn first cap) w := fun _ _ _ _ => rfl
theorem cur_new (w : World) (s : ByteArray) (t : TypeId) : CurAt (w.alloc (.cells #[.string s, .int .i64 0] t)) w.heap.size s 0 :=
  ⟨by rw [World.cell?_alloc_new]; rfl, by rw [World.cell?_alloc_new]; rfl, World.frozen?_alloc_new _ _ _ _⟩
theorem below_but {w w' : World} {o : Obj} (h : But w.heap.size (w.alloc o) w') : Below w.heap.size w w' := (below_alloc w o).trans (h.below (Nat.le_refl _) (by simp))
set_option maxRecDepth 100000 in
set_option maxHeartbeats 1000000 in
theorem uint_any (s : ByteArray) (hs : s.size ≤ maxLen) (w : World) :
    Calls Tryd.prog 13 #[.string s] w fun e w' =>
      e = .returned (.tuple #[.int .u64 ((Code.rd 0 s.data.toList).1 : Int), .int .i64 ((Code.rd 0 s.data.toList).2.1 : Int), .int .i64 ((Code.rd 0 s.data.toList).2.2 : Int)]) ∧ Below w.heap.size w w' := by
  have hmf := makes_func
  have hn := number_any s hs w.heap.size 0 _ (cur_new w s 47) (by omega)
  rw [List.drop_zero] at hn
  have hE := Code.rd_err 0 s.data.toList
  obtain ⟨⟨n, k, e⟩, HR⟩ := named (Code.rd 0 s.data.toList)
  rw [← HR.out] at hn hE ⊢
  have HN := Lib.hid hn
  clear hn
  go_enter Tryd.func13, Tryd.ntmps13
  go_wp2
  refine wp_scope_fwd 0 rfl ?_
  go_wp2_with fail
  refine HN.out.mono ?_
  rintro e' w' ⟨rfl, hc, hB⟩
  rcases hE with h0 | ⟨h67, h1, h2⟩
  · have h0 : e = 0 := h0
    subst h0
    obtain ⟨c0, c1, f1⟩ := hc rfl
    clear hc
    simp only [Nat.zero_add] at c1
    go_wp2
    go_quiet (fail)
    go_wp2
    rw [jump_ret]
    go_returns
    exact ⟨rfl, below_but hB.drewN⟩
  · have h67 : e = 6 ∨ e = 7 := h67
    have h1 : n = 0 := h1
    have h2 : k = 0 := h2
    subst h1 h2
    have hz : ((e : Int) == 0) = false := beq_eq_false_iff_ne.2 (by omega)
    clear hc
    go_wp2
    go_step3
    refine ⟨rfl, ?_⟩
    go_wp2
    rw [Exit.noGoto_ret]
    go_returns
    exact ⟨rfl, below_but hB⟩
theorem holds8_take {w : World} {g : Nat} {l : List UInt8} (h : Holds8 w g l) (n : Nat) : Holds8 w g (l.take n) := by
  intro q hq
  have : q < l.length := by rw [List.length_take] at hq; omega
  rw [List.getElem_take]
  exact h q this
theorem holds8_put {w : World} {g : Nat} {l : List UInt8} (h : Holds8 w g l) (q : Nat) (hq : q < l.length) (x : Int) (y : UInt8) (hx : x = (y.toNat : Int)) : Holds8 (w.setCell ⟨g, q, none⟩ (.int .u8 x)) g (l.set q y) := by
  subst hx; exact holds8_set h q hq y
theorem slice_ten (g n : Nat) (hn : n < 10) (v : World) : (Instr.sliceAt 51 (.pointer (some ⟨g, 0, none⟩)) none (some (.int .i64 ((n : Int) + 1))) none).run Tryd.prog v = .ok (.slice (some ⟨g, 0, none⟩) (n + 1) 10) v := by
  have hL : Tryd.prog.arrayLen 51 = 10 := by kernel_rfl
  have hE : Tryd.prog.elem 51 = 5 := by kernel_rfl
  have ht : Tryd.prog.underlying 51 = some (.array (Tryd.prog.arrayLen 51) (Tryd.prog.elem 51)) := by rw [hL, hE]; exact Tryd.underlying51
  rw [run_sliceAt_array_h v _ _ ht .i64 _ (by omega) (by rw [hL]; omega), hE, Tryd.sizeOf5 v, hL]
  have : ((n : Int) + 1).toNat = n + 1 := by omega
  simp [slicedAt, this, go_sem]
set_option maxRecDepth 100000 in
set_option maxHeartbeats 1000000 in
theorem putuint_any (N : Nat) (hN : N < 2 ^ 64) (w : World) :
    Calls Tryd.prog 15 #[.int .u64 (N : Int)] w fun e w' => e = .returned (.string ⟨(Code.uvar N).toArray⟩) ∧ Below w.heap.size w w' := by
  have hlen := Code.uvar_ten hN
  go_enter Tryd.func15, Tryd.ntmps15
  go_wp2
  go_loopw [0, 4] (fun n d wr => ∃ (pre : List UInt8) (cur : Nat), cur < 2 ^ 64 ∧ Code.uvar N = pre ++ Code.uvar cur ∧ n = .int .u64 (cur : Int) ∧ d = .int .i64 (pre.length : Int) ∧ Holds8 wr w.heap.size (pre ++ List.replicate (10 - pre.length) 0) ∧ Below w.heap.size w wr ∧ w.heap.size < wr.heap.size) (fun n _ _ => (intOf n).toNat)
  case atStart =>
    refine ⟨[], N, hN, rfl, rfl, rfl, ?_, below_alloc _ _, by simp⟩
    intro q hq
    have hq : q < 10 := by simpa using hq
    refine ⟨?_, World.frozen?_alloc_new _ _ _ _⟩
    rw [World.cell?_alloc_new]
    rcases (show q = 0 ∨ q = 1 ∨ q = 2 ∨ q = 3 ∨ q = 4 ∨ q = 5 ∨ q = 6 ∨ q = 7 ∨ q = 8 ∨ q = 9 by omega) with rfl | rfl | rfl | rfl | rfl | rfl | rfl | rfl | rfl | rfl <;> rfl
  case round =>
    obtain ⟨pre, cur, hcur, hU, rfl, rfl, hH, hB, hsz⟩ := hrel
    have hul := Code.uvar_len cur
    have hpl : pre.length + (Code.uvar cur).length ≤ 10 := by rw [hU, List.length_append] at hlen; exact hlen
    have hx := hH pre.length (by simp; omega)
    have hset : ∀ (y : UInt8), (pre ++ List.replicate (10 - pre.length) 0).set pre.length y = (pre ++ [y]) ++ List.replicate (10 - (pre ++ [y]).length) 0 := fun y => by
      rw [List.set_append_right _ _ (Nat.le_refl _), Nat.sub_self, List.length_append, List.append_assoc]
      have e : 10 - pre.length = (10 - (pre.length + [y].length)) + 1 := by simp; omega
      rw [e, List.replicate_succ]; rfl
    by_cases hs : cur < 128
    · have hs' : (cur : Int) < 128 := by omega
      rw [Code.uvar_small hs] at hU
      have hP := holds8_take (holds8_put hH pre.length (by simp; omega) (cur : Int) (UInt8.ofNat cur) (by rw [UInt8.toNat_ofNat']; omega)) (pre.length + 1)
      have e : ((pre ++ List.replicate (10 - pre.length) 0).set pre.length (UInt8.ofNat cur)).take (pre.length + 1) = Code.uvar N := by
        rw [hset, List.take_append_of_le_length (by simp), List.take_of_length_le (by simp), hU]
      rw [e] at hP
      have hcv := holds8_text hP (pre.length + 1) 10 (by rw [hU]; simp)
      have hsl := slice_ten w.heap.size pre.length (by omega) (wr.setCell ⟨w.heap.size, pre.length, none⟩ (.int .u8 (cur : Int)))
      obtain ⟨hx1, hx2⟩ := hx
      clear hH hP e hset hU
      go_wp2
      go_ret
      exact ⟨rfl, hB.setCell (by simp) _⟩
    · have hs' : 128 ≤ (cur : Int) := by omega
      obtain ⟨hx1, hx2⟩ := hx
      have HS := Lib.hid hset
      have HH := Lib.hid hH
      have HU := Lib.hid hU
      clear hset hH hU
      go_wp2
      go_roundw
      case rel =>
        have ey : bits .or .u8 ((cur : Int) % 256) 128 = ((UInt8.ofNat (cur % 128 + 128)).toNat : Int) := by
          have := or128 (cur % 256) (by omega)
          rw [show ((cur % 256 : Nat) : Int) = (cur : Int) % 256 by omega] at this
          rw [this, UInt8.toNat_ofNat']; omega
        refine ⟨pre ++ [UInt8.ofNat (cur % 128 + 128)], cur / 128, by omega, ?_, by go_num, by simp, ?_, hB.setCell (by simp) _, by simpa using hsz⟩
        · rw [HU.out, Code.uvar_great hs]; simp
        · rw [← HS.out]
          exact holds8_put HH.out pre.length (by simp; omega) _ _ ey
      case measure => simp [intOf]; omega
theorem text_one (v : World) (y : UInt8) (x : Int) (hx : x = (y.toNat : Int)) (t : TypeId) : (convert 53 9 (.slice (some ⟨v.heap.size, 0, none⟩) 1 1)).run Tryd.prog (v.alloc (.cells #[.int .u8 x] t)) = .ok (.string ⟨#[y]⟩) (v.alloc (.cells #[.int .u8 x] t)) := by
  subst hx
  refine holds8_text (l := [y]) ?_ 1 1 rfl
  intro q hq
  have : q = 0 := by simpa using hq
  subst this
  exact ⟨by rw [World.cell?_alloc_new]; rfl, World.frozen?_alloc_new _ _ _ _⟩
set_option maxRecDepth 100000 in
set_option maxHeartbeats 1000000 in
theorem refputuint_any (N : Nat) (hN : N < 2 ^ 64) (w : World) :
    Calls Tryd.prog 16 #[.int .u64 (N : Int)] w fun e w' => e = .returned (.string ⟨(Code.uvar N).toArray⟩) ∧ Below w.heap.size w w' := by
  have hlen := Code.uvar_ten hN
  go_enter Tryd.func16, Tryd.ntmps16
  go_wp2
  go_loopw [0, 3] (fun n d wr => ∃ (pre : List UInt8) (cur : Nat), cur < 2 ^ 64 ∧ Code.uvar N = pre ++ Code.uvar cur ∧ n = .int .u64 (cur : Int) ∧ d = .string ⟨pre.toArray⟩ ∧ Below w.heap.size w wr) (fun n _ _ => (intOf n).toNat)
  case atStart => exact ⟨[], N, hN, rfl, rfl, rfl, Below.refl _ _⟩
  case round =>
    obtain ⟨pre, cur, hcur, hU, rfl, rfl, hB⟩ := hrel
    by_cases hs : cur < 128
    · have hs' : (cur : Int) < 128 := by omega
      have hcv := text_one wr (UInt8.ofNat cur) (cur : Int) (by rw [UInt8.toNat_ofNat']; omega) 5
      have hpl : pre.length + 1 ≤ 10 := by
        have := Code.uvar_len cur
        rw [hU, List.length_append] at hlen; omega
      rw [Code.uvar_small hs] at hU
      have HU := Lib.hid hU
      clear hU
      go_wp2
      go_ret
      refine ⟨?_, hB.alloc hB.size _⟩
      rw [HU.out]
      congr 1
    · have hs' : 128 ≤ (cur : Int) := by omega
      have hpl : pre.length + 1 ≤ 10 := by
        have := Code.uvar_len cur
        rw [hU, List.length_append] at hlen; omega
      rw [Code.uvar_great hs] at hU
      obtain ⟨y, hY⟩ := named (UInt8.ofNat (cur % 128 + 128))
      rw [← hY.out] at hU
      have hcv := text_one wr y ((cur : Int) % 128 + 128) (by rw [hY.out, UInt8.toNat_ofNat']; omega) 5
      have HU := Lib.hid hU
      clear hU
      go_wp2
      go_roundw
      case rel => exact ⟨pre ++ [y], cur / 128, by omega, by rw [HU.out]; simp, by go_num, rfl, hB.alloc hB.size _⟩
      case measure => simp [intOf]; omega
theorem getD_byte (s : ByteArray) (k : Nat) (h : k < s.size) : s.data.toList.getD k 0 = s[k] := by
  rw [List.getD_eq_getElem?_getD, Lib.data_getElem? s k h]; rfl
theorem drop_byte (s : ByteArray) (k : Nat) (h : k < s.size) : s.data.toList.drop k = s[k] :: s.data.toList.drop (k + 1) := List.drop_eq_getElem_cons (by simpa using h)
set_option maxRecDepth 100000 in
set_option maxHeartbeats 2000000 in
theorem refuint_any (s : ByteArray) (hs : s.size ≤ maxLen) (w : World) :
    Calls Tryd.prog 14 #[.string s] w fun e w' =>
      e = .returned (.tuple #[.int .u64 ((Code.rd 0 s.data.toList).1 : Int), .int .i64 ((Code.rd 0 s.data.toList).2.1 : Int), .int .i64 ((Code.rd 0 s.data.toList).2.2 : Int)]) ∧ w' = w := by
  unfold maxLen at hs
  have hfit := Code.rd_fits s.data.toList
  obtain ⟨R, HR⟩ := named (Code.rd 0 s.data.toList)
  rw [← HR.out] at hfit ⊢
  go_enter Tryd.func14, Tryd.ntmps14
  go_wp2
  go_loop [5] (fun d => ∃ k : Nat, k ≤ s.size ∧ k ≤ 10 ∧ d = .int .i64 (k : Int) ∧ (∀ i, i < k → 128 ≤ (s.data.toList.getD i 0).toNat)) (fun d => 10 - (intOf d).toNat)
  case atStart => exact ⟨0, by omega, by omega, rfl, fun i h => by omega⟩
  case round =>
    obtain ⟨k, hk, hk10, rfl, hlead⟩ := hrel
    have hL := Lib.hid hlead
    clear hlead
    by_cases hend : k = s.size
    · by_cases h10 : k < 10
      · go_wp2
        go_returns
        have hR := HR.out
        rw [Code.rd_lead _ k (by omega) (by simp; omega) hL.out, List.drop_eq_nil_of_le (by simp; omega), Code.lift_nil] at hR
        rw [hR]; exact ⟨rfl, rfl⟩
      · have h10' : k = 10 := by omega
        subst h10'
        have hlen : s.size = 10 := hend.symm
        clear hend
        go_wp2
        go_returns
        have hR := HR.out
        have h9 := hL.out 9 (by omega)
        rw [Code.rd_lead _ 9 (by omega) (by simp; omega) (fun i hi => hL.out i (by omega)), drop_byte s 9 (by omega), Code.lift_form _ _ _ (Or.inr ⟨by rw [← getD_byte s 9 (by omega)]; omega, rfl⟩)] at hR
        rw [hR]; exact ⟨rfl, rfl⟩
    · have hlt : k < s.size := by omega
      by_cases h10 : k = 10
      · subst h10
        go_wp2
        go_returns
        have hR := HR.out
        have h9 := hL.out 9 (by omega)
        rw [Code.rd_lead _ 9 (by omega) (by simp; omega) (fun i hi => hL.out i (by omega)), drop_byte s 9 (by omega), Code.lift_form _ _ _ (Or.inr ⟨by rw [← getD_byte s 9 (by omega)]; omega, rfl⟩)] at hR
        rw [hR]; exact ⟨rfl, rfl⟩
      · have hlt10 : k < 10 := by omega
        obtain ⟨c, hC⟩ := named s[k]
        have hcl := UInt8.toNat_lt c
        have HC := Lib.hid hC.out.symm
        have hc0 := hC.out.symm
        by_cases hbig : 128 ≤ c.toNat
        · have hbig' : 128 ≤ (c.toNat : Int) := by omega
          go_wp2
          go_round
          case rel =>
            refine ⟨k + 1, by omega, by omega, by go_num, fun i hi => ?_⟩
            by_cases h : i = k
            · subst h; rw [getD_byte s _ hlt, HC.out]; exact hbig
            · exact hL.out i (by omega)
          case measure => simp [intOf]; omega
        · have hbig' : (c.toNat : Int) < 128 := by omega
          by_cases hf1 : 0 < k ∧ c.toNat = 0
          · obtain ⟨h1, h2⟩ := hf1
            have H2 := Lib.hid h2
            go_wp2
            go_returns
            have hR := HR.out
            rw [Code.rd_lead _ k (by omega) (by simp; omega) hL.out, drop_byte s k hlt, HC.out, Code.lift_form _ _ _ (Or.inl ⟨H2.out, h1⟩)] at hR
            rw [hR]; exact ⟨rfl, rfl⟩
          by_cases hf2 : k = 9 ∧ 1 < c.toNat
          · obtain ⟨rfl, h2⟩ := hf2
            have h2' : 1 < (c.toNat : Int) := by omega
            go_wp2
            go_returns
            have hR := HR.out
            rw [Code.rd_lead _ 9 (by omega) (by simp; omega) hL.out, drop_byte s 9 hlt, HC.out, Code.lift_form _ _ _ (Or.inr ⟨h2, rfl⟩)] at hR
            rw [hR]; exact ⟨rfl, rfl⟩
          have hR : R = (Code.accOf s.data.toList k + 128 ^ k * c.toNat, k + 1, 0) := by
            have hR := HR.out
            rw [Code.rd_lead _ k (by omega) (by simp; omega) hL.out, drop_byte s k hlt, HC.out, Code.lift_last _ _ _ (by omega) (by omega)] at hR
            exact hR
          have HT := Lib.hid hR
          clear hR
          have htop : Code.accOf s.data.toList (k + 1) = R.1 := by
            rw [HT.out, Code.accOf, getD_byte s k hlt, HC.out, Nat.mod_eq_of_lt (by omega)]
          have HA := Lib.hid htop
          have HFit := Lib.hid hfit
          clear htop hfit
          have hkk : (c.toNat = 0 ∧ (k : Int) ≤ 0) ∨ (k = 9 ∧ c.toNat = 1) ∨ (((c.toNat : Int) == 0) = false ∧ ((k : Int) == 9) = false) := by
            by_cases hz : c.toNat = 0
            · exact Or.inl ⟨hz, by omega⟩
            by_cases h1 : k = 9
            · exact Or.inr (Or.inl ⟨h1, by omega⟩)
            · exact Or.inr (Or.inr ⟨beq_eq_false_iff_ne.2 (by omega), beq_eq_false_iff_ne.2 (by omega)⟩)
          obtain ⟨K, hK⟩ : ∃ K, K = k + 1 := ⟨_, rfl⟩
          have hKs : K ≤ s.size := by omega
          rw [← hK] at HA
          have hfin : ((R.1 : Int) = R.1 ∧ (R.2.1 : Int) = (K : Int) ∧ (R.2.2 : Int) = 0) := by rw [HT.out]; exact ⟨rfl, by rw [hK], rfl⟩
          have HF := Lib.hid hfin
          have hkK : (k : Int) = (K : Int) - 1 := by omega
          clear hfin HT
          have HK := Lib.hid hkK
          clear hkK hK
          rcases hkk with ⟨hz, hk0⟩ | ⟨rfl, h1⟩ | ⟨hz, hk9⟩
          all_goals clear hC hf1 hf2
          all_goals go_wp2
          all_goals
            go_loop [6, 7] (fun n d => ∃ j m : Nat, j ≤ K ∧ n = .int .u64 (m : Int) ∧ d = .int .i64 ((j : Int) - 1) ∧ m * 128 ^ j + Code.accOf s.data.toList j = R.1) (fun _ d => (intOf d + 1).toNat)
            case atStart => exact ⟨K, 0, by omega, rfl, by have := HK.out; congr 1, by rw [Nat.zero_mul, Nat.zero_add]; exact HA.out⟩
            case round =>
              obtain ⟨j, m, hj, rfl, rfl, hm⟩ := hrel
              cases j with
              | zero =>
                go_wp2
                go_returns
                have e1 : m = R.1 := by simpa [Code.accOf] using hm
                have e2 : (R.2.1 : Int) = ((K : Int) - 1) + 1 := by have := HF.out.2.1; omega
                rw [← HK.out] at e2
                rw [e2, HF.out.2.2, e1]
                exact ⟨rfl, rfl⟩
              | succ j =>
                have hd : ((j + 1 : Nat) : Int) - 1 = (j : Int) := by omega
                rw [hd]
                have hjs : j < s.size := by omega
                rw [Code.accOf, getD_byte s j hjs, Nat.pow_succ, ← Nat.mul_assoc, Nat.mul_right_comm, ← Nat.add_assoc, Nat.add_right_comm, Nat.mul_comm (128 ^ j), ← Nat.add_mul] at hm
                have hb := HFit.out
                have hle : m * 128 + s[j].toNat % 128 ≤ R.1 := by
                  have := Nat.mul_le_mul_left (m * 128 + s[j].toNat % 128) (Nat.pow_pos (n := j) (show 0 < 128 by omega))
                  omega
                have HM := Lib.hid hm
                clear hm
                go_wp2
                go_round
                case rel =>
                  refine ⟨j, m * 128 + s[j].toNat % 128, by omega, ?_, rfl, HM.out⟩
                  go_num
                case measure => first | (simp [intOf]; done) | (simp [intOf]; omega)
end Go.Proofs.YtfmdjlhoikedpaaDoor
