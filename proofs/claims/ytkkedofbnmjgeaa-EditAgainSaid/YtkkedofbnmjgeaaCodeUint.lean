/-
  The contracts of code.Uint, code.PutUint and of the document's own: each answers the plain mathematics' short number. Condition: a text of a length that there is; a number of 64 bits.
-/
import Derived.Test.YtkkedofbnmjgeaaCodeCur
import Derived.Test.YtkkedofbnmjgeaaHolds
import Derived.Outline
namespace Go.Proofs.Ytkkedofbnmjgeaa
set_option maxRecDepth 100000
open Go.RowKit
theorem makes_func : ∀ (fn : Fn) (first cap : Array Value) (w : World), (Instr.makeFunc fn first cap).run Try.prog w = .ok (.func fn first cap) w := fun _ _ _ _ => rfl
theorem cur_new (w : World) (s : ByteArray) (t : TypeId) : CurAt (w.alloc (.cells #[.string s, .int .i64 0] t)) w.heap.size s 0 :=
  ⟨by rw [World.cell?_alloc_new]; rfl, by rw [World.cell?_alloc_new]; rfl, World.frozen?_alloc_new _ _ _ _⟩
theorem below_but {w w' : World} {o : Obj} (h : But w.heap.size (w.alloc o) w') : Below w.heap.size w w' := (below_alloc w o).trans (h.below (Nat.le_refl _) (by simp))
set_option maxRecDepth 100000 in
set_option maxHeartbeats 1000000 in
theorem uint_any (s : ByteArray) (hs : s.size ≤ maxLen) (w : World) :
    Calls Try.prog 64 #[.string s] w fun e w' =>
      e = .returned (.tuple #[.int .u64 ((Code.rd 0 s.data.toList).1 : Int), .int .i64 ((Code.rd 0 s.data.toList).2.1 : Int), .int .i64 ((Code.rd 0 s.data.toList).2.2 : Int)]) ∧ Below w.heap.size w w' := by
  have hmf := makes_func
  have hn := number_any s hs w.heap.size 0 _ (cur_new w s 117) (by omega)
  rw [List.drop_zero] at hn
  have hE := Code.rd_err 0 s.data.toList
  obtain ⟨⟨n, k, e⟩, HR⟩ := named (Code.rd 0 s.data.toList)
  rw [← HR.out] at hn hE ⊢
  have HN := Lib.hid hn
  clear hn
  go_enter Try.func64, Try.ntmps64
  go_wp2
  refine wp_scope_fwd 0 rfl ?_
  go_wp2_with fail
  refine HN.out.mono ?_
  rintro e' w' ⟨rfl, hc, hB⟩
  rcases hE with h0 | ⟨h67, h1, h2⟩
  · have h0 : e = 0 := h0
    subst h0
    obtain ⟨c0, c1, f1⟩ := hc rfl
    clear hc
    simp only [Nat.zero_add] at c1
    go_wp2
    go_quiet (fail)
    go_wp2
    rw [jump_ret]
    go_returns
    exact ⟨rfl, below_but hB.drewN⟩
  · have h67 : e = 6 ∨ e = 7 := h67
    have h1 : n = 0 := h1
    have h2 : k = 0 := h2
    subst h1 h2
    have hz : ((e : Int) == 0) = false := beq_eq_false_iff_ne.2 (by omega)
    clear hc
    go_wp2
    go_step3
    refine ⟨rfl, ?_⟩
    go_wp2
    rw [Exit.noGoto_ret]
    go_returns
    exact ⟨rfl, below_but hB⟩
theorem holds8_take {w : World} {g : Nat} {l : List UInt8} (h : Holds8 w g l) (n : Nat) : Holds8 w g (l.take n) := by
  intro q hq
  have : q < l.length := by rw [List.length_take] at hq; omega
  rw [List.getElem_take]
  exact h q this
theorem holds8_put {w : World} {g : Nat} {l : List UInt8} (h : Holds8 w g l) (q : Nat) (hq : q < l.length) (x : Int) (y : UInt8) (hx : x = (y.toNat : Int)) : Holds8 (w.setCell ⟨g, q, none⟩ (.int .u8 x)) g (l.set q y) := by
  subst hx; exact holds8_set h q hq y
theorem slice_ten (g n : Nat) (hn : n < 10) (v : World) : (Instr.sliceAt 111 (.pointer (some ⟨g, 0, none⟩)) none (some (.int .i64 ((n : Int) + 1))) none).run Try.prog v = .ok (.slice (some ⟨g, 0, none⟩) (n + 1) 10) v := by
  have hL : Try.prog.arrayLen 111 = 10 := by kernel_rfl
  have hE : Try.prog.elem 111 = 5 := by kernel_rfl
  have ht : Try.prog.underlying 111 = some (.array (Try.prog.arrayLen 111) (Try.prog.elem 111)) := by rw [hL, hE]; exact Try.underlying111
  rw [run_sliceAt_array_h v _ _ ht .i64 _ (by omega) (by rw [hL]; omega), hE, Try.sizeOf5 v, hL]
  have : ((n : Int) + 1).toNat = n + 1 := by omega
  simp [slicedAt, this, go_sem]
set_option maxRecDepth 100000 in
set_option maxHeartbeats 1000000 in
theorem putuint_any (N : Nat) (hN : N < 2 ^ 64) (w : World) :
    Calls Try.prog 52 #[.int .u64 (N : Int)] w fun e w' => e = .returned (.string ⟨(Code.uvar N).toArray⟩) ∧ Below w.heap.size w w' := by
  have hlen := Code.uvar_ten hN
  go_enter Try.func52, Try.ntmps52
  go_wp2
  go_loopw [0, 4] (fun n d wr => ∃ (pre : List UInt8) (cur : Nat), cur < 2 ^ 64 ∧ Code.uvar N = pre ++ Code.uvar cur ∧ n = .int .u64 (cur : Int) ∧ d = .int .i64 (pre.length : Int) ∧ Holds8 wr w.heap.size (pre ++ List.replicate (10 - pre.length) 0) ∧ Below w.heap.size w wr ∧ w.heap.size < wr.heap.size) (fun n _ _ => (intOf n).toNat)
  case atStart =>
    refine ⟨[], N, hN, rfl, rfl, rfl, ?_, below_alloc _ _, by simp⟩
    intro q hq
    have hq : q < 10 := by simpa using hq
    refine ⟨?_, World.frozen?_alloc_new _ _ _ _⟩
    rw [World.cell?_alloc_new]
    rcases (show q = 0 ∨ q = 1 ∨ q = 2 ∨ q = 3 ∨ q = 4 ∨ q = 5 ∨ q = 6 ∨ q = 7 ∨ q = 8 ∨ q = 9 by omega) with rfl | rfl | rfl | rfl | rfl | rfl | rfl | rfl | rfl | rfl <;> rfl
  case round =>
    obtain ⟨pre, cur, hcur, hU, rfl, rfl, hH, hB, hsz⟩ := hrel
    have hul := Code.uvar_len cur
    have hpl : pre.length + (Code.uvar cur).length ≤ 10 := by rw [hU, List.length_append] at hlen; exact hlen
    have hx := hH pre.length (by simp; omega)
    have hset : ∀ (y : UInt8), (pre ++ List.replicate (10 - pre.length) 0).set pre.length y = (pre ++ [y]) ++ List.replicate (10 - (pre ++ [y]).length) 0 := fun y => by
      rw [List.set_append_right _ _ (Nat.le_refl _), Nat.sub_self, List.length_append, List.append_assoc]
      have e : 10 - pre.length = (10 - (pre.length + [y].length)) + 1 := by simp; omega
      rw [e, List.replicate_succ]; rfl
    by_cases hs : cur < 128
    · have hs' : (cur : Int) < 128 := by omega
      rw [Code.uvar_small hs] at hU
      have hP := holds8_take (holds8_put hH pre.length (by simp; omega) (cur : Int) (UInt8.ofNat cur) (by rw [UInt8.toNat_ofNat']; omega)) (pre.length + 1)
      have e : ((pre ++ List.replicate (10 - pre.length) 0).set pre.length (UInt8.ofNat cur)).take (pre.length + 1) = Code.uvar N := by
        rw [hset, List.take_append_of_le_length (by simp), List.take_of_length_le (by simp), hU]
      rw [e] at hP
      have hcv := holds8_text hP (pre.length + 1) 10 (by rw [hU]; simp)
      have hsl := slice_ten w.heap.size pre.length (by omega) (wr.setCell ⟨w.heap.size, pre.length, none⟩ (.int .u8 (cur : Int)))
      obtain ⟨hx1, hx2⟩ := hx
      clear hH hP e hset hU
      go_wp2
      go_ret
      exact ⟨rfl, hB.setCell (by simp) _⟩
    · have hs' : 128 ≤ (cur : Int) := by omega
      obtain ⟨hx1, hx2⟩ := hx
      have HS := Lib.hid hset
      have HH := Lib.hid hH
      have HU := Lib.hid hU
      clear hset hH hU
      go_wp2
      go_roundw
      case rel =>
        have ey : bits .or .u8 ((cur : Int) % 256) 128 = ((UInt8.ofNat (cur % 128 + 128)).toNat : Int) := by
          have := or128 (cur % 256) (by omega)
          rw [show ((cur % 256 : Nat) : Int) = (cur : Int) % 256 by omega] at this
          rw [this, UInt8.toNat_ofNat']; omega
        refine ⟨pre ++ [UInt8.ofNat (cur % 128 + 128)], cur / 128, by omega, ?_, by go_num, by simp, ?_, hB.setCell (by simp) _, by simpa using hsz⟩
        · rw [HU.out, Code.uvar_great hs]; simp
        · rw [← HS.out]
          exact holds8_put HH.out pre.length (by simp; omega) _ _ ey
      case measure => simp [intOf]; omega
theorem text_one (v : World) (y : UInt8) (x : Int) (hx : x = (y.toNat : Int)) (t : TypeId) : (convert 84 9 (.slice (some ⟨v.heap.size, 0, none⟩) 1 1)).run Try.prog (v.alloc (.cells #[.int .u8 x] t)) = .ok (.string ⟨#[y]⟩) (v.alloc (.cells #[.int .u8 x] t)) := by
  subst hx
  refine holds8_text (l := [y]) ?_ 1 1 rfl
  intro q hq
  have : q = 0 := by simpa using hq
  subst this
  exact ⟨by rw [World.cell?_alloc_new]; rfl, World.frozen?_alloc_new _ _ _ _⟩
theorem getD_byte (s : ByteArray) (k : Nat) (h : k < s.size) : s.data.toList.getD k 0 = s[k] := by
  rw [List.getD_eq_getElem?_getD, Lib.data_getElem? s k h]; rfl
theorem drop_byte (s : ByteArray) (k : Nat) (h : k < s.size) : s.data.toList.drop k = s[k] :: s.data.toList.drop (k + 1) := List.drop_eq_getElem_cons (by simpa using h)
end Go.Proofs.Ytkkedofbnmjgeaa
