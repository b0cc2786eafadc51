/-
  The contracts of the program's Make, over the plain filter. Condition: at most 65536 keys where a filter is made, and texts of a length that there is.
-/
import Derived.Test.YtmjakkemiiigpaaPack2
import Derived.Deep.RegionWith
import Derived.BigRegion
import Derived.Laws.DeepStrings4
import Derived.Handy
import Derived.Test.YtmjakkemiiigpaaShelf
namespace Go.Proofs.Ytmjakkemiiigpaa
set_option maxRecDepth 100000
open Go.RowKit
theorem info8b : (Try.prog.info? 5).map (fun i => (i.zero, i.size, i.bytes)) = some (some (.int .u8 0), 1, 1) := by kernel_rfl
theorem or_code (c : UInt8) (q : Nat) (hq : q < 8) : bits .or .u8 (c.toNat : Int) (2 ^ q % 256) = ((c ||| Blm.bit q).toNat : Int) := by
  have : ∀ (c : Fin 256) (q : Fin 8), bits .or .u8 (c.val : Int) (2 ^ q.val % 256) = ((UInt8.ofNat c.val ||| Blm.bit q.val).toNat : Int) := by decide +kernel
  have := this ⟨c.toNat, UInt8.toNat_lt c⟩ ⟨q, hq⟩
  simpa using this
/-- What stands while bits are set. -/
structure Fill (w0 : World) (g g2 : Nat) (n : Nat) (hd : UInt8) (l : List UInt8) (u : World) : Prop where
  below : Below w0.heap.size w0 u
  hold : Holds8 u g (hd :: l)
  size : l.length = n
  box : Boxed u g2 49 (.slice (some ⟨g, 1, none⟩) n n)
  lo : w0.heap.size ≤ g
  lt : g < g2
theorem Fill.grow {w0 u u' : World} {g g2 n : Nat} {hd : UInt8} {l : List UInt8} (h : Fill w0 g g2 n hd l u) (hb : Below u.heap.size u u') : Fill w0 g g2 n hd l u' :=
  ⟨h.below.trans (hb.mono h.below.size), holds8_below hb (by have := h.box.lt; have := h.lt; omega) h.hold, h.size, (hb.block g2 h.box.lt).trans h.box, h.lo, h.lt⟩
theorem Fill.put {w0 u : World} {g g2 n : Nat} {hd : UInt8} {l : List UInt8} (h : Fill w0 g g2 n hd l u) (p : Nat) (hp : p < l.length) (c : UInt8) : Fill w0 g g2 n hd (l.set p c) (u.setCell ⟨g, 1 + p, none⟩ (.int .u8 (c.toNat : Int))) := by
  rw [Nat.add_comm 1 p]
  exact ⟨h.below.setCell h.lo _, holds8_set h.hold (p + 1) (by simp; omega) c, by simp [h.size], (Below.heap_setCell u _ _ g2 (Nat.ne_of_gt h.lt)).trans h.box, h.lo, h.lt⟩
theorem fillClo_any (w0 : World) (g g2 n : Nat) (hd : UInt8) (l : List UInt8) (u : World) (h : Fill w0 g g2 n hd l u) (hn : n ≤ 268435456) (p q : Nat) (hp : p < n) (hq : q < 8) :
    Calls Try.prog 79 #[.int .u32 (p : Int), .int .u32 (q : Int), .pointer (some ⟨g2, 0, none⟩)] u fun e w' => e = .returned (.bool true) ∧ Fill w0 g g2 n hd (l.set p (l[p]?.getD 0 ||| Blm.bit q)) w' := by
  have hpl : p < l.length := by rw [h.size]; exact hp
  have x1 := h.box.cell
  obtain ⟨x2, x3⟩ := h.hold (p + 1) (by simp; omega)
  rw [List.getElem_cons_succ] at x2
  have ec : (⟨g, p + 1, none⟩ : Addr) = ⟨g, 1 + p, none⟩ := by rw [Nat.add_comm]
  rw [ec] at x2 x3
  rw [List.getElem?_eq_getElem hpl, Option.getD_some]
  obtain ⟨c, hc⟩ := named l[p]
  rw [← hc.out] at x2 ⊢
  have ho := or_code c q hq
  have P := Lib.hid (h.put p hpl (c ||| Blm.bit q))
  have i1 : (p : Int) < (n : Int) := by omega
  have i2 : (0 : Int) ≤ (p : Int) := by omega
  have i3 : (q : Int) < 8 := by omega
  have i4 : (0 : Int) ≤ (q : Int) := by omega
  clear h hc
  go_enter Try.func79, Try.ntmps79
  go_wp2
  go_returns
  exact ⟨rfl, P.out⟩
theorem fillClo_enters : ∀ (args : Array Value) (w : World), (callFunc 79 args).run Try.prog w = .ok (.enter 79 args) w := enters_of Try.func79 (by kernel_rfl) rfl
theorem fill_key (key : ByteArray) (hkey : key.size ≤ maxLen) (k : Nat) (hk : k ≤ 1000) (w0 : World) (g g2 n : Nat) (hn : 0 < n) (hn2 : n ≤ 268435456) (hd : UInt8) (l : List UInt8) (w : World) (h : Fill w0 g g2 n hd l w) :
    Calls Try.prog 70 #[.string key, .int .i64 (k : Int), .int .i64 (n : Int), .func (.func 79) #[] #[.pointer (some ⟨g2, 0, none⟩)]] w fun e w' => e = .returned (.tuple #[]) ∧ Fill w0 g g2 n hd (Blm.addK (8 * n) key.data.toList k l) w' := by
  refine (probe_any key hkey k n hk hn hn2 79 _ fillClo_enters w
    (fun i u => Fill w0 g g2 n hd (Blm.addK (8 * n) key.data.toList i l) u) (fun _ => False) (fun u hb => h.grow hb) ?_).mono ?_
  · rintro i u hi hl
    have hp := Blm.pos_lt (m := 8 * n) (by omega) key.data.toList i
    refine (fillClo_any w0 g g2 n hd _ u hl hn2 (Blm.pos (8 * n) key.data.toList i / 8) (Blm.pos (8 * n) key.data.toList i % 8) (by omega) (by omega)).mono ?_
    rintro e w' ⟨rfl, h'⟩
    exact ⟨true, rfl, fun _ => h', fun e => by cases e⟩
  · rintro e w' ⟨rfl, h' | h'⟩
    · exact ⟨rfl, h'⟩
    · exact h'.elim
set_option maxHeartbeats 4000000 in
theorem filter_any (bits : Nat) (hb1 : 1 ≤ bits) (hb2 : bits ≤ 32) (a : Option Addr) (n c b o : Nat) (X : List ByteArray) (w : World) (ht : TextsAt a n c b o X w) (hX : ∀ x ∈ X, x.size ≤ maxLen) (hn : n ≤ 65536) :
    Calls Try.prog 54 #[.int .i64 (bits : Int), .slice a n c] w fun e w' => e = .returned (.string ⟨(Blm.text (X.map fun x => x.data.toList) bits).toArray⟩) ∧ Below w.heap.size w w' := by
  obtain ⟨W8, hW8⟩ := named (Blm.wide n bits)
  obtain ⟨K, hK⟩ := named (Blm.probes bits)
  have w1 : 8 ≤ W8 := by rw [hW8.out]; exact Blm.wide_pos _ _
  have w2 : W8 ≤ 262144 := by rw [hW8.out]; exact Blm.wide_le _ _ hn hb2
  have k1 : 1 ≤ K := by rw [hK.out]; exact Blm.probes_pos _
  have k2 : K ≤ 22 := by rw [hK.out]; exact Blm.probes_le _ hb2
  have hmul : n * bits ≤ 65536 * 32 := Nat.mul_le_mul hn hb2
  obtain ⟨P, hP⟩ := named (n * bits)
  rw [← hP.out] at hmul
  have hPi : (n : Int) * (bits : Int) = (P : Int) := by rw [hP.out]; push_cast; rfl
  have e1 : ∀ (ts : Array TypeId) (t : TypeId) (u : World), (Builtin.max_ ts t #[.int .i64 ((bits : Int) * 7 / 10), .int .i64 1]).run Try.prog u = .ok (.int .i64 (K : Int)) u := by
    intro ts t u
    rw [run_max_int2, hK.out]
    have e : (if (1 : Int) > (bits : Int) * 7 / 10 then (1 : Int) else (bits : Int) * 7 / 10) = ((Blm.probes bits : Nat) : Int) := by unfold Blm.probes; split <;> omega
    rw [e]
  have e2 : ∀ (ts : Array TypeId) (t : TypeId) (u : World), (Builtin.max_ ts t #[.int .i64 (((P : Int) + 7) / 8), .int .i64 8]).run Try.prog u = .ok (.int .i64 (W8 : Int)) u := by
    intro ts t u
    rw [run_max_int2, hW8.out]
    have e : (if (8 : Int) > ((P : Int) + 7) / 8 then (8 : Int) else ((P : Int) + 7) / 8) = ((Blm.wide n bits : Nat) : Int) := by unfold Blm.wide; rw [← hP.out]; split <;> omega
    rw [e]
  obtain ⟨i0, hi, hz0, hz1, hz2⟩ := info_parts info8b
  have hmk : ∀ u : World, (Instr.makeSlice 49 (.int .i64 (1 + (W8 : Int))) (.int .i64 (1 + (W8 : Int)))).run Try.prog u =
      .ok (.slice (some ⟨u.heap.size, 0, none⟩) (W8 + 1) (W8 + 1)) (u.alloc (.cells (madeCells #[.int .u8 0] (W8 + 1)) 5)) := fun u => by
    have h := run_make (P := Try.prog) u 49 5 i0 (.int .u8 0) Try.underlying49 hi hz0 .i64 .i64 (1 + (W8 : Int)) (1 + (W8 : Int)) (by omega) (Int.le_refl _) (by rw [hz2]; omega) (by omega)
    rw [show (1 + (W8 : Int)).toNat = W8 + 1 by omega] at h
    simpa [hz1, Value.cells] using h
  clear hi hz0 hz1 hz2
  go_enter Try.func54, Try.ntmps54
  go_upto_region 3 with fail
  have z1 := holds8_zeros w (W8 + 1)
  have z2 := below_alloc w (.cells (madeCells #[.int .u8 0] (W8 + 1)) 5)
  have z3 : w.heap.size < (w.alloc (.cells (madeCells #[.int .u8 0] (W8 + 1)) 5)).heap.size := by simp
  generalize w.alloc (.cells (madeCells #[.int .u8 0] (W8 + 1)) 5) = W1 at z1 z2 z3 ⊢
  obtain ⟨y1, y2⟩ := z1 0 (by simp)
  rw [List.getElem_replicate] at y1
  have hK8 : (K : Int) = ((UInt8.ofNat K).toNat : Int) := by
    rw [UInt8.toNat_ofNat']; omega
  have z4 := holds8_set z1 0 (by simp) (UInt8.ofNat K)
  rw [← hK8, List.replicate_succ, List.set_cons_zero] at z4
  have Z1 := Lib.hid z4
  have Z2 := Lib.hid (z2.setCell (p := ⟨w.heap.size, 0, none⟩) (Nat.le_refl _) (.int .u8 (K : Int)))
  have Z3 : Hid (w.heap.size < (W1.setCell ⟨w.heap.size, 0, none⟩ (.int .u8 (K : Int))).heap.size) := Lib.hid (by simpa using z3)
  clear z1 z2 z3 z4 hK8 hmk e1 e2
  go_upto_region 5 with fail
  obtain ⟨g2, hg2⟩ := named W1.heap.size
  have F : Hid (Fill w w.heap.size g2 W8 (UInt8.ofNat K) (Blm.filt K W8 ((X.take 0).map fun x => x.data.toList)) ((W1.setCell ⟨w.heap.size, 0, none⟩ (.int .u8 (K : Int))).alloc (.cells #[.slice (some ⟨w.heap.size, 1, none⟩) W8 W8] 49))) := by
    have hs : (W1.setCell ⟨w.heap.size, 0, none⟩ (.int .u8 (K : Int))).heap.size = W1.heap.size := by simp
    have z3 : w.heap.size < W1.heap.size := by rw [← hs]; exact Z3.out
    refine Lib.hid ⟨Z2.out.alloc (by rw [hs]; omega) _, ?_, Blm.filt_length _ _ _, ?_, Nat.le_refl _, by rw [hg2.out]; exact z3⟩
    · exact holds8_alloc (w := W1.setCell ⟨w.heap.size, 0, none⟩ (.int .u8 (K : Int))) (l := UInt8.ofNat K :: List.replicate W8 0) Z1.out (by rw [hs]; exact z3) _
    · have := Boxed.new (W1.setCell ⟨w.heap.size, 0, none⟩ (.int .u8 (K : Int))) 49 (.slice (some ⟨w.heap.size, 1, none⟩) W8 W8)
      rw [hs, ← hg2.out] at this
      exact this
  rw [← hg2.out]
  generalize (W1.setCell ⟨w.heap.size, 0, none⟩ (.int .u8 (K : Int))).alloc (.cells #[.slice (some ⟨w.heap.size, 1, none⟩) W8 W8] 49) = W2 at F ⊢
  clear Z1 Z2 Z3 y1 y2 hg2
  have hXl : X.length = n := ht.len
  have HT := Lib.hid ht
  have HX := Lib.hid hX
  have HL := Lib.hid hXl
  have CK := Lib.hid (fun (key : ByteArray) (hkey : key.size ≤ maxLen) (l : List UInt8) (u : World) (h : Fill w w.heap.size g2 W8 (UInt8.ofNat K) l u) => Lib.hid (fill_key key hkey K (by omega) w w.heap.size g2 W8 (by omega) (by omega) (UInt8.ofNat K) l u h))
  clear ht hX hXl
  go_wp2
  go_loopw [31] (fun d wr => ∃ i : Nat, i ≤ n ∧ d = .int .i64 i ∧ Hid (Fill w w.heap.size g2 W8 (UInt8.ofNat K) (Blm.filt K W8 ((X.take i).map fun x => x.data.toList)) wr)) (fun d _ => n - (intOf d).toNat)
  case atStart => exact ⟨0, by omega, rfl, F⟩
  case round =>
    obtain ⟨i, hi, rfl, hF⟩ := hrel
    by_cases hlt : i < n
    · have hiX : i < X.length := by rw [HL.out]; exact hlt
      have hc := HT.out.cell hiX
      obtain ⟨ha, hbl⟩ := HT.out.addr (by omega)
      have hc' := (hF.out.below.cell (p := ⟨b, o + i, none⟩) hbl).trans hc
      obtain ⟨x, hx⟩ := named X[i]
      rw [← hx.out] at hc'
      have hxs : x.size ≤ maxLen := HX.out x (by rw [hx.out]; exact List.getElem_mem hiX)
      have C := CK.out x hxs _ wr hF.out
      have i1 : (i : Int) < (n : Int) := by omega
      have i2 : (0 : Int) ≤ (i : Int) := by omega
      have x1 := hF.out.box.cell
      have hnext : Hid (Blm.filt K W8 ((X.take (i + 1)).map fun x => x.data.toList) = Blm.addK (8 * W8) x.data.toList K (Blm.filt K W8 ((X.take i).map fun x => x.data.toList))) := by
        rw [List.take_succ_eq_append_getElem hiX, List.map_append, List.map_singleton, Blm.filt_snoc, ← hx.out]
        exact Lib.hid rfl
      subst ha
      clear hc hbl hxs
      go_wp2_with (go_at_call 70; ((with_reducible refine C.out.mono ?_); rintro e w3 ⟨rfl, f3⟩))
      go_roundw
      case rel => exact ⟨i + 1, by omega, by go_num, by rw [hnext.out]; exact Lib.hid f3⟩
      case measure => simp [intOf]; omega
    · obtain rfl : i = n := by omega
      have hcv := holds8_text hF.out.hold (W8 + 1) (W8 + 1) (by rw [List.length_cons, hF.out.size])
      have hti : X.take i = X := List.take_of_length_le (by rw [HL.out]; exact Nat.le_refl _)
      rw [hti] at hcv
      clear hti
      have hB := Lib.hid hF.out.below
      have hend : Hid (UInt8.ofNat K :: Blm.filt K W8 (X.map fun x => x.data.toList) = Blm.text (X.map fun x => x.data.toList) bits) := by
        unfold Blm.text
        rw [← hK.out, List.length_map, HL.out, ← hW8.out]
        exact Lib.hid rfl
      rw [hend.out] at hcv
      obtain ⟨T, hT⟩ := named (Blm.text (X.map fun x => x.data.toList) bits)
      rw [← hT.out] at hcv
      go_wp2
      go_returns
      exact ⟨by rw [← hT.out]; rfl, hB.out⟩
theorem make_good (bits : Nat) (hb1 : 1 ≤ bits) (hb2 : bits ≤ 32) (a : Option Addr) (n c b o : Nat) (X : List ByteArray) (w : World) (ht : TextsAt a n c b o X w) (hX : ∀ x ∈ X, x.size ≤ maxLen) (hn : n ≤ 65536) :
    Calls Try.prog 22 #[.slice a n c, .int .i64 (bits : Int)] w fun e w' => e = .returned (.tuple #[.string ⟨(Blm.text (X.map fun x => x.data.toList) bits).toArray⟩, .int .i64 0]) ∧ Below w.heap.size w w' := by
  have C := Lib.hid (filter_any bits hb1 hb2 a n c b o X w ht hX hn)
  clear ht hX
  go_enter Try.func22, Try.ntmps22
  go_wp2_with (go_at_call 54; ((with_reducible refine C.out.mono ?_); rintro e w1 ⟨rfl, hb⟩))
  go_returns
  exact ⟨rfl, hb⟩
theorem make_arg (bits : Int) (hb : bits < 1 ∨ 32 < bits) (v : Value) (w : World) :
    Calls Try.prog 22 #[v, .int .i64 bits] w fun e w' => e = .returned (.tuple #[.string ⟨#[]⟩, .int .i64 2]) ∧ w' = w := by
  rcases hb with h | h
  · go_enter Try.func22, Try.ntmps22
    go_wp2
    go_returns
    exact ⟨rfl, rfl⟩
  · have h1 : 1 ≤ bits := by omega
    go_enter Try.func22, Try.ntmps22
    go_wp2
    go_returns
    exact ⟨rfl, rfl⟩
end Go.Proofs.Ytmjakkemiiigpaa
/-
  Plain mathematics of the check sum, more: four bytes of a register; one bit turned in a list of bytes, and up to 32 of them in a row; four lists whose bits are even. No condition.
-/
namespace Go.Proofs.Ytmjakkemiiigpaa.Crc
/-- The register that a list of at most four bytes lays on, the first byte lowest. -/
def join : List UInt8 → BitVec 32
  | [] => 0#32
  | c :: l => c.toBitVec.setWidth 32 ^^^ (join l <<< 8)
theorem wide_high (c : UInt8) (j : Nat) (h : 8 ≤ j) : (c.toBitVec.setWidth 32).getLsbD j = false := by
  rw [BitVec.getLsbD_setWidth, BitVec.getLsbD_of_ge _ _ h, Bool.and_false]
theorem join_high (l : List UInt8) (j : Nat) (h : 8 * l.length ≤ j) : (join l).getLsbD j = false := by
  induction l generalizing j with
  | nil => simp [join]
  | cons c l ih =>
    simp only [List.length_cons] at h
    rw [join, BitVec.getLsbD_xor, wide_high c j (by omega), BitVec.getLsbD_shiftLeft, ih (j - 8) (by omega)]
    simp
theorem run_join (l : List UInt8) (r : BitVec 32) (h : l.length ≤ 4) : run r l = steps (8 * l.length) (r ^^^ join l) := by
  induction l generalizing r with
  | nil => simp [join, steps, run, fold]
  | cons c l ih =>
    simp only [List.length_cons] at h
    have e : run r (c :: l) = run (byte r c) l := rfl
    rw [e, ih _ (by omega)]
    have hs : steps 8 (join l <<< 8) = join l := steps_shl 8 _ (fun j hj => join_high l j (by omega))
    have e2 : byte r c ^^^ join l = steps 8 (r ^^^ join (c :: l)) := by
      rw [join, ← BitVec.xor_assoc, steps_xor, hs]; rfl
    rw [e2, ← steps_add, List.length_cons]
    congr 1
theorem low_bit (r : BitVec 32) (i j : Nat) : ((low r i).toBitVec.setWidth 32).getLsbD j = (decide (j < 8) && r.getLsbD (8 * i + j)) := by
  unfold low
  rw [BitVec.getLsbD_setWidth]
  show (decide (j < 32) && ((r >>> (8 * i)).setWidth 8).getLsbD j) = _
  rw [BitVec.getLsbD_setWidth, BitVec.getLsbD_ushiftRight]
  by_cases h : j < 8
  · simp [h, show j < 32 by omega]
  · simp [h]
theorem join_four (r : BitVec 32) : join (four r) = r := by
  apply BitVec.eq_of_getLsbD_eq
  intro j hj
  simp only [four, join, BitVec.getLsbD_xor, BitVec.getLsbD_shiftLeft, low_bit, BitVec.getLsbD_zero, hj, decide_true, Bool.true_and]
  rcases (show j < 8 ∨ (8 ≤ j ∧ j < 16) ∨ (16 ≤ j ∧ j < 24) ∨ 24 ≤ j by omega) with h | ⟨h, h'⟩ | ⟨h, h'⟩ | h
  · simp [h]
  · simp [show ¬ j < 8 by omega, show j - 8 < 8 by omega, show j - 8 < 32 by omega, show 8 + (j - 8) = j by omega]
  · simp [show ¬ j < 8 by omega, show ¬ j - 8 < 8 by omega, show j - 8 - 8 < 8 by omega, show j - 8 < 32 by omega, show j - 8 - 8 < 32 by omega, show 16 + (j - 8 - 8) = j by omega]
  · simp [show ¬ j < 8 by omega, show ¬ j - 8 < 8 by omega, show ¬ j - 8 - 8 < 8 by omega, show j - 8 - 8 - 8 < 8 by omega, show j - 8 < 32 by omega, show j - 8 - 8 < 32 by omega, show j - 8 - 8 - 8 < 32 by omega, show 24 + (j - 8 - 8 - 8) = j by omega]
theorem inv_eq (a : BitVec 32) : inv a = a ^^^ BitVec.allOnes 32 := by unfold inv; rw [BitVec.xor_allOnes]
/-- What the sum of bytes with their own sum behind them is. -/
theorem more_sealed (s : BitVec 32) (l : List UInt8) : more s (l ++ four (more s l)) = inv (steps 32 (BitVec.allOnes 32)) := by
  unfold more
  congr 1
  rw [run_append, run_join _ _ (by simp [four]), join_four]
  generalize run (inv s) l = a
  have : a ^^^ inv a = BitVec.allOnes 32 := by rw [inv_eq, ← BitVec.xor_assoc, BitVec.xor_self, BitVec.zero_xor]
  rw [this]; rfl

theorem byte_reg (a b : BitVec 32) (c : UInt8) : byte (a ^^^ b) c = byte a c ^^^ steps 8 b := by
  unfold byte
  rw [← steps_xor]
  congr 1
  rw [BitVec.xor_assoc, BitVec.xor_assoc, BitVec.xor_comm b]
theorem run_reg (l : List UInt8) (a b : BitVec 32) : run (a ^^^ b) l = run a l ^^^ steps (8 * l.length) b := by
  induction l generalizing a b with
  | nil => rfl
  | cons c l ih =>
    have e : ∀ r, run r (c :: l) = run (byte r c) l := fun _ => rfl
    rw [e, e, byte_reg, ih, ← steps_add, List.length_cons]
    congr 1
theorem byte_turn (r : BitVec 32) (x c : UInt8) : byte r (x ^^^ c) = byte r x ^^^ steps 8 (c.toBitVec.setWidth 32) := by
  unfold byte
  rw [← steps_xor, wide_xor, BitVec.xor_assoc]
/-- One byte's bits turned. -/
theorem run_turn (l : List UInt8) (q : Nat) (c : UInt8) (r : BitVec 32) (h : q < l.length) : run r (l.modify q (· ^^^ c)) = run r l ^^^ steps (8 * (l.length - q)) (c.toBitVec.setWidth 32) := by
  induction l generalizing q r with
  | nil => simp at h
  | cons x l ih =>
    have e : ∀ r x, run r (x :: l) = run (byte r x) l := fun _ _ => rfl
    cases q with
    | zero =>
      show run r ((x ^^^ c) :: l) = _
      rw [e, e, byte_turn, run_reg, ← steps_add]
      congr 1
    | succ q =>
      simp only [List.length_cons] at h
      show run r (x :: l.modify q (· ^^^ c)) = _
      have e2 : run r (x :: l.modify q (· ^^^ c)) = run (byte r x) (l.modify q (· ^^^ c)) := rfl
      rw [e2, e, ih q _ (by omega), List.length_cons]
      congr 2
      omega
/-- The one bit p of a byte. -/
def bit (p : Nat) : UInt8 := UInt8.ofNat (2 ^ p)
theorem wide_bit (p : Nat) (h : p < 8) : (bit p).toBitVec.setWidth 32 = 1#32 <<< p := by
  rcases (show p = 0 ∨ p = 1 ∨ p = 2 ∨ p = 3 ∨ p = 4 ∨ p = 5 ∨ p = 6 ∨ p = 7 by omega) with rfl | rfl | rfl | rfl | rfl | rfl | rfl | rfl <;> decide
theorem steps_one (p n : Nat) (h : p ≤ n) (h32 : p < 32) : steps n (1#32 <<< p) = steps (n - p) 1#32 := by
  have e : n = (n - p) + p := by omega
  have hs : steps p (1#32 <<< p) = 1#32 := by
    apply steps_shl
    intro j hj
    rw [BitVec.getLsbD_one]
    simp; omega
  have e2 : steps n (1#32 <<< p) = steps ((n - p) + p) (1#32 <<< p) := congrArg (fun m => steps m (1#32 <<< p)) e
  rw [e2, steps_add, hs]
/-- Bits turned from place k on: of the pattern's bits the first n. -/
def burst (l : List UInt8) (k : Nat) (p : BitVec 32) : Nat → List UInt8
  | 0 => l
  | n + 1 => if p.getLsbD n then (burst l k p n).modify ((k + n) / 8) (· ^^^ bit ((k + n) % 8)) else burst l k p n
theorem burst_length (l : List UInt8) (k : Nat) (p : BitVec 32) (n : Nat) : (burst l k p n).length = l.length := by
  induction n with
  | zero => rfl
  | succ n ih => unfold burst; split <;> simp [ih]
/-- The pattern's first n bits. -/
def firsts (p : BitVec 32) : Nat → BitVec 32
  | 0 => 0#32
  | n + 1 => if p.getLsbD n then firsts p n ^^^ (1#32 <<< n) else firsts p n
theorem firsts_bit (p : BitVec 32) (n j : Nat) (hn : n ≤ 32) : (firsts p n).getLsbD j = (decide (j < n) && p.getLsbD j) := by
  induction n with
  | zero => simp [firsts]
  | succ n ih =>
    have h1 : (1#32 <<< n).getLsbD j = decide (j = n) := by
      rw [BitVec.getLsbD_shiftLeft, BitVec.getLsbD_one]
      by_cases h : j = n
      · subst h; simp; omega
      · by_cases h2 : j < n
        · simp [h, h2]
        · simp [h, show ¬ j - n = 0 by omega]
    unfold firsts
    split
    · rename_i hp
      rw [BitVec.getLsbD_xor, ih (by omega), h1]
      by_cases h : j = n
      · subst h; simp [hp]
      · by_cases h2 : j < n
        · simp [h, h2, show j < n + 1 by omega]
        · simp [h, h2, show ¬ j < n + 1 by omega]
    · rename_i hp
      rw [ih (by omega)]
      by_cases h : j = n
      · subst h; simp at hp; simp [hp]
      · by_cases h2 : j < n
        · simp [h2, show j < n + 1 by omega]
        · simp [h2, show ¬ j < n + 1 by omega]
theorem firsts_all (p : BitVec 32) : firsts p 32 = p := by
  apply BitVec.eq_of_getLsbD_eq
  intro j hj
  rw [firsts_bit p 32 j (by omega)]; simp [hj]
theorem run_burst (l : List UInt8) (k : Nat) (p : BitVec 32) (r : BitVec 32) (hk : k + 32 ≤ 8 * l.length) (n : Nat) (hn : n ≤ 32) : run r (burst l k p n) = run r l ^^^ steps (8 * l.length - k) (firsts p n) := by
  induction n with
  | zero => simp [burst, firsts, steps_zero]
  | succ n ih =>
    unfold burst firsts
    split
    · rw [run_turn _ _ _ _ (by rw [burst_length]; omega), ih (by omega), burst_length, wide_bit _ (by omega), steps_xor, BitVec.xor_assoc]
      congr 2
      rw [steps_one _ _ (by omega) (by omega), steps_one _ _ (by omega) (by omega)]
      congr 1
      omega
    · exact ih (by omega)
theorem more_burst (l : List UInt8) (k : Nat) (p : BitVec 32) (s : BitVec 32) (hk : k + 32 ≤ 8 * l.length) (hp : p ≠ 0#32) : more s (burst l k p 32) ≠ more s l := by
  intro h
  have h1 := inv_inj h
  rw [run_burst l k p _ hk 32 (by omega), firsts_all] at h1
  have h2 : steps (8 * l.length - k) p = 0#32 := by
    have h3 : run (inv s) l ^^^ (run (inv s) l ^^^ steps (8 * l.length - k) p) = run (inv s) l ^^^ run (inv s) l := by rw [h1]
    rw [← BitVec.xor_assoc, BitVec.xor_self, BitVec.zero_xor] at h3
    exact h3
  exact hp (steps_inj _ (by rw [h2, steps_zero]))
/-- Byte by byte exclusive or of three lists. -/
def odd (a b c : List UInt8) : List UInt8 := List.zipWith (· ^^^ ·) (List.zipWith (· ^^^ ·) a b) c
theorem more_four (s : BitVec 32) (a b c : List UInt8) (hab : a.length = b.length) (hbc : b.length = c.length) : more s a ^^^ more s b ^^^ more s c ^^^ more s (odd a b c) = 0#32 := by
  have h1 : run (inv s) (odd a b c) = run (inv s) a ^^^ run (inv s) b ^^^ run (inv s) c := by
    unfold odd
    have e : inv s = (inv s ^^^ inv s) ^^^ inv s := by simp
    rw [← run_xor a b _ _ hab, ← run_xor _ c _ _ (by simp [hab, hbc])]
    rw [← e]
  unfold more
  rw [h1]
  generalize run (inv s) a = x
  generalize run (inv s) b = y
  generalize run (inv s) c = z
  rw [inv_eq x, inv_eq y, inv_eq z, inv_eq (x ^^^ y ^^^ z)]
  generalize BitVec.allOnes 32 = o
  apply BitVec.eq_of_getLsbD_eq
  intro j _
  simp only [BitVec.getLsbD_xor, BitVec.getLsbD_zero]
  generalize x.getLsbD j = x
  generalize y.getLsbD j = y
  generalize z.getLsbD j = z
  generalize o.getLsbD j = o
  cases x <;> cases y <;> cases z <;> cases o <;> rfl
end Go.Proofs.Ytmjakkemiiigpaa.Crc
/-
  Frames: plain mathematics. No model's run in this text. No condition.
-/
namespace Go.Proofs.Ytmjakkemiiigpaa.Frame
open Go.Proofs.Ytmjakkemiiigpaa.Code
abbrev Bs := List UInt8
/-- The four bytes behind what they seal. -/
def seal' (l : Bs) : Bs := Crc.four (Crc.more 0#32 l)
theorem seal_length (l : Bs) : (seal' l).length = 4 := rfl
def body (p : Bs) : Bs := uvar p.length ++ p
def put (p : Bs) : Bs := body p ++ seal' (body p)
/-- What is read at the beginning of bytes: a payload, how many bytes its frame has, and the error's number. -/
def get (s : Bs) : Bs × Nat × Nat :=
  if (rd 0 s).2.2 ≠ 0 then ([], 0, (rd 0 s).2.2) else
  if 65536 < (rd 0 s).1 then ([], 0, 3) else
  if s.length < (rd 0 s).2.1 + (rd 0 s).1 + 4 then ([], 0, 6) else
  if seal' (s.take ((rd 0 s).2.1 + (rd 0 s).1)) ≠ (s.drop ((rd 0 s).2.1 + (rd 0 s).1)).take 4 then ([], 0, 7) else
  ((s.drop (rd 0 s).2.1).take (rd 0 s).1, (rd 0 s).2.1 + (rd 0 s).1 + 4, 0)
theorem put_length (p : Bs) : (put p).length = (uvar p.length).length + p.length + 4 := by
  unfold put body; rw [List.length_append, List.length_append, seal_length]
theorem get_put (p t : Bs) (hp : p.length ≤ 65536) : get (put p ++ t) = (p, (put p).length, 0) := by
  have e : put p ++ t = uvar p.length ++ (p ++ (seal' (body p) ++ t)) := by unfold put body; simp
  have hr : rd 0 (put p ++ t) = (p.length, (uvar p.length).length, 0) := by
    rw [e]; exact rd_uvar p.length 0 _ (by omega) (by omega) (by omega)
  have hl := put_length p
  have e2 : put p ++ t = body p ++ (seal' (body p) ++ t) := by unfold put; simp
  have hb : (body p).length = (uvar p.length).length + p.length := by unfold body; simp
  unfold get
  rw [hr]
  simp only
  rw [if_neg (by simp), if_neg (by omega), if_neg (by rw [List.length_append]; omega), ← hb]
  have t1 : (put p ++ t).take (body p).length = body p := by rw [e2]; exact List.take_left
  have t2 : ((put p ++ t).drop (body p).length).take 4 = seal' (body p) := by
    rw [e2, List.drop_left]
    show List.take (seal' (body p)).length _ = _
    exact List.take_left
  rw [t1, t2, if_neg (by simp)]
  have t3 : ((put p ++ t).drop (uvar p.length).length).take p.length = p := by
    rw [e, List.drop_left]; exact List.take_left
  rw [t3, hl, hb]
theorem get_err (s : Bs) : (get s).2.2 = 0 ∨ ((get s).2.2 = 3 ∨ (get s).2.2 = 6 ∨ (get s).2.2 = 7) ∧ (get s).1 = [] ∧ (get s).2.1 = 0 := by
  unfold get
  by_cases h1 : (rd 0 s).2.2 = 0
  · rw [if_neg (by simpa using h1)]
    split
    · simp
    · split
      · simp
      · split <;> simp
  · rw [if_pos h1]
    have := rd_err 0 s
    rcases this with h | ⟨h, _⟩
    · exact absurd h h1
    · rcases h with h | h <;> simp [h]
/-- What is got is what is put of its payload. -/
theorem put_get (s : Bs) (h : (get s).2.2 = 0) : 5 ≤ (get s).2.1 ∧ (get s).2.1 ≤ s.length ∧ (get s).1.length ≤ 65536 ∧ put (get s).1 = s.take (get s).2.1 := by
  unfold get at h ⊢
  by_cases h1 : (rd 0 s).2.2 = 0
  · rw [if_neg (by simpa using h1)] at h ⊢
    by_cases h2 : 65536 < (rd 0 s).1
    · rw [if_pos h2] at h; cases h
    · rw [if_neg h2] at h ⊢
      by_cases h3 : s.length < (rd 0 s).2.1 + (rd 0 s).1 + 4
      · rw [if_pos h3] at h; cases h
      · rw [if_neg h3] at h ⊢
        by_cases h4 : seal' (s.take ((rd 0 s).2.1 + (rd 0 s).1)) = (s.drop ((rd 0 s).2.1 + (rd 0 s).1)).take 4
        · rw [if_neg (by simpa using h4)] at h ⊢
          obtain ⟨u1, u2, u3, _, _⟩ := uvar_rd s 0 (by omega) h1
          have hl : ((s.drop (rd 0 s).2.1).take (rd 0 s).1).length = (rd 0 s).1 := by rw [List.length_take, List.length_drop]; omega
          show 5 ≤ (rd 0 s).2.1 + (rd 0 s).1 + 4 ∧ (rd 0 s).2.1 + (rd 0 s).1 + 4 ≤ s.length ∧ ((s.drop (rd 0 s).2.1).take (rd 0 s).1).length ≤ 65536 ∧ put ((s.drop (rd 0 s).2.1).take (rd 0 s).1) = s.take ((rd 0 s).2.1 + (rd 0 s).1 + 4)
          refine ⟨by omega, by omega, by rw [hl]; omega, ?_⟩
          have hb : body ((s.drop (rd 0 s).2.1).take (rd 0 s).1) = s.take ((rd 0 s).2.1 + (rd 0 s).1) := by
            unfold body
            rw [hl, ← u3, List.take_add]
          unfold put
          rw [hb, h4]
          exact (List.take_add (l := s) (i := (rd 0 s).2.1 + (rd 0 s).1) (j := 4)).symm
        · rw [if_pos h4] at h; cases h
  · rw [if_pos h1] at h
    exact absurd h h1
theorem get_behind (s t : Bs) (h : (get s).2.2 = 0) : get (s.take (get s).2.1 ++ t) = get s := by
  obtain ⟨h5, hl, hp, he⟩ := put_get s h
  rw [← he, get_put _ _ hp]
  have : (put (get s).1).length = (get s).2.1 := by rw [he, List.length_take]; omega
  rw [this]
  exact Prod.ext rfl (Prod.ext rfl h.symm)
theorem get_cut (p : Bs) (hp : p.length ≤ 65536) (k : Nat) (hk : k < (put p).length) : get ((put p).take k) = ([], 0, 6) := by
  have hl := put_length p
  have h10 := uvar_ten (n := p.length) (by omega)
  by_cases hu : k < (uvar p.length).length
  · have e : (put p).take k = (uvar p.length).take k := by
      unfold put body
      rw [List.append_assoc, List.take_append_of_le_length (by omega)]
    rw [e]
    have hr := rd_cut p.length 0 k (by omega) hu
    unfold get
    rw [hr]; simp
  · have e : (put p).take k = uvar p.length ++ ((p ++ seal' (body p)).take (k - (uvar p.length).length)) := by
      unfold put
      have : body p ++ seal' (body p) = uvar p.length ++ (p ++ seal' (body p)) := by unfold body; simp
      rw [this, List.take_append, List.take_of_length_le (by omega)]
    have hr : rd 0 ((put p).take k) = (p.length, (uvar p.length).length, 0) := by
      rw [e]; exact rd_uvar p.length 0 _ (by omega) (by omega) (by omega)
    unfold get
    rw [hr]
    simp only
    rw [if_neg (by simp), if_neg (by omega), if_pos (by rw [List.length_take]; omega)]
/-- Frames one behind the other: payloads, how many bytes, and the error's number of what stands behind. -/
def all : Nat → Bs → List Bs × Nat × Nat
  | 0, _ => ([], 0, 0)
  | f + 1, s => if s = [] then ([], 0, 0) else if (get s).2.2 ≠ 0 then ([], 0, (get s).2.2) else
      ((get s).1 :: (all f (s.drop (get s).2.1)).1, (get s).2.1 + (all f (s.drop (get s).2.1)).2.1, (all f (s.drop (get s).2.1)).2.2)
theorem all_succ (f : Nat) (s : Bs) : all (f + 1) s = if s = [] then ([], 0, 0) else if (get s).2.2 ≠ 0 then ([], 0, (get s).2.2) else
      ((get s).1 :: (all f (s.drop (get s).2.1)).1, (get s).2.1 + (all f (s.drop (get s).2.1)).2.1, (all f (s.drop (get s).2.1)).2.2) := rfl
theorem all_fuel : ∀ (f g : Nat) (s : Bs), s.length ≤ f → s.length ≤ g → all f s = all g s
  | 0, 0, _, _, _ => rfl
  | 0, g + 1, s, h, _ => by
    obtain rfl := List.length_eq_zero_iff.1 (Nat.le_zero.1 h)
    simp [all]
  | f + 1, 0, s, _, h => by
    obtain rfl := List.length_eq_zero_iff.1 (Nat.le_zero.1 h)
    simp [all]
  | f + 1, g + 1, s, hf, hg => by
    rw [all_succ, all_succ]
    by_cases h0 : s = []
    · rw [if_pos h0, if_pos h0]
    · rw [if_neg h0, if_neg h0]
      by_cases h1 : (get s).2.2 = 0
      · rw [if_neg (by simpa using h1), if_neg (by simpa using h1)]
        obtain ⟨h5, hl, _, _⟩ := put_get s h1
        rw [all_fuel f g (s.drop (get s).2.1) (by rw [List.length_drop]; omega) (by rw [List.length_drop]; omega)]
      · rw [if_pos h1, if_pos h1]
/-- What All answers. -/
def alls (s : Bs) : List Bs × Nat × Nat := all s.length s
theorem alls_nil : alls [] = ([], 0, 0) := rfl
theorem alls_err {s : Bs} (h0 : s ≠ []) (h : (get s).2.2 ≠ 0) : alls s = ([], 0, (get s).2.2) := by
  unfold alls
  obtain ⟨n, hn⟩ : ∃ n, s.length = n + 1 := ⟨s.length - 1, by have := List.length_pos_iff.2 h0; omega⟩
  rw [hn, all_succ, if_neg h0, if_pos h]
theorem alls_one {s : Bs} (h : (get s).2.2 = 0) : alls s = ((get s).1 :: (alls (s.drop (get s).2.1)).1, (get s).2.1 + (alls (s.drop (get s).2.1)).2.1, (alls (s.drop (get s).2.1)).2.2) := by
  obtain ⟨h5, hl, _, _⟩ := put_get s h
  have h0 : s ≠ [] := by rintro rfl; simp at hl; omega
  unfold alls
  obtain ⟨n, hn⟩ : ∃ n, s.length = n + 1 := ⟨s.length - 1, by omega⟩
  rw [hn, all_succ, if_neg h0, if_neg (by simpa using h), all_fuel n _ _ (by rw [List.length_drop]; omega) (Nat.le_refl _)]
theorem alls_put (p t : Bs) (hp : p.length ≤ 65536) : alls (put p ++ t) = (p :: (alls t).1, (put p).length + (alls t).2.1, (alls t).2.2) := by
  have hg := get_put p t hp
  rw [alls_one (by rw [hg]), hg]
  simp only [List.drop_left]
/-- Whole frames with any bytes behind them. -/
theorem alls_behind (n : Nat) : ∀ (s t : Bs), s.length ≤ n → alls (s.take (alls s).2.1 ++ t) = ((alls s).1 ++ (alls t).1, (alls s).2.1 + (alls t).2.1, (alls t).2.2) := by
  induction n with
  | zero =>
    intro s t h
    obtain rfl := List.length_eq_zero_iff.1 (Nat.le_zero.1 h)
    rw [alls_nil]; simp
  | succ n ih =>
    intro s t h
    by_cases h0 : s = []
    · subst h0; rw [alls_nil]; simp
    · by_cases h1 : (get s).2.2 = 0
      · obtain ⟨h5, hl, hp, he⟩ := put_get s h1
        have hpl : (put (get s).1).length = (get s).2.1 := by rw [he, List.length_take]; omega
        have i := ih (s.drop (get s).2.1) t (by rw [List.length_drop]; omega)
        rw [alls_one h1]
        have e : s.take ((get s).2.1 + (alls (s.drop (get s).2.1)).2.1) = put (get s).1 ++ (s.drop (get s).2.1).take (alls (s.drop (get s).2.1)).2.1 := by
          rw [List.take_add, he]
        simp only
        rw [e, List.append_assoc, alls_put _ _ hp, i, hpl]
        simp [Nat.add_assoc]
      · rw [alls_err h0 h1]
        simp
def puts (l : List Bs) : Bs := l.flatMap put
/-- Of frames, cut anywhere, those that are whole are told. -/
theorem alls_cut : ∀ (l : List Bs) (k : Nat), (∀ p ∈ l, p.length ≤ 65536) → k ≤ (puts l).length →
    ∃ n, n ≤ l.length ∧ (puts (l.take n)).length ≤ k ∧ (n < l.length → k < (puts (l.take (n + 1))).length) ∧
      alls ((puts l).take k) = (l.take n, (puts (l.take n)).length, if (puts (l.take n)).length = k then 0 else 6)
  | [], k, _, hk => ⟨0, by simp, by simp [puts], by simp, by
      have : k = 0 := by simpa [puts] using hk
      subst this; simp [puts, alls_nil]⟩
  | p :: l, k, h, hk => by
    have hp := h p (by simp)
    have hc : puts (p :: l) = put p ++ puts l := by simp [puts]
    by_cases hlt : k < (put p).length
    · refine ⟨0, by simp, by simp [puts], fun _ => by simpa [puts] using hlt, ?_⟩
      have e : (puts (p :: l)).take k = (put p).take k := by rw [hc, List.take_append_of_le_length (by omega)]
      rw [e]
      by_cases h0 : k = 0
      · subst h0; simp [puts, alls_nil]
      · have hg := get_cut p hp k hlt
        have hne : (put p).take k ≠ [] := by
          intro e
          have := congrArg List.length e
          rw [List.length_take, List.length_nil] at this
          omega
        rw [alls_err hne (by rw [hg]; simp), hg]
        have : ¬ (puts (List.take 0 (p :: l))).length = k := fun e => h0 (by rw [← e]; rfl)
        rw [if_neg this]; simp [puts]
    · have hk2 : k - (put p).length ≤ (puts l).length := by rw [hc, List.length_append] at hk; omega
      obtain ⟨n, h1, h2, h3, h4⟩ := alls_cut l (k - (put p).length) (fun q hq => h q (by simp [hq])) hk2
      have e : (puts (p :: l)).take k = put p ++ (puts l).take (k - (put p).length) := by
        rw [hc, List.take_append, List.take_of_length_le (by omega)]
      have e2 : ∀ j, (puts ((p :: l).take (j + 1))).length = (put p).length + (puts (l.take j)).length := fun j => by simp [puts]
      refine ⟨n + 1, by simpa using h1, by rw [e2]; omega, fun hn => by rw [e2]; have := h3 (by simpa using hn); omega, ?_⟩
      rw [e, alls_put p _ hp, h4, e2]
      have : ((puts (l.take n)).length = k - (put p).length) = ((put p).length + (puts (l.take n)).length = k) := propext (by omega)
      simp only [this]
      simp
end Go.Proofs.Ytmjakkemiiigpaa.Frame
/-
  The contracts of the document's own Uint and PutUint. Condition: as those of the program's.
-/
namespace Go.Proofs.Ytmjakkemiiigpaa
set_option maxRecDepth 100000
open Go.RowKit
end Go.Proofs.Ytmjakkemiiigpaa
/-
  The contracts of the document's own Size, seal, Put and Get of frames: each answers the plain mathematics. Condition: a text of a length that there is.
-/
namespace Go.Proofs.Ytmjakkemiiigpaa
set_option maxRecDepth 100000
open Go.RowKit
theorem frame_len (x : ByteArray) : x.data.toList.length = x.size := by simp
theorem frame_size (l : List UInt8) : (⟨l.toArray⟩ : ByteArray).size = l.length := by show l.toArray.size = _; simp
/-- How many bytes the frame of a payload has. -/
def sizeOf (n : Int) : Int := if n < 0 ∨ 65536 < n then 0 else if n < 128 then n + 5 else if n < 16384 then n + 6 else n + 7
theorem frame_low (m : BitVec 32) (i : Nat) : Crc.low m i = UInt8.ofNat (m.toNat / 2 ^ (8 * i)) := by
  apply UInt8.toNat_inj.1
  unfold Crc.low
  rw [UInt8.toNat_ofNat']
  show ((m >>> (8 * i)).setWidth 8).toNat = _
  rw [BitVec.toNat_setWidth, BitVec.toNat_ushiftRight, Nat.shiftRight_eq_div_pow]
theorem four_conv (v : World) (c0 c1 c2 c3 : Int) : (convert 49 9 (.slice (some ⟨v.heap.size, 0, none⟩) 4 4)).run Try.prog (v.alloc (.cells #[.int .u8 c0, .int .u8 c1, .int .u8 c2, .int .u8 c3] 5)) =
    .ok (.string (strOfNums [c0, c1, c2, c3])) (v.alloc (.cells #[.int .u8 c0, .int .u8 c1, .int .u8 c2, .int .u8 c3] 5)) := by
  refine run_convert_bytes_arg _ 49 5 Try.underlying49 Try.underlying5 _ 0 4 4 [c0, c1, c2, c3] rfl ?_ 9 Try.underlying9
  intro i hi
  rw [Nat.zero_add, World.cell?_alloc_new]
  rcases (show i = 0 ∨ i = 1 ∨ i = 2 ∨ i = 3 by omega) with rfl | rfl | rfl | rfl <;> rfl
theorem four_bytes (m : BitVec 32) (c0 c1 c2 c3 : Int) (h0 : c0.toNat % 256 = m.toNat % 256) (h1 : c1.toNat % 256 = m.toNat / 256 % 256) (h2 : c2.toNat % 256 = m.toNat / 65536 % 256) (h3 : c3.toNat % 256 = m.toNat / 16777216 % 256) :
    strOfNums [c0, c1, c2, c3] = ⟨(Crc.four m).toArray⟩ := by
  have e : ∀ x y : Nat, x % 256 = y % 256 → UInt8.ofNat x = UInt8.ofNat y := fun x y h => by
    apply UInt8.toNat_inj.1; rw [UInt8.toNat_ofNat', UInt8.toNat_ofNat']; exact h
  unfold strOfNums Crc.four
  simp only [List.map_cons, List.map_nil, frame_low]
  rw [e c0.toNat (m.toNat / 2 ^ (8 * 0)) (by simpa using h0), e c1.toNat (m.toNat / 2 ^ (8 * 1)) h1, e c2.toNat (m.toNat / 2 ^ (8 * 2)) h2, e c3.toNat (m.toNat / 2 ^ (8 * 3)) h3]
theorem frame_cat (a b : List UInt8) : (⟨a.toArray⟩ : ByteArray) ++ ⟨b.toArray⟩ = ⟨(a ++ b).toArray⟩ := by
  apply ByteArray.ext; rw [ByteArray.data_append]; apply Array.toList_inj.1; simp
theorem frame_cat' (a : List UInt8) (b : ByteArray) : (⟨a.toArray⟩ : ByteArray) ++ b = ⟨(a ++ b.data.toList).toArray⟩ := by
  apply ByteArray.ext; rw [ByteArray.data_append]; apply Array.toList_inj.1; simp
/-- What is put, and the error's number. -/
def putOf (l : List UInt8) : List UInt8 × Nat := if 65536 < l.length then ([], 3) else (Frame.put l, 0)
end Go.Proofs.Ytmjakkemiiigpaa
/-
  Frames by fields: plain mathematics. No model's run in this text. No condition.
-/
namespace Go.Proofs.Ytmjakkemiiigpaa.Frame
open Go.Proofs.Ytmjakkemiiigpaa.Code
/-- A frame is a field with its seal behind it: what is got, said by the field. -/
theorem get_field (s : Bs) : get s =
    if (rdField s 65536).2.2 ≠ 0 then ([], 0, (rdField s 65536).2.2) else
    if s.length < (rdField s 65536).2.1 + 4 then ([], 0, 6) else
    if seal' (s.take (rdField s 65536).2.1) ≠ (s.drop (rdField s 65536).2.1).take 4 then ([], 0, 7) else
    ((rdField s 65536).1, (rdField s 65536).2.1 + 4, 0) := by
  have hk := rd_size s
  unfold get rdField
  by_cases h1 : (rd 0 s).2.2 = 0
  · rw [if_neg (show ¬ (rd 0 s).2.2 ≠ 0 by simpa using h1), if_neg (show ¬ (rd 0 s).2.2 ≠ 0 by simpa using h1)]
    by_cases h2 : 65536 < (rd 0 s).1
    · have h2' : (65536 : Int) < ((rd 0 s).1 : Int) := by omega
      rw [if_pos h2, if_pos h2']
      rfl
    · have h2' : ¬ (65536 : Int) < ((rd 0 s).1 : Int) := by omega
      rw [if_neg h2, if_neg h2']
      by_cases h3 : s.length - (rd 0 s).2.1 < (rd 0 s).1
      · rw [if_pos h3, if_pos (show s.length < (rd 0 s).2.1 + (rd 0 s).1 + 4 by omega)]
        rfl
      · rw [if_neg h3, if_neg (show ¬ ((0 : Nat) ≠ 0) by decide)]
  · rw [if_pos h1, if_pos h1]
    show _ = if (rd 0 s).2.2 ≠ 0 then _ else _
    rw [if_pos h1]
/-- A field that is read ends where there are bytes. -/
theorem field_end (s : Bs) (h : (rdField s 65536).2.2 = 0) : (rdField s 65536).2.1 ≤ s.length := (put_field s 65536 h).2.1
/-- How many bytes the frame of a payload of k bytes has. -/
theorem uvar_size (k : Nat) (h : k ≤ 65536) : (if (k : Int) < 128 then (k : Int) + 5 else if (k : Int) < 16384 then (k : Int) + 6 else (k : Int) + 7) = ((uvar k).length : Int) + k + 4 := by
  by_cases h1 : k < 128
  · rw [if_pos (by omega), uvar_small h1]; simp; omega
  · rw [if_neg (by omega), uvar_great h1]
    by_cases h2 : k < 16384
    · rw [if_pos (by omega), uvar_small (by omega)]; simp; omega
    · rw [if_neg (by omega), uvar_great (by omega), uvar_small (by omega)]; simp; omega
end Go.Proofs.Ytmjakkemiiigpaa.Frame
/-
  The contracts of the program's own frame.seal, Size and Put: each answers the plain mathematics. Condition: a text of a length that there is.
-/
namespace Go.Proofs.Ytmjakkemiiigpaa
set_option maxRecDepth 100000
open Go.RowKit
set_option maxHeartbeats 2000000 in
theorem seal_any (b : ByteArray) (hb : b.size ≤ maxLen) (w : World) :
    Calls Try.prog 78 #[.string b] w fun e w' => e = .returned (.string ⟨(Frame.seal' b.data.toList).toArray⟩) ∧ Below w.heap.size w w' := by
  have c := fun v => of_any b v hb
  unfold Frame.seal'
  obtain ⟨o, hO⟩ := named (Obj.cells #[.int .u32 ((Crc.inv (Crc.more 0#32 b.data.toList)).toNat : Int)] 46)
  obtain ⟨m, hM⟩ := named (Crc.more 0#32 b.data.toList)
  have c' : ∀ v, Calls Try.prog 60 #[.string b] v fun e w' => e = .returned (.int .u32 (m.toNat : Int)) ∧ w' = v.alloc o := by rw [hO.out, hM.out]; exact c
  rw [← hM.out]
  have hlt := m.isLt
  have HF := Lib.hid (four_bytes m)
  have C := Lib.hid c'
  have hcv := four_conv (w.alloc o)
  simp only [World.size_alloc] at hcv
  have hlt' : Hid (m.toNat < 2 ^ 32) := Lib.hid hlt
  clear c c' hlt
  go_enter Try.func78, Try.ntmps78
  go_wp2_with (go_at_call 60; ((with_reducible refine (C.out _).mono ?_); rintro e w' ⟨rfl, rfl⟩))
  go_ret
  refine ⟨?_, (below_alloc _ _).trans ((below_alloc _ _).mono (by simp))⟩
  have := hlt'.out
  exact congrArg (fun x => Ending.returned (.string x)) (HF.out _ _ _ _ (by omega) (by omega) (by omega) (by omega))
theorem put_any (p : ByteArray) (hp : p.size ≤ 200000000000000) (w : World) :
    Calls Try.prog 53 #[.string p] w fun e w' => e = .returned (.tuple #[.string ⟨(putOf p.data.toList).1.toArray⟩, .int .i64 ((putOf p.data.toList).2 : Int)]) ∧ Below w.heap.size w w' := by
  unfold putOf
  rw [frame_len]
  by_cases h : 65536 < p.size
  · rw [if_pos h]
    have h' : 65536 < (p.size : Int) := by omega
    clear h
    go_enter Try.func53, Try.ntmps53
    go_wp2
    go_returns
    exact ⟨rfl, Below.refl _ _⟩
  · rw [if_neg h]
    have h' : (p.size : Int) ≤ 65536 := by omega
    have hl10 := Code.uvar_ten (n := p.size) (by omega)
    have hbody : Frame.body p.data.toList = Code.uvar p.size ++ p.data.toList := by unfold Frame.body; rw [frame_len]
    have c1 := fun v => putfield_any p (by unfold reachBytes; omega) v
    rw [← hbody] at c1
    have c2 := fun v => seal_any ⟨(Frame.body p.data.toList).toArray⟩ (by rw [frame_size, hbody, List.length_append, frame_len]; unfold maxLen; omega) v
    have e2 := frame_cat (Frame.body p.data.toList) (Frame.seal' (Frame.body p.data.toList))
    have hB : ((⟨(Frame.body p.data.toList).toArray⟩ : ByteArray).size : Int) ≤ 70000 := by rw [frame_size, hbody, List.length_append, frame_len]; omega
    have hS : ((⟨(Frame.seal' (Frame.body p.data.toList)).toArray⟩ : ByteArray).size : Int) = 4 := rfl
    have ed : (⟨(Frame.body p.data.toList).toArray⟩ : ByteArray).data.toList = Frame.body p.data.toList := rfl
    rw [ed] at c2
    show Calls _ _ _ _ fun e w' => e = .returned (.tuple #[.string ⟨(Frame.body p.data.toList ++ Frame.seal' (Frame.body p.data.toList)).toArray⟩, .int .i64 0]) ∧ _
    rw [← e2]
    clear e2
    obtain ⟨B, HB⟩ := named (⟨(Frame.body p.data.toList).toArray⟩ : ByteArray)
    obtain ⟨S, HS⟩ := named (⟨(Frame.seal' (Frame.body p.data.toList)).toArray⟩ : ByteArray)
    rw [← HB.out] at c1 c2 hB ⊢
    rw [← HS.out] at c2 hS ⊢
    have C1 := Lib.hid c1
    have C2 := Lib.hid c2
    clear c1 c2 hbody ed h hl10
    go_enter Try.func53, Try.ntmps53
    go_wp2_with (first
      | (go_at_call 75; ((with_reducible refine (C1.out _).mono ?_); rintro e w1 ⟨rfl, hb1⟩))
      | (go_at_call 78; ((with_reducible refine (C2.out _).mono ?_); rintro e w2 ⟨rfl, hb2⟩; have hB2 := below_of hb1 hb2)))
    go_returns
    exact ⟨rfl, hB2⟩
end Go.Proofs.Ytmjakkemiiigpaa
/-
  The contract of the document's own Get of frames: it answers what the plain mathematics reads. Condition: a text of a length that there is.
-/
namespace Go.Proofs.Ytmjakkemiiigpaa
set_option maxRecDepth 100000
open Go.RowKit
theorem frame_slice (s : ByteArray) (i j : Nat) (hij : i ≤ j) (hj : j ≤ s.size) (x y : Int) (hx : x = i) (hy : y = j) (u : World) :
    (Instr.slice 9 (.string s) (some (.int .i64 x)) (some (.int .i64 y)) none).run Try.prog u = .ok (.string ⟨((s.data.toList.drop i).take (j - i)).toArray⟩) u := by
  subst hx hy
  rw [run_slice_string_if u 9 s .i64 .i64 _ _ Try.underlying9, if_pos ⟨by omega, by omega⟩, if_pos ⟨by omega, by omega⟩]
  congr 2
  apply ByteArray.ext
  apply Array.toList_inj.1
  rw [ByteArray.data_extract, Array.toList_extract, List.extract_eq_take_drop]
  simp
theorem frame_to (s : ByteArray) (j : Nat) (hj : j ≤ s.size) (y : Int) (hy : y = j) (u : World) :
    (Instr.slice 9 (.string s) none (some (.int .i64 y)) none).run Try.prog u = .ok (.string ⟨(s.data.toList.take j).toArray⟩) u := by
  subst hy
  rw [run_slice_string_to_if u 9 s .i64 _ Try.underlying9, if_pos ⟨by omega, by omega⟩]
  congr 2
  apply ByteArray.ext
  apply Array.toList_inj.1
  rw [ByteArray.data_extract, Array.toList_extract, List.extract_eq_take_drop]
  simp
abbrev emptyText : ByteArray := ⟨#[]⟩
theorem frame_toList (x : ByteArray) : x.toList = x.data.toList := Lib.toList_data x
end Go.Proofs.Ytmjakkemiiigpaa
/-
  The contract of the program's frame.Get: it answers what the plain mathematics reads. Condition: a text of a length that there is.
-/
namespace Go.Proofs.Ytmjakkemiiigpaa
set_option maxRecDepth 100000
open Go.RowKit
theorem getp_err (s P : ByteArray) (K : Int) (E : Nat) (hE : ((E : Int) != 0) = true) (c : ∀ v, Calls Try.prog 83 #[.string s, .int .i64 65536] v fun e v' => e = .returned (.tuple #[.string P, .int .i64 K, .int .i64 (E : Int)]) ∧ Below v.heap.size v v') (w : World) :
    Calls Try.prog 62 #[.string s] w fun e w' => e = .returned (.tuple #[.string emptyText, .int .i64 0, .int .i64 (E : Int)]) ∧ Below w.heap.size w w' := by
  have C := Lib.hid c
  clear c
  go_enter Try.func62, Try.ntmps62
  go_wp2_with (go_at_call 83; ((with_reducible refine (C.out _).mono ?_); rintro e w' ⟨rfl, hb⟩))
  go_returns
  exact ⟨rfl, by assumption⟩
theorem getp_short (s P : ByteArray) (K : Int) (hK : 0 ≤ K) (hK2 : K ≤ 281474976710656) (hlt : (s.size : Int) < K + 4) (c : ∀ v, Calls Try.prog 83 #[.string s, .int .i64 65536] v fun e v' => e = .returned (.tuple #[.string P, .int .i64 K, .int .i64 0]) ∧ Below v.heap.size v v') (w : World) :
    Calls Try.prog 62 #[.string s] w fun e w' => e = .returned (.tuple #[.string emptyText, .int .i64 0, .int .i64 6]) ∧ Below w.heap.size w w' := by
  have C := Lib.hid c
  have w4 : IntKind.i64.wrap (K + 4) = K + 4 := by rw [IntKind.wrap_i64]; omega
  clear c
  go_enter Try.func62, Try.ntmps62
  go_wp2_with (go_at_call 83; ((with_reducible refine (C.out _).mono ?_); rintro e w' ⟨rfl, hb⟩))
  go_returns
  exact ⟨rfl, by assumption⟩
/-- What the program's Get meets where the bytes are long enough. -/
structure GetpWay (s P X Y S : ByteArray) (K : Int) : Prop where
  k0 : 0 ≤ K
  k1 : K ≤ 281474976710656
  len : K + 4 ≤ (s.size : Int)
  sX : ∀ u, (Instr.slice 9 (.string s) none (some (.int .i64 K)) none).run Try.prog u = .ok (.string X) u
  sY : ∀ u, (Instr.slice 9 (.string s) (some (.int .i64 K)) (some (.int .i64 (K + 4))) none).run Try.prog u = .ok (.string Y) u
  field : ∀ v, Calls Try.prog 83 #[.string s, .int .i64 65536] v fun e v' => e = .returned (.tuple #[.string P, .int .i64 K, .int .i64 0]) ∧ Below v.heap.size v v'
  sum : ∀ v, Calls Try.prog 78 #[.string X] v fun e v' => e = .returned (.string S) ∧ Below v.heap.size v v'
set_option maxHeartbeats 4000000 in
theorem getp_form (s P X Y S : ByteArray) (K : Int) (h : GetpWay s P X Y S K) (hne : (Y.toList == S.toList) = false) (w : World) :
    Calls Try.prog 62 #[.string s] w fun e w' => e = .returned (.tuple #[.string emptyText, .int .i64 0, .int .i64 7]) ∧ Below w.heap.size w w' := by
  obtain ⟨k0, k1, len, sX, sY, c1, c2⟩ := h
  have C1 := Lib.hid c1
  have C2 := Lib.hid c2
  have w4 : IntKind.i64.wrap (K + 4) = K + 4 := by rw [IntKind.wrap_i64]; omega
  clear c1 c2
  go_enter Try.func62, Try.ntmps62
  go_wp2_with (go_at_call 83; ((with_reducible refine (C1.out _).mono ?_); rintro e w' ⟨rfl, hb⟩))
  go_region_with (go_at_call 78; ((with_reducible refine (C2.out _).mono ?_); rintro e w2 ⟨rfl, hb2⟩))
  all_goals go_wp2
  all_goals go_returns
  all_goals exact ⟨rfl, by first | exact below_of hb hb2 | exact below_of hb ((Below.refl _ _).drew.trans hb2)⟩
set_option maxHeartbeats 4000000 in
theorem getp_ok (s P X Y S : ByteArray) (K : Int) (h : GetpWay s P X Y S K) (hne : (Y.toList == S.toList) = true) (w : World) :
    Calls Try.prog 62 #[.string s] w fun e w' => e = .returned (.tuple #[.string P, .int .i64 (K + 4), .int .i64 0]) ∧ Below w.heap.size w w' := by
  obtain ⟨k0, k1, len, sX, sY, c1, c2⟩ := h
  have C1 := Lib.hid c1
  have C2 := Lib.hid c2
  have w4 : IntKind.i64.wrap (K + 4) = K + 4 := by rw [IntKind.wrap_i64]; omega
  clear c1 c2
  go_enter Try.func62, Try.ntmps62
  go_wp2_with (go_at_call 83; ((with_reducible refine (C1.out _).mono ?_); rintro e w' ⟨rfl, hb⟩))
  go_region_with (go_at_call 78; ((with_reducible refine (C2.out _).mono ?_); rintro e w2 ⟨rfl, hb2⟩))
  all_goals go_wp2
  all_goals go_returns
  all_goals exact ⟨rfl, by first | exact below_of hb hb2 | exact below_of hb ((Below.refl _ _).drew.trans hb2)⟩
/-- Whatever the bytes, the program's Get answers what the plain mathematics reads of them. -/
theorem get_any (s : ByteArray) (hs : s.size ≤ 200000000000000) (w : World) :
    Calls Try.prog 62 #[.string s] w fun e w' => e = .returned (.tuple #[.string ⟨(Frame.get s.data.toList).1.toArray⟩, .int .i64 ((Frame.get s.data.toList).2.1 : Int), .int .i64 ((Frame.get s.data.toList).2.2 : Int)]) ∧ Below w.heap.size w w' := by
  have hs' : s.size ≤ maxLen := by unfold maxLen; omega
  have c := fun v => field_gen s hs' 65536 (by omega) (Or.inr (by omega)) v
  have hl := frame_len s
  have hend := Frame.field_end s.data.toList
  rw [Frame.get_field]
  by_cases h1 : (Code.rdField s.data.toList 65536).2.2 = 0
  · rw [if_neg (by simpa using h1)]
    have hk := hend h1
    rw [h1] at c
    by_cases h2 : s.data.toList.length < (Code.rdField s.data.toList 65536).2.1 + 4
    · rw [if_pos h2]
      exact getp_short s _ _ (by omega) (by omega) (by omega) c w
    · rw [if_neg h2]
      have hX : (⟨(s.data.toList.take (Code.rdField s.data.toList 65536).2.1).toArray⟩ : ByteArray).size ≤ maxLen := by
        rw [frame_size, List.length_take]; unfold maxLen; omega
      have hw : GetpWay s ⟨(Code.rdField s.data.toList 65536).1.toArray⟩ ⟨(s.data.toList.take (Code.rdField s.data.toList 65536).2.1).toArray⟩ ⟨((s.data.toList.drop (Code.rdField s.data.toList 65536).2.1).take 4).toArray⟩
          ⟨(Frame.seal' (s.data.toList.take (Code.rdField s.data.toList 65536).2.1)).toArray⟩ ((Code.rdField s.data.toList 65536).2.1 : Int) := by
        refine ⟨by omega, by omega, by omega, frame_to s _ (by omega) _ (by omega), ?_, c, fun v => seal_any _ hX v⟩
        intro u
        have := frame_slice s (Code.rdField s.data.toList 65536).2.1 ((Code.rdField s.data.toList 65536).2.1 + 4) (by omega) (by omega) ((Code.rdField s.data.toList 65536).2.1 : Int) (((Code.rdField s.data.toList 65536).2.1 : Int) + 4) (by omega) (by omega) u
        rwa [Nat.add_sub_cancel_left] at this
      by_cases h4 : Frame.seal' (s.data.toList.take (Code.rdField s.data.toList 65536).2.1) = (s.data.toList.drop (Code.rdField s.data.toList 65536).2.1).take 4
      · rw [if_neg (by simpa using h4)]
        have := getp_ok s _ _ _ _ _ hw (by rw [frame_toList, frame_toList, h4]; simp) w
        refine this.mono fun e w' ⟨he, hb⟩ => ⟨?_, hb⟩
        rw [he]
        simp only [Int.natCast_add]
        rfl
      · rw [if_pos h4]
        exact getp_form s _ _ _ _ _ hw (by rw [frame_toList, frame_toList]; exact beq_eq_false_iff_ne.2 (fun h => h4 h.symm)) w
  · rw [if_pos h1]
    exact getp_err s _ _ _ (bne_iff_ne.2 (fun h => h1 (Int.ofNat_eq_zero.1 h))) c w
end Go.Proofs.Ytmjakkemiiigpaa
/-
  Plain mathematics of a table's footer, and the contracts of putNumber, number, footer, payload. Condition: texts of a length that there is.
-/
namespace Go.Proofs.Ytmjakkemiiigpaa
set_option maxRecDepth 100000
open Go.RowKit
/-- The lowest k bytes of a number, the lowest one first; and the number of bytes. -/
def leB : Nat → Nat → List UInt8
  | 0, _ => []
  | k + 1, n => UInt8.ofNat n :: leB k (n / 256)
def leN : List UInt8 → Nat
  | [] => 0
  | b :: l => b.toNat + 256 * leN l
theorem leB_len : ∀ k n, (leB k n).length = k
  | 0, _ => rfl
  | k + 1, n => by rw [leB, List.length_cons, leB_len]
theorem leN_leB : ∀ k n, n < 256 ^ k → leN (leB k n) = n
  | 0, n, h => by simp at h; subst h; rfl
  | k + 1, n, h => by
    rw [Nat.pow_succ] at h
    rw [leB, leN, leN_leB k (n / 256) (by omega), UInt8.toNat_ofNat']; omega
theorem leN_lt : ∀ l : List UInt8, leN l < 256 ^ l.length
  | [] => by simp [leN]
  | b :: l => by
    have := leN_lt l
    have hb := UInt8.toNat_lt b
    rw [leN, List.length_cons, Nat.pow_succ]; omega
theorem leB_leN : ∀ l : List UInt8, leB l.length (leN l) = l
  | [] => rfl
  | b :: l => by
    have hb := UInt8.toNat_lt b
    have e1 : UInt8.ofNat (b.toNat + 256 * leN l) = b := by apply UInt8.toNat_inj.1; rw [UInt8.toNat_ofNat']; omega
    have e2 : (b.toNat + 256 * leN l) / 256 = leN l := by omega
    rw [List.length_cons, leN, leB, e1, e2, leB_leN l]
theorem leB_snoc : ∀ k n, leB (k + 1) n = leB k n ++ [UInt8.ofNat (n / 256 ^ k)]
  | 0, n => by simp [leB]
  | k + 1, n => by
    rw [leB, leB_snoc k (n / 256), leB, Nat.div_div_eq_div_mul, Nat.pow_succ, Nat.mul_comm 256]; rfl
def crcN (l : List UInt8) : Nat := (Crc.more 0#32 l).toNat
/-- The footer. -/
def footB (f i : Nat) : List UInt8 := leB 8 f ++ leB 8 i ++ leB 4 (crcN (leB 8 f ++ leB 8 i))
theorem footB_len (f i : Nat) : (footB f i).length = 20 := by unfold footB; rw [List.length_append, List.length_append, leB_len, leB_len, leB_len]
/-- The payload, where bytes are one frame and nothing else. -/
def pay (L : List UInt8) : Option (List UInt8) := if (Frame.get L).2.2 = 0 ∧ (Frame.get L).2.1 = L.length then some (Frame.get L).1 else none
theorem pay_put (p : List UInt8) (h : p.length ≤ 65536) : pay (Frame.put p) = some p := by
  have := Frame.get_put p [] h
  rw [List.append_nil] at this
  unfold pay
  rw [this, if_pos ⟨rfl, rfl⟩]
set_option maxRecDepth 100000 in
set_option maxHeartbeats 2000000 in
theorem tput_any (n k : Nat) (hk : k ≤ 8) (w : World) : Calls Try.prog 59 #[.int .u64 (n : Int), .int .i64 (k : Int)] w fun e w' => e = .returned (.string ⟨(leB k n).toArray⟩) ∧ Below w.heap.size w w' := by
  obtain ⟨i0, hi, hz0, hz1, hz2⟩ := info_parts info8b
  have hmk : ∀ u : World, (Instr.makeSlice 49 (.int .i64 (k : Int)) (.int .i64 (k : Int))).run Try.prog u =
      .ok (.slice (some ⟨u.heap.size, 0, none⟩) k k) (u.alloc (.cells (madeCells #[.int .u8 0] k) 5)) := fun u => by
    have h := run_make (P := Try.prog) u 49 5 i0 (.int .u8 0) Try.underlying49 hi hz0 .i64 .i64 (k : Int) (k : Int) (by omega) (Int.le_refl _) (by rw [hz2]; omega) (by omega)
    simpa [hz1, Value.cells] using h
  clear hi hz0 hz1 hz2
  have z1 := Lib.hid (holds8_zeros w k)
  have z2 := Lib.hid (below_alloc w (.cells (madeCells #[.int .u8 0] k) 5))
  have z3 : w.heap.size < (w.alloc (.cells (madeCells #[.int .u8 0] k) 5)).heap.size := by simp
  go_enter Try.func59, Try.ntmps59
  go_wp2_with fail
  generalize w.alloc (.cells (madeCells #[.int .u8 0] k) 5) = W1 at *
  go_loopw [0, 11] (fun a d wr => ∃ j q : Nat, j ≤ k ∧ Hid (q = n / 256 ^ j) ∧ a = .int .u64 (q : Int) ∧ d = .int .i64 (j : Int) ∧ Hid (Holds8 wr w.heap.size (leB j n ++ List.replicate (k - j) 0)) ∧ Hid (Below w.heap.size w wr)) (fun _ d _ => k - (intOf d).toNat)
  case atStart => exact ⟨0, n, Nat.zero_le _, Lib.hid (by simp), rfl, rfl, by simpa [leB] using z1, z2⟩
  case round =>
    obtain ⟨j, q, hj, hq, rfl, rfl, hH, hB⟩ := hrel
    by_cases hlt : j < k
    · have g1 : (j : Int) < (k : Int) := by omega
      obtain ⟨y1, x2⟩ := hH.out j (by rw [List.length_append, leB_len, List.length_replicate]; omega)
      obtain ⟨c0, hC0⟩ := named ((leB j n ++ List.replicate (k - j) 0)[j]'(by rw [List.length_append, leB_len, List.length_replicate]; omega))
      rw [← hC0.out] at y1
      have i1 : (0 : Int) ≤ (j : Int) := by omega
      have hq8 : Hid ((q : Int) % 256 = ((UInt8.ofNat q).toNat : Int)) := Lib.hid (by rw [UInt8.toNat_ofNat']; omega)
      go_wp2
      go_roundw
      case rel =>
        refine ⟨j + 1, q / 256, by omega, Lib.hid (by rw [hq.out, Nat.div_div_eq_div_mul, Nat.pow_succ]), by go_num, by go_num, Lib.hid ?_, Lib.hid ?_⟩
        · have e : (leB j n ++ List.replicate (k - j) 0).set j (UInt8.ofNat q) = leB (j + 1) n ++ List.replicate (k - (j + 1)) 0 := by
            have e1 : k - j = (k - (j + 1)) + 1 := by omega
            rw [leB_snoc, ← hq.out, List.set_append_right _ _ (by rw [leB_len]; omega), leB_len, Nat.sub_self, e1, List.replicate_succ, List.set_cons_zero, List.append_assoc]; rfl
          rw [← e]
          exact holds8_put hH.out j (by rw [List.length_append, leB_len, List.length_replicate]; omega) _ _ hq8.out
        · exact hB.out.setCell (by simp) _
      case measure => simp [intOf]; omega
    · have hjk : j = k := by omega
      subst hjk
      have g1 : ¬ (j : Int) < (j : Int) := by omega
      have hcv := holds8_text (l := leB j n) (by have := hH.out; rw [Nat.sub_self, List.replicate_zero, List.append_nil] at this; exact this) j j (leB_len _ _)
      go_wp2_with fail
      go_ret
      exact ⟨rfl, hB.out⟩
theorem or64_snoc (n : Nat) (c : UInt8) (h : n * 256 + c.toNat < 2 ^ 64) : bits .or .u64 ((n : Int) * 256) (c.toNat : Int) = ((n * 256 + c.toNat : Nat) : Int) := or_byte n c h
set_option maxRecDepth 100000 in
set_option maxHeartbeats 2000000 in
theorem tnum_any (L : List UInt8) (hL : L.length ≤ 8) (w : World) : Calls Try.prog 61 #[.string ⟨L.toArray⟩] w fun e w' => e = .returned (.int .u64 (leN L : Nat)) ∧ Below w.heap.size w w' := by
  obtain ⟨N, hN⟩ := named (leN L)
  rw [← hN.out]
  obtain ⟨K, hK⟩ := named L.length
  rw [← hK.out] at hL
  have hw : wrap64 ((L.length : Int) - 1) = (L.length : Int) - 1 := by rw [← hK.out]; unfold wrap64; omega
  go_enter Try.func61, Try.ntmps61
  go_wp2_with fail
  go_loopw [3, 4] (fun a d wr => ∃ j q : Nat, j ≤ K ∧ Hid (q = leN (L.drop j)) ∧ a = .int .u64 (q : Int) ∧ d = .int .i64 ((j : Int) - 1) ∧ Hid (Below w.heap.size w wr)) (fun _ d _ => (intOf d + 1).toNat)
  case atStart => exact ⟨K, 0, Nat.le_refl _, Lib.hid (by rw [hK.out, List.drop_length]; rfl), rfl, by rw [hK.out, hw], Lib.hid (Below.refl _ _)⟩
  case round =>
    obtain ⟨j, q, hj, hq, rfl, rfl, hB⟩ := hrel
    cases j with
    | zero =>
      have e0 : ((0 : Nat) : Int) - 1 = -1 := rfl
      rw [e0]
      have hqN : Hid (N = q) := Lib.hid (by rw [hN.out, hq.out]; rfl)
      go_wp2_with fail
      go_ret
      exact ⟨by rw [hqN.out]; rfl, hB.out⟩
    | succ i =>
      have e1 : ((i + 1 : Nat) : Int) - 1 = (i : Int) := by omega
      rw [e1]
      obtain ⟨c, hC⟩ := named (L[i]'(by rw [← hK.out]; omega))
      have I := idxL L i c (by rw [hC.out, List.getElem?_eq_getElem]) (i : Int) rfl
      have hd : leN (L.drop i) = c.toNat + 256 * q := by
        rw [List.drop_eq_getElem_cons (by rw [← hK.out]; omega), leN, ← hC.out, ← hq.out]
      have hlt : q * 256 + c.toNat < 2 ^ 64 := by
        have h1 := leN_lt (L.drop i)
        rw [hd] at h1
        have h2 : 256 ^ (L.drop i).length ≤ 256 ^ 8 := Nat.pow_le_pow_right (by omega) (by rw [List.length_drop, ← hK.out]; omega)
        omega
      have hO := or64_snoc q c hlt
      have hd2 := Lib.hid hd
      clear hd hC
      go_wp2_with fail
      go_roundw
      case rel => exact ⟨i, q * 256 + c.toNat, by omega, Lib.hid (by rw [hd2.out]; omega), rfl, by go_num, hB⟩
      case measure => simp [intOf]
theorem data_toL (L : List UInt8) : (⟨L.toArray⟩ : ByteArray).data.toList = L := by simp
set_option maxRecDepth 100000 in
set_option maxHeartbeats 2000000 in
theorem foot_any (f i : Nat) (w : World) : Calls Try.prog 25 #[.int .u64 (f : Int), .int .u64 (i : Int)] w fun e w' => e = .returned (.string ⟨(footB f i).toArray⟩) ∧ Below w.heap.size w w' := by
  have P1 : Hid (∀ u, Calls Try.prog 59 #[.int .u64 (f : Int), .int .i64 8] u fun e w' => e = .returned (.string ⟨(leB 8 f).toArray⟩) ∧ Below u.heap.size u w') := Lib.hid (fun u => tput_any f 8 (by omega) u)
  have P2 : Hid (∀ u, Calls Try.prog 59 #[.int .u64 (i : Int), .int .i64 8] u fun e w' => e = .returned (.string ⟨(leB 8 i).toArray⟩) ∧ Below u.heap.size u w') := Lib.hid (fun u => tput_any i 8 (by omega) u)
  unfold footB
  obtain ⟨A, hA⟩ := named (leB 8 f)
  obtain ⟨B, hB⟩ := named (leB 8 i)
  rw [← hA.out] at P1 ⊢
  rw [← hB.out] at P2 ⊢
  have hAl : A.length = 8 := by rw [hA.out, leB_len]
  have hBl : B.length = 8 := by rw [hB.out, leB_len]
  have CA := cat_ba A B
  have sz : ¬ 9223372036854775807 < A.length + B.length := by omega
  have OF : Hid (∀ u, Calls Try.prog 60 #[.string ⟨(A ++ B).toArray⟩] u fun e w' => e = .returned (.int .u32 (crcN (A ++ B) : Int)) ∧ Below u.heap.size u w') := Lib.hid (fun u => (of_any ⟨(A ++ B).toArray⟩ u (by unfold maxLen; rw [ofList_size, List.length_append]; omega)).mono fun e w' h => ⟨by rw [h.1, data_toL]; rfl, by rw [h.2]; exact below_alloc _ _⟩)
  obtain ⟨C, hC⟩ := named (crcN (A ++ B))
  rw [← hC.out] at OF ⊢
  have P3 : Hid (∀ u, Calls Try.prog 59 #[.int .u64 (C : Int), .int .i64 4] u fun e w' => e = .returned (.string ⟨(leB 4 C).toArray⟩) ∧ Below u.heap.size u w') := Lib.hid (fun u => tput_any C 4 (by omega) u)
  have hCl : (C : Int) < 4294967296 := by
    have : (Crc.more 0#32 (A ++ B)).toNat < 2 ^ 32 := BitVec.isLt _
    rw [hC.out]; unfold crcN; omega
  obtain ⟨D, hD⟩ := named (leB 4 C)
  rw [← hD.out] at P3 ⊢
  have hDl : D.length = 4 := by rw [hD.out, leB_len]
  have CD := cat_ba (A ++ B) D
  have sz2 : ¬ 9223372036854775807 < A.length + B.length + D.length := by omega
  have W3 : IntKind.u64.wrap (C : Int) = (C : Int) := by rw [IntKind.wrap_u64]; omega
  clear hA hB hC hD
  go_enter Try.func25, Try.ntmps25
  go_wp2_with (first
    | (go_at_call 59; ((with_reducible refine (P1.out _).mono ?_); rintro e w1 ⟨rfl, hb1⟩; have B1 := Lib.hid hb1; clear hb1 P1))
    | (go_at_call 59; ((with_reducible refine (P2.out _).mono ?_); rintro e w2 ⟨rfl, hb2⟩; have B2 := Lib.hid (below_of B1.out hb2); clear hb2 P2))
    | (go_at_call 60; ((with_reducible refine (OF.out _).mono ?_); rintro e w3 ⟨rfl, hb3⟩; have B3 := Lib.hid (below_of B2.out hb3); clear hb3))
    | (go_at_call 59; ((with_reducible refine (P3.out _).mono ?_); rintro e w4 ⟨rfl, hb4⟩; have B4 := Lib.hid (below_of B3.out hb4); clear hb4)))
  go_returns
  exact ⟨by rw [List.append_assoc]; rfl, B4.out⟩
/-- What payload answers. -/
def payR (L : List UInt8) : List UInt8 × Bool := ((Frame.get L).1, decide ((Frame.get L).2.2 = 0) && decide ((Frame.get L).2.1 = L.length))
theorem pay_yes {L p : List UInt8} (h : pay L = some p) : payR L = (p, true) := by
  unfold pay at h
  unfold payR
  split at h
  · rename_i hc
    rw [Option.some.inj h, decide_eq_true hc.1, decide_eq_true hc.2]; rfl
  · cases h
theorem pay_no {L : List UInt8} (h : pay L = none) : (payR L).2 = false := by
  unfold pay at h
  unfold payR
  split at h
  · cases h
  · rename_i hc
    simp only [Bool.and_eq_false_iff, decide_eq_false_iff_not]
    by_cases h1 : (Frame.get L).2.2 = 0
    · exact .inr fun h2 => hc ⟨h1, h2⟩
    · exact .inl h1
set_option maxRecDepth 100000 in
set_option maxHeartbeats 2000000 in
theorem payload_any (L : List UInt8) (hL : L.length ≤ 1048576) (w : World) : Calls Try.prog 27 #[.string ⟨L.toArray⟩] w fun e w' => e = .returned (.tuple #[.string ⟨(payR L).1.toArray⟩, .bool (payR L).2]) ∧ Below w.heap.size w w' := by
  have G := Lib.hid (fun u => get_any ⟨L.toArray⟩ (by rw [ofList_size]; omega) u)
  unfold payR
  obtain ⟨⟨P, K, E⟩, hR⟩ := named (Frame.get L)
  rw [← hR.out] at G ⊢
  simp only at G ⊢
  by_cases hE : E = 0
  · subst hE
    by_cases hK : K = L.length
    · have k1 : ((K : Int) == (L.length : Int)) = true := by rw [beq_iff_eq]; omega
      have k2 : (K == L.length) = true := by rw [beq_iff_eq]; exact hK
      have k3 : decide (K = L.length) = true := decide_eq_true hK
      have k4 : ((L.length : Int) == (L.length : Int)) = true := by simp
      replace hK := Lib.hid hK
      go_enter Try.func27, Try.ntmps27
      go_wp2_with (go_at_call 62; ((with_reducible refine (G.out _).mono ?_); rintro e w1 ⟨rfl, hb1⟩; have B1 := Lib.hid hb1; clear hb1))
      go_returns
      exact ⟨by rw [k3]; rfl, B1.out⟩
    · have k1 : ((K : Int) == (L.length : Int)) = false := by rw [beq_eq_false_iff_ne]; omega
      have k2 : (K == L.length) = false := by rw [beq_eq_false_iff_ne]; exact hK
      have k3 : decide (K = L.length) = false := decide_eq_false hK
      replace hK := Lib.hid hK
      go_enter Try.func27, Try.ntmps27
      go_wp2_with (go_at_call 62; ((with_reducible refine (G.out _).mono ?_); rintro e w1 ⟨rfl, hb1⟩; have B1 := Lib.hid hb1; clear hb1))
      go_returns
      exact ⟨by rw [k3]; rfl, B1.out⟩
  · have k1 : ((E : Int) == 0) = false := by rw [beq_eq_false_iff_ne]; omega
    have k2 : (E == 0) = false := by rw [beq_eq_false_iff_ne]; exact hE
    have k3 : decide (E = 0) = false := decide_eq_false hE
    replace hE := Lib.hid hE
    go_enter Try.func27, Try.ntmps27
    go_wp2_with (go_at_call 62; ((with_reducible refine (G.out _).mono ?_); rintro e w1 ⟨rfl, hb1⟩; have B1 := Lib.hid hb1; clear hb1))
    go_returns
    exact ⟨by rw [k3]; rfl, B1.out⟩
end Go.Proofs.Ytmjakkemiiigpaa
/-
  What the index says of a data block: plain mathematics, and the contracts of entryOf, entry.row, readEntry. Condition: keys of at most 2^20 bytes where an entry is written.
-/
namespace Go.Proofs.Ytmjakkemiiigpaa
set_option maxRecDepth 100000
open Go.RowKit
/-- What the index says of a data block. -/
structure En where
  fst : ByteArray
  lst : ByteArray
  seq : Nat
  cnt : Nat
def enZ : En := ⟨⟨#[]⟩, ⟨#[]⟩, 0, 0⟩
abbrev enV (e : En) : Value := .agg #[.string e.fst, .string e.lst, .int .u64 (e.seq : Int), .int .i64 (e.cnt : Int)]
def enOf (l : List Rw) : En := if l.length = 0 then enZ else ⟨(rwAt l 0).key, (rwAt l (l.length - 1)).key, (rwAt l (l.length - 1)).seq, l.length⟩
set_option maxRecDepth 100000 in
set_option maxHeartbeats 4000000 in
theorem entryOf_any {a : Option Addr} {n c b o : Nat} {l : List Rw} {w : World} (h : Rs a n c b o l w) :
    Calls Try.prog 48 #[.slice a n c] w fun e w' => e = .returned (enV (enOf l)) ∧ Below w.heap.size w w' := by
  have hlen := h.len
  have m0 := h.most
  have q0 := h.cap
  unfold enOf
  have Z0 := Lib.hid (Box4.new w 78 (.string ⟨#[]⟩) (.string ⟨#[]⟩) (.int .u64 0) (.int .i64 0))
  have W0 := Lib.hid (below_alloc w (.cells #[.string ⟨#[]⟩, .string ⟨#[]⟩, .int .u64 0, .int .i64 0] 78))
  by_cases h0 : n = 0
  · subst h0
    rw [if_pos hlen]
    obtain ⟨⟨c0, c1, c2, c3⟩, f0, f1, f2, f3⟩ := Z0.out.cells
    go_enter Try.func48, Try.ntmps48
    go_wp2_with fail
    refine bodyPost_ret (v := enV enZ) (by simp [results, Try.results48, go_sem, c0, c1, c2, c3, enZ]) rfl ⟨rfl, W0.out⟩
  · rw [if_neg (by omega)]
    have hR0 := Lib.hid (h.below W0.out (Nat.le_refl _))
    obtain ⟨x, hx, rfl, x0, x1, x2, x3⟩ := hR0.out.at4 (show 0 < n by omega)
    obtain ⟨y, hy, _, y0, y1, y2, y3⟩ := hR0.out.at4 (show n - 1 < n by omega)
    rw [hlen, rwAt_some hx, rwAt_some hy]
    have e1 : wrap64 ((n : Int) - 1) = (n : Int) - 1 := by unfold wrap64; omega
    have i0 : (0 : Int) < (n : Int) := by omega
    have i1 : (n : Int) - 1 < (n : Int) := by omega
    have i2 : 0 ≤ (n : Int) - 1 := by omega
    have i3 : 0 < n := by omega
    have i4 : n - 1 < n := by omega
    obtain ⟨xk, xs, xi, xv⟩ := x
    obtain ⟨yk, ys, yi, yv⟩ := y
    simp only at x0 x1 x2 x3 y0 y1 y2 y3
    rw [Nat.zero_mul, Nat.add_zero] at x0 x1 x2 x3
    clear hx hy h
    have BX := Lib.hid (Box4.new (w.alloc (.cells #[.string ⟨#[]⟩, .string ⟨#[]⟩, .int .u64 0, .int .i64 0] 78)) 39 (.string yk) (.int .u64 (ys : Int)) (.int .i64 yi) (.string yv))
    have W1 := Lib.hid (below_alloc (w.alloc (.cells #[.string ⟨#[]⟩, .string ⟨#[]⟩, .int .u64 0, .int .i64 0] 78)) (.cells #[.string yk, .int .u64 (ys : Int), .int .i64 yi, .string yv] 39))
    have Z1 := Lib.hid (Z0.out.below W1.out)
    have W2 := Lib.hid (below_of W0.out W1.out)
    have z0 := cell_keep W1.out x0
    rw [World.size_alloc] at BX
    go_enter Try.func48, Try.ntmps48
    go_upto_region 4 with fail
    generalize ((w.alloc (.cells #[.string ⟨#[]⟩, .string ⟨#[]⟩, .int .u64 0, .int .i64 0] 78)).alloc (.cells #[.string yk, .int .u64 (ys : Int), .int .i64 yi, .string yv] 39)) = v2 at *
    obtain ⟨⟨b0, b1, b2, b3⟩, _⟩ := BX.out.cells
    obtain ⟨⟨c0, c1, c2, c3⟩, f0, f1, f2, f3⟩ := Z1.out.cells
    have Z2 := Lib.hid (Box4.res Z1.out W2.out (Nat.le_refl _) (.string xk) (.string yk) (.int .u64 (ys : Int)) (.int .i64 (n : Int)))
    clear x0 x1 x2 x3 y0 y1 y2 y3
    go_region
    go_wp2_with fail
    obtain ⟨⟨a0, a1, a2, a3⟩, _⟩ := Z2.out.1.cells
    refine bodyPost_ret (v := enV ⟨xk, yk, ys, n⟩) (by simp [results, Try.results48, go_sem, World.cell?_drew, a0, a1, a2, a3]) rfl ⟨rfl, Z2.out.2.drew⟩
theorem rdField_le (L : List UInt8) (x : Int) : (Code.rdField L x).2.1 ≤ L.length := by
  have := Code.rd_size L
  unfold Code.rdField
  split
  · exact Nat.zero_le _
  · split
    · exact Nat.zero_le _
    · split
      · exact Nat.zero_le _
      · simp only; omega
/-- The row of the index for a data block. -/
def enRow (e : En) (off : Nat) : Rw := ⟨e.lst, e.seq, 1, ⟨((Code.uvar e.fst.size ++ e.fst.toList) ++ Code.uvar off ++ Code.uvar e.cnt).toArray⟩⟩
/-- What a row of the index says of a data block, and where its frame starts. -/
def rdEn (x : Rw) : Option (En × Nat) :=
  let f := Code.rdField x.val.toList 520
  if f.2.2 ≠ 0 then none else
  let s1 := x.val.toList.drop f.2.1
  let a := Code.rd 0 s1
  if a.2.2 ≠ 0 then none else
  let s2 := s1.drop a.2.1
  let n := Code.rd 0 s2
  if n.2.2 ≠ 0 ∨ n.2.1 < s2.length ∨ n.1 < 1 ∨ 1024 < n.1 then none
  else some (⟨⟨f.1.toArray⟩, x.key, x.seq, n.1⟩, a.1)
/-- What readEntry answers. -/
def rdR (x : Rw) : Value := match rdEn x with | some (e, off) => .tuple #[enV e, .int .u64 (off : Int), .bool true] | none => .tuple #[enV enZ, .int .u64 0, .bool false]
set_option maxRecDepth 100000 in
set_option maxHeartbeats 4000000 in
theorem row_any2 (e : En) (off : Nat) (he : e.fst.size ≤ 1048576) (hc : e.cnt < 2 ^ 62) (ho : off < 2 ^ 62) (w : World) :
    Calls Try.prog 49 #[enV e, .int .i64 (off : Int)] w fun r w' => r = .returned (rowV (enRow e off)) ∧ Below w.heap.size w w' := by
  obtain ⟨ef, el, es, ec⟩ := e
  simp only at he hc
  unfold enRow
  have e1 : IntKind.u64.wrap (off : Int) = (off : Int) := by rw [IntKind.wrap_u64]; omega
  have e2 : IntKind.u64.wrap (ec : Int) = (ec : Int) := by rw [IntKind.wrap_u64]; omega
  have PF := Lib.hid (fun u => putfield_any ef (by unfold reachBytes; omega) u)
  have P1 := Lib.hid (fun u => putuint_any off (by omega) u)
  have P2 := Lib.hid (fun u => putuint_any ec (by omega) u)
  have hAl : (Code.uvar ef.size ++ ef.data.toList).length ≤ 2000000 := by
    have := Code.uvar_ten (n := ef.size) (by omega)
    rw [List.length_append, okB_size]; omega
  have hBl := Code.uvar_ten (n := off) (by omega)
  have hCl := Code.uvar_ten (n := ec) (by omega)
  have eA : Code.uvar ef.size ++ ef.toList = Code.uvar ef.size ++ ef.data.toList := by rw [ByteArray.toList_eq]
  simp only
  rw [eA]
  obtain ⟨A, hA⟩ := named (Code.uvar ef.size ++ ef.data.toList)
  obtain ⟨B, hB⟩ := named (Code.uvar off)
  obtain ⟨C, hC⟩ := named (Code.uvar ec)
  rw [← hA.out] at PF hAl ⊢
  rw [← hB.out] at P1 hBl ⊢
  rw [← hC.out] at P2 hCl ⊢
  have CA := cat_ba A B
  have CB := cat_ba (A ++ B) C
  have z1 : ¬ 9223372036854775807 < A.length + B.length := by omega
  have z2 : ¬ 9223372036854775807 < A.length + B.length + C.length := by omega
  clear hA hB hC eA
  have X0 := Lib.hid (Box4.new w 78 (.string ef) (.string el) (.int .u64 (es : Int)) (.int .i64 (ec : Int)))
  have W0 := Lib.hid (below_alloc w (.cells #[.string ef, .string el, .int .u64 (es : Int), .int .i64 (ec : Int)] 78))
  go_enter Try.func49, Try.ntmps49
  go_upto_region 1 with fail
  have Y0 := Lib.hid (Box4.new (w.alloc (.cells #[.string ef, .string el, .int .u64 (es : Int), .int .i64 (ec : Int)] 78)) 39 (.string ⟨#[]⟩) (.int .u64 0) (.int .i64 0) (.string ⟨#[]⟩))
  have W1 := Lib.hid (below_alloc (w.alloc (.cells #[.string ef, .string el, .int .u64 (es : Int), .int .i64 (ec : Int)] 78)) (.cells #[.string ⟨#[]⟩, .int .u64 0, .int .i64 0, .string ⟨#[]⟩] 39))
  have X1 := Lib.hid (X0.out.below W1.out)
  have W2 := Lib.hid (below_of W0.out W1.out)
  rw [World.size_alloc] at Y0
  generalize ((w.alloc (.cells #[.string ef, .string el, .int .u64 (es : Int), .int .i64 (ec : Int)] 78)).alloc (.cells #[.string ⟨#[]⟩, .int .u64 0, .int .i64 0, .string ⟨#[]⟩] 39)) = v0 at *
  obtain ⟨⟨c0, c1, c2, c3⟩, _⟩ := X1.out.cells
  refine wp_region_held_drew (S := (fun v => (v.cell? ⟨w.heap.size, 0, none⟩ = some (.string ef) ∧ v.cell? ⟨w.heap.size, 3, none⟩ = some (.int .i64 (ec : Int))) ∧ Below v0.heap.size v0 v)) (by kernel_rfl) (⟨⟨c0, c3⟩, (Below.refl _ v0).drew⟩) (fun hHeld => ?_)
  refine held_take (i := 0) (v := ?_) rfl (by kernel_rfl) (by kernel_rfl) (by kernel_rfl) (fun _ _ _ h => h) (by rfl) (fun w hSw => ?_) (by assumption) ?_; rotate_left 1; focus (((try dsimp only at hSw); first | (go_simp; done) | (go_simp; with_reducible rfl)))
  try simp only [Act.put, List.setIfInBounds_toArray, List.set_cons_zero, List.set_cons_succ]
  refine held_take (i := 1) (v := ?_) rfl (by kernel_rfl) (by kernel_rfl) (by kernel_rfl) (fun _ _ _ h => h) (by rfl) (fun w hSw => ?_) (by assumption) ?_; rotate_left 1; focus (((try dsimp only at hSw); first | (go_simp; done) | (go_simp; with_reducible rfl)))
  try simp only [Act.put, List.setIfInBounds_toArray, List.set_cons_zero, List.set_cons_succ]
  refine held_take (i := 3) (v := ?_) rfl (by kernel_rfl) (by kernel_rfl) (by kernel_rfl) (fun _ _ _ h => h) (by rfl) (fun w hSw => ?_) (by assumption) ?_; rotate_left 1; focus (((try dsimp only at hSw); first | (go_simp; done) | (go_simp; with_reducible rfl)))
  try simp only [Act.put, List.setIfInBounds_toArray, List.set_cons_zero, List.set_cons_succ]
  refine held_take (i := 4) (v := ?_) rfl (by kernel_rfl) (by kernel_rfl) (by kernel_rfl) (fun _ _ _ h => h) (by rfl) (fun w hSw => ?_) (by assumption) ?_; rotate_left 1; focus (((try dsimp only at hSw); first | (go_simp; done) | (go_simp; with_reducible rfl)))
  try simp only [Act.put, List.setIfInBounds_toArray, List.set_cons_zero, List.set_cons_succ]
  refine held_take (i := 7) (v := ?_) rfl (by kernel_rfl) (by kernel_rfl) (by kernel_rfl) (fun _ _ _ h => h) (by rfl) (fun w hSw => ?_) (by assumption) ?_; rotate_left 1; focus (((try dsimp only at hSw); first | (go_simp; done) | (go_simp; with_reducible rfl)))
  try simp only [Act.put, List.setIfInBounds_toArray, List.set_cons_zero, List.set_cons_succ]
  refine held_take (i := 8) (v := ?_) rfl (by kernel_rfl) (by kernel_rfl) (by kernel_rfl) (fun _ _ _ h => h) (by rfl) (fun w hSw => ?_) (by assumption) ?_; rotate_left 1; focus (((try dsimp only at hSw); first | (go_simp; done) | (go_simp; with_reducible rfl)))
  try simp only [Act.put, List.setIfInBounds_toArray, List.set_cons_zero, List.set_cons_succ]
  refine held_take (i := 9) (v := ?_) rfl (by kernel_rfl) (by kernel_rfl) (by kernel_rfl) (fun _ _ _ h => h) (by rfl) (fun w hSw => ?_) (by assumption) ?_; rotate_left 1; focus (((try dsimp only at hSw); first | (go_simp; done) | (go_simp; with_reducible rfl)))
  try simp only [Act.put, List.setIfInBounds_toArray, List.set_cons_zero, List.set_cons_succ]
  refine held_call (i := 2) (by kernel_rfl) rfl (by rfl) (fun K hK => ?_)
  go_simp
  refine (PF.out _).mono ?_
  rintro e u1 ⟨rfl, hb1⟩
  refine hK.out _ _ (⟨⟨cell_keep hb1 hHeld.1.1, cell_keep hb1 hHeld.1.2⟩, below_of hHeld.2 hb1⟩) (fun hHeld => ?_)
  try simp only [Act.put, List.setIfInBounds_toArray, List.set_cons_zero, List.set_cons_succ]
  refine held_call (i := 5) (by kernel_rfl) rfl (by rfl) (fun K hK => ?_)
  go_simp
  refine (P1.out _).mono ?_
  rintro e u2 ⟨rfl, hb1⟩
  refine hK.out _ _ (⟨⟨cell_keep hb1 hHeld.1.1, cell_keep hb1 hHeld.1.2⟩, below_of hHeld.2 hb1⟩) (fun hHeld => ?_)
  try simp only [Act.put, List.setIfInBounds_toArray, List.set_cons_zero, List.set_cons_succ]
  refine held_take (i := 6) (v := ?_) rfl (by kernel_rfl) (by kernel_rfl) (by kernel_rfl) (fun _ _ _ h => h) (by rfl) (fun w hSw => ?_) (by assumption) ?_; rotate_left 1; focus (((try dsimp only at hSw); first | (go_simp; done) | (go_simp; with_reducible rfl)))
  try simp only [Act.put, List.setIfInBounds_toArray, List.set_cons_zero, List.set_cons_succ]
  refine held_call (i := 10) (by kernel_rfl) rfl (by rfl) (fun K hK => ?_)
  go_simp
  refine (P2.out _).mono ?_
  rintro e u3 ⟨rfl, hb1⟩
  refine hK.out _ _ (⟨⟨cell_keep hb1 hHeld.1.1, cell_keep hb1 hHeld.1.2⟩, below_of hHeld.2 hb1⟩) (fun hHeld => ?_)
  try simp only [Act.put, List.setIfInBounds_toArray, List.set_cons_zero, List.set_cons_succ]
  refine held_take (i := 11) (v := ?_) rfl (by kernel_rfl) (by kernel_rfl) (by kernel_rfl) (fun _ _ _ h => h) (by rfl) (fun w hSw => ?_) (by assumption) ?_; rotate_left 1; focus (((try dsimp only at hSw); first | (go_simp; done) | (go_simp; with_reducible rfl)))
  try simp only [Act.put, List.setIfInBounds_toArray, List.set_cons_zero, List.set_cons_succ]
  refine held_take (i := 12) (v := ?_) rfl (by kernel_rfl) (by kernel_rfl) (by kernel_rfl) (fun _ _ _ h => h) (by rfl) (fun w hSw => ?_) (by assumption) ?_; rotate_left 1; focus (((try dsimp only at hSw); first | (go_simp; done) | (go_simp; with_reducible rfl)))
  try simp only [Act.put, List.setIfInBounds_toArray, List.set_cons_zero, List.set_cons_succ]
  refine wpAnyH_done (by kernel_rfl) ?_ _
  have H := Lib.hid hHeld.2
  clear hHeld
  have X2 := Lib.hid (X1.out.below H.out)
  have Y2 := Lib.hid (Y0.out.below H.out)
  have W3 := Lib.hid (below_of W2.out H.out)
  clear c0 c1 c2 c3
  obtain ⟨⟨c0, c1, c2, c3⟩, _⟩ := X2.out.cells
  obtain ⟨⟨d0, d1, d2, d3⟩, f0, f1, f2, f3⟩ := Y2.out.cells
  have Z := Lib.hid (Box4.res Y2.out W3.out (by omega) (.string el) (.int .u64 (es : Int)) (.int .i64 1) (.string ⟨(A ++ (B ++ C)).toArray⟩))
  go_wp2_with fail
  obtain ⟨⟨a0, a1, a2, a3⟩, _⟩ := Z.out.1.cells
  rw [List.append_assoc]
  refine bodyPost_ret (v := .agg #[.string el, .int .u64 (es : Int), .int .i64 1, .string ⟨(A ++ (B ++ C)).toArray⟩]) (by simp [results, Try.results49, go_sem, a0, a1, a2, a3]) rfl ⟨rfl, Z.out.2⟩
set_option maxRecDepth 100000 in
set_option maxHeartbeats 8000000 in
theorem readEntry_any (x : Rw) (hx : x.val.size ≤ 1048576) (w : World) :
    Calls Try.prog 64 #[rowV x] w fun r w' => r = .returned (rdR x) ∧ Below w.heap.size w w' := by
  obtain ⟨R, hE⟩ := named (rdR x)
  rw [← hE.out]
  unfold rdR rdEn at hE
  obtain ⟨xk, xs, xi, xv⟩ := x
  simp only at hE hx
  obtain ⟨L, rfl⟩ : ∃ L : List UInt8, xv = ⟨L.toArray⟩ := ⟨xv.toList, (ofL xv).symm⟩
  rw [ofList_size] at hx
  rw [ofList_toList] at hE
  have C1 : Hid (∀ u, Calls Try.prog 83 #[.string ⟨L.toArray⟩, .int .i64 520] u fun e w' => e = .returned (.tuple #[.string ⟨(Code.rdField L 520).1.toArray⟩, .int .i64 ((Code.rdField L 520).2.1 : Int), .int .i64 ((Code.rdField L 520).2.2 : Int)]) ∧ Below u.heap.size u w') := Lib.hid (fun u => by have := field_any ⟨L.toArray⟩ (by unfold reachBytes; rw [ofList_size]; omega) 520 (by omega) u; rwa [data_toL] at this)
  have k1l : (Code.rdField L 520).2.1 ≤ L.length := rdField_le L 520
  obtain ⟨⟨F, k1, e1⟩, hR1⟩ := named (Code.rdField L 520)
  rw [← hR1.out] at hE C1 k1l
  simp only at hE C1 k1l
  have s1 := exL_from L k1
  obtain ⟨S1, hS1⟩ := named (L.drop k1)
  have hl1 : S1.length ≤ 1048576 := by rw [hS1.out, List.length_drop]; omega
  rw [← hS1.out] at hE s1
  have C2 : Hid (∀ u, Calls Try.prog 86 #[.string ⟨S1.toArray⟩] u fun e w' => e = .returned (.tuple #[.int .u64 ((Code.rd 0 S1).1 : Int), .int .i64 ((Code.rd 0 S1).2.1 : Int), .int .i64 ((Code.rd 0 S1).2.2 : Int)]) ∧ Below u.heap.size u w') := Lib.hid (fun u => by have := uint_any ⟨S1.toArray⟩ (by unfold maxLen; rw [ofList_size]; omega) u; rwa [data_toL] at this)
  have k2l : (Code.rd 0 S1).2.1 ≤ S1.length := Code.rd_size S1
  obtain ⟨⟨n2, k2, e2⟩, hR2⟩ := named (Code.rd 0 S1)
  rw [← hR2.out] at hE C2 k2l
  simp only at hE C2 k2l
  have s2 := exL_from S1 k2
  obtain ⟨S2, hS2⟩ := named (S1.drop k2)
  have hl2 : S2.length ≤ 1048576 := by rw [hS2.out, List.length_drop]; omega
  rw [← hS2.out] at hE s2
  have C3 : Hid (∀ u, Calls Try.prog 86 #[.string ⟨S2.toArray⟩] u fun e w' => e = .returned (.tuple #[.int .u64 ((Code.rd 0 S2).1 : Int), .int .i64 ((Code.rd 0 S2).2.1 : Int), .int .i64 ((Code.rd 0 S2).2.2 : Int)]) ∧ Below u.heap.size u w') := Lib.hid (fun u => by have := uint_any ⟨S2.toArray⟩ (by unfold maxLen; rw [ofList_size]; omega) u; rwa [data_toL] at this)
  obtain ⟨⟨n3, k3, e3⟩, hR3⟩ := named (Code.rd 0 S2)
  rw [← hR3.out] at hE C3
  simp only at hE C3
  clear hR1 hS1 hR2 hS2 hR3
  by_cases q1 : e1 = 0
  case neg =>
    rw [if_pos q1] at hE
    have ge1 : ((e1 : Int) != 0) = true := by rw [bne_iff_ne]; omega
    have gge1 : (e1 == 0) = false := by rw [beq_eq_false_iff_ne]; exact q1
    have X0 := Lib.hid (Box4.new w 39 (.string xk) (.int .u64 (xs : Int)) (.int .i64 xi) (.string ⟨L.toArray⟩))
    have W0 := Lib.hid (below_alloc w (.cells #[.string xk, .int .u64 (xs : Int), .int .i64 xi, .string ⟨L.toArray⟩] 39))
    go_enter Try.func64, Try.ntmps64
    go_upto_region 1 with fail
    have Y0 := Lib.hid (Box4.new (w.alloc (.cells #[.string xk, .int .u64 (xs : Int), .int .i64 xi, .string ⟨L.toArray⟩] 39)) 78 (.string ⟨#[]⟩) (.string ⟨#[]⟩) (.int .u64 0) (.int .i64 0))
    have W1 := Lib.hid (below_alloc (w.alloc (.cells #[.string xk, .int .u64 (xs : Int), .int .i64 xi, .string ⟨L.toArray⟩] 39)) (.cells #[.string ⟨#[]⟩, .string ⟨#[]⟩, .int .u64 0, .int .i64 0] 78))
    have X1 := Lib.hid (X0.out.below W1.out)
    have W2 := Lib.hid (below_of W0.out W1.out)
    rw [World.size_alloc] at Y0
    generalize ((w.alloc (.cells #[.string xk, .int .u64 (xs : Int), .int .i64 xi, .string ⟨L.toArray⟩] 39)).alloc (.cells #[.string ⟨#[]⟩, .string ⟨#[]⟩, .int .u64 0, .int .i64 0] 78)) = v0 at *
    clear X0 W0 W1
    obtain ⟨⟨xc0, xc1, xc2, xc3⟩, _⟩ := X1.out.cells
    go_upto_region 3 with (first
      | (go_at_call 83; ((with_reducible refine (C1.out _).mono ?_); rintro e u1 ⟨rfl, hb1⟩; have X2 := Lib.hid (X1.out.below hb1); have Y1 := Lib.hid (Y0.out.below hb1); have W3 := Lib.hid (below_of W2.out hb1); clear hb1 C1 xc0 xc1 xc2 xc3; obtain ⟨⟨xc0, xc1, xc2, xc3⟩, _⟩ := X2.out.cells))
      | fail "no arm")
    obtain ⟨⟨d0, d1, d2, d3⟩, f0, f1, f2, f3⟩ := Y1.out.cells
    have Z := Lib.hid (Box4.res Y1.out W3.out (by omega) (.string ⟨#[]⟩) (.string ⟨#[]⟩) (.int .u64 0) (.int .i64 0))
    go_wp2_with fail
    generalize ((((u1.setCell ⟨w.heap.size + 1, 0, none⟩ (.string ⟨#[]⟩)).setCell ⟨w.heap.size + 1, 1, none⟩ (.string ⟨#[]⟩)).setCell ⟨w.heap.size + 1, 2, none⟩ (.int .u64 0)).setCell ⟨w.heap.size + 1, 3, none⟩ (.int .i64 0)) = VZ at *
    clear d0 d1 d2 d3 f0 f1 f2 f3
    obtain ⟨⟨a0, a1, a2, a3⟩, _⟩ := Z.out.1.cells
    refine bodyPost_ret (v := .tuple #[enV enZ, .int .u64 0, .bool false]) (by simp [results, Try.results64, go_sem, a0, a1, a2, a3, enZ]) rfl ⟨by rw [hE.out], Z.out.2⟩
  subst q1
  rw [if_neg (by simp)] at hE
  by_cases q2 : e2 = 0
  case neg =>
    rw [if_pos q2] at hE
    have ge2 : ((e2 : Int) != 0) = true := by rw [bne_iff_ne]; omega
    have gge2 : (e2 == 0) = false := by rw [beq_eq_false_iff_ne]; exact q2
    have X0 := Lib.hid (Box4.new w 39 (.string xk) (.int .u64 (xs : Int)) (.int .i64 xi) (.string ⟨L.toArray⟩))
    have W0 := Lib.hid (below_alloc w (.cells #[.string xk, .int .u64 (xs : Int), .int .i64 xi, .string ⟨L.toArray⟩] 39))
    go_enter Try.func64, Try.ntmps64
    go_upto_region 1 with fail
    have Y0 := Lib.hid (Box4.new (w.alloc (.cells #[.string xk, .int .u64 (xs : Int), .int .i64 xi, .string ⟨L.toArray⟩] 39)) 78 (.string ⟨#[]⟩) (.string ⟨#[]⟩) (.int .u64 0) (.int .i64 0))
    have W1 := Lib.hid (below_alloc (w.alloc (.cells #[.string xk, .int .u64 (xs : Int), .int .i64 xi, .string ⟨L.toArray⟩] 39)) (.cells #[.string ⟨#[]⟩, .string ⟨#[]⟩, .int .u64 0, .int .i64 0] 78))
    have X1 := Lib.hid (X0.out.below W1.out)
    have W2 := Lib.hid (below_of W0.out W1.out)
    rw [World.size_alloc] at Y0
    generalize ((w.alloc (.cells #[.string xk, .int .u64 (xs : Int), .int .i64 xi, .string ⟨L.toArray⟩] 39)).alloc (.cells #[.string ⟨#[]⟩, .string ⟨#[]⟩, .int .u64 0, .int .i64 0] 78)) = v0 at *
    clear X0 W0 W1
    obtain ⟨⟨xc0, xc1, xc2, xc3⟩, _⟩ := X1.out.cells
    go_upto_region 7 with (first
      | (go_at_call 83; ((with_reducible refine (C1.out _).mono ?_); rintro e u1 ⟨rfl, hb1⟩; have X2 := Lib.hid (X1.out.below hb1); have Y1 := Lib.hid (Y0.out.below hb1); have W3 := Lib.hid (below_of W2.out hb1); clear hb1 C1 xc0 xc1 xc2 xc3; obtain ⟨⟨xc0, xc1, xc2, xc3⟩, _⟩ := X2.out.cells))
      | (go_at_call 86; ((with_reducible refine (C2.out _).mono ?_); rintro e u2 ⟨rfl, hb1⟩; have X3 := Lib.hid (X2.out.below hb1); have Y2 := Lib.hid (Y1.out.below hb1); have W4 := Lib.hid (below_of W3.out hb1); clear hb1 C2 xc0 xc1 xc2 xc3; obtain ⟨⟨xc0, xc1, xc2, xc3⟩, _⟩ := X3.out.cells))
      | fail "no arm")
    obtain ⟨⟨d0, d1, d2, d3⟩, f0, f1, f2, f3⟩ := Y2.out.cells
    have Z := Lib.hid (Box4.res Y2.out W4.out (by omega) (.string ⟨#[]⟩) (.string ⟨#[]⟩) (.int .u64 0) (.int .i64 0))
    go_wp2_with fail
    generalize ((((u2.setCell ⟨w.heap.size + 1, 0, none⟩ (.string ⟨#[]⟩)).setCell ⟨w.heap.size + 1, 1, none⟩ (.string ⟨#[]⟩)).setCell ⟨w.heap.size + 1, 2, none⟩ (.int .u64 0)).setCell ⟨w.heap.size + 1, 3, none⟩ (.int .i64 0)) = VZ at *
    clear d0 d1 d2 d3 f0 f1 f2 f3
    obtain ⟨⟨a0, a1, a2, a3⟩, _⟩ := Z.out.1.cells
    refine bodyPost_ret (v := .tuple #[enV enZ, .int .u64 0, .bool false]) (by simp [results, Try.results64, go_sem, a0, a1, a2, a3, enZ]) rfl ⟨by rw [hE.out], Z.out.2⟩
  subst q2
  rw [if_neg (by simp)] at hE
  by_cases q3 : e3 = 0
  case neg =>
    rw [if_pos (.inl q3)] at hE
    have ge3 : ((e3 : Int) != 0) = true := by rw [bne_iff_ne]; omega
    have gge3 : (e3 == 0) = false := by rw [beq_eq_false_iff_ne]; exact q3
    have X0 := Lib.hid (Box4.new w 39 (.string xk) (.int .u64 (xs : Int)) (.int .i64 xi) (.string ⟨L.toArray⟩))
    have W0 := Lib.hid (below_alloc w (.cells #[.string xk, .int .u64 (xs : Int), .int .i64 xi, .string ⟨L.toArray⟩] 39))
    go_enter Try.func64, Try.ntmps64
    go_upto_region 1 with fail
    have Y0 := Lib.hid (Box4.new (w.alloc (.cells #[.string xk, .int .u64 (xs : Int), .int .i64 xi, .string ⟨L.toArray⟩] 39)) 78 (.string ⟨#[]⟩) (.string ⟨#[]⟩) (.int .u64 0) (.int .i64 0))
    have W1 := Lib.hid (below_alloc (w.alloc (.cells #[.string xk, .int .u64 (xs : Int), .int .i64 xi, .string ⟨L.toArray⟩] 39)) (.cells #[.string ⟨#[]⟩, .string ⟨#[]⟩, .int .u64 0, .int .i64 0] 78))
    have X1 := Lib.hid (X0.out.below W1.out)
    have W2 := Lib.hid (below_of W0.out W1.out)
    rw [World.size_alloc] at Y0
    generalize ((w.alloc (.cells #[.string xk, .int .u64 (xs : Int), .int .i64 xi, .string ⟨L.toArray⟩] 39)).alloc (.cells #[.string ⟨#[]⟩, .string ⟨#[]⟩, .int .u64 0, .int .i64 0] 78)) = v0 at *
    clear X0 W0 W1
    obtain ⟨⟨xc0, xc1, xc2, xc3⟩, _⟩ := X1.out.cells
    go_upto_region 11 with (first
      | (go_at_call 83; ((with_reducible refine (C1.out _).mono ?_); rintro e u1 ⟨rfl, hb1⟩; have X2 := Lib.hid (X1.out.below hb1); have Y1 := Lib.hid (Y0.out.below hb1); have W3 := Lib.hid (below_of W2.out hb1); clear hb1 C1 xc0 xc1 xc2 xc3; obtain ⟨⟨xc0, xc1, xc2, xc3⟩, _⟩ := X2.out.cells))
      | (go_at_call 86; ((with_reducible refine (C2.out _).mono ?_); rintro e u2 ⟨rfl, hb1⟩; have X3 := Lib.hid (X2.out.below hb1); have Y2 := Lib.hid (Y1.out.below hb1); have W4 := Lib.hid (below_of W3.out hb1); clear hb1 C2 xc0 xc1 xc2 xc3; obtain ⟨⟨xc0, xc1, xc2, xc3⟩, _⟩ := X3.out.cells))
      | (go_at_call 86; ((with_reducible refine (C3.out _).mono ?_); rintro e u3 ⟨rfl, hb1⟩; have X4 := Lib.hid (X3.out.below hb1); have Y3 := Lib.hid (Y2.out.below hb1); have W5 := Lib.hid (below_of W4.out hb1); clear hb1 C3 xc0 xc1 xc2 xc3; obtain ⟨⟨xc0, xc1, xc2, xc3⟩, _⟩ := X4.out.cells))
      | fail "no arm")
    obtain ⟨⟨d0, d1, d2, d3⟩, f0, f1, f2, f3⟩ := Y3.out.cells
    have Z := Lib.hid (Box4.res Y3.out W5.out (by omega) (.string ⟨#[]⟩) (.string ⟨#[]⟩) (.int .u64 0) (.int .i64 0))
    go_wp2_with fail
    generalize ((((u3.setCell ⟨w.heap.size + 1, 0, none⟩ (.string ⟨#[]⟩)).setCell ⟨w.heap.size + 1, 1, none⟩ (.string ⟨#[]⟩)).setCell ⟨w.heap.size + 1, 2, none⟩ (.int .u64 0)).setCell ⟨w.heap.size + 1, 3, none⟩ (.int .i64 0)) = VZ at *
    clear d0 d1 d2 d3 f0 f1 f2 f3
    obtain ⟨⟨a0, a1, a2, a3⟩, _⟩ := Z.out.1.cells
    refine bodyPost_ret (v := .tuple #[enV enZ, .int .u64 0, .bool false]) (by simp [results, Try.results64, go_sem, a0, a1, a2, a3, enZ]) rfl ⟨by rw [hE.out], Z.out.2⟩
  subst q3
  by_cases q4 : k3 < S2.length
  · rw [if_pos (.inr (.inl q4))] at hE
    have g4 : (k3 : Int) < (S2.length : Int) := by omega
    have X0 := Lib.hid (Box4.new w 39 (.string xk) (.int .u64 (xs : Int)) (.int .i64 xi) (.string ⟨L.toArray⟩))
    have W0 := Lib.hid (below_alloc w (.cells #[.string xk, .int .u64 (xs : Int), .int .i64 xi, .string ⟨L.toArray⟩] 39))
    go_enter Try.func64, Try.ntmps64
    go_upto_region 1 with fail
    have Y0 := Lib.hid (Box4.new (w.alloc (.cells #[.string xk, .int .u64 (xs : Int), .int .i64 xi, .string ⟨L.toArray⟩] 39)) 78 (.string ⟨#[]⟩) (.string ⟨#[]⟩) (.int .u64 0) (.int .i64 0))
    have W1 := Lib.hid (below_alloc (w.alloc (.cells #[.string xk, .int .u64 (xs : Int), .int .i64 xi, .string ⟨L.toArray⟩] 39)) (.cells #[.string ⟨#[]⟩, .string ⟨#[]⟩, .int .u64 0, .int .i64 0] 78))
    have X1 := Lib.hid (X0.out.below W1.out)
    have W2 := Lib.hid (below_of W0.out W1.out)
    rw [World.size_alloc] at Y0
    generalize ((w.alloc (.cells #[.string xk, .int .u64 (xs : Int), .int .i64 xi, .string ⟨L.toArray⟩] 39)).alloc (.cells #[.string ⟨#[]⟩, .string ⟨#[]⟩, .int .u64 0, .int .i64 0] 78)) = v0 at *
    clear X0 W0 W1
    obtain ⟨⟨xc0, xc1, xc2, xc3⟩, _⟩ := X1.out.cells
    go_upto_region 11 with (first
      | (go_at_call 83; ((with_reducible refine (C1.out _).mono ?_); rintro e u1 ⟨rfl, hb1⟩; have X2 := Lib.hid (X1.out.below hb1); have Y1 := Lib.hid (Y0.out.below hb1); have W3 := Lib.hid (below_of W2.out hb1); clear hb1 C1 xc0 xc1 xc2 xc3; obtain ⟨⟨xc0, xc1, xc2, xc3⟩, _⟩ := X2.out.cells))
      | (go_at_call 86; ((with_reducible refine (C2.out _).mono ?_); rintro e u2 ⟨rfl, hb1⟩; have X3 := Lib.hid (X2.out.below hb1); have Y2 := Lib.hid (Y1.out.below hb1); have W4 := Lib.hid (below_of W3.out hb1); clear hb1 C2 xc0 xc1 xc2 xc3; obtain ⟨⟨xc0, xc1, xc2, xc3⟩, _⟩ := X3.out.cells))
      | (go_at_call 86; ((with_reducible refine (C3.out _).mono ?_); rintro e u3 ⟨rfl, hb1⟩; have X4 := Lib.hid (X3.out.below hb1); have Y3 := Lib.hid (Y2.out.below hb1); have W5 := Lib.hid (below_of W4.out hb1); clear hb1 C3 xc0 xc1 xc2 xc3; obtain ⟨⟨xc0, xc1, xc2, xc3⟩, _⟩ := X4.out.cells))
      | fail "no arm")
    obtain ⟨⟨d0, d1, d2, d3⟩, f0, f1, f2, f3⟩ := Y3.out.cells
    have Z := Lib.hid (Box4.res Y3.out W5.out (by omega) (.string ⟨#[]⟩) (.string ⟨#[]⟩) (.int .u64 0) (.int .i64 0))
    go_wp2_with fail
    generalize ((((u3.setCell ⟨w.heap.size + 1, 0, none⟩ (.string ⟨#[]⟩)).setCell ⟨w.heap.size + 1, 1, none⟩ (.string ⟨#[]⟩)).setCell ⟨w.heap.size + 1, 2, none⟩ (.int .u64 0)).setCell ⟨w.heap.size + 1, 3, none⟩ (.int .i64 0)) = VZ at *
    clear d0 d1 d2 d3 f0 f1 f2 f3
    obtain ⟨⟨a0, a1, a2, a3⟩, _⟩ := Z.out.1.cells
    refine bodyPost_ret (v := .tuple #[enV enZ, .int .u64 0, .bool false]) (by simp [results, Try.results64, go_sem, a0, a1, a2, a3, enZ]) rfl ⟨by rw [hE.out], Z.out.2⟩
  have g4 : ¬ (k3 : Int) < (S2.length : Int) := by omega
  by_cases q5 : n3 < 1
  · rw [if_pos (.inr (.inr (.inl q5)))] at hE
    have g5 : (n3 : Int) < 1 := by omega
    have X0 := Lib.hid (Box4.new w 39 (.string xk) (.int .u64 (xs : Int)) (.int .i64 xi) (.string ⟨L.toArray⟩))
    have W0 := Lib.hid (below_alloc w (.cells #[.string xk, .int .u64 (xs : Int), .int .i64 xi, .string ⟨L.toArray⟩] 39))
    go_enter Try.func64, Try.ntmps64
    go_upto_region 1 with fail
    have Y0 := Lib.hid (Box4.new (w.alloc (.cells #[.string xk, .int .u64 (xs : Int), .int .i64 xi, .string ⟨L.toArray⟩] 39)) 78 (.string ⟨#[]⟩) (.string ⟨#[]⟩) (.int .u64 0) (.int .i64 0))
    have W1 := Lib.hid (below_alloc (w.alloc (.cells #[.string xk, .int .u64 (xs : Int), .int .i64 xi, .string ⟨L.toArray⟩] 39)) (.cells #[.string ⟨#[]⟩, .string ⟨#[]⟩, .int .u64 0, .int .i64 0] 78))
    have X1 := Lib.hid (X0.out.below W1.out)
    have W2 := Lib.hid (below_of W0.out W1.out)
    rw [World.size_alloc] at Y0
    generalize ((w.alloc (.cells #[.string xk, .int .u64 (xs : Int), .int .i64 xi, .string ⟨L.toArray⟩] 39)).alloc (.cells #[.string ⟨#[]⟩, .string ⟨#[]⟩, .int .u64 0, .int .i64 0] 78)) = v0 at *
    clear X0 W0 W1
    obtain ⟨⟨xc0, xc1, xc2, xc3⟩, _⟩ := X1.out.cells
    go_upto_region 11 with (first
      | (go_at_call 83; ((with_reducible refine (C1.out _).mono ?_); rintro e u1 ⟨rfl, hb1⟩; have X2 := Lib.hid (X1.out.below hb1); have Y1 := Lib.hid (Y0.out.below hb1); have W3 := Lib.hid (below_of W2.out hb1); clear hb1 C1 xc0 xc1 xc2 xc3; obtain ⟨⟨xc0, xc1, xc2, xc3⟩, _⟩ := X2.out.cells))
      | (go_at_call 86; ((with_reducible refine (C2.out _).mono ?_); rintro e u2 ⟨rfl, hb1⟩; have X3 := Lib.hid (X2.out.below hb1); have Y2 := Lib.hid (Y1.out.below hb1); have W4 := Lib.hid (below_of W3.out hb1); clear hb1 C2 xc0 xc1 xc2 xc3; obtain ⟨⟨xc0, xc1, xc2, xc3⟩, _⟩ := X3.out.cells))
      | (go_at_call 86; ((with_reducible refine (C3.out _).mono ?_); rintro e u3 ⟨rfl, hb1⟩; have X4 := Lib.hid (X3.out.below hb1); have Y3 := Lib.hid (Y2.out.below hb1); have W5 := Lib.hid (below_of W4.out hb1); clear hb1 C3 xc0 xc1 xc2 xc3; obtain ⟨⟨xc0, xc1, xc2, xc3⟩, _⟩ := X4.out.cells))
      | fail "no arm")
    obtain ⟨⟨d0, d1, d2, d3⟩, f0, f1, f2, f3⟩ := Y3.out.cells
    have Z := Lib.hid (Box4.res Y3.out W5.out (by omega) (.string ⟨#[]⟩) (.string ⟨#[]⟩) (.int .u64 0) (.int .i64 0))
    go_wp2_with fail
    generalize ((((u3.setCell ⟨w.heap.size + 1, 0, none⟩ (.string ⟨#[]⟩)).setCell ⟨w.heap.size + 1, 1, none⟩ (.string ⟨#[]⟩)).setCell ⟨w.heap.size + 1, 2, none⟩ (.int .u64 0)).setCell ⟨w.heap.size + 1, 3, none⟩ (.int .i64 0)) = VZ at *
    clear d0 d1 d2 d3 f0 f1 f2 f3
    obtain ⟨⟨a0, a1, a2, a3⟩, _⟩ := Z.out.1.cells
    refine bodyPost_ret (v := .tuple #[enV enZ, .int .u64 0, .bool false]) (by simp [results, Try.results64, go_sem, a0, a1, a2, a3, enZ]) rfl ⟨by rw [hE.out], Z.out.2⟩
  have g5 : ¬ (n3 : Int) < 1 := by omega
  by_cases q6 : 1024 < n3
  · rw [if_pos (.inr (.inr (.inr q6)))] at hE
    have g6 : (1024 : Int) < (n3 : Int) := by omega
    have X0 := Lib.hid (Box4.new w 39 (.string xk) (.int .u64 (xs : Int)) (.int .i64 xi) (.string ⟨L.toArray⟩))
    have W0 := Lib.hid (below_alloc w (.cells #[.string xk, .int .u64 (xs : Int), .int .i64 xi, .string ⟨L.toArray⟩] 39))
    go_enter Try.func64, Try.ntmps64
    go_upto_region 1 with fail
    have Y0 := Lib.hid (Box4.new (w.alloc (.cells #[.string xk, .int .u64 (xs : Int), .int .i64 xi, .string ⟨L.toArray⟩] 39)) 78 (.string ⟨#[]⟩) (.string ⟨#[]⟩) (.int .u64 0) (.int .i64 0))
    have W1 := Lib.hid (below_alloc (w.alloc (.cells #[.string xk, .int .u64 (xs : Int), .int .i64 xi, .string ⟨L.toArray⟩] 39)) (.cells #[.string ⟨#[]⟩, .string ⟨#[]⟩, .int .u64 0, .int .i64 0] 78))
    have X1 := Lib.hid (X0.out.below W1.out)
    have W2 := Lib.hid (below_of W0.out W1.out)
    rw [World.size_alloc] at Y0
    generalize ((w.alloc (.cells #[.string xk, .int .u64 (xs : Int), .int .i64 xi, .string ⟨L.toArray⟩] 39)).alloc (.cells #[.string ⟨#[]⟩, .string ⟨#[]⟩, .int .u64 0, .int .i64 0] 78)) = v0 at *
    clear X0 W0 W1
    obtain ⟨⟨xc0, xc1, xc2, xc3⟩, _⟩ := X1.out.cells
    go_upto_region 11 with (first
      | (go_at_call 83; ((with_reducible refine (C1.out _).mono ?_); rintro e u1 ⟨rfl, hb1⟩; have X2 := Lib.hid (X1.out.below hb1); have Y1 := Lib.hid (Y0.out.below hb1); have W3 := Lib.hid (below_of W2.out hb1); clear hb1 C1 xc0 xc1 xc2 xc3; obtain ⟨⟨xc0, xc1, xc2, xc3⟩, _⟩ := X2.out.cells))
      | (go_at_call 86; ((with_reducible refine (C2.out _).mono ?_); rintro e u2 ⟨rfl, hb1⟩; have X3 := Lib.hid (X2.out.below hb1); have Y2 := Lib.hid (Y1.out.below hb1); have W4 := Lib.hid (below_of W3.out hb1); clear hb1 C2 xc0 xc1 xc2 xc3; obtain ⟨⟨xc0, xc1, xc2, xc3⟩, _⟩ := X3.out.cells))
      | (go_at_call 86; ((with_reducible refine (C3.out _).mono ?_); rintro e u3 ⟨rfl, hb1⟩; have X4 := Lib.hid (X3.out.below hb1); have Y3 := Lib.hid (Y2.out.below hb1); have W5 := Lib.hid (below_of W4.out hb1); clear hb1 C3 xc0 xc1 xc2 xc3; obtain ⟨⟨xc0, xc1, xc2, xc3⟩, _⟩ := X4.out.cells))
      | fail "no arm")
    obtain ⟨⟨d0, d1, d2, d3⟩, f0, f1, f2, f3⟩ := Y3.out.cells
    have Z := Lib.hid (Box4.res Y3.out W5.out (by omega) (.string ⟨#[]⟩) (.string ⟨#[]⟩) (.int .u64 0) (.int .i64 0))
    go_wp2_with fail
    generalize ((((u3.setCell ⟨w.heap.size + 1, 0, none⟩ (.string ⟨#[]⟩)).setCell ⟨w.heap.size + 1, 1, none⟩ (.string ⟨#[]⟩)).setCell ⟨w.heap.size + 1, 2, none⟩ (.int .u64 0)).setCell ⟨w.heap.size + 1, 3, none⟩ (.int .i64 0)) = VZ at *
    clear d0 d1 d2 d3 f0 f1 f2 f3
    obtain ⟨⟨a0, a1, a2, a3⟩, _⟩ := Z.out.1.cells
    refine bodyPost_ret (v := .tuple #[enV enZ, .int .u64 0, .bool false]) (by simp [results, Try.results64, go_sem, a0, a1, a2, a3, enZ]) rfl ⟨by rw [hE.out], Z.out.2⟩
  have g6 : ¬ (1024 : Int) < (n3 : Int) := by omega
  rw [if_neg (by simp; omega)] at hE
  have w3 : IntKind.i64.wrap (n3 : Int) = (n3 : Int) := by rw [IntKind.wrap_i64]; omega
  have X0 := Lib.hid (Box4.new w 39 (.string xk) (.int .u64 (xs : Int)) (.int .i64 xi) (.string ⟨L.toArray⟩))
  have W0 := Lib.hid (below_alloc w (.cells #[.string xk, .int .u64 (xs : Int), .int .i64 xi, .string ⟨L.toArray⟩] 39))
  go_enter Try.func64, Try.ntmps64
  go_upto_region 1 with fail
  have Y0 := Lib.hid (Box4.new (w.alloc (.cells #[.string xk, .int .u64 (xs : Int), .int .i64 xi, .string ⟨L.toArray⟩] 39)) 78 (.string ⟨#[]⟩) (.string ⟨#[]⟩) (.int .u64 0) (.int .i64 0))
  have W1 := Lib.hid (below_alloc (w.alloc (.cells #[.string xk, .int .u64 (xs : Int), .int .i64 xi, .string ⟨L.toArray⟩] 39)) (.cells #[.string ⟨#[]⟩, .string ⟨#[]⟩, .int .u64 0, .int .i64 0] 78))
  have X1 := Lib.hid (X0.out.below W1.out)
  have W2 := Lib.hid (below_of W0.out W1.out)
  rw [World.size_alloc] at Y0
  generalize ((w.alloc (.cells #[.string xk, .int .u64 (xs : Int), .int .i64 xi, .string ⟨L.toArray⟩] 39)).alloc (.cells #[.string ⟨#[]⟩, .string ⟨#[]⟩, .int .u64 0, .int .i64 0] 78)) = v0 at *
  clear X0 W0 W1
  obtain ⟨⟨xc0, xc1, xc2, xc3⟩, _⟩ := X1.out.cells
  go_upto_region 12 with (first
    | (go_at_call 83; ((with_reducible refine (C1.out _).mono ?_); rintro e u1 ⟨rfl, hb1⟩; have X2 := Lib.hid (X1.out.below hb1); have Y1 := Lib.hid (Y0.out.below hb1); have W3 := Lib.hid (below_of W2.out hb1); clear hb1 C1 xc0 xc1 xc2 xc3; obtain ⟨⟨xc0, xc1, xc2, xc3⟩, _⟩ := X2.out.cells))
    | (go_at_call 86; ((with_reducible refine (C2.out _).mono ?_); rintro e u2 ⟨rfl, hb1⟩; have X3 := Lib.hid (X2.out.below hb1); have Y2 := Lib.hid (Y1.out.below hb1); have W4 := Lib.hid (below_of W3.out hb1); clear hb1 C2 xc0 xc1 xc2 xc3; obtain ⟨⟨xc0, xc1, xc2, xc3⟩, _⟩ := X3.out.cells))
    | (go_at_call 86; ((with_reducible refine (C3.out _).mono ?_); rintro e u3 ⟨rfl, hb1⟩; have X4 := Lib.hid (X3.out.below hb1); have Y3 := Lib.hid (Y2.out.below hb1); have W5 := Lib.hid (below_of W4.out hb1); clear hb1 C3 xc0 xc1 xc2 xc3; obtain ⟨⟨xc0, xc1, xc2, xc3⟩, _⟩ := X4.out.cells))
    | fail "no arm")
  obtain ⟨⟨d0, d1, d2, d3⟩, f0, f1, f2, f3⟩ := Y3.out.cells
  have Z := Lib.hid (Box4.res Y3.out W5.out (by omega) (.string ⟨F.toArray⟩) (.string xk) (.int .u64 (xs : Int)) (.int .i64 (n3 : Int)))
  go_wp2_with fail
  generalize ((((u3.setCell ⟨w.heap.size + 1, 0, none⟩ (.string ⟨F.toArray⟩)).setCell ⟨w.heap.size + 1, 1, none⟩ (.string xk)).setCell ⟨w.heap.size + 1, 2, none⟩ (.int .u64 (xs : Int))).setCell ⟨w.heap.size + 1, 3, none⟩ (.int .i64 (n3 : Int))) = VZ at *
  clear d0 d1 d2 d3 f0 f1 f2 f3
  obtain ⟨⟨a0, a1, a2, a3⟩, _⟩ := Z.out.1.cells
  refine bodyPost_ret (v := .tuple #[enV ⟨⟨F.toArray⟩, xk, xs, n3⟩, .int .u64 (n2 : Int), .bool true]) (by simp [results, Try.results64, go_sem, a0, a1, a2, a3, enZ]) rfl ⟨by rw [hE.out], Z.out.2⟩
end Go.Proofs.Ytmjakkemiiigpaa
/-
  How a table lies in memory. No condition.
-/
namespace Go.Proofs.Ytmjakkemiiigpaa
set_option maxRecDepth 100000
open Go.RowKit
/-- A data block: its bytes, and what the index says of it. -/
structure Pt where
  byt : List UInt8
  en : En
abbrev partV (p : Pt) : Value := .agg #[.string ⟨p.byt.toArray⟩, .string p.en.fst, .string p.en.lst, .int .u64 (p.en.seq : Int), .int .i64 (p.en.cnt : Int)]
/-- Parts as cells. -/
def partC (p : Pt) : List Value := [.string ⟨p.byt.toArray⟩, .string p.en.fst, .string p.en.lst, .int .u64 (p.en.seq : Int), .int .i64 (p.en.cnt : Int)]
/-- A slice of parts that nobody writes to: where it lies. -/
structure Pts (a : Option Addr) (n c b o : Nat) (l : List Pt) (w : World) : Prop where
  len : l.length = n
  cap : n ≤ c
  most : c ≤ 1048576
  addr : 0 < n → a = some ⟨b, o, none⟩ ∧ b < w.heap.size
  at' : ∀ (j : Nat) x, l[j]? = some x → w.cell? ⟨b, o + j * 5, none⟩ = some (.string ⟨x.byt.toArray⟩) ∧ w.cell? ⟨b, o + j * 5 + 1, none⟩ = some (.string x.en.fst) ∧ w.cell? ⟨b, o + j * 5 + 2, none⟩ = some (.string x.en.lst) ∧ w.cell? ⟨b, o + j * 5 + 3, none⟩ = some (.int .u64 (x.en.seq : Int)) ∧ w.cell? ⟨b, o + j * 5 + 4, none⟩ = some (.int .i64 (x.en.cnt : Int))
theorem Pts.below {a : Option Addr} {n c b o : Nat} {l : List Pt} {w w' : World} (h : Pts a n c b o l w) (hb : Below w.heap.size w w') : Pts a n c b o l w' :=
  ⟨h.len, h.cap, h.most, fun hn => ⟨(h.addr hn).1, Nat.lt_of_lt_of_le (h.addr hn).2 hb.size⟩, fun j x hx => by
    obtain ⟨h0, h1, h2, h3, h4⟩ := h.at' j x hx
    exact ⟨cell_keep hb h0, cell_keep hb h1, cell_keep hb h2, cell_keep hb h3, cell_keep hb h4⟩⟩
theorem Pts.at5 {a : Option Addr} {n c b o : Nat} {l : List Pt} {w : World} (h : Pts a n c b o l w) {j : Nat} (hj : j < n) : ∃ x, l[j]? = some x ∧ a = some ⟨b, o, none⟩ ∧ w.cell? ⟨b, o + j * 5, none⟩ = some (.string ⟨x.byt.toArray⟩) ∧ w.cell? ⟨b, o + j * 5 + 1, none⟩ = some (.string x.en.fst) ∧ w.cell? ⟨b, o + j * 5 + 2, none⟩ = some (.string x.en.lst) ∧ w.cell? ⟨b, o + j * 5 + 3, none⟩ = some (.int .u64 (x.en.seq : Int)) ∧ w.cell? ⟨b, o + j * 5 + 4, none⟩ = some (.int .i64 (x.en.cnt : Int)) := by
  have hl : j < l.length := by rw [h.len]; exact hj
  exact ⟨l[j], List.getElem?_eq_getElem hl, (h.addr (by omega)).1, h.at' j _ (List.getElem?_eq_getElem hl)⟩
theorem Pts.nil (a : Option Addr) (w : World) : Pts a 0 0 0 0 [] w := ⟨rfl, Nat.le_refl _, by omega, fun h => absurd h (by omega), fun j x hx => by simp at hx⟩
/-- A table: the filter's bytes and the parts. -/
def TabAt (p : Nat) (F : List UInt8) (l : List Pt) (w : World) : Prop :=
  ∃ a n c b, w.heap[p]? = some (.cells #[.string ⟨F.toArray⟩, .slice a n c] 73 (0, 0)) ∧ Pts a n c b 0 l w
theorem TabAt.below {p : Nat} {F : List UInt8} {l : List Pt} {w w' : World} (h : TabAt p F l w) (hb : Below w.heap.size w w') : TabAt p F l w' := by
  obtain ⟨a, n, c, b, h1, h2⟩ := h
  exact ⟨a, n, c, b, (hb.block p (Array.getElem?_eq_some_iff.1 h1).1).trans h1, h2.below hb⟩
theorem tab_cells {p : Nat} {F : List UInt8} {a : Option Addr} {n c : Nat} {w : World} (h : w.heap[p]? = some (.cells #[.string ⟨F.toArray⟩, .slice a n c] 73 (0, 0))) : w.cell? ⟨p, 0, none⟩ = some (.string ⟨F.toArray⟩) ∧ w.cell? ⟨p, 1, none⟩ = some (.slice a n c) := by
  simp [World.cell?, h]
/-- No table that Open returned: nil, or one without a filter. -/
def Shut (q : Option Addr) (w : World) : Prop := q = none ∨ ∃ p, q = some ⟨p, 0, none⟩ ∧ TabAt p [] [] w
theorem Shut.below {q : Option Addr} {w w' : World} (h : Shut q w) (hb : Below w.heap.size w w') : Shut q w' := by
  rcases h with h | ⟨p, h1, h2⟩
  · exact .inl h
  · exact .inr ⟨p, h1, h2.below hb⟩
set_option maxRecDepth 100000 in
set_option maxHeartbeats 2000000 in
theorem isOpen_shut {q : Option Addr} {w : World} (h : Shut q w) : Calls Try.prog 32 #[.pointer q] w fun e w' => e = .returned (.bool false) ∧ w' = w := by
  rcases h with rfl | ⟨p, rfl, a, n, c, b, h1, h2⟩
  · go_enter Try.func32, Try.ntmps32
    go_wp2_with fail
    go_returns
    exact ⟨rfl, rfl⟩
  · obtain ⟨c0, c1⟩ := tab_cells h1
    go_enter Try.func32, Try.ntmps32
    go_wp2_with fail
    go_returns
    exact ⟨rfl, rfl⟩
set_option maxRecDepth 100000 in
set_option maxHeartbeats 2000000 in
theorem isOpen_tab {p : Nat} {F : List UInt8} {l : List Pt} {w : World} (h : TabAt p F l w) (hF : F ≠ []) : Calls Try.prog 32 #[.pointer (some ⟨p, 0, none⟩)] w fun e w' => e = .returned (.bool true) ∧ w' = w := by
  obtain ⟨a, n, c, b, h1, h2⟩ := h
  obtain ⟨c0, c1⟩ := tab_cells h1
  have q1 : (F == []) = false := by rw [beq_eq_false_iff_ne]; exact hF
  have q2 : (F != []) = true := by rw [bne_iff_ne]; exact hF
  go_enter Try.func32, Try.ntmps32
  go_wp2_with fail
  go_returns
  exact ⟨rfl, rfl⟩
end Go.Proofs.Ytmjakkemiiigpaa
/-
  The contracts of Len, First, Last, May. No condition but what every open table keeps.
-/
namespace Go.Proofs.Ytmjakkemiiigpaa
set_option maxRecDepth 100000
open Go.RowKit
theorem clone_txt (s : ByteArray) (hs : s.size ≤ 281474976710656) (w : World) : Calls Try.prog 31 #[.string s] w fun e w' => e = .returned (.string s) ∧ Below w.heap.size w w' := by
  have C := fun u => Lib.hid (Try.stringslite_Clone s u hs)
  go_enter Try.func31, Try.ntmps31
  go_wp2_with (go_at_call 65; ((with_reducible refine (C _).out.mono ?_); rintro e w1 ⟨rfl, hb⟩))
  go_returns
  exact ⟨rfl, hb⟩
/-- What every open table's parts keep. -/
structure OkPs (l : List Pt) : Prop where
  few : l.length ≤ 1024
  ok : ∀ p ∈ l, p.byt.length ≤ 262144 ∧ p.en.fst.size ≤ 520 ∧ p.en.lst.size ≤ 520 ∧ p.en.cnt ≤ 1024 ∧ 1 ≤ p.en.cnt
def lenP (l : List Pt) : Nat := (l.map fun p => p.en.cnt).sum
def fstP (l : List Pt) : ByteArray := match l with | [] => ⟨#[]⟩ | p :: _ => p.en.fst
def lstP (l : List Pt) : ByteArray := match l[l.length - 1]? with | none => ⟨#[]⟩ | some p => p.en.lst
theorem lenP_take {l : List Pt} {j : Nat} {p : Pt} (h : l[j]? = some p) : lenP (l.take (j + 1)) = lenP (l.take j) + p.en.cnt := by
  unfold lenP
  rw [List.take_add_one, h]
  simp
theorem lenP_le {l : List Pt} (h : ∀ p ∈ l, p.en.cnt ≤ 1024) : lenP l ≤ 1024 * l.length := by
  unfold lenP
  induction l with
  | nil => simp
  | cons p r ih =>
    have h1 := h p (by simp)
    have h2 := ih (fun q hq => h q (by simp [hq]))
    rw [List.map_cons, List.sum_cons, List.length_cons]; omega
set_option maxRecDepth 100000 in
set_option maxHeartbeats 2000000 in
theorem len_shut {q : Option Addr} {w : World} (h : Shut q w) : Calls Try.prog 12 #[.pointer q] w fun e w' => e = .returned (.int .i64 0) ∧ Below w.heap.size w w' := by
  rcases h with rfl | ⟨p, rfl, a, n, c, b, h1, h2⟩
  · go_enter Try.func12, Try.ntmps12
    go_wp2_with fail
    go_returns
    exact ⟨rfl, Below.refl _ _⟩
  · obtain ⟨c0, c1⟩ := tab_cells h1
    obtain rfl : n = 0 := h2.len.symm
    go_enter Try.func12, Try.ntmps12
    go_wp2_with fail
    go_loopw [3, 13] (fun s d wr => s = .int .i64 0 ∧ d = .int .i64 0 ∧ Below w.heap.size w wr) (fun _ d _ => 0)
    case atStart => exact ⟨rfl, rfl, Below.refl _ _⟩
    case round =>
      obtain ⟨rfl, rfl, hb⟩ := hrel
      go_wp2_with fail
      go_returns
      exact ⟨rfl, hb⟩
set_option maxRecDepth 100000 in
set_option maxHeartbeats 2000000 in
theorem len_tab {p : Nat} {F : List UInt8} {l : List Pt} {w : World} (h : TabAt p F l w) (hl : OkPs l) : Calls Try.prog 12 #[.pointer (some ⟨p, 0, none⟩)] w fun e w' => e = .returned (.int .i64 (lenP l : Nat)) ∧ Below w.heap.size w w' := by
  obtain ⟨a, n, c, b, h1, h2⟩ := h
  obtain ⟨c0, c1⟩ := tab_cells h1
  have hlen := Lib.hid h2.len
  have m0 := h2.most
  have q0 := h2.cap
  have h2 := Lib.hid h2
  obtain ⟨R, hR⟩ := named (lenP l)
  rw [← hR.out]
  go_enter Try.func12, Try.ntmps12
  go_wp2_with fail
  go_loopw [3, 13] (fun s d wr => ∃ j : Nat, j ≤ n ∧ s = .int .i64 (lenP (l.take j) : Nat) ∧ d = .int .i64 (j : Int) ∧ Hid (Below w.heap.size w wr)) (fun _ d _ => n - (intOf d).toNat)
  case atStart => exact ⟨0, Nat.zero_le _, rfl, rfl, Lib.hid (Below.refl _ _)⟩
  case round =>
    obtain ⟨j, hj, rfl, rfl, hb⟩ := hrel
    by_cases hlt : j < n
    · obtain ⟨x, hx, rfl, x0, x1, x2, x3, x4⟩ := (h2.out.below hb.out).at5 hlt
      rw [Nat.zero_add] at x0 x1 x2 x3 x4
      have i0 : (j : Int) < (n : Int) := by omega
      have hs := lenP_take hx
      have hs2 := lenP_le (l := l.take (j + 1)) (fun p hp => (hl.ok p (List.mem_of_mem_take hp)).2.2.2.1)
      have hs3 : (l.take (j + 1)).length ≤ 1024 := Nat.le_trans (List.length_take_le' _ _) hl.few
      obtain ⟨S, hS⟩ := named (lenP (l.take j))
      obtain ⟨S2, hS2⟩ := named (lenP (l.take (j + 1)))
      rw [← hS.out, ← hS2.out] at hs
      rw [← hS2.out] at hs2
      rw [← hS.out]
      obtain ⟨xb, xf, xl, xs, xc⟩ := x
      simp only at x0 x1 x2 x3 x4 hs
      have hw : wrap64 ((S : Int) + (xc : Int)) = (S2 : Int) := by unfold wrap64; omega
      clear hx hs3
      replace hs := Lib.hid hs
      go_wp2_with fail
      go_roundw
      case rel => exact ⟨j + 1, by omega, by rw [← hS2.out, hw], by go_num, Lib.hid (hb.out.alloc hb.out.size _)⟩
      case measure => simp [intOf]; omega
    · have hjn : j = n := by omega
      have i0 : ¬ (j : Int) < (n : Int) := by omega
      have hR2 : Hid (R = lenP (l.take j)) := Lib.hid (by rw [hR.out, hjn, ← hlen.out, List.take_length])
      clear hjn
      go_wp2_with fail
      go_returns
      exact ⟨by rw [hR2.out]; rfl, hb.out⟩
set_option maxRecDepth 100000 in
set_option maxHeartbeats 2000000 in
theorem first_shut {q : Option Addr} {w : World} (h : Shut q w) : Calls Try.prog 13 #[.pointer q] w fun e w' => e = .returned (.string ⟨#[]⟩) ∧ Below w.heap.size w w' := by
  rcases h with rfl | ⟨p, rfl, a, n, c, b, h1, h2⟩
  · go_enter Try.func13, Try.ntmps13
    go_wp2_with fail
    go_returns
    exact ⟨rfl, Below.refl _ _⟩
  · obtain ⟨c0, c1⟩ := tab_cells h1
    obtain rfl : n = 0 := h2.len.symm
    go_enter Try.func13, Try.ntmps13
    go_wp2_with fail
    go_returns
    exact ⟨rfl, Below.refl _ _⟩
set_option maxRecDepth 100000 in
set_option maxHeartbeats 2000000 in
theorem first_tab {p : Nat} {F : List UInt8} {l : List Pt} {w : World} (h : TabAt p F l w) (hl : OkPs l) : Calls Try.prog 13 #[.pointer (some ⟨p, 0, none⟩)] w fun e w' => e = .returned (.string (fstP l)) ∧ Below w.heap.size w w' := by
  obtain ⟨a, n, c, b, h1, h2⟩ := h
  obtain ⟨c0, c1⟩ := tab_cells h1
  have hlen := Lib.hid h2.len
  have m0 := h2.most
  have q0 := h2.cap
  by_cases h0 : n = 0
  · subst h0
    have : l = [] := List.length_eq_zero_iff.1 hlen.out
    subst this
    clear hlen
    go_enter Try.func13, Try.ntmps13
    go_wp2_with fail
    go_returns
    exact ⟨rfl, Below.refl _ _⟩
  · obtain ⟨x, hx, rfl, x0, x1, x2, x3, x4⟩ := h2.at5 (show 0 < n by omega)
    have hf : fstP l = x.en.fst := by
      cases l with
      | nil => simp at hx
      | cons y r => simp at hx; subst hx; rfl
    have hsz := (hl.ok x (List.mem_of_getElem? hx)).2.1
    rw [hf, Nat.zero_mul, Nat.add_zero] at *
    have CL := Lib.hid (fun u => clone_txt x.en.fst (by omega) u)
    obtain ⟨xb, xf, xl, xs, xc⟩ := x
    simp only at x0 x1 x2 x3 x4 CL
    have i0 : (0 : Int) < (n : Int) := by omega
    have i1 : ((n : Int) == 0) = false := by rw [beq_eq_false_iff_ne]; omega
    have i2 : (n == 0) = false := by rw [beq_eq_false_iff_ne]; omega
    have i3 : 0 < n := by omega
    clear hx h2 hf
    go_enter Try.func13, Try.ntmps13
    go_wp2_with (go_at_call 31; ((with_reducible refine (CL.out _).mono ?_); rintro e w1 ⟨rfl, hb1⟩))
    go_returns
    exact ⟨rfl, hb1⟩
set_option maxRecDepth 100000 in
set_option maxHeartbeats 2000000 in
theorem last_shut {q : Option Addr} {w : World} (h : Shut q w) : Calls Try.prog 14 #[.pointer q] w fun e w' => e = .returned (.string ⟨#[]⟩) ∧ Below w.heap.size w w' := by
  rcases h with rfl | ⟨p, rfl, a, n, c, b, h1, h2⟩
  · go_enter Try.func14, Try.ntmps14
    go_wp2_with fail
    go_returns
    exact ⟨rfl, Below.refl _ _⟩
  · obtain ⟨c0, c1⟩ := tab_cells h1
    obtain rfl : n = 0 := h2.len.symm
    go_enter Try.func14, Try.ntmps14
    go_wp2_with fail
    go_returns
    exact ⟨rfl, Below.refl _ _⟩
set_option maxRecDepth 100000 in
set_option maxHeartbeats 2000000 in
theorem last_tab {p : Nat} {F : List UInt8} {l : List Pt} {w : World} (h : TabAt p F l w) (hl : OkPs l) : Calls Try.prog 14 #[.pointer (some ⟨p, 0, none⟩)] w fun e w' => e = .returned (.string (lstP l)) ∧ Below w.heap.size w w' := by
  obtain ⟨a, n, c, b, h1, h2⟩ := h
  obtain ⟨c0, c1⟩ := tab_cells h1
  have hlen := Lib.hid h2.len
  have m0 := h2.most
  have q0 := h2.cap
  by_cases h0 : n = 0
  · subst h0
    have : l = [] := List.length_eq_zero_iff.1 hlen.out
    subst this
    clear hlen
    go_enter Try.func14, Try.ntmps14
    go_wp2_with fail
    go_returns
    exact ⟨rfl, Below.refl _ _⟩
  · obtain ⟨x, hx, rfl, x0, x1, x2, x3, x4⟩ := h2.at5 (show n - 1 < n by omega)
    have hf : lstP l = x.en.lst := by unfold lstP; rw [hlen.out, hx]
    have hsz := (hl.ok x (List.mem_of_getElem? hx)).2.2.1
    rw [Nat.zero_add] at x0 x1 x2 x3 x4
    rw [hf]
    have CL := Lib.hid (fun u => clone_txt x.en.lst (by omega) u)
    obtain ⟨xb, ⟨xf, xl, xs, xc⟩⟩ := x
    simp only at x0 x1 x2 x3 x4 CL
    have i1 : ((n : Int) == 0) = false := by rw [beq_eq_false_iff_ne]; omega
    have i2 : (n == 0) = false := by rw [beq_eq_false_iff_ne]; omega
    have i3 : n - 1 < n := by omega
    have i4 : (n : Int) - 1 < (n : Int) := by omega
    have i5 : 0 ≤ (n : Int) - 1 := by omega
    have i7 : (1 : Int) ≤ (n : Int) := by omega
    have i8 : 1 ≤ n := by omega
    have i6 : ((n : Int) - 1).toNat = n - 1 := by omega
    have e1 : wrap64 ((n : Int) - 1) = (n : Int) - 1 := by unfold wrap64; omega
    have e2 : IntKind.i64.wrap ((n : Int) - 1) = (n : Int) - 1 := by rw [IntKind.wrap_i64]; omega
    have B0 := (Below.refl w.heap.size w).drew
    clear hx h2 hf h1 hsz hl
    go_enter Try.func14, Try.ntmps14
    go_upto_region 3 with fail
    refine wp_region_held_drew (S := (fun v => (v.cell? ⟨p, 1, none⟩ = some (.slice (some ⟨b, 0, none⟩) n c) ∧ v.cell? ⟨b, (n - 1) * 5 + 2, none⟩ = some (.string xl)) ∧ Below w.heap.size w v)) (by kernel_rfl) (⟨⟨c1, x2⟩, B0⟩) (fun hHeld => ?_)
    refine held_take (i := 0) (v := ?_) rfl (by kernel_rfl) (by kernel_rfl) (by kernel_rfl) (fun _ _ _ h => h) (by rfl) (fun w hSw => ?_) (by assumption) ?_; rotate_left 1; focus (((try dsimp only at hSw); first | (go_simp; done) | (go_simp; with_reducible rfl)))
    try simp only [Act.put, List.setIfInBounds_toArray, List.set_cons_zero, List.set_cons_succ]
    refine held_take (i := 1) (v := ?_) rfl (by kernel_rfl) (by kernel_rfl) (by kernel_rfl) (fun _ _ _ h => h) (by rfl) (fun w hSw => ?_) (by assumption) ?_; rotate_left 1; focus (((try dsimp only at hSw); first | (go_simp; done) | (go_simp; with_reducible rfl)))
    try simp only [Act.put, List.setIfInBounds_toArray, List.set_cons_zero, List.set_cons_succ]
    refine held_take (i := 2) (v := ?_) rfl (by kernel_rfl) (by kernel_rfl) (by kernel_rfl) (fun _ _ _ h => h) (by rfl) (fun w hSw => ?_) (by assumption) ?_; rotate_left 1; focus (((try dsimp only at hSw); first | (go_simp; done) | (go_simp; with_reducible rfl)))
    try simp only [Act.put, List.setIfInBounds_toArray, List.set_cons_zero, List.set_cons_succ]
    refine held_take (i := 3) (v := ?_) rfl (by kernel_rfl) (by kernel_rfl) (by kernel_rfl) (fun _ _ _ h => h) (by rfl) (fun w hSw => ?_) (by assumption) ?_; rotate_left 1; focus (((try dsimp only at hSw); first | (go_simp; done) | (go_simp; with_reducible rfl)))
    try simp only [Act.put, List.setIfInBounds_toArray, List.set_cons_zero, List.set_cons_succ]
    refine held_take (i := 4) (v := ?_) rfl (by kernel_rfl) (by kernel_rfl) (by kernel_rfl) (fun _ _ _ h => h) (by rfl) (fun w hSw => ?_) (by assumption) ?_; rotate_left 1; focus (((try dsimp only at hSw); first | (go_simp; done) | (go_simp; with_reducible rfl)))
    try simp only [Act.put, List.setIfInBounds_toArray, List.set_cons_zero, List.set_cons_succ]
    refine held_take (i := 5) (v := ?_) rfl (by kernel_rfl) (by kernel_rfl) (by kernel_rfl) (fun _ _ _ h => h) (by rfl) (fun w hSw => ?_) (by assumption) ?_; rotate_left 1; focus (((try dsimp only at hSw); first | (go_simp; done) | (go_simp; with_reducible rfl)))
    try simp only [Act.put, List.setIfInBounds_toArray, List.set_cons_zero, List.set_cons_succ]
    refine held_take (i := 6) (v := ?_) rfl (by kernel_rfl) (by kernel_rfl) (by kernel_rfl) (fun _ _ _ h => h) (by rfl) (fun w hSw => ?_) (by assumption) ?_; rotate_left 1; focus (((try dsimp only at hSw); first | (go_simp; done) | (go_simp; with_reducible rfl)))
    try simp only [Act.put, List.setIfInBounds_toArray, List.set_cons_zero, List.set_cons_succ]
    refine held_take (i := 7) (v := ?_) rfl (by kernel_rfl) (by kernel_rfl) (by kernel_rfl) (fun _ _ _ h => h) (by rfl) (fun w hSw => ?_) (by assumption) ?_; rotate_left 1; focus (((try dsimp only at hSw); first | (go_simp; done) | (go_simp; with_reducible rfl)))
    try simp only [Act.put, List.setIfInBounds_toArray, List.set_cons_zero, List.set_cons_succ]
    refine held_take (i := 8) (v := ?_) rfl (by kernel_rfl) (by kernel_rfl) (by kernel_rfl) (fun _ _ _ h => h) (by rfl) (fun w hSw => ?_) (by assumption) ?_; rotate_left 1; focus (((try dsimp only at hSw); first | (go_simp; done) | (go_simp; with_reducible rfl)))
    try simp only [Act.put, List.setIfInBounds_toArray, List.set_cons_zero, List.set_cons_succ]
    refine held_take (i := 9) (v := ?_) rfl (by kernel_rfl) (by kernel_rfl) (by kernel_rfl) (fun _ _ _ h => h) (by rfl) (fun w hSw => ?_) (by assumption) ?_; rotate_left 1; focus (((try dsimp only at hSw); first | (go_simp; done) | (go_simp; with_reducible rfl)))
    try simp only [Act.put, List.setIfInBounds_toArray, List.set_cons_zero, List.set_cons_succ]
    refine held_take (i := 10) (v := ?_) rfl (by kernel_rfl) (by kernel_rfl) (by kernel_rfl) (fun _ _ _ h => h) (by rfl) (fun w hSw => ?_) (by assumption) ?_; rotate_left 1; focus (((try dsimp only at hSw); first | (go_simp; done) | (go_simp; with_reducible rfl)))
    try simp only [Act.put, List.setIfInBounds_toArray, List.set_cons_zero, List.set_cons_succ]
    refine held_take (i := 11) (v := ?_) rfl (by kernel_rfl) (by kernel_rfl) (by kernel_rfl) (fun _ _ _ h => h) (by rfl) (fun w hSw => ?_) (by assumption) ?_; rotate_left 1; focus (((try dsimp only at hSw); first | (go_simp; done) | (go_simp; with_reducible rfl)))
    try simp only [Act.put, List.setIfInBounds_toArray, List.set_cons_zero, List.set_cons_succ]
    refine held_take (i := 12) (v := ?_) rfl (by kernel_rfl) (by kernel_rfl) (by kernel_rfl) (fun _ _ _ h => h) (by rfl) (fun w hSw => ?_) (by assumption) ?_; rotate_left 1; focus (((try dsimp only at hSw); first | (go_simp; done) | (go_simp; with_reducible rfl)))
    try simp only [Act.put, List.setIfInBounds_toArray, List.set_cons_zero, List.set_cons_succ]
    refine held_take (i := 13) (v := ?_) rfl (by kernel_rfl) (by kernel_rfl) (by kernel_rfl) (fun _ _ _ h => h) (by rfl) (fun w hSw => ?_) (by assumption) ?_; rotate_left 1; focus (((try dsimp only at hSw); first | (go_simp; done) | (go_simp; with_reducible rfl)))
    try simp only [Act.put, List.setIfInBounds_toArray, List.set_cons_zero, List.set_cons_succ]
    refine held_call (i := 14) (by kernel_rfl) rfl (by rfl) (fun K hK => ?_)
    go_simp
    refine (CL.out _).mono ?_
    rintro e u1 ⟨rfl, hb1⟩
    refine hK.out _ _ (⟨⟨cell_keep hb1 hHeld.1.1, cell_keep hb1 hHeld.1.2⟩, below_of hHeld.2 hb1⟩) (fun hHeld => ?_)
    try simp only [Act.put, List.setIfInBounds_toArray, List.set_cons_zero, List.set_cons_succ]
    refine held_take (i := 15) (v := ?_) rfl (by kernel_rfl) (by kernel_rfl) (by kernel_rfl) (fun _ _ _ h => h) (by rfl) (fun w hSw => ?_) (by assumption) ?_; rotate_left 1; focus (((try dsimp only at hSw); first | (go_simp; done) | (go_simp; with_reducible rfl)))
    try simp only [Act.put, List.setIfInBounds_toArray, List.set_cons_zero, List.set_cons_succ]
    refine wpAnyH_done (by kernel_rfl) ?_ _
    go_wp2_with fail
    go_returns
    exact ⟨rfl, hHeld.2⟩
set_option maxRecDepth 100000 in
set_option maxHeartbeats 2000000 in
theorem may_shut {q : Option Addr} {w : World} (h : Shut q w) (k : ByteArray) : Calls Try.prog 16 #[.pointer q, .string k] w fun e w' => e = .returned (.bool false) ∧ Below w.heap.size w w' := by
  have IO := Lib.hid (isOpen_shut h)
  go_enter Try.func16, Try.ntmps16
  go_wp2_with (go_at_call 32; ((with_reducible refine IO.out.mono ?_); rintro e w1 ⟨rfl, rfl⟩))
  go_returns
  exact ⟨rfl, Below.refl _ _⟩
set_option maxRecDepth 100000 in
set_option maxHeartbeats 2000000 in
theorem may_tab {p : Nat} {F : List UInt8} {l : List Pt} {w : World} (h : TabAt p F l w) (hF : F ≠ []) (hF2 : F.length ≤ 1048576) (k : ByteArray) (hk : k.size ≤ maxLen) : Calls Try.prog 16 #[.pointer (some ⟨p, 0, none⟩), .string k] w fun e w' => e = .returned (.bool (Blm.hasB F k.data.toList)) ∧ Below w.heap.size w w' := by
  have IO := Lib.hid (isOpen_tab h hF)
  obtain ⟨a, n, c, b, h1, h2⟩ := h
  obtain ⟨c0, c1⟩ := tab_cells h1
  have HA : Hid (∀ u, Calls Try.prog 39 #[.string ⟨F.toArray⟩, .string k] u fun e w' => e = .returned (.bool (Blm.hasB F k.data.toList)) ∧ Below u.heap.size u w') := Lib.hid (fun u => by have := has_any ⟨F.toArray⟩ k (by rw [ofList_size]; unfold maxLen; omega) hk u; rwa [data_toL] at this)
  clear h2
  go_enter Try.func16, Try.ntmps16
  go_wp2_with (first
    | (go_at_call 32; ((with_reducible refine IO.out.mono ?_); rintro e w1 ⟨rfl, rfl⟩))
    | (go_at_call 39; ((with_reducible refine (HA.out _).mono ?_); rintro e w2 ⟨rfl, hb2⟩)))
  go_returns
  exact ⟨rfl, hb2⟩
end Go.Proofs.Ytmjakkemiiigpaa
